/- frame.first: the frame that bytes begin with. What a list of frames is: plain lists. A snapshot's calls in plain words: what Save and Open do to a disk, and answer. A snapshot saved on a disk with a fuse, and opened behind a crash: in plain words. The reference's Sum. The reference's Seal. -/
import Derived.Test.YtmehneicdklfeaaGreatPlainM
import Derived.Test.YtmehneicdklfeaaGreatR2CrashWalkM

namespace Go.Proofs.YtmehneicdklfeaaGreat.frm
open Go.RowKit Go.Proofs.YtmehneicdklfeaaGreat.sum Go.Proofs.YtmehneicdklfeaaGreat.kept Go.Proofs.YtmehneicdklfeaaGreat.app Go.Proofs.YtmehneicdklfeaaGreat.writer Go.Proofs.YtmehneicdklfeaaGreat.clone Go.Proofs.YtmehneicdklfeaaGreat.known Go.Proofs.YtmehneicdklfeaaGreat.fl Go.Proofs.YtmehneicdklfeaaGreat.seal Go.Proofs.YtmehneicdklfeaaGreat.unseal
set_option linter.unusedVariables false

/-- the number of four bytes -/
def num4 (bs : List UInt8) : Nat := num3 bs + 16777216 * (bs.getD 3 0).toNat

theorem or4 (p q r s : Nat) (hp : p < 256) (hq : q < 256) (hr : r < 256) (hs : s < 256) : bits .or .u32 (bits .or .u32 (bits .or .u32 (p : Int) ((q : Int) * 256)) ((r : Int) * 65536)) ((s : Int) * 16777216) = ((p + 256 * q + 65536 * r + 16777216 * s : Nat) : Int) := by
  rw [or3 p q r hp hq hr, u32_or _ _ (by omega) (by omega) (by omega) (by omega), show (((p + 256 * q + 65536 * r : Nat) : Int)).toNat = p + 256 * q + 65536 * r by omega, show ((s : Int) * 16777216).toNat = s * 16777216 by omega, Nat.or_comm, nat_join 24 (s * 16777216) (p + 256 * q + 65536 * r) (by omega) (by omega)]
  congr 1; omega

/-- what a whole frame has, if one stands at the beginning -/
def firstP (bs : List UInt8) : Option (List UInt8) :=
  if 4 ≤ bs.length ∧ num4 bs ≤ 4194304 ∧ num4 bs + 10 ≤ bs.length ∧ pl.sum (((bs.drop 4).take (num4 bs + 6)).take (num4 bs)) = said (((bs.drop 4).take (num4 bs + 6)).drop (num4 bs))
  then some (((bs.drop 4).take (num4 bs + 6)).take (num4 bs)) else none

def FirstPost (w : World) (x : Option (List UInt8)) (e : Ending) (w' : World) : Prop :=
  Kp No w w' ∧ match x with
    | none => e = .returned (.tuple #[.slice none 0 0, .bool false])
    | some xs => ∃ v', e = .returned (.tuple #[v', .bool true]) ∧ w'.ownsRow w.heap.size 5 1 v' xs.length (xs.map B)

set_option maxRecDepth 100000 in
set_option maxHeartbeats 2000000 in
theorem first_any (w : World) (v : Value) (bs : List UInt8) (h : Bs w v bs) :
    Calls Tryz.prog 61 #[v] w (FirstPost w (firstP bs)) := by
  have H := Hid_mk h
  obtain ⟨a, cap, rfl, hlc, hm, hc⟩ := h
  unfold maxLen at hm
  by_cases h4 : 4 ≤ bs.length
  · obtain ⟨b, o, rfl, hcell⟩ := hc (by intro e; subst e; simp at h4)
    have c0 : w.cell? ⟨b, o, none⟩ = some (.int .u8 ((bs.getD 0 0).toNat : Int)) := hcell 0 (by omega)
    have c1 : w.cell? ⟨b, o + 1, none⟩ = some (.int .u8 ((bs.getD 1 0).toNat : Int)) := hcell 1 (by omega)
    have c2 : w.cell? ⟨b, o + 2, none⟩ = some (.int .u8 ((bs.getD 2 0).toNat : Int)) := hcell 2 (by omega)
    have c3 : w.cell? ⟨b, o + 3, none⟩ = some (.int .u8 ((bs.getD 3 0).toNat : Int)) := hcell 3 (by omega)
    have l0 : (0 : Int) < (bs.length : Int) := by omega
    have l1 : (1 : Int) < (bs.length : Int) := by omega
    have l2 : (2 : Int) < (bs.length : Int) := by omega
    have l3 : (3 : Int) < (bs.length : Int) := by omega
    have l4 : ¬ (bs.length : Int) < 4 := by omega
    obtain ⟨n, hn⟩ : ∃ n, num4 bs = n := ⟨_, rfl⟩
    have hn4 := hn
    unfold num4 num3 at hn4
    have x0 : (bs.getD 0 0).toNat < 256 := UInt8.toNat_lt _
    have x1 : (bs.getD 1 0).toNat < 256 := UInt8.toNat_lt _
    have x2 : (bs.getD 2 0).toNat < 256 := UInt8.toNat_lt _
    have x3 : (bs.getD 3 0).toNat < 256 := UInt8.toNat_lt _
    generalize (bs.getD 0 0).toNat = p at *
    generalize (bs.getD 1 0).toNat = q at *
    generalize (bs.getD 2 0).toNat = r at *
    generalize (bs.getD 3 0).toNat = s at *
    have ho := or4 p q r s x0 x1 x2 x3
    rw [hn4] at ho
    have HO := Hid_mk ho
    have HN := Hid_mk hn
    have hnb : n < 4294967296 := by omega
    clear hcell hc ho hn hn4
    by_cases hbig : n ≤ 4194304
    · have hbigi : ¬ (4194304 : Int) < (n : Int) := by omega
      by_cases hlen : n + 10 ≤ bs.length
      · have hx1 := bs_take (bs_drop H.out 4 h4 (some ⟨b, o + 4, none⟩) (fun _ => rfl)) (n + 6) (by omega)
        obtain ⟨xs, hxs⟩ : ∃ xs, (bs.drop 4).take (n + 6) = xs := ⟨_, rfl⟩
        have hxl : xs.length = n + 6 := by rw [← hxs, List.length_take, List.length_drop]; omega
        have hf : firstP bs = if pl.sum (xs.take n) = said (xs.drop n) then some (xs.take n) else none := by
          unfold firstP
          rw [HN.out, hxs]
          by_cases hs : pl.sum (xs.take n) = said (xs.drop n)
          · rw [if_pos ⟨h4, hbig, hlen, hs⟩, if_pos hs]
          · rw [if_neg (fun e => hs e.2.2.2), if_neg hs]
        rw [hxs] at hx1
        have hun := fun W (hk : Kp No w W) => unseal_any W _ xs (bs_no hx1 hk) (by omega) (by omega)
        rw [hxl, show n + 6 - 6 = n by omega] at hun
        have hli : ¬ (bs.length : Int) < (n : Int) + 10 := by omega
        rw [show n + 6 = 4 + n + 2 by omega] at hun
        have HUn := Hid_mk hun
        have HXl := Hid_mk hxl
        have hz1 : (4 : Int) ≤ (cap : Int) := by omega
        have hz2 : (n : Int) + 10 ≤ (cap : Int) := by omega
        have hz3 : ¬ 4 = cap := by omega
        have hz4 : ¬ cap = 4 := by omega
        clear hxs hx1 hun hxl
        by_cases hs : pl.sum (xs.take n) = said (xs.drop n)
        · rw [if_pos hs] at hf
          simp only [if_pos hs] at HUn
          rw [hf]
          have htl : (xs.take n).length = n := by rw [List.length_take, HXl.out]; omega
          clear hs hf
          go_enter Tryz.func61, Tryz.ntmps61
          go_wp2
          go_quiet (fail)
          rw [HO.out]
          go_wp2_with fail
          with_reducible refine (HUn.out _ ((Kp.refl No w).drewN _)).mono ?_
          rintro e w2 ⟨hk2, v2, rfl, ho2⟩
          have hfin : FirstPost w (some (xs.take n)) (.returned (.tuple #[v2, .bool true])) w2 := ⟨((Kp.refl No w).drewN _).trans' hk2, v2, rfl, ho2⟩
          have HF := Hid_mk hfin
          clear hk2 ho2 hfin
          go_wp2
          go_ret2
          exact HF.out
        · rw [if_neg hs] at hf
          simp only [if_neg hs] at HUn
          rw [hf]
          clear hs hf
          go_enter Tryz.func61, Tryz.ntmps61
          go_wp2
          go_quiet (fail)
          rw [HO.out]
          go_wp2_with fail
          with_reducible refine (HUn.out _ ((Kp.refl No w).drewN _)).mono ?_
          rintro e w2 ⟨hk2, rfl⟩
          have HF := Hid_mk (((Kp.refl No w).drewN nq).trans' hk2)
          clear hk2
          go_wp2
          go_ret2
          exact ⟨HF.out, rfl⟩
      · have hf : firstP bs = none := by unfold firstP; rw [if_neg (by rw [HN.out]; omega)]
        rw [hf]
        have hli : (bs.length : Int) < (n : Int) + 10 := by omega
        go_enter Tryz.func61, Tryz.ntmps61
        go_wp2
        go_quiet (fail)
        rw [HO.out]
        go_wp2
        go_ret2
        exact ⟨(Kp.refl No w).drewN _, rfl⟩
    · have hbigi : (4194304 : Int) < (n : Int) := by omega
      have hf : FirstPost w (firstP bs) = FirstPost w none := by unfold firstP; rw [if_neg (by rw [HN.out]; omega)]
      rw [hf]
      go_enter Tryz.func61, Tryz.ntmps61
      go_wp2
      go_quiet (fail)
      rw [HO.out]
      go_wp2
      go_ret2
      exact ⟨(Kp.refl No w).drewN _, rfl⟩
  · have hf : firstP bs = none := if_neg (by omega)
    rw [hf]
    have l4 : (bs.length : Int) < 4 := by omega
    generalize bs.length = len at *
    clear hc
    go_enter Tryz.func61, Tryz.ntmps61
    go_wp2
    go_ret2
    exact ⟨Kp.refl _ _, rfl⟩

end Go.Proofs.YtmehneicdklfeaaGreat.frm

namespace Go.Proofs.YtmehneicdklfeaaGreat.frm
open Go.RowKit Go.Proofs.YtmehneicdklfeaaGreat.sum Go.Proofs.YtmehneicdklfeaaGreat.kept Go.Proofs.YtmehneicdklfeaaGreat.fl Go.Proofs.YtmehneicdklfeaaGreat.seal Go.Proofs.YtmehneicdklfeaaGreat.unseal Go.Proofs.YtmehneicdklfeaaGreat.turnedPlain
set_option linter.unusedVariables false

theorem firstP_len {bs xs : List UInt8} (h : firstP bs = some xs) : xs.length + 10 ≤ bs.length ∧ xs.length = num4 bs ∧ xs.length ≤ 4194304 := by
  unfold firstP at h
  split at h
  · rename_i hc
    obtain ⟨h1, h2, h3, -⟩ := hc
    injection h with h
    subst h
    simp only [List.length_take, List.length_drop]
    omega
  · cases h

/-- the frames that are whole from the left, and where they end -/
def listP (bs : List UInt8) : List (List UInt8) × Nat :=
  match h : firstP bs with
  | none => ([], 0)
  | some xs => (xs :: (listP (bs.drop (xs.length + 10))).1, xs.length + 10 + (listP (bs.drop (xs.length + 10))).2)
termination_by bs.length
decreasing_by all_goals (have := (firstP_len h).1; rw [List.length_drop]; omega)

theorem listP_none {bs : List UInt8} (h : firstP bs = none) : listP bs = ([], 0) := by
  rw [listP]
  split
  · rfl
  · rename_i x e; rw [h] at e; cases e
theorem listP_some {bs xs : List UInt8} (h : firstP bs = some xs) : listP bs = (xs :: (listP (bs.drop (xs.length + 10))).1, xs.length + 10 + (listP (bs.drop (xs.length + 10))).2) := by
  rw [listP]
  split
  · rename_i e; rw [h] at e; cases e
  · rename_i x e
    rw [h] at e
    injection e with e
    subst e
    rfl

/-- A frame at the beginning of bytes. -/
theorem num4_len4 (n : Nat) (hn : n < 4294967296) (t : List UInt8) : num4 (len4 n ++ t) = n := by
  unfold num4 num3 len4
  simp only [List.cons_append, List.nil_append, List.getD_cons_zero, List.getD_cons_succ, u8_toNat]
  omega
theorem firstP_framed {bs : List UInt8} (h : bs.length ≤ 4194304) (t : List UInt8) : firstP (framed bs ++ t) = some bs := by
  have so := sealed_ok bs
  have e1 : (framed bs ++ t).drop 4 = sealed bs ++ t := by
    rw [framed_some h, List.append_assoc, List.drop_append_of_le_length (by rw [len4_len]; omega)]
    simp [len4]
  have e2 : (sealed bs ++ t).take (bs.length + 6) = sealed bs := by
    rw [List.take_append_of_le_length (by rw [so.1]; omega), List.take_of_length_le (by rw [so.1]; omega)]
  have e3 : num4 (framed bs ++ t) = bs.length := by
    rw [framed_some h, List.append_assoc]
    exact num4_len4 _ (by omega) _
  unfold firstP
  rw [e3, e1, e2, so.2.1, so.2.2]
  exact if_pos ⟨by rw [List.length_append, framed_len h]; omega, h, by rw [List.length_append, framed_len h]; omega, rfl⟩
theorem listP_framed {bs : List UInt8} (h : bs.length ≤ 4194304) (t : List UInt8) : listP (framed bs ++ t) = (bs :: (listP t).1, bs.length + 10 + (listP t).2) := by
  rw [listP_some (firstP_framed h t)]
  have e : (framed bs ++ t).drop (bs.length + 10) = t := by
    rw [List.drop_append, List.drop_of_length_le (by rw [framed_len h]; omega), framed_len h]
    simp
  rw [e]
theorem firstP_short {bs : List UInt8} (h : bs.length < 10) : firstP bs = none := by
  unfold firstP
  rw [if_neg (by omega)]

/-- frames one behind the other -/
def allF (l : List (List UInt8)) : List UInt8 := (l.map framed).flatten
theorem allF_cons (b : List UInt8) (l : List (List UInt8)) : allF (b :: l) = framed b ++ allF l := rfl
theorem allF_snoc (l : List (List UInt8)) (b : List UInt8) : allF (l ++ [b]) = allF l ++ framed b := by simp [allF]
theorem listP_all (l : List (List UInt8)) (h : ∀ b ∈ l, b.length ≤ 4194304) (t : List UInt8) : listP (allF l ++ t) = (l ++ (listP t).1, (allF l).length + (listP t).2) := by
  induction l with
  | nil => simp [allF]
  | cons b l ih =>
    rw [allF_cons, List.append_assoc, listP_framed (h b (by simp)), ih fun c hc => h c (by simp [hc])]
    simp only [List.cons_append, List.length_append, framed_len (h b (by simp))]
    congr 1
    omega
theorem listP_nil : listP [] = ([], 0) := listP_none (firstP_short (by simp))

/-- at a place, with these before it -/
def At (bs : List UInt8) (l : List (List UInt8)) (k : Nat) : Prop := k ≤ bs.length ∧ listP bs = (l ++ (listP (bs.drop k)).1, k + (listP (bs.drop k)).2)
theorem At.start (bs : List UInt8) : At bs [] 0 := ⟨Nat.zero_le _, by simp⟩
theorem At.next {bs xs : List UInt8} {l : List (List UInt8)} {k : Nat} (h : At bs l k) (hf : firstP (bs.drop k) = some xs) : At bs (l ++ [xs]) (k + (xs.length + 10)) := by
  have hl := (firstP_len hf).1
  rw [List.length_drop] at hl
  have h1 := h.1
  refine ⟨by omega, ?_⟩
  rw [h.2, listP_some hf, List.drop_drop]
  simp only [List.append_assoc, List.singleton_append]
  congr 1
  omega
theorem At.done {bs : List UInt8} {l : List (List UInt8)} {k : Nat} (h : At bs l k) (hf : firstP (bs.drop k) = none) : listP bs = (l, k) := by
  rw [h.2, listP_none hf]; simp

end Go.Proofs.YtmehneicdklfeaaGreat.frm

namespace Go.Proofs.YtmehneicdklfeaaGreat.snp
open Go.RowKit Go.Proofs.YtmehneicdklfeaaGreat.sum Go.Proofs.YtmehneicdklfeaaGreat.kept Go.Proofs.YtmehneicdklfeaaGreat.fs Go.Proofs.YtmehneicdklfeaaGreat.dsk Go.Proofs.YtmehneicdklfeaaGreat.r2 Go.Proofs.YtmehneicdklfeaaGreat.pair Go.Proofs.YtmehneicdklfeaaGreat.frm
set_option linter.unusedVariables false

abbrev snapN : ByteArray := ⟨#[115, 110, 97, 112]⟩
abbrev newN : ByteArray := ⟨#[115, 110, 97, 112, 46, 110, 101, 119]⟩

/-- is the file there, as Read tells it? -/
def hereB (d : DSt) (n : ByteArray) : Bool := !d.down && (get d.now (nm n)).isSome
def readD (d : DSt) (n : ByteArray) : List UInt8 := if d.down = true then [] else old d.now (nm n)

/-- one call behind another: the first error -/
def seqD (r : Int × DSt) (k : DSt → Int × DSt) : Int × DSt := if r.1 = 0 then k r.2 else r
theorem seqD_ok {r : Int × DSt} (k : DSt → Int × DSt) (h : r.1 = 0) : seqD r k = k r.2 := if_pos h
theorem seqD_no {r : Int × DSt} (k : DSt → Int × DSt) (h : r.1 ≠ 0) : seqD r k = r := if_neg h

/-- snap.new is Removed, if it is there -/
def clrD (d : DSt) : Int × DSt := if hereB d newN = true then rmR d newN else (0, d)
def savD (d : DSt) (bs : List UInt8) : Int × DSt :=
  if 4194304 < bs.length then (12, d)
  else seqD (clrD d) fun d => seqD (appR d newN (framed bs)) fun d => seqD (syR d) fun d => seqD (reR d newN snapN) fun d => syR d
def opnD (d : DSt) : Int × DSt := if hereB d newN = true then seqD (rmR d newN) fun d => syR d else (0, d)
/-- what a file of one frame tells -/
def gotL (bs : List UInt8) : Option (List UInt8) := if (listP bs).1.length = 1 ∧ (listP bs).2 = bs.length then some ((listP bs).1.headD []) else none
/-- what Open tells of the disk as it is then -/
def gotD (d : DSt) : Option (List UInt8) := gotL (readD d snapN)
/-- what Open answers -/
def opnA (d : DSt) : Int × Option (List UInt8) := if (opnD d).1 = 0 then (0, gotD (opnD d).2) else ((opnD d).1, none)

theorem clrD_ok {M : Nat} {d : DSt} (h : OkN M d) : OkN (M + 1) (clrD d).2 := by
  unfold clrD; split
  · exact rmR_ok h newN (by decide)
  · exact ⟨h.1.mono (by omega), h.2⟩
theorem OkN.more {M N : Nat} {d : DSt} (h : OkN M d) (hm : M ≤ N) : OkN N d := ⟨h.1.mono hm, h.2⟩
theorem seqD_okN {M N : Nat} {r : Int × DSt} {k : DSt → Int × DSt} (h : OkN M r.2) (hm : M ≤ N) (hk : ∀ d, OkN M d → OkN N (k d).2) : OkN N (seqD r k).2 := by
  unfold seqD; split
  · exact hk _ h
  · exact OkN.more h hm
theorem savD_ok {M : Nat} {d : DSt} (h : OkN M d) (bs : List UInt8) : OkN (M + 5) (savD d bs).2 := by
  unfold savD; split
  · exact OkN.more h (by omega)
  · exact seqD_okN (clrD_ok h) (by omega) fun d h => seqD_okN (appR_ok h newN (framed bs)) (by omega) fun d h => seqD_okN (syR_ok h) (by omega) fun d h => seqD_okN (reR_ok h newN snapN (by decide)) (by omega) fun d h => syR_ok h
theorem opnD_ok {M : Nat} {d : DSt} (h : OkN M d) : OkN (M + 2) (opnD d).2 := by
  unfold opnD; split
  · exact seqD_okN (rmR_ok h newN (by decide)) (by omega) fun d h => syR_ok h
  · exact OkN.more h (by omega)

end Go.Proofs.YtmehneicdklfeaaGreat.snp

namespace Go.Proofs.YtmehneicdklfeaaGreat.snp
open Go.RowKit Go.Proofs.YtmehneicdklfeaaGreat.sum Go.Proofs.YtmehneicdklfeaaGreat.kept Go.Proofs.YtmehneicdklfeaaGreat.fs Go.Proofs.YtmehneicdklfeaaGreat.dsk Go.Proofs.YtmehneicdklfeaaGreat.r2 Go.Proofs.YtmehneicdklfeaaGreat.pair Go.Proofs.YtmehneicdklfeaaGreat.frm
set_option linter.unusedVariables false

/-- the files: a snapshot or none -/
def baseS : Option (List UInt8) → Files
  | none => []
  | some x => [(nm snapN, framed x)]
/-- a disk that holds just these, with a fuse -/
def stS (L : Option (List UInt8)) (f : Int) : DSt := ⟨8388608, f, false, baseS L, []⟩

theorem bef_ns : bef (nm newN) (nm snapN) = false := by decide
theorem bef_sn : bef (nm snapN) (nm newN) = true := by decide
theorem ne_sn : (nm snapN == nm newN) = false := by decide
theorem ne_ns : (nm newN == nm snapN) = false := by decide

theorem put_new (L : Option (List UInt8)) (y : List UInt8) : put (baseS L) (nm newN) y = baseS L ++ [(nm newN, y)] := by
  cases L with
  | none => rfl
  | some x => simp [baseS, put, fs.drop, ins, bef_ns, bef_sn, ne_sn]
theorem get_new (L : Option (List UInt8)) : fs.get (baseS L) (nm newN) = none := by
  cases L with
  | none => rfl
  | some x => simp [baseS, fs.get, ne_sn]
theorem get_two (L : Option (List UInt8)) (y : List UInt8) : fs.get (baseS L ++ [(nm newN, y)]) (nm newN) = some y := by
  cases L with
  | none => simp [baseS, fs.get]
  | some x => simp [baseS, fs.get, ne_sn]
theorem get_snap (L : Option (List UInt8)) : fs.get (baseS L) (nm snapN) = L.map framed := by
  cases L with
  | none => rfl
  | some x => simp [baseS, fs.get]
theorem drop_two (L : Option (List UInt8)) (y : List UInt8) : fs.drop (baseS L ++ [(nm newN, y)]) (nm newN) = baseS L := by
  cases L with
  | none => simp [baseS, fs.drop]
  | some x => simp [baseS, fs.drop, ne_sn]
theorem put_snap (L : Option (List UInt8)) (y : List UInt8) : put (baseS L) (nm snapN) (framed y) = baseS (some y) := by
  cases L with
  | none => rfl
  | some x => simp [baseS, put, fs.drop, ins]

/-- Save's five moments, with a fuse f or none -/
theorem here_not (L : Option (List UInt8)) (f : Int) : hereB (stS L f) newN = false := by
  show (!false && (fs.get (baseS L) (nm newN)).isSome) = false
  rw [get_new]; rfl
theorem clr_not (L : Option (List UInt8)) (f : Int) : clrD (stS L f) = (0, stS L f) := by
  unfold clrD; rw [here_not]; rfl
theorem used_base (L : Option (List UInt8)) (h : ∀ x, L = some x → x.length ≤ 300) : used (baseS L) ≤ 310 := by
  cases L with
  | none => exact Nat.zero_le _
  | some x =>
    have := h x rfl
    have e := framed_len (bs := x) (by omega)
    simp [baseS, used, e]; omega
theorem len_base (L : Option (List UInt8)) : (baseS L).length ≤ 1 := by cases L <;> simp [baseS]

/-- the fuse behind a call that counts -/
def nxt (f : Int) : Int := if 0 < f then f - 1 else f

theorem stop_cut (S : Files) (cs : List Change) : stopB ⟨8388608, 0, false, S, cs⟩ = true ∧ stopD ⟨8388608, 0, false, S, cs⟩ = ⟨8388608, 0, true, S, cs⟩ := ⟨rfl, if_pos (.inr rfl)⟩
theorem stop_on (S : Files) (cs : List Change) {f : Int} (hf : f ≠ 0) : stopB ⟨8388608, f, false, S, cs⟩ = false ∧ stopD ⟨8388608, f, false, S, cs⟩ = ⟨8388608, nxt f, false, S, cs⟩ := by
  refine ⟨by simp [stopB, hf], ?_⟩
  unfold stopD nxt
  rw [if_neg (by simp [hf])]
  by_cases h : 0 < f
  · rw [if_pos h, if_pos h]
  · rw [if_neg h, if_neg h]
theorem app_cut (S : Files) (cs : List Change) (n : ByteArray) (bs : List UInt8) : appR ⟨8388608, 0, false, S, cs⟩ n bs = (3, ⟨8388608, 0, true, S, cs⟩) := by
  obtain ⟨h1, h2⟩ := stop_cut S cs
  unfold appR; rw [if_pos h1, h2]
theorem sy_cut (S : Files) (cs : List Change) : syR ⟨8388608, 0, false, S, cs⟩ = (3, ⟨8388608, 0, true, S, cs⟩) := by
  obtain ⟨h1, h2⟩ := stop_cut S cs
  unfold syR; rw [if_pos h1, h2]
theorem re_cut (S : Files) (cs : List Change) (n to : ByteArray) : reR ⟨8388608, 0, false, S, cs⟩ n to = (3, ⟨8388608, 0, true, S, cs⟩) := by
  obtain ⟨h1, h2⟩ := stop_cut S cs
  unfold reR; rw [if_pos h1, h2]
theorem sy_on (S : Files) (cs : List Change) {f : Int} (hf : f ≠ 0) : syR ⟨8388608, f, false, S, cs⟩ = (0, ⟨8388608, nxt f, false, all S cs, []⟩) := by
  obtain ⟨h1, h2⟩ := stop_on S cs hf
  unfold syR; rw [h1, if_neg (by simp), h2]; rfl
theorem re_on (S : Files) {f : Int} (hf : f ≠ 0) (hg : (fs.get S (nm newN)).isSome = true) : reR ⟨8388608, f, false, S, []⟩ newN snapN = (0, ⟨8388608, nxt f, false, S, [renC newN snapN]⟩) := by
  obtain ⟨h1, h2⟩ := stop_on S [] hf
  unfold reR; rw [h1, if_neg (by simp), if_neg (by decide)]
  rw [if_neg (show ¬ (fs.get (⟨8388608, f, false, S, []⟩ : DSt).now (nm newN)).isSome = false from by
    show ¬ (fs.get S (nm newN)).isSome = false
    rw [hg]; simp)]
  unfold pushD; rw [h2]; rfl
theorem rm_on (S : Files) {f : Int} (hf : f ≠ 0) (hg : (fs.get S (nm newN)).isSome = true) : rmR ⟨8388608, f, false, S, []⟩ newN = (0, ⟨8388608, nxt f, false, S, [remC newN]⟩) := by
  obtain ⟨h1, h2⟩ := stop_on S [] hf
  unfold rmR; rw [h1, if_neg (by simp)]
  rw [if_neg (show ¬ (fs.get (⟨8388608, f, false, S, []⟩ : DSt).now (nm newN)).isSome = false from by
    show ¬ (fs.get S (nm newN)).isSome = false
    rw [hg]; simp)]
  unfold pushD; rw [h2]; rfl

theorem app_on (L : Option (List UInt8)) (hL : ∀ x, L = some x → x.length ≤ 300) (bs : List UInt8) (hb : bs.length ≤ 300) (f : Int) (hf : f ≠ 0) : appR (stS L f) newN (framed bs) = (0, ⟨8388608, nxt f, false, baseS L, [appC newN (framed bs)]⟩) := by
  have hs : stopB (stS L f) = false := by simp [stopB, stS, hf]
  have hsd : stopD (stS L f) = stS L (nxt f) := by
    unfold stopD nxt
    rw [if_neg (by simp [stS, hf])]
    by_cases h : 0 < f
    · rw [if_pos h, if_pos (show 0 < (stS L f).fuse from h)]; rfl
    · rw [if_neg h, if_neg (show ¬ 0 < (stS L f).fuse from h)]
  have hu := used_base L hL
  have hl := len_base L
  have e := framed_len (bs := bs) (by omega)
  unfold appR
  rw [hs, if_neg (by simp), if_neg (by decide)]
  rw [if_neg (show ¬ (stS L f).room < (used (stS L f).now : Int) + ((framed bs).length : Int) by
    show ¬ (8388608 : Int) < (used (baseS L) : Int) + ((framed bs).length : Int); omega)]
  rw [if_neg (show ¬ ((fs.get (stS L f).now (nm newN)).isSome = false ∧ 64 ≤ (stS L f).now.length) from fun h => by
    have h2 : 64 ≤ (baseS L).length := h.2
    omega)]
  unfold pushD
  rw [hsd]
  rfl
theorem now_app (L : Option (List UInt8)) (y : List UInt8) : all (baseS L) [appC newN y] = baseS L ++ [(nm newN, y)] := by
  show put (baseS L) (nm newN) (old (baseS L) (nm newN) ++ y) = _
  unfold old
  rw [get_new]
  exact put_new L y
theorem now_ren (L : Option (List UInt8)) (bs : List UInt8) : all (baseS L ++ [(nm newN, framed bs)]) [renC newN snapN] = baseS (some bs) := by
  show put (fs.drop (baseS L ++ [(nm newN, framed bs)]) (nm newN)) (nm snapN) (old (baseS L ++ [(nm newN, framed bs)]) (nm newN)) = _
  rw [drop_two]
  unfold old
  rw [get_two]
  exact put_snap L bs

/-- what waits when Save was cut -/
inductive CutS (L : Option (List UInt8)) (bs : List UInt8) : Files → List Change → Prop
  | none : CutS L bs (baseS L) []
  | app : CutS L bs (baseS L) [appC newN (framed bs)]
  | two : CutS L bs (baseS L ++ [(nm newN, framed bs)]) []
  | ren : CutS L bs (baseS L ++ [(nm newN, framed bs)]) [renC newN snapN]

/-- Save went well, or was cut -/
theorem sav_or (L : Option (List UInt8)) (hL : ∀ x, L = some x → x.length ≤ 300) (bs : List UInt8) (hb : bs.length ≤ 300) (f : Int) :
    (∃ f', savD (stS L f) bs = (0, stS (some bs) f')) ∨ ∃ S cs, savD (stS L f) bs = (3, ⟨8388608, 0, true, S, cs⟩) ∧ CutS L bs S cs := by
  unfold savD
  rw [if_neg (by omega), clr_not, seqD_ok _ rfl]
  by_cases f0 : f = 0
  · subst f0
    refine .inr ⟨_, _, ?_, .none⟩
    show seqD (appR ⟨8388608, 0, false, baseS L, []⟩ newN (framed bs)) _ = _
    rw [app_cut, seqD_no _ (show (3 : Int) ≠ 0 by decide)]
  · simp only
    rw [app_on L hL bs hb f f0, seqD_ok _ rfl]
    by_cases f1 : nxt f = 0
    · rw [f1]
      refine .inr ⟨_, _, ?_, .app⟩
      simp only
      rw [sy_cut, seqD_no _ (show (3 : Int) ≠ 0 by decide)]
    · simp only
      rw [sy_on _ _ f1, seqD_ok _ rfl, now_app]
      simp only
      have hg : (fs.get (baseS L ++ [(nm newN, framed bs)]) (nm newN)).isSome = true := by rw [get_two]; rfl
      by_cases f2 : nxt (nxt f) = 0
      · rw [f2]
        refine .inr ⟨_, _, ?_, .two⟩
        rw [re_cut, seqD_no _ (show (3 : Int) ≠ 0 by decide)]
      · rw [re_on _ f2 hg, seqD_ok _ rfl]
        simp only
        by_cases f3 : nxt (nxt (nxt f)) = 0
        · rw [f3]
          refine .inr ⟨_, _, ?_, .ren⟩
          rw [sy_cut]
        · rw [sy_on _ _ f3, now_ren]
          exact .inl ⟨_, rfl⟩

/-- what a crash leaves of it -/
theorem crash_leaves {L : Option (List UInt8)} {bs : List UInt8} {S : Files} {cs : List Change} (h : CutS L bs S cs) (d : DSt) (hS : d.syn = S) (hc : d.cs = cs) (a b : Int) :
    crashF d a b = baseS L ∨ (∃ y, crashF d a b = baseS L ++ [(nm newN, y)]) ∨ crashF d a b = baseS (some bs) := by
  have hk := (crashK_le d a).1
  rw [hc] at hk
  unfold crashF
  rw [hc, hS]
  obtain ⟨k, hkk⟩ : ∃ k, crashK d a = k := ⟨_, rfl⟩
  rw [hkk] at hk ⊢
  cases h with
  | none =>
    obtain rfl : k = 0 := by simpa using hk
    exact .inl rfl
  | two =>
    obtain rfl : k = 0 := by simpa using hk
    exact .inr (.inl ⟨_, rfl⟩)
  | app =>
    have hk2 : k = 0 ∨ k = 1 := by simp only [List.length_cons, List.length_nil] at hk; omega
    rcases hk2 with rfl | rfl
    · show tearF (baseS L) (appC newN (framed bs)) b = _ ∨ (∃ y, tearF (baseS L) (appC newN (framed bs)) b = _) ∨ tearF (baseS L) (appC newN (framed bs)) b = _
      unfold tearF
      split
      · exact .inl rfl
      · refine .inr (.inl ⟨(framed bs).take (tornN (appC newN (framed bs)) b), ?_⟩)
        exact now_app L ((framed bs).take (tornN (appC newN (framed bs)) b))
    · exact .inr (.inl ⟨_, now_app L _⟩)
  | ren =>
    have hk2 : k = 0 ∨ k = 1 := by simp only [List.length_cons, List.length_nil] at hk; omega
    rcases hk2 with rfl | rfl
    · refine .inr (.inl ⟨framed bs, ?_⟩)
      show tearF (baseS L ++ [(nm newN, framed bs)]) (renC newN snapN) b = _
      unfold tearF
      rw [if_pos (show tornN (renC newN snapN) b = 0 from rfl)]
    · exact .inr (.inr (now_ren L bs))

theorem opn_base (L : Option (List UInt8)) (f : Int) : opnD (stS L f) = (0, stS L f) := by
  unfold opnD; rw [here_not]; rfl
theorem opn_two (L : Option (List UInt8)) (y : List UInt8) : opnD ⟨8388608, -1, false, baseS L ++ [(nm newN, y)], []⟩ = (0, stS L (-1)) := by
  have hg : (fs.get (baseS L ++ [(nm newN, y)]) (nm newN)).isSome = true := by rw [get_two]; rfl
  have hh : hereB ⟨8388608, -1, false, baseS L ++ [(nm newN, y)], []⟩ newN = true := by
    show (!false && (fs.get (baseS L ++ [(nm newN, y)]) (nm newN)).isSome) = true
    rw [hg]; rfl
  unfold opnD
  rw [hh, if_pos rfl, rm_on _ (by decide) hg, seqD_ok _ rfl]
  simp only
  rw [sy_on _ _ (by decide)]
  show ((0 : Int), (⟨8388608, _, false, fs.drop (baseS L ++ [(nm newN, y)]) (nm newN), []⟩ : DSt)) = _
  rw [drop_two]
  rfl

/-- Opened behind a crash: the elder snapshot, or the one that was cut, whole -/
theorem cut_opn {L : Option (List UInt8)} {bs : List UInt8} {S : Files} {cs : List Change} (h : CutS L bs S cs) (a b : Int) :
    ∃ L', (L' = L ∨ L' = some bs) ∧ opnD (crashD ⟨8388608, 0, true, S, cs⟩ a b) = (0, stS L' (-1)) := by
  unfold crashD
  rcases crash_leaves h ⟨8388608, 0, true, S, cs⟩ rfl rfl a b with e | ⟨y, e⟩ | e
  · rw [e]; exact ⟨L, .inl rfl, opn_base L (-1)⟩
  · rw [e]; exact ⟨L, .inl rfl, opn_two L y⟩
  · rw [e]; exact ⟨some bs, .inr rfl, opn_base (some bs) (-1)⟩
/-- behind a Save that went well -/
theorem ok_opn (L : Option (List UInt8)) (f a b : Int) : opnD (crashD (stS L f) a b) = (0, stS L (-1)) := by
  have hk := (crashK_le (stS L f) a).1
  have hk0 : crashK (stS L f) a = 0 := by
    have : (stS L f).cs.length = 0 := rfl
    omega
  have e : crashF (stS L f) a b = baseS L := by unfold crashF; rw [hk0]; rfl
  unfold crashD
  rw [e]
  exact opn_base L (-1)
/-- what is told of it -/
theorem got_st (L : Option (List UInt8)) (hL : ∀ x, L = some x → x.length ≤ 300) (f : Int) : gotD (stS L f) = L := by
  have e : readD (stS L f) snapN = (L.map framed).getD [] := by
    show (if false = true then [] else (fs.get (baseS L) (nm snapN)).getD []) = _
    rw [get_snap]; rfl
  unfold gotD
  rw [e]
  cases L with
  | none =>
    show gotL [] = none
    unfold gotL
    rw [listP_none (show firstP [] = none by unfold firstP; rw [if_neg (by simp)])]
    rfl
  | some x =>
    show gotL (framed x) = some x
    have hx := hL x rfl
    have h1 := listP_framed (bs := x) (by omega) []
    rw [List.append_nil, listP_none (show firstP [] = none by unfold firstP; rw [if_neg (by simp)])] at h1
    unfold gotL
    rw [h1, framed_len (by omega)]
    simp

/-- with no fuse -/
theorem sav_free (L : Option (List UInt8)) (hL : ∀ x, L = some x → x.length ≤ 300) (bs : List UInt8) (hb : bs.length ≤ 300) : savD (stS L (-1)) bs = (0, stS (some bs) (-1)) := by
  have hg : (fs.get (baseS L ++ [(nm newN, framed bs)]) (nm newN)).isSome = true := by rw [get_two]; rfl
  have hn : nxt (-1) = -1 := rfl
  unfold savD
  rw [if_neg (by omega), clr_not, seqD_ok _ rfl]
  simp only
  rw [app_on L hL bs hb (-1) (by decide), seqD_ok _ rfl, hn]
  simp only
  rw [sy_on _ _ (by decide), seqD_ok _ rfl, now_app, hn]
  simp only
  rw [re_on _ (by decide) hg, seqD_ok _ rfl, hn]
  simp only
  rw [sy_on _ _ (by decide), now_ren, hn]
  rfl
/-- with a fuse of two: cut at Rename -/
theorem sav_two (L : Option (List UInt8)) (hL : ∀ x, L = some x → x.length ≤ 300) (bs : List UInt8) (hb : bs.length ≤ 300) : savD (stS L 2) bs = (3, ⟨8388608, 0, true, baseS L ++ [(nm newN, framed bs)], []⟩) := by
  have hn : nxt 2 = 1 := rfl
  have hn1 : nxt 1 = 0 := rfl
  unfold savD
  rw [if_neg (by omega), clr_not, seqD_ok _ rfl]
  simp only
  rw [app_on L hL bs hb 2 (by decide), seqD_ok _ rfl, hn]
  simp only
  rw [sy_on _ _ (by decide), seqD_ok _ rfl, now_app, hn1]
  simp only
  rw [re_cut, seqD_no _ (show (3 : Int) ≠ 0 by decide)]
theorem two_opn (L : Option (List UInt8)) (y : List UInt8) (a b : Int) : opnD (crashD ⟨8388608, 0, true, baseS L ++ [(nm newN, y)], []⟩ a b) = (0, stS L (-1)) := by
  have hk := (crashK_le ⟨8388608, 0, true, baseS L ++ [(nm newN, y)], []⟩ a).1
  have hk0 : crashK ⟨8388608, 0, true, baseS L ++ [(nm newN, y)], []⟩ a = 0 := by
    simpa using hk
  have e : crashF ⟨8388608, 0, true, baseS L ++ [(nm newN, y)], []⟩ a b = baseS L ++ [(nm newN, y)] := by unfold crashF; rw [hk0]; rfl
  unfold crashD
  rw [e]
  exact opn_two L y
/-- what Open answers, where it leaves such a disk -/
theorem opnA_st {d : DSt} {L : Option (List UInt8)} {f : Int} (hL : ∀ x, L = some x → x.length ≤ 300) (h : opnD d = (0, stS L f)) : opnA d = (0, L) := by
  unfold opnA
  rw [h, if_pos rfl, got_st L hL]

end Go.Proofs.YtmehneicdklfeaaGreat.snp

namespace Go.Proofs.YtmehneicdklfeaaGreat.ref
open Go.RowKit Go.Proofs.YtmehneicdklfeaaGreat.sum Go.Proofs.YtmehneicdklfeaaGreat.kept Go.Proofs.YtmehneicdklfeaaGreat.writer Go.Proofs.YtmehneicdklfeaaGreat.clone Go.Proofs.YtmehneicdklfeaaGreat.known Go.Proofs.YtmehneicdklfeaaGreat.unseal
set_option linter.unusedVariables false

theorem wrapU (z : Int) (h : 0 ≤ z) (h2 : z < 18446744073709551616) : IntKind.u64.wrap z = z := by
  simp only [IntKind.wrap, IntKind.bits, IntKind.signed]
  simp
  omega

def SumRel (bs : List UInt8) (w : World) (i re im : Value) (wr : World) : Prop :=
  ∃ k, k ≤ bs.length ∧ i = .int .i64 ((k : Nat) : Int) ∧ re = .int .u64 ((pl.sum (bs.take k)).1 : Int) ∧ im = .int .u64 ((pl.sum (bs.take k)).2 : Int) ∧ wr = w

section
variable {p q x : Nat} (hp : p < 16777199) (hq : q < 16777199) (hx : x < 256)
include hp in
theorem s1 : IntKind.u64.wrap (257 * (p : Int)) = 257 * (p : Int) := wrapU _ (by omega) (by omega)
include hp hx in
theorem s2 : IntKind.u64.wrap (257 * (p : Int) + (x : Int)) = 257 * (p : Int) + (x : Int) := wrapU _ (by omega) (by omega)
include hp hx in
theorem s3 : IntKind.u64.wrap (257 * (p : Int) + (x : Int) + 1) = 257 * (p : Int) + (x : Int) + 1 := wrapU _ (by omega) (by omega)
include hq in
theorem s4 : IntKind.u64.wrap (16777199 - (q : Int)) = 16777199 - (q : Int) := wrapU _ (by omega) (by omega)
include hq in
theorem s5 : IntKind.u64.wrap (3 * (16777199 - (q : Int))) = 3 * (16777199 - (q : Int)) := wrapU _ (by omega) (by omega)
include hp hq hx in
theorem s6 : IntKind.u64.wrap (257 * (p : Int) + (x : Int) + 1 + 3 * (16777199 - (q : Int))) = 257 * (p : Int) + (x : Int) + 1 + 3 * (16777199 - (q : Int)) := wrapU _ (by omega) (by omega)
include hp in
theorem s7 : IntKind.u64.wrap (3 * (p : Int)) = 3 * (p : Int) := wrapU _ (by omega) (by omega)
include hp hq in
theorem s8 : IntKind.u64.wrap (257 * (q : Int) + 3 * (p : Int)) = 257 * (q : Int) + 3 * (p : Int) := wrapU _ (by omega) (by omega)
include hq in
theorem s_re : (257 * (p : Int) + (x : Int) + 1 + 3 * (16777199 - (q : Int))) % 16777199 = (((257 * p + x + 1 + 3 * (16777199 - q)) % 16777199 : Nat) : Int) := by omega
theorem s_im : (257 * (q : Int) + 3 * (p : Int)) % 16777199 = (((257 * q + 3 * p) % 16777199 : Nat) : Int) := by omega
end

theorem SumRel.next {bs : List UInt8} {w : World} {k p q x : Nat} {X : UInt8} (hlt : k < bs.length) (hs : pl.sum (bs.take k) = (p, q)) (hX : bs.getD k 0 = X) (hx : X.toNat = x) (hq : q < 16777199) :
    SumRel bs w (.int .i64 ((k + 1 : Nat) : Int)) (.int .u64 ((257 * (p : Int) + (x : Int) + 1 + 3 * (16777199 - (q : Int))) % 16777199)) (.int .u64 ((257 * (q : Int) + 3 * (p : Int)) % 16777199)) w := by
  have hfin := pl.sum_snoc (bs.take k) (bs.getD k 0)
  rw [← take_snoc hlt, hs, hX] at hfin
  refine ⟨k + 1, hlt, rfl, ?_, ?_, rfl⟩
  · rw [hfin, s_re hq]; unfold pl.step pl.P; rw [hx]
  · rw [hfin, s_im]; rfl

set_option maxRecDepth 100000 in
set_option maxHeartbeats 2000000 in
theorem sum_any (w : World) (v : Value) (bs : List UInt8) (h : Bs w v bs) :
    Calls Tryz.prog 66 #[v] w fun e w' => e = .returned (.tuple #[.int .u64 ((pl.sum bs).1 : Int), .int .u64 ((pl.sum bs).2 : Int)]) ∧ w = w' := by
  obtain ⟨a, cap, rfl, hl, hm, hc⟩ := h
  unfold maxLen at hm
  go_enter Tryz.func66, Tryz.ntmps66
  go_wp2
  go_loopw [2, 3, 4] (fun re im i wr => SumRel bs w i re im wr) (fun _ _ i _ => bs.length - (intOf i).toNat)
  case atStart => exact ⟨0, Nat.zero_le _, rfl, by rw [List.take_zero, pl.sum_nil]; rfl, by rw [List.take_zero, pl.sum_nil]; rfl, rfl⟩
  case round =>
    obtain ⟨k, hk, rfl, rfl, rfl, rfl⟩ := hrel
    by_cases hlt : k < bs.length
    · obtain ⟨b, o, rfl, hcell⟩ := hc (by intro e; subst e; simp at hlt)
      have hx := hcell k hlt
      unfold B at hx
      have hki : (k : Int) < (bs.length : Int) := by omega
      have hlt2 := pl.sum_lt (bs.take k)
      obtain ⟨⟨p, q⟩, hs⟩ : ∃ s, pl.sum (bs.take k) = s := ⟨_, rfl⟩
      rw [hs] at hlt2 ⊢
      obtain ⟨X, hX⟩ : ∃ X, bs.getD k 0 = X := ⟨_, rfl⟩
      rw [hX] at hx
      obtain ⟨x, hxx⟩ : ∃ x, X.toNat = x := ⟨_, rfl⟩
      have hxb : x < 256 := by rw [← hxx]; exact UInt8.toNat_lt _
      rw [hxx] at hx
      have hp : p < 16777199 := hlt2.1
      have hq : q < 16777199 := hlt2.2
      have hfin := SumRel.next (w := wr) hlt hs hX hxx hq
      have HF := Hid_mk hfin
      have w1 := s1 hp
      have w2 := s2 hp hxb
      have w3 := s3 hp hxb
      have w4 := s4 hq
      have w5 := s5 hq
      have w6 := s6 hp hq hxb
      have w7 := s7 hp
      have w8 := s8 hp hq
      have w9 := s1 hq
      clear hfin hcell hc hlt2 hs hX hxx
      simp only
      go_wp2
      go_roundw
      case rel => exact HF.out
      case measure => simp [intOf]; omega
    · have hki : ¬ (k : Int) < (bs.length : Int) := by omega
      obtain rfl : k = bs.length := by omega
      rw [List.take_length]
      go_wp2
      go_ret2
      exact ⟨rfl, rfl⟩

end Go.Proofs.YtmehneicdklfeaaGreat.ref

namespace Go.Proofs.YtmehneicdklfeaaGreat.ref
open Go.RowKit Go.Proofs.YtmehneicdklfeaaGreat.sum Go.Proofs.YtmehneicdklfeaaGreat.kept Go.Proofs.YtmehneicdklfeaaGreat.app Go.Proofs.YtmehneicdklfeaaGreat.writer Go.Proofs.YtmehneicdklfeaaGreat.clone Go.Proofs.YtmehneicdklfeaaGreat.known Go.Proofs.YtmehneicdklfeaaGreat.seal Go.Proofs.YtmehneicdklfeaaGreat.unseal
set_option linter.unusedVariables false

/-- a literal of six bytes, as laid by the call -/
theorem bs_tail (w : World) (s : Nat × Nat) : Bs (w.alloc (.cells #[.int .u8 ((s.1 : Int) % 256), .int .u8 ((s.1 : Int) / 256 % 256), .int .u8 ((s.1 : Int) / 65536 % 256), .int .u8 ((s.2 : Int) % 256), .int .u8 ((s.2 : Int) / 256 % 256), .int .u8 ((s.2 : Int) / 65536 % 256)] 5)) (.slice (some ⟨w.heap.size, 0, none⟩) 6 6) (tail s) := by
  obtain ⟨m, n⟩ := s
  simp only
  have e1 : (m : Int) % 256 = ((m % 256 : Nat) : Int) := by omega
  have e2 : (m : Int) / 256 % 256 = ((m / 256 % 256 : Nat) : Int) := by omega
  have e3 : (m : Int) / 65536 % 256 = ((m / 65536 % 256 : Nat) : Int) := by omega
  have e4 : (n : Int) % 256 = ((n % 256 : Nat) : Int) := by omega
  have e5 : (n : Int) / 256 % 256 = ((n / 256 % 256 : Nat) : Int) := by omega
  have e6 : (n : Int) / 65536 % 256 = ((n / 65536 % 256 : Nat) : Int) := by omega
  rw [e1, e2, e3, e4, e5, e6]
  refine ⟨_, 6, rfl, Nat.le_refl _, by decide, fun _ => ⟨_, _, rfl, fun k hk => ?_⟩⟩
  rw [tail_len] at hk
  rw [show tail (m, n) = [m.toUInt8, (m / 256).toUInt8, (m / 65536).toUInt8, n.toUInt8, (n / 256).toUInt8, (n / 65536).toUInt8] from rfl]
  match k, hk with
  | 0, _ => simp [B, u8_toNat]
  | 1, _ => simp [B, u8_toNat]
  | 2, _ => simp [B, u8_toNat]
  | 3, _ => simp [B, u8_toNat]
  | 4, _ => simp [B, u8_toNat]
  | 5, _ => simp [B, u8_toNat]

set_option maxRecDepth 100000 in
set_option maxHeartbeats 2000000 in
theorem seal_any (w : World) (v : Value) (bs : List UInt8) (h : Bs w v bs) (hl : bs.length + 6 ≤ 140737488355328) :
    Calls Tryz.prog 43 #[v] w (NewBs w (sealed bs)) := by
  have H := Hid_mk h
  have k0 : Kp No w (w.alloc (.cells #[] 5)) := (Kp.refl _ _).alloc _
  have h0 : (w.alloc (.cells #[] 5)).ownsRow w.heap.size 5 1 (.slice (some ⟨w.heap.size, 0, none⟩) 0 0) 0 [] := World.ownsRow_made w #[] 0 (Nat.le_refl _) (by decide) rfl
  have HX := Hid_mk (bs_no h k0)
  clear h
  go_enter Tryz.func43, Tryz.ntmps43
  go_wp2_with fail
  refine (ref.sum_any w v bs H.out).mono ?_
  rintro e w' ⟨rfl, rfl⟩
  go_wp2_with (at_builtin; (refine wpList_append_bs _ rfl _ _ rfl w.heap.size _ [] rfl h0 _ bs rfl HX.out ?c1 ?c2 ?_))
  case c1 => simp; omega
  case c2 => simp
  intro v1 w1 happ
  have ho1 : w1.ownsRow w.heap.size 5 1 v1 bs.length (bs.map B) := by simpa using happ.1
  have HO := Hid_mk ho1
  have HK := Hid_mk (k0.grown happ.2.1 fun k hk e => by simp [Value.ownBlock] at e; omega)
  have hs1 := HK.out.size
  clear happ k0 h0 ho1
  go_wp2_with (at_builtin; (refine wpList_append_bs _ rfl _ _ rfl w.heap.size _ bs rfl (HO.out.alloc _) _ (tail (pl.sum bs)) rfl (bs_tail w1 (pl.sum bs)) ?c1 ?c2 ?_))
  case c1 => rw [tail_len]; exact hl
  case c2 => simp; omega
  intro v2 w2 happ
  have kp : Kp No w w2 := by
    refine (HK.out.alloc _).grown happ.2.1 fun k hk e => ?_
    rcases owns_any HO.out with ⟨rfl, _⟩ | ⟨g, cap, rfl, hg1, hg2⟩
    · simp [Value.ownBlock] at e
    · simp [Value.ownBlock] at e; omega
  have hfin : NewBs w (sealed bs) (.returned v2) w2 := ⟨v2, rfl, happ.1, kp⟩
  have HF := Hid_mk hfin
  obtain ⟨g, cap, rfl, hg1, hg2⟩ := owns_some happ.1 (by rw [List.length_append, tail_len]; omega)
  generalize (bs ++ tail (pl.sum bs)).length = L at *
  clear happ kp hfin
  go_wp2
  go_ret
  exact HF.out

end Go.Proofs.YtmehneicdklfeaaGreat.ref
