/- frame.first: the frame that bytes begin with. What a list of frames is: plain lists. -/
import Derived.Test.YteekcbbdbciddaaGreatDoorFrame

namespace Go.Proofs.YteekcbbdbciddaaGreatDoor.frm
open Go.RowKit Go.Proofs.YteekcbbdbciddaaGreatDoor.sum Go.Proofs.YteekcbbdbciddaaGreatDoor.kept Go.Proofs.YteekcbbdbciddaaGreatDoor.app Go.Proofs.YteekcbbdbciddaaGreatDoor.writer Go.Proofs.YteekcbbdbciddaaGreatDoor.clone Go.Proofs.YteekcbbdbciddaaGreatDoor.known Go.Proofs.YteekcbbdbciddaaGreatDoor.fl Go.Proofs.YteekcbbdbciddaaGreatDoor.seal Go.Proofs.YteekcbbdbciddaaGreatDoor.unseal
set_option linter.unusedVariables false

/-- the number of four bytes -/
def num4 (bs : List UInt8) : Nat := num3 bs + 16777216 * (bs.getD 3 0).toNat

theorem or4 (p q r s : Nat) (hp : p < 256) (hq : q < 256) (hr : r < 256) (hs : s < 256) : bits .or .u32 (bits .or .u32 (bits .or .u32 (p : Int) ((q : Int) * 256)) ((r : Int) * 65536)) ((s : Int) * 16777216) = ((p + 256 * q + 65536 * r + 16777216 * s : Nat) : Int) := by
  rw [or3 p q r hp hq hr, u32_or _ _ (by omega) (by omega) (by omega) (by omega), show (((p + 256 * q + 65536 * r : Nat) : Int)).toNat = p + 256 * q + 65536 * r by omega, show ((s : Int) * 16777216).toNat = s * 16777216 by omega, Nat.or_comm, nat_join 24 (s * 16777216) (p + 256 * q + 65536 * r) (by omega) (by omega)]
  congr 1; omega

/-- what a whole frame has, if one stands at the beginning -/
def firstP (bs : List UInt8) : Option (List UInt8) :=
  if 4 ≤ bs.length ∧ num4 bs ≤ 4194304 ∧ num4 bs + 10 ≤ bs.length ∧ pl.sum (((bs.drop 4).take (num4 bs + 6)).take (num4 bs)) = said (((bs.drop 4).take (num4 bs + 6)).drop (num4 bs))
  then some (((bs.drop 4).take (num4 bs + 6)).take (num4 bs)) else none

def FirstPost (w : World) (x : Option (List UInt8)) (e : Ending) (w' : World) : Prop :=
  Kp No w w' ∧ match x with
    | none => e = .returned (.tuple #[.slice none 0 0, .bool false])
    | some xs => ∃ v', e = .returned (.tuple #[v', .bool true]) ∧ w'.ownsRow w.heap.size 5 1 v' xs.length (xs.map B)

set_option maxRecDepth 100000 in
set_option maxHeartbeats 2000000 in
theorem first_any (w : World) (v : Value) (bs : List UInt8) (h : Bs w v bs) :
    Calls Tryz.prog 94 #[v] w (FirstPost w (firstP bs)) := by
  have H := Hid_mk h
  obtain ⟨a, cap, rfl, hlc, hm, hc⟩ := h
  unfold maxLen at hm
  by_cases h4 : 4 ≤ bs.length
  · obtain ⟨b, o, rfl, hcell⟩ := hc (by intro e; subst e; simp at h4)
    have c0 : w.cell? ⟨b, o, none⟩ = some (.int .u8 ((bs.getD 0 0).toNat : Int)) := hcell 0 (by omega)
    have c1 : w.cell? ⟨b, o + 1, none⟩ = some (.int .u8 ((bs.getD 1 0).toNat : Int)) := hcell 1 (by omega)
    have c2 : w.cell? ⟨b, o + 2, none⟩ = some (.int .u8 ((bs.getD 2 0).toNat : Int)) := hcell 2 (by omega)
    have c3 : w.cell? ⟨b, o + 3, none⟩ = some (.int .u8 ((bs.getD 3 0).toNat : Int)) := hcell 3 (by omega)
    have l0 : (0 : Int) < (bs.length : Int) := by omega
    have l1 : (1 : Int) < (bs.length : Int) := by omega
    have l2 : (2 : Int) < (bs.length : Int) := by omega
    have l3 : (3 : Int) < (bs.length : Int) := by omega
    have l4 : ¬ (bs.length : Int) < 4 := by omega
    obtain ⟨n, hn⟩ : ∃ n, num4 bs = n := ⟨_, rfl⟩
    have hn4 := hn
    unfold num4 num3 at hn4
    have x0 : (bs.getD 0 0).toNat < 256 := UInt8.toNat_lt _
    have x1 : (bs.getD 1 0).toNat < 256 := UInt8.toNat_lt _
    have x2 : (bs.getD 2 0).toNat < 256 := UInt8.toNat_lt _
    have x3 : (bs.getD 3 0).toNat < 256 := UInt8.toNat_lt _
    generalize (bs.getD 0 0).toNat = p at *
    generalize (bs.getD 1 0).toNat = q at *
    generalize (bs.getD 2 0).toNat = r at *
    generalize (bs.getD 3 0).toNat = s at *
    have ho := or4 p q r s x0 x1 x2 x3
    rw [hn4] at ho
    have HO := Hid_mk ho
    have HN := Hid_mk hn
    have hnb : n < 4294967296 := by omega
    clear hcell hc ho hn hn4
    by_cases hbig : n ≤ 4194304
    · have hbigi : ¬ (4194304 : Int) < (n : Int) := by omega
      by_cases hlen : n + 10 ≤ bs.length
      · have hx1 := bs_take (bs_drop H.out 4 h4 (some ⟨b, o + 4, none⟩) (fun _ => rfl)) (n + 6) (by omega)
        obtain ⟨xs, hxs⟩ : ∃ xs, (bs.drop 4).take (n + 6) = xs := ⟨_, rfl⟩
        have hxl : xs.length = n + 6 := by rw [← hxs, List.length_take, List.length_drop]; omega
        have hf : firstP bs = if pl.sum (xs.take n) = said (xs.drop n) then some (xs.take n) else none := by
          unfold firstP
          rw [HN.out, hxs]
          by_cases hs : pl.sum (xs.take n) = said (xs.drop n)
          · rw [if_pos ⟨h4, hbig, hlen, hs⟩, if_pos hs]
          · rw [if_neg (fun e => hs e.2.2.2), if_neg hs]
        rw [hxs] at hx1
        have hun := fun W (hk : Kp No w W) => unseal_any W _ xs (bs_no hx1 hk) (by omega) (by omega)
        rw [hxl, show n + 6 - 6 = n by omega] at hun
        have hli : ¬ (bs.length : Int) < (n : Int) + 10 := by omega
        rw [show n + 6 = 4 + n + 2 by omega] at hun
        have HUn := Hid_mk hun
        have HXl := Hid_mk hxl
        have hz1 : (4 : Int) ≤ (cap : Int) := by omega
        have hz2 : (n : Int) + 10 ≤ (cap : Int) := by omega
        have hz3 : ¬ 4 = cap := by omega
        have hz4 : ¬ cap = 4 := by omega
        clear hxs hx1 hun hxl
        by_cases hs : pl.sum (xs.take n) = said (xs.drop n)
        · rw [if_pos hs] at hf
          simp only [if_pos hs] at HUn
          rw [hf]
          have htl : (xs.take n).length = n := by rw [List.length_take, HXl.out]; omega
          clear hs hf
          go_enter Tryz.func94, Tryz.ntmps94
          go_wp2
          go_quiet (fail)
          rw [HO.out]
          go_wp2_with fail
          with_reducible refine (HUn.out _ ((Kp.refl No w).drewN _)).mono ?_
          rintro e w2 ⟨hk2, v2, rfl, ho2⟩
          have hfin : FirstPost w (some (xs.take n)) (.returned (.tuple #[v2, .bool true])) w2 := ⟨((Kp.refl No w).drewN _).trans' hk2, v2, rfl, ho2⟩
          have HF := Hid_mk hfin
          clear hk2 ho2 hfin
          go_wp2
          go_ret2
          exact HF.out
        · rw [if_neg hs] at hf
          simp only [if_neg hs] at HUn
          rw [hf]
          clear hs hf
          go_enter Tryz.func94, Tryz.ntmps94
          go_wp2
          go_quiet (fail)
          rw [HO.out]
          go_wp2_with fail
          with_reducible refine (HUn.out _ ((Kp.refl No w).drewN _)).mono ?_
          rintro e w2 ⟨hk2, rfl⟩
          have HF := Hid_mk (((Kp.refl No w).drewN nq).trans' hk2)
          clear hk2
          go_wp2
          go_ret2
          exact ⟨HF.out, rfl⟩
      · have hf : firstP bs = none := by unfold firstP; rw [if_neg (by rw [HN.out]; omega)]
        rw [hf]
        have hli : (bs.length : Int) < (n : Int) + 10 := by omega
        go_enter Tryz.func94, Tryz.ntmps94
        go_wp2
        go_quiet (fail)
        rw [HO.out]
        go_wp2
        go_ret2
        exact ⟨(Kp.refl No w).drewN _, rfl⟩
    · have hbigi : (4194304 : Int) < (n : Int) := by omega
      have hf : FirstPost w (firstP bs) = FirstPost w none := by unfold firstP; rw [if_neg (by rw [HN.out]; omega)]
      rw [hf]
      go_enter Tryz.func94, Tryz.ntmps94
      go_wp2
      go_quiet (fail)
      rw [HO.out]
      go_wp2
      go_ret2
      exact ⟨(Kp.refl No w).drewN _, rfl⟩
  · have hf : firstP bs = none := if_neg (by omega)
    rw [hf]
    have l4 : (bs.length : Int) < 4 := by omega
    generalize bs.length = len at *
    clear hc
    go_enter Tryz.func94, Tryz.ntmps94
    go_wp2
    go_ret2
    exact ⟨Kp.refl _ _, rfl⟩

end Go.Proofs.YteekcbbdbciddaaGreatDoor.frm

namespace Go.Proofs.YteekcbbdbciddaaGreatDoor.frm
open Go.RowKit Go.Proofs.YteekcbbdbciddaaGreatDoor.sum Go.Proofs.YteekcbbdbciddaaGreatDoor.kept Go.Proofs.YteekcbbdbciddaaGreatDoor.fl Go.Proofs.YteekcbbdbciddaaGreatDoor.seal Go.Proofs.YteekcbbdbciddaaGreatDoor.unseal Go.Proofs.YteekcbbdbciddaaGreatDoor.turnedPlain
set_option linter.unusedVariables false

theorem firstP_len {bs xs : List UInt8} (h : firstP bs = some xs) : xs.length + 10 ≤ bs.length ∧ xs.length = num4 bs ∧ xs.length ≤ 4194304 := by
  unfold firstP at h
  split at h
  · rename_i hc
    obtain ⟨h1, h2, h3, -⟩ := hc
    injection h with h
    subst h
    simp only [List.length_take, List.length_drop]
    omega
  · cases h

/-- the frames that are whole from the left, and where they end -/
def listP (bs : List UInt8) : List (List UInt8) × Nat :=
  match h : firstP bs with
  | none => ([], 0)
  | some xs => (xs :: (listP (bs.drop (xs.length + 10))).1, xs.length + 10 + (listP (bs.drop (xs.length + 10))).2)
termination_by bs.length
decreasing_by all_goals (have := (firstP_len h).1; rw [List.length_drop]; omega)

theorem listP_none {bs : List UInt8} (h : firstP bs = none) : listP bs = ([], 0) := by
  rw [listP]
  split
  · rfl
  · rename_i x e; rw [h] at e; cases e
theorem listP_some {bs xs : List UInt8} (h : firstP bs = some xs) : listP bs = (xs :: (listP (bs.drop (xs.length + 10))).1, xs.length + 10 + (listP (bs.drop (xs.length + 10))).2) := by
  rw [listP]
  split
  · rename_i e; rw [h] at e; cases e
  · rename_i x e
    rw [h] at e
    injection e with e
    subst e
    rfl

/-- A frame at the beginning of bytes. -/
theorem num4_len4 (n : Nat) (hn : n < 4294967296) (t : List UInt8) : num4 (len4 n ++ t) = n := by
  unfold num4 num3 len4
  simp only [List.cons_append, List.nil_append, List.getD_cons_zero, List.getD_cons_succ, u8_toNat]
  omega
theorem firstP_framed {bs : List UInt8} (h : bs.length ≤ 4194304) (t : List UInt8) : firstP (framed bs ++ t) = some bs := by
  have so := sealed_ok bs
  have e1 : (framed bs ++ t).drop 4 = sealed bs ++ t := by
    rw [framed_some h, List.append_assoc, List.drop_append_of_le_length (by rw [len4_len]; omega)]
    simp [len4]
  have e2 : (sealed bs ++ t).take (bs.length + 6) = sealed bs := by
    rw [List.take_append_of_le_length (by rw [so.1]; omega), List.take_of_length_le (by rw [so.1]; omega)]
  have e3 : num4 (framed bs ++ t) = bs.length := by
    rw [framed_some h, List.append_assoc]
    exact num4_len4 _ (by omega) _
  unfold firstP
  rw [e3, e1, e2, so.2.1, so.2.2]
  exact if_pos ⟨by rw [List.length_append, framed_len h]; omega, h, by rw [List.length_append, framed_len h]; omega, rfl⟩
theorem listP_framed {bs : List UInt8} (h : bs.length ≤ 4194304) (t : List UInt8) : listP (framed bs ++ t) = (bs :: (listP t).1, bs.length + 10 + (listP t).2) := by
  rw [listP_some (firstP_framed h t)]
  have e : (framed bs ++ t).drop (bs.length + 10) = t := by
    rw [List.drop_append, List.drop_of_length_le (by rw [framed_len h]; omega), framed_len h]
    simp
  rw [e]
theorem firstP_short {bs : List UInt8} (h : bs.length < 10) : firstP bs = none := by
  unfold firstP
  rw [if_neg (by omega)]

/-- frames one behind the other -/
def allF (l : List (List UInt8)) : List UInt8 := (l.map framed).flatten
theorem allF_cons (b : List UInt8) (l : List (List UInt8)) : allF (b :: l) = framed b ++ allF l := rfl
theorem allF_snoc (l : List (List UInt8)) (b : List UInt8) : allF (l ++ [b]) = allF l ++ framed b := by simp [allF]
theorem listP_all (l : List (List UInt8)) (h : ∀ b ∈ l, b.length ≤ 4194304) (t : List UInt8) : listP (allF l ++ t) = (l ++ (listP t).1, (allF l).length + (listP t).2) := by
  induction l with
  | nil => simp [allF]
  | cons b l ih =>
    rw [allF_cons, List.append_assoc, listP_framed (h b (by simp)), ih fun c hc => h c (by simp [hc])]
    simp only [List.cons_append, List.length_append, framed_len (h b (by simp))]
    congr 1
    omega
theorem listP_nil : listP [] = ([], 0) := listP_none (firstP_short (by simp))

/-- at a place, with these before it -/
def At (bs : List UInt8) (l : List (List UInt8)) (k : Nat) : Prop := k ≤ bs.length ∧ listP bs = (l ++ (listP (bs.drop k)).1, k + (listP (bs.drop k)).2)
theorem At.start (bs : List UInt8) : At bs [] 0 := ⟨Nat.zero_le _, by simp⟩
theorem At.next {bs xs : List UInt8} {l : List (List UInt8)} {k : Nat} (h : At bs l k) (hf : firstP (bs.drop k) = some xs) : At bs (l ++ [xs]) (k + (xs.length + 10)) := by
  have hl := (firstP_len hf).1
  rw [List.length_drop] at hl
  have h1 := h.1
  refine ⟨by omega, ?_⟩
  rw [h.2, listP_some hf, List.drop_drop]
  simp only [List.append_assoc, List.singleton_append]
  congr 1
  omega
theorem At.done {bs : List UInt8} {l : List (List UInt8)} {k : Nat} (h : At bs l k) (hf : firstP (bs.drop k) = none) : listP bs = (l, k) := by
  rw [h.2, listP_none hf]; simp

end Go.Proofs.YteekcbbdbciddaaGreatDoor.frm
