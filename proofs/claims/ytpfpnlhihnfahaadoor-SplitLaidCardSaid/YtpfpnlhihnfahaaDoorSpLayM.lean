/- The Splitters' bytes: the project's Lay, the reference's Lay. The project's Read: a splitter of its bytes. PackCut: the law's walk. PackBack: the law's walk. The reference's Reader: the same answers. -/
import Derived.Test.YtpfpnlhihnfahaaDoorSpMemM
import Derived.Test.YtpfpnlhihnfahaaDoorParasM
import Derived.Test.YtpfpnlhihnfahaaDoorRefNextM
import Derived.Test.YtpfpnlhihnfahaaDoorFloorM
import Derived.Test.YtpfpnlhihnfahaaDoorTurnedPlainM
import Derived.Deep.RegionHeld3

namespace Go.Proofs.YtpfpnlhihnfahaaDoor.spl
open Go.RowKit Go.Maps Go.Proofs.YtpfpnlhihnfahaaDoor.sum Go.Proofs.YtpfpnlhihnfahaaDoor.kept Go.Proofs.YtpfpnlhihnfahaaDoor.app Go.Proofs.YtpfpnlhihnfahaaDoor.writer Go.Proofs.YtpfpnlhihnfahaaDoor.clone Go.Proofs.YtpfpnlhihnfahaaDoor.known Go.Proofs.YtpfpnlhihnfahaaDoor.unseal Go.Proofs.YtpfpnlhihnfahaaDoor.snp
set_option linter.unusedVariables false

def flagN (s : SpS) : Nat := (if s.over = true then 1 else 0) + (if s.waits = true then 2 else 0)
def textS (l : List UInt8) : List UInt8 := num l.length ++ l
/-- a splitter's bytes -/
def laidS (s : SpS) : List UInt8 := textS s.held ++ [(flagN s).toUInt8] ++ textS s.rest
theorem flag_eq (s : SpS) {a b : Bool} (h1 : s.over = a) (h2 : s.waits = b) : (flagN s : Int) = (if a = true then 1 else 0) + (if b = true then 2 else 0) := by
  unfold flagN; rw [h1, h2]; cases a <;> cases b <;> rfl
theorem flagN_le (s : SpS) : flagN s ≤ 3 := by unfold flagN; split <;> split <;> omega
theorem tx_text (l : List UInt8) : num (tx l).size ++ (tx l).data.toList = textS l := by rw [tx_size]; simp [tx, textS]
theorem bs_lit1 (w : World) (N : Int) (x : UInt8) (h : (x.toNat : Int) = N) : Bs (w.alloc (.cells #[.int .u8 N] 5)) (.slice (some ⟨w.heap.size, 0, none⟩) 1 1) [x] := h ▸ bs_one w x
theorem textS_len (l : List UInt8) (h : l.length ≤ 140737488355328) : (textS l).length ≤ l.length + 10 := by
  unfold textS
  rw [List.length_append]
  have := num_len l.length 10 (by omega) (by omega)
  omega

/-- a Writer beside a splitter -/
theorem wr_beside {base p m : Nat} {ρ : Nat → Bool} {s : SpS} {w w1 : World} {bw pw : Nat} {v : Value} {cs : List UInt8} {e : Ending} (h : PSp w base p ρ m s) (hp : ρ pw = false) (hv : ∀ g, v.ownBlock = some g → ρ g = false) (hw : WrPost bw pw v cs w e w1) :
    e = .returned (.tuple #[]) ∧ PSp w1 base p ρ m s ∧ ∃ v1, WrAt bw pw v cs w v1 w1 ∧ ∀ g, v1.ownBlock = some g → ρ g = false := by
  obtain ⟨he, v1, hat⟩ := hw
  refine ⟨he, h.kept hat.2.1 fun k hk e2 => ?_, v1, hat, fun g hg => ?_⟩
  · rcases e2 with rfl | e2
    · rw [hp] at hk; cases hk
    · rw [hv k e2.symm] at hk; cases hk
  · rcases hat.2.2 with e2 | e2
    · exact hv g (e2 ▸ hg)
    · cases hρ : ρ g with
      | false => rfl
      | true => have := (h.low g hρ).2; have := e2 g hg; omega

set_option maxRecDepth 100000 in
set_option maxHeartbeats 4000000 in
theorem splay_any (w : World) (base p : Nat) (ρ : Nat → Bool) (m : Nat) (s : SpS) (bw pw : Nat) (v : Value) (bs : List UInt8) (h : PSp w base p ρ m s) (hw : Wr bw w pw v bs) (hp : ρ pw = false) (hv : ∀ g, v.ownBlock = some g → ρ g = false)
    (hl : bs.length + s.held.length + s.rest.length + 40 < 140737488355328) :
    Calls Tryd.prog 17 #[.pointer (some ⟨p, 0, none⟩), .pointer (some ⟨pw, 0, none⟩)] w (WrPost bw pw v (bs ++ laidS s) w) := by
  have ht1 := textS_len s.held (by omega)
  have H1 := Hid_mk (show Calls Tryd.prog 36 #[.pointer (some ⟨pw, 0, none⟩), .string (tx s.held)] w (WrPost bw pw v (bs ++ textS s.held) w) by
    rw [← tx_text]; exact text_any bw pw w v bs (tx s.held) hw (by rw [tx_size]; omega))
  have HB := Hid_mk fun (W : World) (v1 : Value) (N : Int) (hN : N = (flagN s : Int)) (hw1 : Wr bw W pw v1 (bs ++ textS s.held)) => (show Calls Tryd.prog 37 #[.pointer (some ⟨pw, 0, none⟩), .int .u8 N] W (WrPost bw pw v1 (bs ++ textS s.held ++ [(flagN s).toUInt8]) W) by
    rw [hN]; exact byte_nat bw pw W v1 _ (flagN s) (by have := flagN_le s; omega) hw1 (by rw [List.length_append]; omega))
  have H2 := Hid_mk fun (W : World) (v1 : Value) (hw1 : Wr bw W pw v1 (bs ++ textS s.held ++ [(flagN s).toUInt8])) => (show Calls Tryd.prog 36 #[.pointer (some ⟨pw, 0, none⟩), .string (tx s.rest)] W (WrPost bw pw v1 (bs ++ textS s.held ++ [(flagN s).toUInt8] ++ textS s.rest) W) by
    rw [← tx_text s.rest]; exact text_any bw pw W v1 _ (tx s.rest) hw1 (by rw [tx_size]; simp only [List.length_append, List.length_singleton]; omega))
  have e9 : bs ++ laidS s = bs ++ textS s.held ++ [(flagN s).toUInt8] ++ textS s.rest := by unfold laidS; simp
  rw [e9]
  have HP := Hid_mk hp
  have HV := Hid_mk hv
  have HS := Hid_mk h
  obtain ⟨vr, va, hh, -⟩ := h
  have c1 := hh.c1
  have c2 := hh.c2
  have c3 := hh.c3
  have hcv1 := conv_tx hh.held.rd
  obtain ⟨a1, d1, rfl, -⟩ := hh.held.any
  clear hh hw hp hv hl ht1 e9
  cases ho : s.over <;> cases hwt : s.waits
  all_goals
    have hfl := flag_eq s ho hwt
    rw [ho] at c2
    rw [hwt] at c3
    clear ho hwt
    have HFl := Hid_mk hfl
    clear hfl
    go_enter Tryd.func17, Tryd.ntmps17
    go_wp2_with fail
    with_reducible refine H1.out.mono ?_
    intro e w1 hpost
    obtain ⟨he, hs1, v1, hat1, hv1⟩ := wr_beside HS.out HP.out HV.out hpost
    subst he
    have HS1 := Hid_mk hs1
    have HA1 := Hid_mk hat1
    have HW1 : Hid (Wr bw w1 pw v1 _) := Hid_mk hat1.1
    have HV1 := Hid_mk hv1
    clear hpost hs1 hat1 hv1 c1 c2 c3 hcv1 H1
    go_wp2_with fail
    with_reducible refine (HB.out w1 v1 _ (by rw [HFl.out]; simp) HW1.out).mono ?_
    intro e w2 hpost
    obtain ⟨he, hs2, v2, hat2, hv2⟩ := wr_beside HS1.out HP.out HV1.out hpost
    subst he
    have HA2 := Hid_mk hat2
    have HW2 : Hid (Wr bw w2 pw v2 _) := Hid_mk hat2.1
    have HS2 := Hid_mk hs2
    obtain ⟨vr2, va2, hh, -⟩ := hs2
    have c4 := hh.c4
    have hcv2 := conv_tx hh.rest.rd
    obtain ⟨a2, d2, rfl, -⟩ := hh.rest.any
    clear hpost hat2 hv2 hh HB
    go_wp2_with fail
    with_reducible refine (H2.out w2 v2 HW2.out).mono ?_
    intro e w3 hpost
    have HF := Hid_mk (wr_join HA1.out (wr_join HA2.out hpost))
    obtain ⟨he, -⟩ := hpost
    subst he
    clear H2
    go_wp2
    go_end0
    exact HF.out

end Go.Proofs.YtpfpnlhihnfahaaDoor.spl

namespace Go.Proofs.YtpfpnlhihnfahaaDoor.spl
open Go.RowKit Go.Maps Go.Proofs.YtpfpnlhihnfahaaDoor.sum Go.Proofs.YtpfpnlhihnfahaaDoor.kept Go.Proofs.YtpfpnlhihnfahaaDoor.app Go.Proofs.YtpfpnlhihnfahaaDoor.writer Go.Proofs.YtpfpnlhihnfahaaDoor.clone Go.Proofs.YtpfpnlhihnfahaaDoor.known Go.Proofs.YtpfpnlhihnfahaaDoor.unseal Go.Proofs.YtpfpnlhihnfahaaDoor.snp Go.Proofs.YtpfpnlhihnfahaaDoor.reader Go.Proofs.YtpfpnlhihnfahaaDoor.onePlain
set_option linter.unusedVariables false

set_option maxRecDepth 100000 in
set_option maxHeartbeats 4000000 in
theorem empt_any (w : World) (v : Value) (bs : List UInt8) (at_ bad : Nat) (hb : Bs w v bs) (hs : v = .slice none 0 0 ∨ ∃ b o n c, v = .slice (some ⟨b, o, none⟩) n c ∧ b < w.heap.size) (hle : at_ ≤ bs.length) (hsh : bs.length ≤ 140737488355328) :
    Calls Tryd.prog 42 #[.agg #[v, .int .i64 (at_ : Int), .int .i64 (bad : Int)]] w fun e w' => e = .returned (.bool (emptS bs at_ bad)) ∧ Kp No w w' := by
  have hrd : Rd (w.alloc (.cells #[v, .int .i64 (at_ : Int), .int .i64 (bad : Int)] 79)) w.heap.size v bs at_ bad :=
    ⟨by simp, by simp, by simp, fun o => by simp, bs_no hb ((Kp.refl No w).alloc _), by
      rcases hs with h | ⟨b, o, n, c, h, hlt⟩
      · exact .inl h
      · exact .inr ⟨b, o, n, c, h, by omega⟩, hle, hsh⟩
  have hby := reader.byte_any _ _ v bs at_ bad 0 hrd
  obtain ⟨A, hA⟩ : ∃ A, rByte bs at_ bad 0 = A := ⟨_, rfl⟩
  have hE : emptS bs at_ bad = decide (rEnd bs A.2.1 A.2.2 = 0 ∨ rEnd bs A.2.1 A.2.2 = 11) := by unfold emptS; rw [hA]
  rw [hE]
  rw [hA] at hby
  obtain ⟨x, a2, b2⟩ := A
  simp only at hby ⊢
  obtain ⟨E, hEE⟩ : ∃ E, rEnd bs a2 b2 = E := ⟨_, rfl⟩
  rw [hEE]
  have HBy := Hid_mk (show Calls Tryd.prog 41 #[.pointer (some ⟨w.heap.size, 0, none⟩), .int .u8 0] _ _ from hby)
  have HE := Hid_mk hEE
  have HO := Hid_mk hb
  obtain ⟨av, cv, rfl, -⟩ := id hb
  clear hrd hby hA hE hEE hs hb
  go_enter Tryd.func42, Tryd.ntmps42
  go_wp2_with fail
  with_reducible refine HBy.out.mono ?_
  intro e w2 hpost
  obtain ⟨he, hrd2, hk2⟩ : e = .returned (.int .u8 (x : Int)) ∧ Rd w2 w.heap.size _ bs a2 b2 ∧ Kp (fun k => k = w.heap.size) _ w2 := hpost
  subst he
  have hen := reader.end_any w2 w.heap.size _ bs a2 b2 hrd2
  rw [HE.out] at hen
  have HEn := Hid_mk hen
  have HK2 : Hid (Kp No w w2) := Hid_mk ((((Kp.refl No w).alloc _)).trans hk2 fun i hi e => by omega)
  clear hrd2 hk2 hen HBy
  go_wp2_with fail
  with_reducible refine HEn.out.mono ?_
  rintro e w3 ⟨rfl, n, rfl⟩
  clear HEn HE
  by_cases h0 : E = 0
  · subst h0
    go_wp2
    go_ret
    exact ⟨by simp, HK2.out.trans' ((Kp.refl No w2).drewN n)⟩
  · have h0i : ¬ (E : Int) = 0 := by omega
    by_cases h11 : E = 11
    · subst h11
      go_wp2
      go_ret
      exact ⟨by simp, HK2.out.trans' ((Kp.refl No w2).drewN n)⟩
    · have h11i : ¬ (E : Int) = 11 := by omega
      have hd : decide (E = 0 ∨ E = 11) = false := by simp [h0, h11]
      have HD := Hid_mk hd
      clear hd
      go_wp2
      go_ret
      exact ⟨by rw [HD.out]; simp [h0, h11, h0i, h11i], HK2.out.trans' ((Kp.refl No w2).drewN n)⟩

/-- bits of a number below 4 -/
theorem bits4 (k : Nat) (hk : k ≤ 3) : (bits .and .u8 (k : Int) 1 = ((k % 2 : Nat) : Int)) ∧ (bits .and .u8 (k : Int) 2 = ((k / 2 * 2 : Nat) : Int)) := by
  have : k = 0 ∨ k = 1 ∨ k = 2 ∨ k = 3 := by omega
  rcases this with rfl | rfl | rfl | rfl <;> exact ⟨by decide, by decide⟩
theorem rByte_le (bs : List UInt8) (at_ bad m : Nat) : (rByte bs at_ bad m).1 ≤ m := by
  unfold rByte
  split
  · exact Nat.zero_le _
  · split
    · exact Nat.zero_le _
    · split
      · exact Nat.zero_le _
      · simp only; omega
theorem rText_most (bs : List UInt8) (at_ bad m : Nat) : (rText bs at_ bad m).1.length ≤ m := by
  unfold rText
  split
  · exact Nat.zero_le _
  · split
    · exact Nat.zero_le _
    · rename_i h1 h2
      simp only [List.length_take]
      have : (rNum bs at_ bad m).1 ≤ m := by
        unfold rNum
        split
        · exact Nat.zero_le _
        · split
          · exact Nat.zero_le _
          · split
            · exact Nat.zero_le _
            · simp only; omega
      omega

/-- a text's bytes, as a row of the call's own -/
theorem conv_wi (w : World) (l : List UInt8) (hs : l.length ≤ maxLen) : ∃ c w', (convert 9 30 (.string (tx l))).run Tryd.prog w = .ok (.slice (some ⟨w.heap.size, 0, none⟩) l.length c) w' ∧ Wi w' w.heap.size (.slice (some ⟨w.heap.size, 0, none⟩) l.length c) l ∧ Kp No w w' := by
  have hsz := tx_size l
  have hr := run_bytes_of_string (P := Tryd.prog) w 9 30 5 (tx l) Tryd.underlying9 Tryd.underlying30 Tryd.underlying5
  obtain ⟨c, hc⟩ : ∃ c, grownCap w (tx l).size 0 5 = c := ⟨_, rfl⟩
  have hge := grownCap_ge w (tx l).size 0 5
  have hcm := grownCap_le_maxLen w (tx l).size 0 5 (by rw [hsz]; exact hs)
  rw [hc] at hr hge hcm
  rw [hsz] at hr hge
  have hbz : (bytesRow (tx l) c).size = c := by
    unfold bytesRow
    simp only [Array.size_append, Array.size_map, Array.size_replicate]
    have : (tx l).data.size = l.length := by simp [tx]
    rw [this, hsz]
    omega
  refine ⟨c, _, hr, .inr ⟨w.heap.size, 0, c, rfl, Nat.le_refl _, by simp, hge, hcm, fun k hk => ?_, fun k hk => ?_⟩, ((Kp.refl No w).drew).alloc _⟩
  · have hk' : k < (tx l).data.size := by simpa [tx] using hk
    rw [show w.heap.size = w.drew.heap.size from rfl, World.cell?_alloc_mark]
    simp only [Nat.zero_add, if_pos trivial]
    rw [bytesRow_at (tx l) _ k hk']
    unfold B
    simp [tx, List.getD, hk]
  · constructor
    · rw [show w.heap.size = w.drew.heap.size from rfl, World.cell?_alloc_mark]
      simp only [Nat.zero_add, if_pos trivial]
      rw [Array.getElem?_eq_getElem (by rw [hbz]; exact hk)]
      rfl
    · have hg : (w.drew.alloc (.cells (bytesRow (tx l) c) 5 ((bytesRow (tx l) c).size, (bytesRow (tx l) c).size + 1))).heap[w.heap.size]? = _ := heap_alloc_new w.drew _
      simp only [World.frozen?, hg]
      rw [hbz]
      simp
      omega

theorem SpAt.lay4 {w : World} {base p m : Nat} {s : SpS} {vr va v : Value} {bs : List UInt8} (h : SpAt w base p m s vr va) (hw : Wi w base v bs) (h1 : v.ownBlock ≠ some p) (h2 : ∀ g, vr.ownBlock = some g → v.ownBlock ≠ some g) : SpAt (w.setCell ⟨p, 4, none⟩ v) base p m { s with rest := bs } vr v :=
  ⟨cell_offS h.c0 (by omega), cell_offS h.c1 (by omega), cell_offS h.c2 (by omega), cell_offS h.c3 (by omega), World.cell?_setCell_same w _ _ h.c4, fun o => by rw [World.frozen?_setCell]; exact h.warm o, h.held.off h.ar _ _, hw.off h1 _ _, h.low, h.ar, h1, h2⟩
theorem Wi.base {w : World} {b1 b2 : Nat} {v : Value} {bs : List UInt8} (h : Wi w b1 v bs) (hb : b2 ≤ b1) : Wi w b2 v bs := by
  rcases h with h | ⟨g, o, cap, e, h4, h5⟩
  · exact .inl h
  · exact .inr ⟨g, o, cap, e, by omega, h5⟩
/-- what Read leaves -/
def SrPost (w : World) (pr : Nat) (v : Value) (bs : List UInt8) (m : Nat) (s : SpS) (a b : Nat) (e : Ending) (w' : World) : Prop :=
  ∃ p ρ, e = .returned (.pointer (some ⟨p, 0, none⟩)) ∧ PSp w' w.heap.size p ρ m s ∧ Rd w' pr v bs a b ∧ Kp (fun k => k = pr) w w'

set_option maxRecDepth 100000 in
set_option maxHeartbeats 8000000 in
theorem spread_any (w : World) (pr : Nat) (v : Value) (bs : List UInt8) (at_ bad m : Nat) (h : Rd w pr v bs at_ bad) (hv : ∀ g, v.ownBlock = some g → g < w.heap.size) (hm1 : 1 ≤ m) (hm2 : m ≤ 200) :
    Calls Tryd.prog 23 #[.pointer (some ⟨pr, 0, none⟩), .int .i64 (m : Int)] w (SrPost w pr v bs m (readS m bs at_ bad).1 (readS m bs at_ bad).2.1 (readS m bs at_ bad).2.2) := by
  obtain ⟨⟨x, a1, b1⟩, h1⟩ : ∃ A, rText bs at_ bad m = A := ⟨_, rfl⟩
  obtain ⟨⟨k, a2, b2⟩, h2⟩ : ∃ A, rByte bs a1 b1 3 = A := ⟨_, rfl⟩
  obtain ⟨⟨y, a3, b3⟩, h3⟩ : ∃ A, rText bs a2 b2 2048 = A := ⟨_, rfl⟩
  have hR := read_is h1 h2 h3
  obtain ⟨sR, hsR⟩ : ∃ sR, (if y = [] ∧ emptS bs a2 b2 = false then zeroS else ⟨x, decide (k % 2 = 1), decide (k / 2 = 1), y⟩) = sR := ⟨_, rfl⟩
  rw [hsR] at hR
  rw [hR]
  have HSR := Hid_mk hsR
  have hk3 : k ≤ 3 := by have := rByte_le bs a1 b1 3; rw [h2] at this; exact this
  have hxm : x.length ≤ m := by have := rText_most bs at_ bad m; rw [h1] at this; exact this
  have hym : y.length ≤ 2048 := by have := rText_most bs a2 b2 2048; rw [h3] at this; exact this
  have HN := Hid_mk (spnew_ok w m hm1 hm2)
  have H := Hid_mk h
  have HV := Hid_mk hv
  have hprlt : pr < w.heap.size := World.block_lt_of_cell? w _ h.c0
  have HT1 := Hid_mk fun W (hW : Kp No w W) => (show Calls Tryd.prog 40 #[.pointer (some ⟨pr, 0, none⟩), .int .i64 (m : Int)] W (RdPost W pr v bs (.string (tx x)) a1 b1) by
    have := reader.text_any W pr v bs at_ bad (m : Int) (by omega) (h.kept hW id fun _ _ _ _ _ => id)
    rw [Int.toNat_natCast, h1] at this
    exact this)
  have HB := Hid_mk fun W (hW : Rd W pr v bs a1 b1) => (show Calls Tryd.prog 41 #[.pointer (some ⟨pr, 0, none⟩), .int .u8 3] W (RdPost W pr v bs (.int .u8 (k : Int)) a2 b2) by
    have := reader.byte_any W pr v bs a1 b1 3 hW
    rw [h2] at this
    exact this)
  have HT2 := Hid_mk fun W (hW : Rd W pr v bs a2 b2) => (show Calls Tryd.prog 40 #[.pointer (some ⟨pr, 0, none⟩), .int .i64 2048] W (RdPost W pr v bs (.string (tx y)) a3 b3) by
    have := reader.text_any W pr v bs a2 b2 2048 (by omega) hW
    rw [show (2048 : Int).toNat = 2048 from rfl, h3] at this
    exact this)
  clear h1 h2 h3 hR h hv hsR
  go_enter Tryd.func23, Tryd.ntmps23
  go_wp2_with fail
  with_reducible refine HN.out.mono ?_
  rintro e w1 ⟨p, ρ, rfl, hs1, hk1⟩
  have HS1 := Hid_mk hs1
  have HK1 := Hid_mk hk1
  have hpr : ρ pr = false := by
    cases hρ : ρ pr with
    | false => rfl
    | true => have := (hs1.low pr hρ).1; omega
  have HPr := Hid_mk hpr
  clear hs1 hk1 hpr HN
  go_wp2_with fail
  with_reducible refine (HT1.out w1 HK1.out).mono ?_
  intro e w2 hpost
  obtain ⟨he, hrd2, hk2⟩ : e = .returned (.string (tx x)) ∧ Rd w2 pr v bs a1 b1 ∧ Kp (fun k => k = pr) w1 w2 := hpost
  subst he
  have HRd2 := Hid_mk hrd2
  have HS2 := Hid_mk (HS1.out.kept hk2 fun g hg e => by rw [e, HPr.out] at hg; cases hg)
  have HK2 := Hid_mk ((HK1.out.to (S := fun k => k = pr)).trans' hk2)
  clear hrd2 hk2 HT1 HS1 HK1
  go_wp2_with fail
  with_reducible refine (HB.out w2 HRd2.out).mono ?_
  intro e w3 hpost
  obtain ⟨he, hrd3, hk3'⟩ : e = .returned (.int .u8 (k : Int)) ∧ Rd w3 pr v bs a2 b2 ∧ Kp (fun k => k = pr) w2 w3 := hpost
  subst he
  have HRd3 := Hid_mk hrd3
  have HS3 := Hid_mk (HS2.out.kept hk3' fun g hg e => by rw [e, HPr.out] at hg; cases hg)
  have HK3 := Hid_mk (HK2.out.trans' hk3')
  have r0 := hrd3.c0
  have r1 := hrd3.c1
  have r2 := hrd3.c2
  have HShape := Hid_mk hrd3.shape
  have HRds := Hid_mk hrd3.reads
  have HLe := Hid_mk hrd3.le
  have HSh := Hid_mk hrd3.short
  obtain ⟨av, cv, hve, -⟩ := id hrd3.reads
  subst hve
  clear hrd3 hk3' HB HS2 HK2 HRd2
  obtain ⟨W3, hW3⟩ : ∃ W3, w3.alloc (.cells #[.slice av bs.length cv, .int .i64 (a2 : Int), .int .i64 (b2 : Int)] 79) = W3 := ⟨_, rfl⟩
  have HKa : Hid (Kp No w3 W3) := Hid_mk (by rw [← hW3]; exact (Kp.refl _ _).alloc _)
  have q0 : W3.cell? ⟨w3.heap.size, 0, none⟩ = some (.slice av bs.length cv) := by rw [← hW3]; simp
  have q1 : W3.cell? ⟨w3.heap.size, 1, none⟩ = some (.int .i64 (a2 : Int)) := by rw [← hW3]; simp
  have q2 : W3.cell? ⟨w3.heap.size, 2, none⟩ = some (.int .i64 (b2 : Int)) := by rw [← hW3]; simp
  have hp3 : pr < w3.heap.size := Nat.lt_of_lt_of_le hprlt HK3.out.size
  obtain ⟨q, hq⟩ : ∃ q, w3.heap.size = q := ⟨_, rfl⟩
  rw [hq] at q0 q1 q2 hp3
  have HQ := Hid_mk hq
  go_wp2_with fail
  try simp only [hW3, hq]
  clear hW3 hq r0 r1 r2
  with_reducible refine (HT2.out W3 (HRd3.out.kept HKa.out id fun _ _ _ _ _ => id)).mono ?_
  intro e w4 hpost
  obtain ⟨he, hrd4, hk4⟩ : e = .returned (.string (tx y)) ∧ Rd w4 pr _ bs a3 b3 ∧ Kp (fun k => k = pr) W3 w4 := hpost
  subst he
  have HRd4 := Hid_mk hrd4
  have HS4 := Hid_mk ((HS3.out.kept HKa.out fun _ _ => id).kept hk4 fun g hg e => by rw [e, HPr.out] at hg; cases hg)
  have HK4 := Hid_mk ((HK3.out.trans' HKa.out.to).trans' hk4)
  have hqp : ¬ q = pr := by omega
  have r0 := hk4.cell' q0 hqp
  have r1 := hk4.cell' q1 hqp
  have r2 := hk4.cell' q2 hqp
  have HEm := Hid_mk (empt_any w4 (.slice av bs.length cv) bs a2 b2 hrd4.reads (by
    rcases HShape.out with h | ⟨b, o, n, c, h, hne⟩
    · exact .inl h
    · refine .inr ⟨b, o, n, c, h, ?_⟩
      have := HV.out b (by rw [h]; rfl)
      have := HK4.out.size
      omega) HLe.out HSh.out)
  clear hrd4 hk4 q0 q1 q2 hqp HT2
  by_cases hy : y = []
  · subst hy
    have t1 : (tx []).toList = [] := by rw [ByteArray.toList_eq]; rfl
    have t2 : (tx []).toList.isEmpty = true := by rw [t1]; rfl
    cases hE : emptS bs a2 b2 with
    | false =>
      rw [hE] at HEm
      have HZ : Hid (zeroS = sR) := Hid_mk (by have := HSR.out; rw [hE, if_pos ⟨rfl, rfl⟩] at this; exact this)
      clear hE
      go_wp2_with fail
      with_reducible refine HEm.out.mono ?_
      rintro e w5 ⟨rfl, hk5⟩
      have HK5 := Hid_mk (HK4.out.trans' hk5.to)
      have HS5 := Hid_mk (HS4.out.kept hk5 fun _ _ => id)
      have HRd5 := Hid_mk (HRd4.out.kept hk5 id fun _ _ _ _ _ => id)
      clear hk5 HEm
      go_wp2
      go_ret
      exact ⟨p, ρ, rfl, by rw [← HZ.out]; exact HS5.out, HRd5.out, HK5.out⟩
    | true =>
      rw [hE] at HEm
      have HSe : Hid ((⟨x, decide (k % 2 = 1), decide (k / 2 = 1), []⟩ : SpS) = sR) := Hid_mk (by have := HSR.out; rw [hE, if_neg (by simp)] at this; exact this)
      clear hE
      go_wp2_with fail
      with_reducible refine HEm.out.mono ?_
      rintro e w5 ⟨rfl, hk5⟩
      have HK5 := Hid_mk (HK4.out.trans' hk5.to)
      have HS5 := Hid_mk (HS4.out.kept hk5 fun _ _ => id)
      have HRd5 := Hid_mk (HRd4.out.kept hk5 id fun _ _ _ _ _ => id)
      clear hk5 HEm
      obtain ⟨vr, va, hh, hρ⟩ := HS5.out
      obtain ⟨x6, W6, hr6, hw6, hk6⟩ := conv_wi w5 x (by unfold maxLen; omega)
      obtain ⟨x7, W7, hr7, hw7, hk7⟩ := conv_wi W6 [] (by unfold maxLen; simp)
      have hk57 := hk6.trans' hk7
      have hh7 := hh.no hk57
      have d1 := hh7.c1
      have d2 := hh7.c2
      have d3 := hh7.c3
      have d4 := hh7.c4
      have f1 := hh7.warm 1
      have f2 := hh7.warm 2
      have f3 := hh7.warm 3
      have f4 := hh7.warm 4
      have hb5 := hh.room
      have hp5 := hh.lt
      have hs6 : w5.heap.size < W6.heap.size := (hw6.lt w5.heap.size rfl).2
      have hA := ((hh.put1 hk57.to ((hw6.no hk7).base hb5) (.inr fun g e => by cases e; exact Nat.le_refl _)).lay4 ((((hw7.base (Nat.le_of_lt (Nat.lt_of_le_of_lt hb5 hs6))).kept ((Kp.refl (fun k => k = p) W7).setCell (p := ⟨p, 1, none⟩) (fun _ => rfl) _) (fun g e e2 => by cases e; have e3 : W6.heap.size = p := e2; omega)))) (by simp [Value.ownBlock]; omega) (fun g e e2 => by simp [Value.ownBlock] at e e2; omega))
      have hB := (hA.set2 (decide (k % 2 = 1))).set3 (decide (k / 2 = 1))
      have HB := Hid_mk hB
      have HKf : Hid (Kp (fun k => k = pr) w W7) := Hid_mk (HK5.out.trans' hk57.to)
      have HRf : Hid (Rd W7 pr (.slice av bs.length cv) bs a3 b3) := Hid_mk (HRd5.out.kept hk57 id fun _ _ _ _ _ => id)
      have hplow : w.heap.size ≤ p := hh.low
      have HPl := Hid_mk hplow
      clear hh hh7 hA hB hw6 hw7 hk6 hk7 hk57 hb5 hs6 hρ hplow
      have hk4c : k = 0 ∨ k = 1 ∨ k = 2 ∨ k = 3 := by omega
      have g1 : bits .and .u8 (0 : Int) 1 = 0 := by decide
      have g2 : bits .and .u8 (0 : Int) 2 = 0 := by decide
      have g3 : bits .and .u8 (1 : Int) 1 = 1 := by decide
      have g4 : bits .and .u8 (1 : Int) 2 = 0 := by decide
      have g5 : bits .and .u8 (2 : Int) 1 = 0 := by decide
      have g6 : bits .and .u8 (2 : Int) 2 = 2 := by decide
      have g7 : bits .and .u8 (3 : Int) 1 = 1 := by decide
      have g8 : bits .and .u8 (3 : Int) 2 = 2 := by decide
      rcases hk4c with rfl | rfl | rfl | rfl
      all_goals
        go_wp2
        go_ret
        refine ⟨p, _, rfl, ⟨_, _, by rw [← HSe.out]; exact HB.out, rfl⟩, ?_, ?_⟩
        · exact HRf.out.kept (S := fun k => k = p) ((((Kp.refl (fun k => k = p) _).setCell (p := ⟨p, 1, none⟩) (fun _ => rfl) _).setCell (p := ⟨p, 4, none⟩) (fun _ => rfl) _).setCell (p := ⟨p, 2, none⟩) (fun _ => rfl) _ |>.setCell (p := ⟨p, 3, none⟩) (fun _ => rfl) _) (by have := HPl.out; omega) (fun b o n c e e2 => by
            cases e
            have e3 : b = p := e2
            have h9 := HV.out b rfl
            have := HPl.out
            omega)
        · have hpl := HPl.out
          exact (((HKf.out.setCell (p := ⟨p, 1, none⟩) (fun h => by simp only at h; omega) _).setCell (p := ⟨p, 4, none⟩) (fun h => by simp only at h; omega) _).setCell (p := ⟨p, 2, none⟩) (fun h => by simp only at h; omega) _).setCell (p := ⟨p, 3, none⟩) (fun h => by simp only at h; omega) _
  · have e1 := (tx_cons y hy).1
    have e2 := (tx_cons y hy).2
    have HSe : Hid ((⟨x, decide (k % 2 = 1), decide (k / 2 = 1), y⟩ : SpS) = sR) := Hid_mk (by have := HSR.out; rw [if_neg (fun h => hy h.1)] at this; exact this)
    have HK5 := HK4
    have HS5 := HS4
    have HRd5 := HRd4
    obtain ⟨vr, va, hh, hρ⟩ := HS5.out
    obtain ⟨x6, W6, hr6, hw6, hk6⟩ := conv_wi w4 x (by unfold maxLen; omega)
    obtain ⟨x7, W7, hr7, hw7, hk7⟩ := conv_wi W6 y (by unfold maxLen; omega)
    have hk57 := hk6.trans' hk7
    have hh7 := hh.no hk57
    have d1 := hh7.c1
    have d2 := hh7.c2
    have d3 := hh7.c3
    have d4 := hh7.c4
    have f1 := hh7.warm 1
    have f2 := hh7.warm 2
    have f3 := hh7.warm 3
    have f4 := hh7.warm 4
    have hb5 := hh.room
    have hp5 := hh.lt
    have hs6 : w4.heap.size < W6.heap.size := (hw6.lt w4.heap.size rfl).2
    have hA := ((hh.put1 hk57.to ((hw6.no hk7).base hb5) (.inr fun g e => by cases e; exact Nat.le_refl _)).lay4 ((((hw7.base (Nat.le_of_lt (Nat.lt_of_le_of_lt hb5 hs6))).kept ((Kp.refl (fun k => k = p) W7).setCell (p := ⟨p, 1, none⟩) (fun _ => rfl) _) (fun g e e2 => by cases e; have e3 : W6.heap.size = p := e2; omega)))) (by simp [Value.ownBlock]; omega) (fun g e e2 => by simp [Value.ownBlock] at e e2; omega))
    have hB := (hA.set2 (decide (k % 2 = 1))).set3 (decide (k / 2 = 1))
    have HB := Hid_mk hB
    have HKf : Hid (Kp (fun k => k = pr) w W7) := Hid_mk (HK5.out.trans' hk57.to)
    have HRf : Hid (Rd W7 pr (.slice av bs.length cv) bs a3 b3) := Hid_mk (HRd5.out.kept hk57 id fun _ _ _ _ _ => id)
    have hplow : w.heap.size ≤ p := hh.low
    have HPl := Hid_mk hplow
    clear hh hh7 hA hB hw6 hw7 hk6 hk7 hk57 hb5 hs6 hρ hplow
    have hk4c : k = 0 ∨ k = 1 ∨ k = 2 ∨ k = 3 := by omega
    have g1 : bits .and .u8 (0 : Int) 1 = 0 := by decide
    have g2 : bits .and .u8 (0 : Int) 2 = 0 := by decide
    have g3 : bits .and .u8 (1 : Int) 1 = 1 := by decide
    have g4 : bits .and .u8 (1 : Int) 2 = 0 := by decide
    have g5 : bits .and .u8 (2 : Int) 1 = 0 := by decide
    have g6 : bits .and .u8 (2 : Int) 2 = 2 := by decide
    have g7 : bits .and .u8 (3 : Int) 1 = 1 := by decide
    have g8 : bits .and .u8 (3 : Int) 2 = 2 := by decide
    rcases hk4c with rfl | rfl | rfl | rfl
    all_goals
      go_wp2
      go_ret
      refine ⟨p, _, rfl, ⟨_, _, by rw [← HSe.out]; exact HB.out, rfl⟩, ?_, ?_⟩
      · exact HRf.out.kept (S := fun k => k = p) ((((Kp.refl (fun k => k = p) _).setCell (p := ⟨p, 1, none⟩) (fun _ => rfl) _).setCell (p := ⟨p, 4, none⟩) (fun _ => rfl) _).setCell (p := ⟨p, 2, none⟩) (fun _ => rfl) _ |>.setCell (p := ⟨p, 3, none⟩) (fun _ => rfl) _) (by have := HPl.out; omega) (fun b o n c e e2 => by
          cases e
          have e3 : b = p := e2
          have h9 := HV.out b rfl
          have := HPl.out
          omega)
      · have hpl := HPl.out
        exact (((HKf.out.setCell (p := ⟨p, 1, none⟩) (fun h => by simp only at h; omega) _).setCell (p := ⟨p, 4, none⟩) (fun h => by simp only at h; omega) _).setCell (p := ⟨p, 2, none⟩) (fun h => by simp only at h; omega) _).setCell (p := ⟨p, 3, none⟩) (fun h => by simp only at h; omega) _

set_option maxRecDepth 100000 in
set_option maxHeartbeats 4000000 in
/-- of a most that may not be there is nothing, and nothing is read -/
theorem spread_no (w : World) (pr : Nat) (i : Int) (h : i < 1 ∨ 200 < i) : Calls Tryd.prog 23 #[.pointer (some ⟨pr, 0, none⟩), .int .i64 i] w fun e w' => e = .returned (.pointer none) ∧ w' = w := by
  have HN := Hid_mk (spnew_no w i h)
  clear h
  go_enter Tryd.func23, Tryd.ntmps23
  go_wp2_with fail
  with_reducible refine HN.out.mono ?_
  rintro e w1 ⟨rfl, hw⟩
  rw [hw]
  clear hw w1 HN
  go_wp2
  go_ret
  exact ⟨rfl, rfl⟩

end Go.Proofs.YtpfpnlhihnfahaaDoor.spl

namespace Go.Proofs.YtpfpnlhihnfahaaDoor.cut
open Go.RowKit Go.Proofs.YtpfpnlhihnfahaaDoor.sum Go.Proofs.YtpfpnlhihnfahaaDoor.kept Go.Proofs.YtpfpnlhihnfahaaDoor.app Go.Proofs.YtpfpnlhihnfahaaDoor.writer Go.Proofs.YtpfpnlhihnfahaaDoor.clone Go.Proofs.YtpfpnlhihnfahaaDoor.known Go.Proofs.YtpfpnlhihnfahaaDoor.unseal Go.Proofs.YtpfpnlhihnfahaaDoor.number Go.Proofs.YtpfpnlhihnfahaaDoor.words Go.Proofs.YtpfpnlhihnfahaaDoor.turned Go.Proofs.YtpfpnlhihnfahaaDoor.laid Go.Proofs.YtpfpnlhihnfahaaDoor.back Go.Proofs.YtpfpnlhihnfahaaDoor.reader
set_option linter.unusedVariables false

/-- the first m of the bytes, k things read: all well, or it has ended too early -/
def CutSt (ls : List LayD) (m k at_ bad : Nat) : Prop :=
  (bad = 0 ∧ at_ = (layAll (ls.take k)).length ∧ at_ ≤ m) ∨ bad = 10

/-- where one stands before the next thing -/
theorem cut_step {ls : List LayD} {m k at_ : Nat} {d : LayD} (h : k < ls.length) (hd : ls[k] = d) (hst : CutSt ls m k at_ 0) :
    (∃ r, ((layAll ls).take m).drop at_ = layOne d ++ r ∧ CutSt ls m (k + 1) (at_ + (layOne d).length) 0) ∨ (∃ q, ((layAll ls).take m).drop at_ = (layOne d).take q ∧ q < (layOne d).length) := by
  subst hd
  rcases hst with ⟨-, rfl, hle⟩ | h
  · have e : layAll ls = layAll (ls.take k) ++ (layOne ls[k] ++ layAll (ls.drop (k + 1))) := by
      have e1 : ls = ls.take k ++ ls[k] :: ls.drop (k + 1) := by
        conv => lhs; rw [← List.take_append_drop k ls]
        rw [List.drop_eq_getElem_cons h]
      unfold layAll
      conv => lhs; rw [e1, List.flatMap_append, List.flatMap_cons]
    have hdrop : ((layAll ls).take m).drop (layAll (ls.take k)).length = (layOne ls[k] ++ layAll (ls.drop (k + 1))).take (m - (layAll (ls.take k)).length) := by
      rw [List.drop_take, e, List.drop_left]
    rw [hdrop]
    by_cases hq : (layOne ls[k]).length ≤ m - (layAll (ls.take k)).length
    · left
      refine ⟨_, by rw [List.take_append, List.take_of_length_le hq], .inl ⟨rfl, ?_, by omega⟩⟩
      rw [layAll_snoc h, List.length_append]
    · right
      exact ⟨m - (layAll (ls.take k)).length, by rw [List.take_append_of_le_length (by omega)], by omega⟩
  · omega

theorem st_byte {ls : List LayD} {m k at_ bad : Nat} {b : UInt8} (hb : bad = 0 ∨ bad = 10)
    (hs : bad = 0 → (∃ r, ((layAll ls).take m).drop at_ = [b] ++ r ∧ CutSt ls m (k + 1) (at_ + [b].length) 0) ∨ (∃ q, ((layAll ls).take m).drop at_ = [b].take q ∧ q < [b].length)) :
    CutSt ls m (k + 1) (rByte ((layAll ls).take m) at_ bad 255).2.1 (rByte ((layAll ls).take m) at_ bad 255).2.2 := by
  have hx : b.toNat < 256 := UInt8.toNat_lt _
  rcases hb with rfl | rfl
  · rcases hs rfl with ⟨r, h1, h2⟩ | ⟨q, h1, h2⟩
    · rw [byte_ok (b := b) (r := r) h1 (by omega)]; exact h2
    · obtain rfl : q = 0 := by simp at h2; omega
      rw [byte_cut h1]; exact .inr rfl
  · right; unfold rByte; simp
theorem st_num {ls : List LayD} {m k at_ bad n : Nat} (hn : n < U64) (hb : bad = 0 ∨ bad = 10)
    (hs : bad = 0 → (∃ r, ((layAll ls).take m).drop at_ = num n ++ r ∧ CutSt ls m (k + 1) (at_ + (num n).length) 0) ∨ (∃ q, ((layAll ls).take m).drop at_ = (num n).take q ∧ q < (num n).length)) :
    CutSt ls m (k + 1) (rNum ((layAll ls).take m) at_ bad 18446744073709551615).2.1 (rNum ((layAll ls).take m) at_ bad 18446744073709551615).2.2 := by
  rcases hb with rfl | rfl
  · rcases hs rfl with ⟨r, h1, h2⟩ | ⟨q, h1, h2⟩
    · rw [num_ok h1 hn (by rw [u64_eq] at hn; omega)]; exact h2
    · rw [num_cut h1 hn h2]; exact .inr rfl
  · right; unfold rNum; simp
theorem st_float {ls : List LayD} {m k at_ bad x : Nat} (hx : x < U64) (hb : bad = 0 ∨ bad = 10)
    (hs : bad = 0 → (∃ r, ((layAll ls).take m).drop at_ = bytesN 8 (canon x) ++ r ∧ CutSt ls m (k + 1) (at_ + (bytesN 8 (canon x)).length) 0) ∨ (∃ q, ((layAll ls).take m).drop at_ = (bytesN 8 (canon x)).take q ∧ q < (bytesN 8 (canon x)).length)) :
    CutSt ls m (k + 1) (rFloat ((layAll ls).take m) at_ bad).2.1 (rFloat ((layAll ls).take m) at_ bad).2.2 := by
  rcases hb with rfl | rfl
  · rcases hs rfl with ⟨r, h1, h2⟩ | ⟨q, h1, h2⟩
    · rw [float_ok h1 hx]
      rw [bytesN_len] at h2
      exact h2
    · rw [bytesN_len] at h2
      rw [float_cut (by rw [h1, List.length_take, bytesN_len]; omega)]; exact .inr rfl
  · right; unfold rFloat; simp
theorem st_text {ls : List LayD} {m k at_ bad : Nat} {t : List UInt8} (ht : t.length < U64) (hb : bad = 0 ∨ bad = 10)
    (hs : bad = 0 → (∃ r, ((layAll ls).take m).drop at_ = num t.length ++ t ++ r ∧ CutSt ls m (k + 1) (at_ + (num t.length ++ t).length) 0) ∨ (∃ q, ((layAll ls).take m).drop at_ = (num t.length ++ t).take q ∧ q < (num t.length ++ t).length)) :
    CutSt ls m (k + 1) (rText ((layAll ls).take m) at_ bad t.length).2.1 (rText ((layAll ls).take m) at_ bad t.length).2.2 := by
  rcases hb with rfl | rfl
  · rcases hs rfl with ⟨r, h1, h2⟩ | ⟨q, h1, h2⟩
    · rw [text_ok h1 ht (Nat.le_refl _)]; exact h2
    · exact .inr (text_cut h1 ht (Nat.le_refl _) h2)
  · right; unfold rText rNum; simp

theorem st_bad {ls : List LayD} {m k at_ bad : Nat} (h : CutSt ls m k at_ bad) : bad = 0 ∨ bad = 10 := by
  rcases h with ⟨h, _⟩ | h
  · exact .inl h
  · exact .inr h

theorem num_max (w : World) (p : Nat) (v : Value) (bs : List UInt8) (at_ bad : Nat) (h : Rd w p v bs at_ bad) :
    Calls Tryd.prog 58 #[.pointer (some ⟨p, 0, none⟩), .int .u64 18446744073709551615] w (RdPost w p v bs (.int .u64 ((rNum bs at_ bad 18446744073709551615).1 : Int)) (rNum bs at_ bad 18446744073709551615).2.1 (rNum bs at_ bad 18446744073709551615).2.2) :=
  reader.num_any w p v bs at_ bad 18446744073709551615 h
theorem text_len (w : World) (p : Nat) (v : Value) (bs : List UInt8) (at_ bad : Nat) (t : ByteArray) (ht : t.size < 140737488355328) (h : Rd w p v bs at_ bad) :
    Calls Tryd.prog 40 #[.pointer (some ⟨p, 0, none⟩), .int .i64 (t.size : Int)] w (RdPost w p v bs (.string ⟨(rText bs at_ bad t.data.toList.length).1.toArray⟩) (rText bs at_ bad t.data.toList.length).2.1 (rText bs at_ bad t.data.toList.length).2.2) := by
  have := reader.text_any w p v bs at_ bad (t.size : Int) (by omega) h
  rw [show ((t.size : Int)).toNat = t.data.toList.length by rw [Array.length_toList]; show _ = t.size; omega] at this
  exact this

def CutRel (w : World) (p : Nat) (vR : Value) (ls : List LayD) (m : Nat) (i : Value) (wr : World) : Prop :=
  ∃ k at_ bad, k ≤ ls.length ∧ i = .int .i64 ((k : Nat) : Int) ∧ CutSt ls m k at_ bad ∧ Rd wr p vR ((layAll ls).take m) at_ bad ∧ Kp No w wr

end Go.Proofs.YtpfpnlhihnfahaaDoor.cut

namespace Go.Proofs.YtpfpnlhihnfahaaDoor.backWalk
open Go.RowKit Go.Proofs.YtpfpnlhihnfahaaDoor.sum Go.Proofs.YtpfpnlhihnfahaaDoor.kept Go.Proofs.YtpfpnlhihnfahaaDoor.app Go.Proofs.YtpfpnlhihnfahaaDoor.writer Go.Proofs.YtpfpnlhihnfahaaDoor.clone Go.Proofs.YtpfpnlhihnfahaaDoor.known Go.Proofs.YtpfpnlhihnfahaaDoor.unseal Go.Proofs.YtpfpnlhihnfahaaDoor.number Go.Proofs.YtpfpnlhihnfahaaDoor.words Go.Proofs.YtpfpnlhihnfahaaDoor.turned Go.Proofs.YtpfpnlhihnfahaaDoor.laid Go.Proofs.YtpfpnlhihnfahaaDoor.back Go.Proofs.YtpfpnlhihnfahaaDoor.reader Go.Proofs.YtpfpnlhihnfahaaDoor.cut
set_option linter.unusedVariables false

theorem back_step {ls : List LayD} {k : Nat} {d : LayD} (h : k < ls.length) (hd : ls[k] = d) :
    ∃ r, (layAll ls).drop (layAll (ls.take k)).length = layOne d ++ r ∧ (layAll (ls.take k)).length + (layOne d).length = (layAll (ls.take (k + 1))).length := by
  subst hd
  have e : layAll ls = layAll (ls.take k) ++ (layOne ls[k] ++ layAll (ls.drop (k + 1))) := by
    have e1 : ls = ls.take k ++ ls[k] :: ls.drop (k + 1) := by
      conv => lhs; rw [← List.take_append_drop k ls]
      rw [List.drop_eq_getElem_cons h]
    unfold layAll
    conv => lhs; rw [e1, List.flatMap_append, List.flatMap_cons]
  refine ⟨layAll (ls.drop (k + 1)), ?_, ?_⟩
  · conv => lhs; rw [e]
    rw [List.drop_left]
  · rw [layAll_snoc h, List.length_append]

def BackRel (w : World) (p : Nat) (vR : Value) (ls : List LayD) (i : Value) (wr : World) : Prop :=
  ∃ k, k ≤ ls.length ∧ i = .int .i64 ((k : Nat) : Int) ∧ Rd wr p vR (layAll ls) (layAll (ls.take k)).length 0 ∧ Kp No w wr

theorem rd_same {w w' : World} {p : Nat} {v : Value} {bs : List UInt8} {at_ bad : Nat} (h : Rd w p v bs at_ bad) (hk : Kp No w w') : Rd w' p v bs at_ bad := h.kept hk id fun _ _ _ _ _ => id

theorem back_same {w : World} {p : Nat} {vR : Value} {ls : List LayD} {i : Value} {wr w' : World} (h : BackRel w p vR ls i wr) (hk : Kp No wr w') : BackRel w p vR ls i w' := by
  obtain ⟨k, h1, h2, h3, h4⟩ := h
  exact ⟨k, h1, h2, rd_same h3 hk, h4.trans' hk⟩

end Go.Proofs.YtpfpnlhihnfahaaDoor.backWalk

namespace Go.Proofs.YtpfpnlhihnfahaaDoor.ref
open Go.RowKit Go.Proofs.YtpfpnlhihnfahaaDoor.sum Go.Proofs.YtpfpnlhihnfahaaDoor.kept Go.Proofs.YtpfpnlhihnfahaaDoor.writer Go.Proofs.YtpfpnlhihnfahaaDoor.clone Go.Proofs.YtpfpnlhihnfahaaDoor.known Go.Proofs.YtpfpnlhihnfahaaDoor.unseal Go.Proofs.YtpfpnlhihnfahaaDoor.number Go.Proofs.YtpfpnlhihnfahaaDoor.words Go.Proofs.YtpfpnlhihnfahaaDoor.reader
set_option linter.unusedVariables false

/-- The reference's Reader at block p. -/
theorem bs_kept2 {S : Nat → Prop} {w w' : World} {v : Value} {bs : List UInt8} (h : Bs w v bs) (hk : Kp S w w') (hn : bs ≠ [] → ∀ b o n c, v = .slice (some ⟨b, o, none⟩) n c → ¬ S b) : Bs w' v bs := by
  by_cases hb : bs = []
  · subst hb
    obtain ⟨a, c, rfl, h1, h2, -⟩ := h
    exact ⟨a, c, rfl, h1, h2, fun h => absurd rfl h⟩
  · exact bs_kept h hk (hn hb)

structure RR (w : World) (p : Nat) (v : Value) (bs : List UInt8) (at_ bad : Nat) : Prop where
  c0 : w.cell? ⟨p, 0, none⟩ = some v
  c1 : w.cell? ⟨p, 1, none⟩ = some (.int .i64 (at_ : Int))
  c2 : w.cell? ⟨p, 2, none⟩ = some (.int .i64 (bad : Int))
  warm : ∀ o, w.frozen? ⟨p, o, none⟩ = false
  reads : Bs w v bs
  apart : bs ≠ [] → ∀ b o n c, v = .slice (some ⟨b, o, none⟩) n c → b ≠ p
  le : at_ ≤ bs.length
  short : bs.length ≤ 140737488355328

theorem RR.kept {S : Nat → Prop} {w w' : World} {p : Nat} {v : Value} {bs : List UInt8} {at_ bad : Nat} (h : RR w p v bs at_ bad) (hk : Kp S w w') (hp : ¬ S p) (hv : bs ≠ [] → ∀ b o n c, v = .slice (some ⟨b, o, none⟩) n c → ¬ S b) : RR w' p v bs at_ bad :=
  ⟨hk.cell' h.c0 hp, hk.cell' h.c1 hp, hk.cell' h.c2 hp, fun o => (hk.frozen (p := ⟨p, o, none⟩) (show p < w.heap.size from World.block_lt_of_cell? w ⟨p, 0, none⟩ h.c0) hp).trans (h.warm o), bs_kept2 h.reads hk hv, h.apart, h.le, h.short⟩
theorem RR.same {w w' : World} {p : Nat} {v : Value} {bs : List UInt8} {at_ bad : Nat} (h : RR w p v bs at_ bad) (hk : Kp No w w') : RR w' p v bs at_ bad := h.kept hk id fun _ _ _ _ _ _ => id
theorem RR.drewN {w : World} {p : Nat} {v : Value} {bs : List UInt8} {at_ bad : Nat} (h : RR w p v bs at_ bad) (n : Nat) : RR (w.drewN n) p v bs at_ bad := h.same ((Kp.refl No w).drewN n)
theorem RR.lt {w : World} {p : Nat} {v : Value} {bs : List UInt8} {at_ bad : Nat} (h : RR w p v bs at_ bad) : p < w.heap.size := World.block_lt_of_cell? w ⟨p, 0, none⟩ h.c0

theorem RR.set_bad {w : World} {p : Nat} {v : Value} {bs : List UInt8} {at_ bad : Nat} (h : RR w p v bs at_ bad) (c : Nat) : RR (w.setCell ⟨p, 2, none⟩ (.int .i64 (c : Int))) p v bs at_ c := by
  have hk := kp_set w p 2 (.int .i64 (c : Int))
  refine ⟨?_, ?_, World.cell?_setCell_same w _ _ h.c2, fun o => by rw [World.frozen?_setCell]; exact h.warm o, bs_kept2 h.reads hk h.apart, h.apart, h.le, h.short⟩
  · rw [World.cell?_setCell_other w _ _ _ (by simp)]; exact h.c0
  · rw [World.cell?_setCell_other w _ _ _ (by simp)]; exact h.c1
theorem RR.set_at {w : World} {p : Nat} {v : Value} {bs : List UInt8} {at_ bad : Nat} (h : RR w p v bs at_ bad) (c : Nat) (hc : c ≤ bs.length) : RR (w.setCell ⟨p, 1, none⟩ (.int .i64 (c : Int))) p v bs c bad := by
  have hk := kp_set w p 1 (.int .i64 (c : Int))
  refine ⟨?_, World.cell?_setCell_same w _ _ h.c1, ?_, fun o => by rw [World.frozen?_setCell]; exact h.warm o, bs_kept2 h.reads hk h.apart, h.apart, hc, h.short⟩
  · rw [World.cell?_setCell_other w _ _ _ (by simp)]; exact h.c0
  · rw [World.cell?_setCell_other w _ _ _ (by simp)]; exact h.c2

def RRPost (w : World) (p : Nat) (v : Value) (bs : List UInt8) (res : Value) (at_ bad : Nat) (e : Ending) (w' : World) : Prop :=
  e = .returned res ∧ RR w' p v bs at_ bad ∧ Kp (fun k => k = p) w w'

theorem drop_cons {bs : List UInt8} {at_ : Nat} (h : at_ < bs.length) : bs.drop at_ = bs.getD at_ 0 :: bs.drop (at_ + 1) := by
  rw [List.drop_eq_getElem_cons h]; simp [List.getD, h]

theorem kp_drew_set (w : World) (n p o : Nat) (u : Value) : Kp (fun k => k = p) w ((w.setCell ⟨p, o, none⟩ u).drewN n) := (kp_set w p o u).drewN n

set_option maxRecDepth 100000 in
set_option maxHeartbeats 2000000 in
theorem byte_any (w : World) (p : Nat) (v : Value) (bs : List UInt8) (at_ bad most : Nat) (h : RR w p v bs at_ bad) :
    Calls Tryd.prog 44 #[.pointer (some ⟨p, 0, none⟩), .int .u8 (most : Int)] w (RRPost w p v bs (.int .u8 ((rByte bs at_ bad most).1 : Int)) (rByte bs at_ bad most).2.1 (rByte bs at_ bad most).2.2) := by
  have c0 := h.c0
  have c1 := h.c1
  have c2 := h.c2
  have f1 := h.warm 1
  have f2 := h.warm 2
  have H := Hid_mk h
  by_cases hb : bad = 0
  · subst hb
    obtain ⟨a, cap, rfl, hl, hm, hc⟩ := h.reads
    have hshort := h.short
    have hap := h.apart
    unfold maxLen at hm
    clear h
    by_cases he : at_ < bs.length
    · obtain ⟨b, o, rfl, hcell⟩ := hc (by intro e; subst e; simp at he)
      have hbp : b ≠ p := hap (by intro e; subst e; simp at he) _ _ _ _ rfl
      have hx : w.cell? ⟨b, o + at_, none⟩ = some (.int .u8 ((bs.getD at_ 0).toNat : Int)) := hcell at_ he
      have hd := drop_cons he
      have hi : (at_ : Int) < (bs.length : Int) := by omega
      have hge : decide ((bs.length : Int) ≤ (at_ : Int)) = false := decide_eq_false (by omega)
      have HAt := Hid_mk (show at_ + 1 ≤ bs.length from he)
      by_cases hgt : most < (bs.getD at_ 0).toNat
      · have hr : rByte bs at_ 0 most = (0, at_, 12) := by unfold rByte; rw [if_neg (by simp), hd, if_neg (by simp)]; simp only [List.getD_cons_zero]; rw [if_pos hgt]
        have hgi : (most : Int) < ((bs.getD at_ 0).toNat : Int) := by omega
        have HRes := Hid_mk hr
        generalize (bs.getD at_ 0).toNat = d at *
        generalize hLen : bs.length = len at *
        clear hr hd hcell hc hap hgt hLen
        go_enter Tryd.func44, Tryd.ntmps44
        go_wp2
        go_quiet (fail)
        go_wp2
        go_quiet (fail)
        go_wp2
        go_ret
        rw [HRes.out]
        exact ⟨rfl, (H.out.set_bad 12).same (by exact ⟨rfl, rfl, rfl, Nat.le_refl _, fun _ _ _ => rfl⟩), by exact ⟨rfl, rfl, rfl, (kp_set w p 2 _).size, (kp_set w p 2 _).block⟩⟩
      · have hr : rByte bs at_ 0 most = ((bs.getD at_ 0).toNat, at_ + 1, 0) := by unfold rByte; rw [if_neg (by simp), hd, if_neg (by simp)]; simp only [List.getD_cons_zero]; rw [if_neg hgt]
        have hgi : ¬ (most : Int) < ((bs.getD at_ 0).toNat : Int) := by omega
        have HRes := Hid_mk hr
        have hx1 : (w.setCell ⟨p, 1, none⟩ (.int .i64 ((at_ : Int) + 1))).cell? ⟨b, o + at_, none⟩ = some (.int .u8 ((bs.getD at_ 0).toNat : Int)) := (kp_set w p 1 _).cell' hx hbp
        have i1 : IntKind.i64.wrap ((at_ : Int) + 1) = (at_ : Int) + 1 := IntWalk.i64_in _ (by omega)
        generalize (bs.getD at_ 0).toNat = d at *
        generalize hLen : bs.length = len at *
        clear hr hd hcell hc hap hgt
        go_enter Tryd.func44, Tryd.ntmps44
        go_wp2
        go_quiet (fail)
        go_wp2
        go_quiet (fail)
        go_wp2
        go_quiet (fail)
        go_wp2
        go_ret
        rw [HRes.out]
        exact ⟨rfl, (H.out.set_at (at_ + 1) (by rw [hLen]; exact HAt.out)).same (by exact ⟨rfl, rfl, rfl, Nat.le_refl _, fun _ _ _ => rfl⟩), by exact ⟨rfl, rfl, rfl, (kp_set w p 1 _).size, (kp_set w p 1 _).block⟩⟩
    · have hr : rByte bs at_ 0 most = (0, at_, 10) := by unfold rByte; rw [if_neg (by simp), if_pos (List.drop_of_length_le (by omega))]
      have HRes := Hid_mk hr
      have hge : decide ((bs.length : Int) ≤ (at_ : Int)) = true := decide_eq_true (by omega)
      have hge2 : (bs.length : Int) ≤ (at_ : Int) := by omega
      generalize hLen : bs.length = len at *
      clear hr hc hap hLen
      go_enter Tryd.func44, Tryd.ntmps44
      go_wp2
      go_quiet (fail)
      go_wp2
      go_ret
      rw [HRes.out]
      exact ⟨rfl, (H.out.set_bad 10).same (by exact ⟨rfl, rfl, rfl, Nat.le_refl _, fun _ _ _ => rfl⟩), by exact ⟨rfl, rfl, rfl, (kp_set w p 2 _).size, (kp_set w p 2 _).block⟩⟩
  · have hr : rByte bs at_ bad most = (0, at_, bad) := by unfold rByte; rw [if_pos hb]
    rw [hr]
    have hbz : ((bad : Int) == 0) = false := by simp; omega
    have hbz2 : ((bad : Int) != 0) = true := by simp; omega
    clear h hr
    go_enter Tryd.func44, Tryd.ntmps44
    go_wp2
    go_ret
    exact ⟨rfl, H.out, Kp.refl _ _⟩

end Go.Proofs.YtpfpnlhihnfahaaDoor.ref
