/- The library's decimal numbers in memory; noughts at their end cut off. Package num: where a numeral stands. The library's decimals: a shift to the left. Decimals: by how many digits a shift makes a number longer. -/
import Derived.Test.YtgnddabdjjkgiaaGreatDoorPfLdM
import Derived.Test.YtgnddabdjjkgiaaGreatDoorPfNumM

namespace Go.Proofs.YtgnddabdjjkgiaaGreatDoor.fmtf
open Go.RowKit Go.Proofs.YtgnddabdjjkgiaaGreatDoor.sum Go.Proofs.YtgnddabdjjkgiaaGreatDoor.kept
set_option linter.unusedVariables false

/-- a decimal: its cells, how many count, where the point stands, its sign, whether something was left out -/
structure DecAt (w : World) (q : Nat) (f : Nat → Nat) (nd : Nat) (dp : Int) (ng tr : Bool) : Prop where
  buf : BufAt w q 0 800 f
  c0 : w.cell? ⟨q, 800, none⟩ = some (.int .i64 (nd : Int))
  c1 : w.cell? ⟨q, 801, none⟩ = some (.int .i64 dp)
  c2 : w.cell? ⟨q, 802, none⟩ = some (.bool ng)
  c3 : w.cell? ⟨q, 803, none⟩ = some (.bool tr)
variable {w : World} {q : Nat} {f : Nat → Nat} {nd : Nat} {dp : Int} {ng tr : Bool}
theorem DecAt.at (h : DecAt w q f nd dp ng tr) (i : Nat) (hi : i < 800) : w.cell? ⟨q, i, none⟩ = some (.int .u8 (f i : Int)) := by
  have := h.buf.cell i hi
  rwa [Nat.zero_add] at this
theorem DecAt.warm (h : DecAt w q f nd dp ng tr) (i : Nat) : w.frozen? ⟨q, i, none⟩ = false := h.buf.warm i
theorem ne_addr {q i j : Nat} (h : i ≠ j) : (⟨q, i, none⟩ : Addr) ≠ ⟨q, j, none⟩ := by intro e; injection e with _ e; exact h e
theorem cell_set {w : World} {q i : Nat} {v x : Value} (h : w.cell? ⟨q, i, none⟩ = some x) : (w.setCell ⟨q, i, none⟩ v).cell? ⟨q, i, none⟩ = some v := World.cell?_setCell_same _ _ _ h
theorem cell_oth {w : World} {q i j : Nat} {v x : Value} (h : w.cell? ⟨q, j, none⟩ = some x) (hij : j ≠ i) : (w.setCell ⟨q, i, none⟩ v).cell? ⟨q, j, none⟩ = some x := by
  rw [World.cell?_setCell_other _ _ _ _ (ne_addr (Ne.symm hij))]
  exact h
theorem warm_set {w : World} {q i : Nat} {v : Value} (h : ∀ i, w.frozen? ⟨q, i, none⟩ = false) : ∀ j, (w.setCell ⟨q, i, none⟩ v).frozen? ⟨q, j, none⟩ = false := fun j => by simp only [World.frozen?_setCell]; exact h j
theorem DecAt.setD (h : DecAt w q f nd dp ng tr) (i v : Nat) (hi : i < 800) : DecAt (w.setCell ⟨q, i, none⟩ (.int .u8 (v : Int))) q (upd f i v) nd dp ng tr := by
  have hb := h.buf.set i v
  rw [Nat.zero_add] at hb
  exact ⟨hb, cell_oth h.c0 (by omega), cell_oth h.c1 (by omega), cell_oth h.c2 (by omega), cell_oth h.c3 (by omega)⟩
theorem buf_oth {w : World} {q i : Nat} {f : Nat → Nat} {v : Value} (h : BufAt w q 0 800 f) (hi : 800 ≤ i) : BufAt (w.setCell ⟨q, i, none⟩ v) q 0 800 f :=
  ⟨fun j hj => cell_oth (h.cell j hj) (by omega), warm_set h.warm⟩
theorem DecAt.setNd (h : DecAt w q f nd dp ng tr) (m : Nat) : DecAt (w.setCell ⟨q, 800, none⟩ (.int .i64 (m : Int))) q f m dp ng tr :=
  ⟨buf_oth h.buf (by omega), cell_set h.c0, cell_oth h.c1 (by omega), cell_oth h.c2 (by omega), cell_oth h.c3 (by omega)⟩
theorem DecAt.setDp (h : DecAt w q f nd dp ng tr) (m : Int) : DecAt (w.setCell ⟨q, 801, none⟩ (.int .i64 m)) q f nd m ng tr :=
  ⟨buf_oth h.buf (by omega), cell_oth h.c0 (by omega), cell_set h.c1, cell_oth h.c2 (by omega), cell_oth h.c3 (by omega)⟩
theorem DecAt.setTr (h : DecAt w q f nd dp ng tr) (b : Bool) : DecAt (w.setCell ⟨q, 803, none⟩ (.bool b)) q f nd dp ng b :=
  ⟨buf_oth h.buf (by omega), cell_oth h.c0 (by omega), cell_oth h.c1 (by omega), cell_oth h.c2 (by omega), cell_set h.c3⟩
theorem DecAt.drew (h : DecAt w q f nd dp ng tr) : DecAt w.drew q f nd dp ng tr :=
  have k := (Kp.refl No w).drew
  ⟨h.buf.drew, k.cell' h.c0 id, k.cell' h.c1 id, k.cell' h.c2 id, k.cell' h.c3 id⟩
theorem DecAt.drewN (h : DecAt w q f nd dp ng tr) (n : Nat) : DecAt (w.drewN n) q f nd dp ng tr :=
  have k := (Kp.refl No w).drewN n
  ⟨⟨fun i hi => k.cell' (h.buf.cell i hi) id, fun i => by have := h.buf.warm i; simpa using this⟩, k.cell' h.c0 id, k.cell' h.c1 id, k.cell' h.c2 id, k.cell' h.c3 id⟩
theorem DecAt.no {w' : World} {S : Nat → Prop} (h : DecAt w q f nd dp ng tr) (hk : Kp S w w') (hq : q < w.heap.size) (hS : ¬ S q) : DecAt w' q f nd dp ng tr :=
  ⟨⟨fun i hi => hk.cell' (h.buf.cell i hi) hS, fun i => (hk.frozen (p := ⟨q, i, none⟩) hq hS).trans (h.buf.warm i)⟩, hk.cell' h.c0 hS, hk.cell' h.c1 hS, hk.cell' h.c2 hS, hk.cell' h.c3 hS⟩
/-- how many count, read from memory -/
def ndOf (w : World) (q : Nat) : Nat := match w.cell? ⟨q, 800, none⟩ with
  | some (.int _ z) => z.toNat
  | _ => 0
theorem DecAt.ndIs (h : DecAt w q f nd dp ng tr) : ndOf w q = nd := by unfold ndOf; rw [h.c0]; simp
theorem kq_set {a w : World} {q i : Nat} {v : Value} (h : Kp (fun b => b = q) a w) : Kp (fun b => b = q) a (w.setCell ⟨q, i, none⟩ v) := h.setCell (p := ⟨q, i, none⟩) (fun _ => rfl) _
theorem buf_else {w : World} {q i g o n : Nat} {f : Nat → Nat} {v : Value} (h : BufAt w g o n f) (hg : g ≠ q) : BufAt (w.setCell ⟨q, i, none⟩ v) g o n f :=
  ⟨fun j hj => by rw [World.cell?_setCell_other _ _ _ _ (by intro e; injection e with e _; exact hg e.symm)]; exact h.cell j hj, fun j => by simp only [World.frozen?_setCell]; exact h.warm j⟩
/-- what a call of a decimal leaves -/
def DcPost (q : Nat) (w : World) (f : Nat → Nat) (nd : Nat) (dp : Int) (ng tr : Bool) (e : Ending) (w' : World) : Prop := e = .returned (.tuple #[]) ∧ Kp (fun b => b = q) w w' ∧ DecAt w' q f nd dp ng tr

set_option maxRecDepth 100000 in
set_option maxHeartbeats 4000000 in
theorem trim_any (w : World) (q : Nat) (f : Nat → Nat) (nd : Nat) (dp : Int) (ng tr : Bool) (h : DecAt w q f nd dp ng tr) (hnd : nd ≤ 800) :
    Calls Tryz.prog 115 #[.pointer (some ⟨q, 0, none⟩)] w (DcPost q w f (trimN f nd) (if trimN f nd = 0 then 0 else dp) ng tr) := by
  obtain ⟨R, hR⟩ : ∃ R, trimN f nd = R := ⟨_, rfl⟩
  obtain ⟨D, hD⟩ : ∃ D : Int, (if trimN f nd = 0 then 0 else dp) = D := ⟨_, rfl⟩
  rw [hD, hR]
  rw [hR] at hD
  have HD := Hid_mk hD
  have HR := Hid_mk hR
  have HH := Hid_mk h
  have HN := Hid_mk hnd
  clear hR hD h hnd
  go_enter Tryz.func115, Tryz.ntmps115
  go_wp2_with fail
  go_loopw [2] (fun _ wr => ∃ k : Nat, k ≤ nd ∧ trimN f k = R ∧ DecAt wr q f k dp ng tr ∧ Kp (fun b => b = q) w wr) (fun _ wr => ndOf wr q)
  case atStart => exact ⟨nd, Nat.le_refl _, HR.out, HH.out, Kp.refl _ _⟩
  case round =>
    obtain ⟨k, hk, ht, hd, hkp⟩ := hrel
    have HKd := Hid_mk hd
    have HKp := Hid_mk hkp
    have HT := Hid_mk ht
    have HKn := Hid_mk hk
    have hk0 : (0 : Int) ≤ (k : Int) := Int.natCast_nonneg _
    have hk8 : (k : Int) ≤ 800 := by have := HN.out; omega
    have c0 := hd.c0
    have hqs : q < wr.heap.size := World.block_lt_of_cell? wr _ hd.c0
    have cw := hd.warm
    have hm := hd.ndIs
    have HM := Hid_mk hm
    rcases k with _ | k
    · have hz : ¬ (0 : Int) < 0 := by omega
      have ht0 : R = 0 := ht.symm
      have c1 := hd.c1
      have hD0 : D = 0 := by rw [← HD.out, if_pos ht0]
      have HT0 := Hid_mk ht0
      have HD0 := Hid_mk hD0
      clear ht hk ht0 hD0 hd hkp hm
      rw [show ((0 : Nat) : Int) = 0 from rfl] at c0
      go_wp2_with fail
      go_quiet (fail)
      go_wp2
      go_end0
      exact ⟨rfl, (HKp.out.drewN nq).setCell (p := ⟨q, 801, none⟩) (fun _ => rfl) _, by rw [HT0.out, HD0.out]; exact (HKd.out.drewN nq).setDp 0⟩
    · have hpos : (0 : Int) < ((k + 1 : Nat) : Int) := by omega
      have hsub : ((k + 1 : Nat) : Int) - 1 = (k : Int) := by omega
      have hlt8 : (k : Int) < 800 := by omega
      have cd := hd.at k (by omega)
      obtain ⟨y, hy⟩ : ∃ y, f k = y := ⟨_, rfl⟩
      rw [hy] at cd
      have ht2 := ht
      rw [trimN, hy] at ht2
      by_cases h48 : y = 48
      · rw [if_pos h48] at ht2
        have h48i : (y : Int) = 48 := by omega
        have HT2 := Hid_mk ht2
        clear ht hk ht2 hy h48 hd hkp hm
        go_wp2_with fail
        go_quiet (fail)
        go_wp2
        go_roundw
        case rel => exact ⟨k, by have := HKn.out; omega, HT2.out, (HKd.out.drewN nq).setNd k, (HKp.out.drewN nq).setCell (p := ⟨q, 800, none⟩) (fun _ => rfl) _⟩
        case measure => rw [((HKd.out.drewN nq).setNd k).ndIs, HM.out]; omega
      · rw [if_neg h48] at ht2
        have h48i : ((y : Int) == 48) = false := by simp; omega
        have hne : ¬ ((k + 1 : Nat) : Int) = 0 := by omega
        have hD1 : D = dp := by rw [← HD.out, if_neg (by omega)]
        have HT2 := Hid_mk ht2
        have HD1 := Hid_mk hD1
        clear ht hk ht2 hy h48 hd hkp hm hD1
        go_wp2_with fail
        go_quiet (fail)
        go_wp2
        go_end0
        exact ⟨rfl, HKp.out.drewN nq, by rw [← HT2.out, HD1.out]; exact HKd.out.drewN nq⟩

end Go.Proofs.YtgnddabdjjkgiaaGreatDoor.fmtf

namespace Go.Proofs.YtgnddabdjjkgiaaGreatDoor.nums
open Go.RowKit Go.Proofs.YtgnddabdjjkgiaaGreatDoor.sum Go.Proofs.YtgnddabdjjkgiaaGreatDoor.kept Go.Proofs.YtgnddabdjjkgiaaGreatDoor.str
set_option linter.unusedVariables false

def dgB (b : Nat) : Bool := decide (48 ≤ b) && decide (b ≤ 57)
def blB (b : Nat) : Bool := (decide (9 ≤ b) && decide (b ≤ 13)) || decide (b = 32)
def bt (l : List UInt8) (k : Nat) : Nat := (l.getD k 0).toNat
/-- past all that are such -/
def pastS (p : Nat → Bool) (l : List UInt8) : Nat → Nat → Nat
  | 0, k => k
  | f + 1, k => if k < l.length ∧ p (bt l k) = true then pastS p l f (k + 1) else k
def past (p : Nat → Bool) (l : List UInt8) (k : Nat) : Nat := pastS p l (l.length - k) k
theorem pastS_le (p : Nat → Bool) (l : List UInt8) : ∀ f k, k ≤ l.length → k ≤ pastS p l f k ∧ pastS p l f k ≤ l.length
  | 0, k, h => ⟨Nat.le_refl _, h⟩
  | f + 1, k, h => by
    rw [pastS]
    split
    · rename_i hc
      obtain ⟨h1, h2⟩ := pastS_le p l f (k + 1) hc.1
      exact ⟨by omega, h2⟩
    · exact ⟨Nat.le_refl _, h⟩
theorem past_le (p : Nat → Bool) (l : List UInt8) (k : Nat) (h : k ≤ l.length) : k ≤ past p l k ∧ past p l k ≤ l.length := pastS_le p l _ k h
theorem past_yes {p : Nat → Bool} {l : List UInt8} {k : Nat} (h : k < l.length) (hp : p (bt l k) = true) : past p l k = past p l (k + 1) := by
  unfold past
  obtain ⟨m, hm⟩ : ∃ m, l.length - k = m + 1 := ⟨l.length - k - 1, by omega⟩
  rw [hm, pastS, if_pos ⟨h, hp⟩, show l.length - (k + 1) = m by omega]
theorem past_no {p : Nat → Bool} {l : List UInt8} {k : Nat} (h : k < l.length → p (bt l k) = false) : past p l k = k := by
  unfold past
  rcases hm : l.length - k with _ | m
  · rfl
  · rw [pastS, if_neg]
    rintro ⟨h1, h2⟩
    rw [h h1] at h2
    cases h2
theorem bt_get (l : List UInt8) (k : Nat) (h : k < (st l).size) : ((st l)[k]'h).toNat = bt l k := by
  unfold bt
  have hk : k < l.length := by rw [st_size] at h; exact h
  have e : ((st l)[k]'h) = l[k] := by
    show l.toArray[k] = l[k]
    simp
  exact (congrArg UInt8.toNat e).trans (by simp [List.getD, hk])
theorem bt_lt (l : List UInt8) (k : Nat) : bt l k < 256 := UInt8.toNat_lt _
def RInt (w : World) (r : Nat) (e : Ending) (w' : World) : Prop := e = .returned (.int .i64 (r : Int)) ∧ w = w'

set_option maxRecDepth 100000 in
set_option maxHeartbeats 4000000 in
theorem digits_any (w : World) (l : List UInt8) (k : Nat) (hk : k ≤ l.length) (hl : l.length ≤ 140737488355327) :
    Calls Tryz.prog 48 #[.string (st l), .int .i64 (k : Int)] w (RInt w (past dgB l k)) := by
  have hsz := st_size l
  obtain ⟨R, hR⟩ : ∃ R, past dgB l k = R := ⟨_, rfl⟩
  rw [hR]
  have HR := Hid_mk hR
  have HK := Hid_mk hk
  have HL := Hid_mk hl
  clear hR hk hl
  go_enter Tryz.func48, Tryz.ntmps48
  go_wp2
  go_loop [1] (fun i => ∃ j : Nat, i = .int .i64 (j : Int) ∧ j ≤ l.length ∧ past dgB l j = R) (fun i => l.length - (intOf i).toNat)
  case atStart => exact ⟨k, rfl, HK.out, HR.out⟩
  case round =>
    obtain ⟨j, rfl, hj, hr⟩ := hrel
    have hj0 : (0 : Int) ≤ (j : Int) := Int.natCast_nonneg _
    have hjl : (j : Int) ≤ 140737488355327 := by have := HL.out; omega
    have HJ := Hid_mk hj
    have HRr := Hid_mk hr
    by_cases hlt : j < l.length
    · have hlt2 : j < (st l).size := by rw [hsz]; exact hlt
      have hlti : (j : Int) < (l.length : Int) := by omega
      have hg := bt_get l j hlt2
      obtain ⟨b, hb⟩ : ∃ b, bt l j = b := ⟨_, rfl⟩
      rw [hb] at hg
      have HB := Hid_mk hb
      have HLt := Hid_mk hlt
      by_cases h1 : 48 ≤ b
      · have h1i : (48 : Int) ≤ (b : Int) := by omega
        by_cases h2 : b ≤ 57
        · have h2i : (b : Int) ≤ (57 : Int) := by omega
          have HD := Hid_mk (show dgB b = true by simp [dgB, h1, h2])
          clear hj hr hlt hb h1 h2
          go_wp2
          go_round
          case rel => exact ⟨j + 1, by go_num, HLt.out, by rw [← HRr.out]; exact (past_yes HLt.out (by rw [HB.out]; exact HD.out)).symm⟩
          case measure => have := HLt.out; simp [intOf]; omega
        · have h2i : ¬ (b : Int) ≤ (57 : Int) := by omega
          have HD := Hid_mk (show dgB b = false by simp [dgB, h1, h2])
          clear hj hr hlt hb h1 h2
          go_wp2
          go_ret
          exact ⟨by rw [← HRr.out, past_no (fun _ => by rw [HB.out]; exact HD.out)]; rfl, rfl⟩
      · have h1i : ¬ (48 : Int) ≤ (b : Int) := by omega
        have HD := Hid_mk (show dgB b = false by simp [dgB, h1])
        clear hj hr hlt hb h1
        go_wp2
        go_ret
        exact ⟨by rw [← HRr.out, past_no (fun _ => by rw [HB.out]; exact HD.out)]; rfl, rfl⟩
    · have hlti : ¬ (j : Int) < (l.length : Int) := by omega
      have HLt := Hid_mk hlt
      clear hj hr hlt
      go_wp2
      go_ret
      exact ⟨by rw [← HRr.out, past_no (fun h => absurd h HLt.out)]; rfl, rfl⟩

set_option maxRecDepth 100000 in
set_option maxHeartbeats 4000000 in
theorem blanks_any (w : World) (l : List UInt8) (k : Nat) (hk : k ≤ l.length) (hl : l.length ≤ 140737488355327) :
    Calls Tryz.prog 27 #[.string (st l), .int .i64 (k : Int)] w (RInt w (past blB l k)) := by
  have hsz := st_size l
  obtain ⟨R, hR⟩ : ∃ R, past blB l k = R := ⟨_, rfl⟩
  rw [hR]
  have HR := Hid_mk hR
  have HK := Hid_mk hk
  have HL := Hid_mk hl
  clear hR hk hl
  go_enter Tryz.func27, Tryz.ntmps27
  go_wp2
  go_loop [1] (fun i => ∃ j : Nat, i = .int .i64 (j : Int) ∧ j ≤ l.length ∧ past blB l j = R) (fun i => l.length - (intOf i).toNat)
  case atStart => exact ⟨k, rfl, HK.out, HR.out⟩
  case round =>
    obtain ⟨j, rfl, hj, hr⟩ := hrel
    have hj0 : (0 : Int) ≤ (j : Int) := Int.natCast_nonneg _
    have hjl : (j : Int) ≤ 140737488355327 := by have := HL.out; omega
    have HJ := Hid_mk hj
    have HRr := Hid_mk hr
    by_cases hlt : j < l.length
    · have hlt2 : j < (st l).size := by rw [hsz]; exact hlt
      have hlti : (j : Int) < (l.length : Int) := by omega
      have hg := bt_get l j hlt2
      obtain ⟨b, hb⟩ : ∃ b, bt l j = b := ⟨_, rfl⟩
      rw [hb] at hg
      have HB := Hid_mk hb
      have HLt := Hid_mk hlt
      by_cases h3 : b = 32
      · by_cases h1 : 9 ≤ b
        · have h1i : (9 : Int) ≤ (b : Int) := by omega
          have h2i : ¬ (b : Int) ≤ (13 : Int) := by omega
          have h3i : (b : Int) = 32 := by omega
          have HD := Hid_mk (show blB b = true by simp [blB, h3])
          clear hj hr hlt hb h1 h3
          go_wp2
          go_round
          case rel => exact ⟨j + 1, by go_num, HLt.out, by rw [← HRr.out]; exact (past_yes HLt.out (by rw [HB.out]; exact HD.out)).symm⟩
          case measure => have := HLt.out; simp [intOf]; omega
        · omega
      · have h3i : ¬ (b : Int) = 32 := by omega
        by_cases h1 : 9 ≤ b
        · have h1i : (9 : Int) ≤ (b : Int) := by omega
          by_cases h2 : b ≤ 13
          · have h2i : (b : Int) ≤ (13 : Int) := by omega
            have HD := Hid_mk (show blB b = true by simp [blB, h1, h2])
            clear hj hr hlt hb h1 h2 h3
            go_wp2
            go_round
            case rel => exact ⟨j + 1, by go_num, HLt.out, by rw [← HRr.out]; exact (past_yes HLt.out (by rw [HB.out]; exact HD.out)).symm⟩
            case measure => have := HLt.out; simp [intOf]; omega
          · have h2i : ¬ (b : Int) ≤ (13 : Int) := by omega
            have HD := Hid_mk (show blB b = false by simp [blB, h2, h3])
            clear hj hr hlt hb h1 h2 h3
            go_wp2
            go_ret
            exact ⟨by rw [← HRr.out, past_no (fun _ => by rw [HB.out]; exact HD.out)]; rfl, rfl⟩
        · have h1i : ¬ (9 : Int) ≤ (b : Int) := by omega
          have HD := Hid_mk (show blB b = false by simp [blB, h1, h3])
          clear hj hr hlt hb h1 h3
          go_wp2
          go_ret
          exact ⟨by rw [← HRr.out, past_no (fun _ => by rw [HB.out]; exact HD.out)]; rfl, rfl⟩
    · have hlti : ¬ (j : Int) < (l.length : Int) := by omega
      have HLt := Hid_mk hlt
      clear hj hr hlt
      go_wp2
      go_ret
      exact ⟨by rw [← HRr.out, past_no (fun h => absurd h HLt.out)]; rfl, rfl⟩


def signS (l : List UInt8) (k : Nat) : Nat := if k < l.length ∧ (bt l k = 43 ∨ bt l k = 45) then k + 1 else k
def mantS (l : List UInt8) (k : Nat) : Nat :=
  if past dgB l k = l.length ∨ bt l (past dgB l k) ≠ 46 then past dgB l k else if past dgB l (past dgB l k + 1) = k + 1 then k else past dgB l (past dgB l k + 1)
def expS (l : List UInt8) (k : Nat) : Nat :=
  if k = l.length ∨ (bt l k ≠ 101 ∧ bt l k ≠ 69) then k else if past dgB l (signS l (k + 1)) = signS l (k + 1) then k else past dgB l (signS l (k + 1))
def findS (l : List UInt8) : Nat × Nat :=
  if mantS l (signS l (past blB l 0)) = signS l (past blB l 0) then (0, 0) else (past blB l 0, expS l (mantS l (signS l (past blB l 0))))
def looksS (l : List UInt8) : Bool := decide (0 < (findS l).2) && decide (past blB l (findS l).2 = l.length)
theorem sign_le {l : List UInt8} {k : Nat} (h : k ≤ l.length) : k ≤ signS l k ∧ signS l k ≤ l.length := by
  unfold signS
  split
  · rename_i h1; exact ⟨by omega, h1.1⟩
  · exact ⟨Nat.le_refl _, h⟩
theorem mant_le {l : List UInt8} {k : Nat} (h : k ≤ l.length) : k ≤ mantS l k ∧ mantS l k ≤ l.length := by
  have h1 := past_le dgB l k h
  unfold mantS
  split
  · exact h1
  · rename_i h2
    have h3 := past_le dgB l (past dgB l k + 1) (by omega)
    split
    · exact ⟨Nat.le_refl _, h⟩
    · exact ⟨by omega, h3.2⟩
theorem exp_le {l : List UInt8} {k : Nat} (h : k ≤ l.length) : k ≤ expS l k ∧ expS l k ≤ l.length := by
  unfold expS
  split
  · exact ⟨Nat.le_refl _, h⟩
  · rename_i h2
    have h3 := sign_le (l := l) (k := k + 1) (by omega)
    have h4 := past_le dgB l (signS l (k + 1)) h3.2
    split
    · exact ⟨Nat.le_refl _, h⟩
    · exact ⟨by omega, h4.2⟩
theorem find_le (l : List UInt8) : (findS l).1 ≤ (findS l).2 ∧ (findS l).2 ≤ l.length := by
  unfold findS
  split
  · exact ⟨Nat.le_refl _, Nat.zero_le _⟩
  · have h1 := past_le blB l 0 (Nat.zero_le _)
    have h2 := sign_le h1.2
    have h3 := mant_le h2.2
    have h4 := exp_le h3.2
    exact ⟨by show past blB l 0 ≤ expS l _; omega, h4.2⟩

set_option maxRecDepth 100000 in
set_option maxHeartbeats 4000000 in
theorem sign_any (w : World) (l : List UInt8) (k : Nat) (hk : k ≤ l.length) (hl : l.length ≤ 140737488355327) :
    Calls Tryz.prog 37 #[.string (st l), .int .i64 (k : Int)] w (RInt w (signS l k)) := by
  have hsz := st_size l
  obtain ⟨R, hR⟩ : ∃ R, signS l k = R := ⟨_, rfl⟩
  rw [hR]
  unfold signS at hR
  have hk0 : (0 : Int) ≤ (k : Int) := Int.natCast_nonneg _
  have hkl : (k : Int) ≤ 140737488355327 := by omega
  by_cases hlt : k < l.length
  · have hlt2 : k < (st l).size := by rw [hsz]; exact hlt
    have hlti : (k : Int) < (l.length : Int) := by omega
    have hg := bt_get l k hlt2
    obtain ⟨b, hb⟩ : ∃ b, bt l k = b := ⟨_, rfl⟩
    rw [hb] at hg hR
    by_cases h1 : b = 43
    · rw [if_pos ⟨hlt, .inl h1⟩] at hR
      have h1i : (b : Int) = 43 := by omega
      subst hR
      clear hk hl hlt hb h1
      go_enter Tryz.func37, Tryz.ntmps37
      go_wp2
      go_ret
      exact ⟨by simp [Int.natCast_add], rfl⟩
    · have h1i : ¬ (b : Int) = 43 := by omega
      by_cases h2 : b = 45
      · rw [if_pos ⟨hlt, .inr h2⟩] at hR
        have h2i : (b : Int) = 45 := by omega
        subst hR
        clear hk hl hlt hb h1 h2
        go_enter Tryz.func37, Tryz.ntmps37
        go_wp2
        go_ret
        exact ⟨by simp [Int.natCast_add], rfl⟩
      · rw [if_neg (by rintro ⟨-, h | h⟩; exact h1 h; exact h2 h)] at hR
        have h2i : ¬ (b : Int) = 45 := by omega
        have h1b : ((b : Int) == 43) = false := by simpa using h1i
        have h2b : ((b : Int) == 45) = false := by simpa using h2i
        subst hR
        clear hk hl hlt hb h1 h2
        go_enter Tryz.func37, Tryz.ntmps37
        go_wp2
        go_ret
        exact ⟨rfl, rfl⟩
  · rw [if_neg (fun h => hlt h.1)] at hR
    have hlti : ¬ (k : Int) < (l.length : Int) := by omega
    subst hR
    clear hk hl hlt
    go_enter Tryz.func37, Tryz.ntmps37
    go_wp2
    go_ret
    exact ⟨rfl, rfl⟩

set_option maxRecDepth 100000 in
set_option maxHeartbeats 4000000 in
theorem mant_any (w : World) (l : List UInt8) (k : Nat) (hk : k ≤ l.length) (hl : l.length ≤ 140737488355327) :
    Calls Tryz.prog 38 #[.string (st l), .int .i64 (k : Int)] w (RInt w (mantS l k)) := by
  have hsz := st_size l
  obtain ⟨R, hR⟩ : ∃ R, mantS l k = R := ⟨_, rfl⟩
  rw [hR]
  unfold mantS at hR
  have h1 := past_le dgB l k hk
  have HD1 := Hid_mk (digits_any w l k hk hl)
  obtain ⟨e, he⟩ : ∃ e, past dgB l k = e := ⟨_, rfl⟩
  rw [he] at hR h1 HD1
  have hk0 : (0 : Int) ≤ (k : Int) := Int.natCast_nonneg _
  have he0 : (0 : Int) ≤ (e : Int) := Int.natCast_nonneg _
  have hel : (e : Int) ≤ 140737488355327 := by omega
  have hkl : (k : Int) ≤ 140737488355327 := by omega
  clear he
  go_enter Tryz.func38, Tryz.ntmps38
  go_wp2_with fail
  with_reducible refine HD1.out.mono ?_
  rintro e1 w1 ⟨rfl, rfl⟩
  by_cases hlt : e < l.length
  · have hlt2 : e < (st l).size := by rw [hsz]; exact hlt
    have hnei : ¬ (e : Int) = (l.length : Int) := by omega
    have hlti : (e : Int) < (l.length : Int) := by omega
    have hg := bt_get l e hlt2
    have HD2 := Hid_mk (digits_any w l (e + 1) (by omega) hl)
    have h3 := past_le dgB l (e + 1) (by omega)
    obtain ⟨b, hb⟩ : ∃ b, bt l e = b := ⟨_, rfl⟩
    rw [hb] at hg hR
    by_cases h2 : b = 46
    · have h2i : (b : Int) = 46 := by omega
      rw [if_neg (by rintro (h | h); omega; exact h h2)] at hR
      obtain ⟨e2, he2⟩ : ∃ e2, past dgB l (e + 1) = e2 := ⟨_, rfl⟩
      rw [he2] at hR h3 HD2
      have HD2' : Hid (Calls Tryz.prog 48 #[.string (st l), .int .i64 ((e : Int) + 1)] w (RInt w e2)) := Hid_mk (by have h := HD2.out; rw [Int.natCast_add] at h; exact h)
      have HL3 := Hid_mk h3
      clear he2 hk hl hlt hb h1 h3 HD1 HD2
      go_wp2_with fail
      with_reducible refine HD2'.out.mono ?_
      rintro e3 w1 ⟨rfl, rfl⟩
      by_cases h4 : e2 = k + 1
      · rw [if_pos h4] at hR
        have h4i : (e2 : Int) = (k : Int) + 1 := by omega
        subst hR
        clear h2 h4 HD2'
        go_wp2
        go_ret
        exact ⟨rfl, rfl⟩
      · rw [if_neg h4] at hR
        have h4i : ¬ (e2 : Int) = (k : Int) + 1 := by omega
        subst hR
        clear h2 h4 HD2'
        go_wp2
        go_ret
        exact ⟨rfl, rfl⟩
    · have h2i : ¬ (b : Int) = 46 := by omega
      have h2b : ((b : Int) != 46) = true := by simpa using h2i
      rw [if_pos (.inr h2)] at hR
      subst hR
      clear hk hl hlt hb h1 h2 h3 HD1 HD2
      go_wp2
      go_ret
      exact ⟨rfl, rfl⟩
  · obtain rfl : e = l.length := by omega
    rw [if_pos (.inl rfl)] at hR
    subst hR
    clear hk hl hlt h1 HD1
    go_wp2
    go_ret
    exact ⟨rfl, rfl⟩

set_option maxRecDepth 100000 in
set_option maxHeartbeats 4000000 in
theorem exp_any (w : World) (l : List UInt8) (k : Nat) (hk : k ≤ l.length) (hl : l.length ≤ 140737488355327) :
    Calls Tryz.prog 39 #[.string (st l), .int .i64 (k : Int)] w (RInt w (expS l k)) := by
  have hsz := st_size l
  obtain ⟨R, hR⟩ : ∃ R, expS l k = R := ⟨_, rfl⟩
  rw [hR]
  unfold expS at hR
  have hk0 : (0 : Int) ≤ (k : Int) := Int.natCast_nonneg _
  have hkl : (k : Int) ≤ 140737488355327 := by omega
  go_enter Tryz.func39, Tryz.ntmps39
  by_cases hlt : k < l.length
  · have hlt2 : k < (st l).size := by rw [hsz]; exact hlt
    have hnei : ¬ (k : Int) = (l.length : Int) := by omega
    have hlti : (k : Int) < (l.length : Int) := by omega
    have hg := bt_get l k hlt2
    have h2 := sign_le (l := l) (k := k + 1) (by omega)
    have HS := Hid_mk (sign_any w l (k + 1) (by omega) hl)
    have HD := Hid_mk (digits_any w l (signS l (k + 1)) h2.2 hl)
    have h3 := past_le dgB l (signS l (k + 1)) h2.2
    obtain ⟨b, hb⟩ : ∃ b, bt l k = b := ⟨_, rfl⟩
    rw [hb] at hg hR
    obtain ⟨d, hd⟩ : ∃ d, signS l (k + 1) = d := ⟨_, rfl⟩
    rw [hd] at hR h2 h3 HS HD
    obtain ⟨e, he⟩ : ∃ e, past dgB l d = e := ⟨_, rfl⟩
    rw [he] at hR h3 HD
    have HS' : Hid (Calls Tryz.prog 37 #[.string (st l), .int .i64 ((k : Int) + 1)] w (RInt w d)) := Hid_mk (by have h := HS.out; rw [Int.natCast_add] at h; exact h)
    have hbc : (b = 101 ∨ b = 69) ∨ (b ≠ 101 ∧ b ≠ 69) := by omega
    clear hk hl hlt hb hd he HS h2 h3
    rcases hbc with hbc | ⟨h5, h6⟩
    · rw [if_neg (by rintro (h | h) <;> omega)] at hR
      have hb1 : (b : Int) = 101 ∨ (((b : Int) != 101) = true ∧ (b : Int) = 69) := by
        rcases hbc with h | h
        · exact .inl (by omega)
        · exact .inr ⟨by simp; omega, by omega⟩
      clear hbc
      rcases hb1 with h5 | ⟨h5, h6⟩
      all_goals
        go_wp2_with fail
        with_reducible refine HS'.out.mono ?_
        rintro e1 w1 ⟨rfl, rfl⟩
        go_wp2_with fail
        with_reducible refine HD.out.mono ?_
        rintro e1 w1 ⟨rfl, rfl⟩
        by_cases h4 : e = d
        · rw [if_pos h4] at hR
          have h4i : (e : Int) = (d : Int) := by omega
          subst hR
          clear h4 HS' HD
          go_wp2
          go_ret
          exact ⟨rfl, rfl⟩
        · rw [if_neg h4] at hR
          have h4i : ¬ (e : Int) = (d : Int) := by omega
          subst hR
          clear h4 HS' HD
          go_wp2
          go_ret
          exact ⟨rfl, rfl⟩
    · rw [if_pos (.inr ⟨h5, h6⟩)] at hR
      have h5i : ¬ (b : Int) = 101 := by omega
      have h6i : ¬ (b : Int) = 69 := by omega
      have h5b : ((b : Int) != 101) = true := by simpa using h5i
      have h6b : ((b : Int) != 69) = true := by simpa using h6i
      subst hR
      clear h5 h6 HS' HD
      go_wp2
      go_ret
      exact ⟨rfl, rfl⟩
  · obtain rfl : k = l.length := by omega
    rw [if_pos (.inl rfl)] at hR
    subst hR
    clear hk hl hlt
    go_wp2
    go_ret
    exact ⟨rfl, rfl⟩

set_option maxRecDepth 100000 in
set_option maxHeartbeats 4000000 in
theorem find_any (w : World) (l : List UInt8) (hl : l.length ≤ 140737488355327) :
    Calls Tryz.prog 23 #[.string (st l)] w fun e w' => e = .returned (.tuple #[.int .i64 ((findS l).1 : Int), .int .i64 ((findS l).2 : Int)]) ∧ w = w' := by
  have h1 := past_le blB l 0 (Nat.zero_le _)
  have h2 := sign_le h1.2
  have h3 := mant_le h2.2
  have HB : Hid (Calls Tryz.prog 27 #[.string (st l), .int .i64 0] w (RInt w (past blB l 0))) := Hid_mk (blanks_any w l 0 (Nat.zero_le _) hl)
  have HS := Hid_mk (sign_any w l _ h1.2 hl)
  have HM := Hid_mk (mant_any w l _ h2.2 hl)
  have HE := Hid_mk (exp_any w l _ h3.2 hl)
  obtain ⟨R, hR⟩ : ∃ R, findS l = R := ⟨_, rfl⟩
  rw [hR]
  unfold findS at hR
  obtain ⟨f, hf⟩ : ∃ f, past blB l 0 = f := ⟨_, rfl⟩
  rw [hf] at hR HB HS HM HE
  obtain ⟨g, hg⟩ : ∃ g, signS l f = g := ⟨_, rfl⟩
  rw [hg] at hR HS HM HE
  obtain ⟨m, hm⟩ : ∃ m, mantS l g = m := ⟨_, rfl⟩
  rw [hm] at hR HM HE
  obtain ⟨x, hx⟩ : ∃ x, expS l m = x := ⟨_, rfl⟩
  rw [hx] at hR HE
  clear h1 h2 h3 hf hg hm hx hl
  go_enter Tryz.func23, Tryz.ntmps23
  go_wp2_with fail
  with_reducible refine HB.out.mono ?_
  rintro e1 w1 ⟨rfl, rfl⟩
  go_wp2_with fail
  with_reducible refine HS.out.mono ?_
  rintro e1 w1 ⟨rfl, rfl⟩
  go_wp2_with fail
  with_reducible refine HM.out.mono ?_
  rintro e1 w1 ⟨rfl, rfl⟩
  by_cases h : m = g
  · rw [if_pos h] at hR
    have hi : (m : Int) = (g : Int) := by omega
    subst hR
    clear h HB HS HM HE
    go_wp2
    go_ret2
    exact ⟨rfl, rfl⟩
  · rw [if_neg h] at hR
    have hi : ¬ (m : Int) = (g : Int) := by omega
    subst hR
    clear h HB HS HM
    go_wp2_with fail
    with_reducible refine HE.out.mono ?_
    rintro e1 w1 ⟨rfl, rfl⟩
    go_wp2
    go_ret2
    exact ⟨rfl, rfl⟩

set_option maxRecDepth 100000 in
set_option maxHeartbeats 4000000 in
theorem looks_any (w : World) (l : List UInt8) (hl : l.length ≤ 140737488355327) :
    Calls Tryz.prog 11 #[.string (st l)] w fun e w' => e = .returned (.bool (looksS l)) ∧ w = w' := by
  have hsz := st_size l
  have h1 := (find_le l).2
  have HF := Hid_mk (find_any w l hl)
  have HB := Hid_mk (blanks_any w l _ h1 hl)
  obtain ⟨R, hR⟩ : ∃ R, looksS l = R := ⟨_, rfl⟩
  rw [hR]
  unfold looksS at hR
  obtain ⟨a, ha⟩ : ∃ a, (findS l).1 = a := ⟨_, rfl⟩
  obtain ⟨x, hx⟩ : ∃ x, (findS l).2 = x := ⟨_, rfl⟩
  rw [ha, hx] at HF
  rw [hx] at hR HB
  obtain ⟨y, hy⟩ : ∃ y, past blB l x = y := ⟨_, rfl⟩
  rw [hy] at hR HB
  clear h1 ha hx hy hl
  go_enter Tryz.func11, Tryz.ntmps11
  go_wp2_with fail
  with_reducible refine HF.out.mono ?_
  rintro e1 w1 ⟨rfl, rfl⟩
  by_cases h : 0 < x
  · have hi : (0 : Int) < (x : Int) := by omega
    rw [decide_eq_true h, Bool.true_and] at hR
    go_wp2_with fail
    with_reducible refine HB.out.mono ?_
    rintro e1 w1 ⟨rfl, rfl⟩
    by_cases h2 : y = l.length
    · rw [decide_eq_true h2] at hR
      have h2i : ((y : Int) == (l.length : Int)) = true := by simp; omega
      subst hR
      clear h h2 HF HB
      go_wp2
      go_ret
      exact ⟨rfl, rfl⟩
    · rw [decide_eq_false h2] at hR
      have h2i : ((y : Int) == (l.length : Int)) = false := by simp; omega
      subst hR
      clear h h2 HF HB
      go_wp2
      go_ret
      exact ⟨rfl, rfl⟩
  · have hi : ¬ (0 : Int) < (x : Int) := by omega
    rw [decide_eq_false h, Bool.false_and] at hR
    subst hR
    clear h HF HB
    go_wp2
    go_ret
    exact ⟨rfl, rfl⟩

end Go.Proofs.YtgnddabdjjkgiaaGreatDoor.nums

namespace Go.Proofs.YtgnddabdjjkgiaaGreatDoor.fmtf
open Go.RowKit Go.Proofs.YtgnddabdjjkgiaaGreatDoor.sum Go.Proofs.YtgnddabdjjkgiaaGreatDoor.kept Go.Proofs.YtgnddabdjjkgiaaGreatDoor.str Go.Proofs.YtgnddabdjjkgiaaGreatDoor.nums
set_option linter.unusedVariables false

/-- is the one less than a text, place by place? -/
def lexF (f : Nat → Nat) (nd : Nat) (s : List UInt8) : Nat → Nat → Bool
  | 0, _ => false
  | m + 1, i => if nd ≤ i then true else if f i = bt s i then lexF f nd s m (i + 1) else decide (f i < bt s i)
def lexS (f : Nat → Nat) (nd : Nat) (s : List UInt8) : Bool := lexF f nd s s.length 0

theorem drews (w : World) (m n : Nat) : ∃ k, (w.drewN m).drewN n = w.drewN k := ⟨m + n, by unfold World.drewN; simp [Nat.add_assoc]⟩

set_option maxRecDepth 100000 in
set_option maxHeartbeats 4000000 in
theorem prefix_any (w : World) (q nd c : Nat) (f : Nat → Nat) (s : List UInt8) (hc : ∀ i, i < nd → w.cell? ⟨q, i, none⟩ = some (.int .u8 (f i : Int))) (hnd : nd ≤ 800) (hcap : nd ≤ c) (hs : s.length ≤ 1000) :
    Calls Tryz.prog 133 #[.slice (some ⟨q, 0, none⟩) nd c, .string (st s)] w (QV w (.bool (lexS f nd s))) := by
  have hsz := st_size s
  obtain ⟨R, hR⟩ : ∃ R, lexS f nd s = R := ⟨_, rfl⟩
  rw [hR]
  have HR := Hid_mk hR
  have HC := Hid_mk hc
  have HS := Hid_mk hs
  have HN := Hid_mk hnd
  have hnd8 : (nd : Int) ≤ 800 := by omega
  have hndc : (nd : Int) ≤ (c : Int) := by omega
  have hnd0 : (0 : Int) ≤ (nd : Int) := Int.natCast_nonneg _
  clear hR hc hs hnd
  go_enter Tryz.func133, Tryz.ntmps133
  go_wp2_with fail
  go_loopw [5] (fun a wr => ∃ i m : Nat, a = .int .i64 (i : Int) ∧ i ≤ s.length ∧ lexF f nd s (s.length - i) i = R ∧ wr = w.drewN m) (fun a _ => s.length - (intOf a).toNat)
  case atStart => exact ⟨0, 0, rfl, Nat.zero_le _, HR.out, rfl⟩
  case round =>
    obtain ⟨i, m, rfl, hi, hl, hwr⟩ := hrel
    have HW := Hid_mk hwr
    have HI := Hid_mk hi
    have hi0 : (0 : Int) ≤ (i : Int) := Int.natCast_nonneg _
    have hil : (i : Int) ≤ 1000 := by have := HS.out; omega
    rcases Nat.lt_or_ge i s.length with hlt | hge
    · have hlt2 : i < (st s).size := by rw [hsz]; exact hlt
      have hlti : (i : Int) < (s.length : Int) := by omega
      have hg := bt_get s i hlt2
      rw [show s.length - i = (s.length - (i + 1)) + 1 by omega, lexF] at hl
      have HLt := Hid_mk hlt
      rcases Nat.lt_or_ge i nd with hin | hin
      · rw [if_neg (by omega)] at hl
        have hini : ¬ (nd : Int) ≤ (i : Int) := by omega
        have hini2 : (i : Int) < (nd : Int) := by omega
        have cd : wr.cell? ⟨q, i, none⟩ = some (.int .u8 (f i : Int)) := by rw [hwr]; exact ((Kp.refl No w).drewN m).cell' (HC.out i hin) id
        have hqs : q < wr.heap.size := World.block_lt_of_cell? wr _ cd
        obtain ⟨b, hb⟩ : ∃ b, bt s i = b := ⟨_, rfl⟩
        obtain ⟨x, hx⟩ : ∃ x, f i = x := ⟨_, rfl⟩
        rw [hb] at hg hl
        rw [hx] at cd hl
        have HB := Hid_mk hb
        have HX := Hid_mk hx
        by_cases e : x = b
        · rw [if_pos e] at hl
          have ei : ((x : Int) != (b : Int)) = false := by simp; omega
          have HL := Hid_mk hl
          clear hl hi hlt hin hb hx e hwr
          go_wp2_with fail
          go_quiet (fail)
          go_wp2
          go_roundw
          case rel => obtain ⟨m2, hm2⟩ := drews w m nq; exact ⟨i + 1, m2, by go_num, HLt.out, HL.out, by rw [HW.out, hm2]⟩
          case measure => have := HLt.out; simp [intOf]; omega
        · rw [if_neg e] at hl
          have ei : ((x : Int) != (b : Int)) = true := by simp; omega
          have el : decide (x < b) = R := hl
          have HL := Hid_mk el
          clear hl hi hlt hin hb hx e el hwr
          go_wp2_with fail
          go_quiet (fail)
          go_wp2_with fail
          obtain ⟨W2, hW2⟩ : ∃ W2, wr.drewN nq = W2 := ⟨_, rfl⟩
          rw [hW2]
          have HW2 : Hid (∃ m2, W2 = w.drewN m2) := Hid_mk (by obtain ⟨m2, hm2⟩ := drews w m nq; exact ⟨m2, by rw [← hW2, HW.out, hm2]⟩)
          have cd2 : W2.cell? ⟨q, i, none⟩ = some (.int .u8 (x : Int)) := by rw [← hW2]; exact ((Kp.refl No wr).drewN nq).cell' cd id
          have hqs2 : q < W2.heap.size := World.block_lt_of_cell? W2 _ cd2
          clear hW2
          go_quiet (fail)
          go_wp2
          go_ret
          obtain ⟨m2, hm2⟩ := HW2.out
          obtain ⟨m3, hm3⟩ := drews w m2 nq
          exact ⟨by rw [HL.out]; rfl, m3, by rw [hm2, hm3]⟩
      · rw [if_pos hin] at hl
        have hini : (nd : Int) ≤ (i : Int) := by omega
        have HL := Hid_mk hl
        clear hl hi hlt hin hwr
        go_wp2
        go_ret
        exact ⟨by rw [← HL.out]; rfl, m, HW.out⟩
    · obtain rfl : i = s.length := by omega
      have hlti : ¬ (s.length : Int) < (s.length : Int) := by omega
      rw [Nat.sub_self, lexF] at hl
      have HL := Hid_mk hl
      clear hl hi hge hwr
      go_wp2
      go_ret
      exact ⟨by rw [← HL.out]; rfl, m, HW.out⟩

end Go.Proofs.YtgnddabdjjkgiaaGreatDoor.fmtf

namespace Go.Proofs.YtgnddabdjjkgiaaGreatDoor.fmtf
open Go.RowKit Go.Proofs.YtgnddabdjjkgiaaGreatDoor.sum Go.Proofs.YtgnddabdjjkgiaaGreatDoor.kept Go.Proofs.YtgnddabdjjkgiaaGreatDoor.str Go.Proofs.YtgnddabdjjkgiaaGreatDoor.nums
set_option linter.unusedVariables false

theorem val_bd {f : Nat → Nat} {n : Nat} (h : DgF f n) {i : Nat} : ∀ {m : Nat}, i + m ≤ n → valF f i * 10 ^ m ≤ valF f (i + m) ∧ valF f (i + m) < (valF f i + 1) * 10 ^ m
  | 0, _ => by simp
  | m + 1, hm => by
    obtain ⟨a, b⟩ := val_bd h (i := i) (m := m) (by omega)
    have hd := h (i + m) (by omega)
    show _ ≤ valF f (i + m + 1) ∧ valF f (i + m + 1) < _
    rw [valF, Nat.pow_succ, ← Nat.mul_assoc, ← Nat.mul_assoc]
    omega
/-- what a text of the table is -/
structure Cheat (k dl : Nat) (s : List UInt8) : Prop where
  dg : DgF (bt s) s.length
  pos : 0 < s.length
  last : 48 < bt s (s.length - 1)
  val : valF (bt s) s.length = 5 ^ k
  sum : dl + s.length = k + 1
  low : 10 ^ (dl - 1) ≤ 2 ^ k
  high : 2 ^ k < 10 ^ dl
  one : 1 ≤ dl
def cheatB (k dl : Nat) (s : List UInt8) : Bool :=
  ((List.range s.length).all fun i => decide (48 ≤ bt s i) && decide (bt s i ≤ 57)) && decide (0 < s.length) && decide (48 < bt s (s.length - 1)) && decide (valF (bt s) s.length = 5 ^ k) && decide (dl + s.length = k + 1) && decide (10 ^ (dl - 1) ≤ 2 ^ k) && decide (2 ^ k < 10 ^ dl) && decide (1 ≤ dl)
theorem cheat_of {k dl : Nat} {s : List UInt8} (h : cheatB k dl s = true) : Cheat k dl s := by
  unfold cheatB at h
  simp only [Bool.and_eq_true, decide_eq_true_eq, List.all_eq_true, List.mem_range] at h
  obtain ⟨⟨⟨⟨⟨⟨⟨h1, h2⟩, h3⟩, h4⟩, h5⟩, h6⟩, h7⟩, h8⟩ := h
  exact ⟨h1, h2, h3, h4, h5, h6, h7, h8⟩
theorem lex_iff {f : Nat → Nat} {nd : Nat} {s : List UInt8} (hf : DgF f nd) (hc : DgF (bt s) s.length) (hl : 48 < bt s (s.length - 1)) : ∀ (m i : Nat), m + i = s.length → i ≤ nd → valF f i = valF (bt s) i →
    (lexF f nd s m i = true ↔ valF f nd * 10 ^ s.length < valF (bt s) s.length * 10 ^ nd)
  | 0, i, hm, hi, hv => by
    obtain rfl : i = s.length := by omega
    obtain ⟨a, b⟩ := val_bd hf (i := s.length) (m := nd - s.length) (by omega)
    rw [show s.length + (nd - s.length) = nd by omega, hv] at a
    rw [lexF]
    constructor
    · intro h; cases h
    · intro h
      exfalso
      have h2 := Nat.mul_le_mul_right (10 ^ s.length) a
      rw [Nat.mul_assoc, ← Nat.pow_add, show nd - s.length + s.length = nd by omega] at h2
      omega
  | m + 1, i, hm, hi, hv => by
    rw [lexF]
    by_cases h1 : nd ≤ i
    · rw [if_pos h1]
      obtain rfl : i = nd := by omega
      refine ⟨fun _ => ?_, fun _ => rfl⟩
      obtain ⟨a, b⟩ := val_bd hc (i := i) (m := s.length - 1 - i) (by omega)
      rw [show i + (s.length - 1 - i) = s.length - 1 by omega] at a
      have hlast : valF (bt s) s.length = 10 * valF (bt s) (s.length - 1) + (bt s (s.length - 1) - 48) := by
        rw [show s.length = (s.length - 1) + 1 by omega, valF, Nat.add_sub_cancel]
      have h2 : valF (bt s) i * 10 ^ (s.length - i) < valF (bt s) s.length := by
        rw [show s.length - i = (s.length - 1 - i) + 1 by omega, Nat.pow_succ, ← Nat.mul_assoc, hlast]
        omega
      have h3 := Nat.mul_lt_mul_of_pos_right h2 (show 0 < 10 ^ i from Nat.pow_pos (by omega))
      rw [Nat.mul_assoc, ← Nat.pow_add, show s.length - i + i = s.length by omega] at h3
      rw [hv]
      exact h3
    · rw [if_neg h1]
      have hfi := hf i (by omega)
      have hci := hc i (by omega)
      by_cases h2 : f i = bt s i
      · rw [if_pos h2]
        exact lex_iff hf hc hl m (i + 1) (by omega) (by omega) (by rw [valF, valF, hv, h2])
      · rw [if_neg h2, decide_eq_true_eq]
        obtain ⟨a1, b1⟩ := val_bd hf (i := i + 1) (m := nd - (i + 1)) (by omega)
        obtain ⟨a2, b2⟩ := val_bd hc (i := i + 1) (m := s.length - (i + 1)) (by omega)
        rw [show i + 1 + (nd - (i + 1)) = nd by omega] at a1 b1
        rw [show i + 1 + (s.length - (i + 1)) = s.length by omega] at a2 b2
        rw [valF] at a1 b1 a2 b2
        rw [hv] at a1 b1
        have hp1 : 10 ^ nd = 10 ^ (nd - (i + 1)) * 10 ^ (i + 1) := by rw [← Nat.pow_add]; congr 1; omega
        have hp2 : 10 ^ s.length = 10 ^ (s.length - (i + 1)) * 10 ^ (i + 1) := by rw [← Nat.pow_add]; congr 1; omega
        generalize valF (bt s) i = v at *
        generalize valF f nd = V at *
        generalize valF (bt s) s.length = C at *
        have q1 : 0 < 10 ^ (nd - (i + 1)) := Nat.pow_pos (by omega)
        have q2 : 0 < 10 ^ (s.length - (i + 1)) := Nat.pow_pos (by omega)
        have q3 : 0 < 10 ^ (i + 1) := Nat.pow_pos (by omega)
        rw [hp1, hp2]
        generalize 10 ^ (nd - (i + 1)) = A at *
        generalize 10 ^ (s.length - (i + 1)) = B at *
        generalize 10 ^ (i + 1) = E at *
        constructor
        · intro h3
          have h4 : (10 * v + (f i - 48) + 1) * A ≤ (10 * v + (bt s i - 48)) * A := Nat.mul_le_mul_right _ (by omega)
          have h5 : V < (10 * v + (bt s i - 48)) * A := Nat.lt_of_lt_of_le b1 h4
          have h6 : V * B < (10 * v + (bt s i - 48)) * A * B := Nat.mul_lt_mul_of_pos_right h5 q2
          have h7 : (10 * v + (bt s i - 48)) * B * A ≤ C * A := Nat.mul_le_mul_right _ a2
          have h8 : V * B < C * A := by
            rw [Nat.mul_right_comm] at h6
            omega
          rw [← Nat.mul_assoc, ← Nat.mul_assoc]
          exact Nat.mul_lt_mul_of_pos_right h8 q3
        · intro h3
          rw [← Nat.mul_assoc, ← Nat.mul_assoc] at h3
          have h8 := Nat.lt_of_mul_lt_mul_right h3
          rcases Nat.lt_or_ge (f i) (bt s i) with h9 | h9
          · exact h9
          · exfalso
            have h4 : (10 * v + (bt s i - 48) + 1) * A ≤ (10 * v + (f i - 48)) * A := Nat.mul_le_mul_right _ (by omega)
            have h5 : (10 * v + (bt s i - 48) + 1) * A ≤ V := Nat.le_trans h4 a1
            have h6 := Nat.mul_le_mul_right B h5
            have h7 := Nat.mul_lt_mul_of_pos_right b2 q1
            rw [Nat.mul_right_comm] at h6
            omega
/-- how long a shifted number is -/
theorem cheat_bd {k dl : Nat} {s : List UInt8} (hc : Cheat k dl s) {f : Nat → Nat} {nd : Nat} (hf : DgF f nd) (hnd : 0 < nd) (h0 : 10 ^ (nd - 1) ≤ valF f nd) :
    (if lexS f nd s = true then valF f nd * 2 ^ k < 10 ^ (nd + (dl - 1)) ∧ 10 ^ (nd + (dl - 1) - 1) ≤ valF f nd * 2 ^ k else valF f nd * 2 ^ k < 10 ^ (nd + dl) ∧ 10 ^ (nd + dl - 1) ≤ valF f nd * 2 ^ k) := by
  have hi := lex_iff hf hc.dg hc.last s.length 0 (by omega) (by omega) (by rw [valF, valF])
  have hlt := valF_lt hf
  rw [hc.val] at hi
  have h10 : (10 : Nat) ^ k = 2 ^ k * 5 ^ k := by rw [← Nat.mul_pow]
  have hsum := hc.sum
  have hone := hc.one
  have hpos := hc.pos
  have hlow := hc.low
  have hhigh := hc.high
  unfold lexS
  generalize valF f nd = V at *
  split
  · rename_i h
    have h1 := hi.1 h
    constructor
    · have h2 := Nat.mul_lt_mul_of_pos_right h1 (show 0 < 2 ^ k from Nat.pow_pos (by omega))
      rw [Nat.mul_right_comm, Nat.mul_right_comm (5 ^ k), Nat.mul_comm (5 ^ k), ← h10, ← Nat.pow_add, show k + nd = nd + (dl - 1) + s.length by omega, Nat.pow_add] at h2
      exact Nat.lt_of_mul_lt_mul_right h2
    · have h2 := Nat.mul_le_mul h0 hlow
      rw [← Nat.pow_add] at h2
      rw [show nd + (dl - 1) - 1 = nd - 1 + (dl - 1) by omega]
      exact h2
  · rename_i h
    have h1 : ¬ V * 10 ^ s.length < 5 ^ k * 10 ^ nd := fun h9 => h (hi.2 h9)
    constructor
    · have h2 := Nat.mul_lt_mul_of_lt_of_lt hlt hhigh
      rw [← Nat.pow_add] at h2
      exact h2
    · have h2 := Nat.mul_le_mul_right (2 ^ k) (Nat.not_lt.1 h1)
      rw [Nat.mul_right_comm, Nat.mul_right_comm V, Nat.mul_comm (5 ^ k), ← h10, ← Nat.pow_add, show k + nd = nd + dl - 1 + s.length by omega, Nat.pow_add] at h2
      exact Nat.le_of_mul_le_mul_right h2 (Nat.pow_pos (by omega))

end Go.Proofs.YtgnddabdjjkgiaaGreatDoor.fmtf
