/- The library's decimals: a shift to the left. Decimals: by how many digits a shift makes a number longer. -/
import Derived.Test.YtgnddabdjjkgiaaGreatDoorRdExpM
import Derived.Test.YtgnddabdjjkgiaaGreatDoorRow0M

namespace Go.Proofs.YtgnddabdjjkgiaaGreatDoor.fmtf
open Go.RowKit Go.Proofs.YtgnddabdjjkgiaaGreatDoor.sum Go.Proofs.YtgnddabdjjkgiaaGreatDoor.kept Go.Proofs.YtgnddabdjjkgiaaGreatDoor.str Go.Proofs.YtgnddabdjjkgiaaGreatDoor.nums
set_option linter.unusedVariables false

/-- is the one less than a text, place by place? -/
def lexF (f : Nat → Nat) (nd : Nat) (s : List UInt8) : Nat → Nat → Bool
  | 0, _ => false
  | m + 1, i => if nd ≤ i then true else if f i = bt s i then lexF f nd s m (i + 1) else decide (f i < bt s i)
def lexS (f : Nat → Nat) (nd : Nat) (s : List UInt8) : Bool := lexF f nd s s.length 0

theorem drews (w : World) (m n : Nat) : ∃ k, (w.drewN m).drewN n = w.drewN k := ⟨m + n, by unfold World.drewN; simp [Nat.add_assoc]⟩

set_option maxRecDepth 100000 in
set_option maxHeartbeats 4000000 in
theorem prefix_any (w : World) (q nd c : Nat) (f : Nat → Nat) (s : List UInt8) (hc : ∀ i, i < nd → w.cell? ⟨q, i, none⟩ = some (.int .u8 (f i : Int))) (hnd : nd ≤ 800) (hcap : nd ≤ c) (hs : s.length ≤ 1000) :
    Calls Tryz.prog 133 #[.slice (some ⟨q, 0, none⟩) nd c, .string (st s)] w (QV w (.bool (lexS f nd s))) := by
  have hsz := st_size s
  obtain ⟨R, hR⟩ : ∃ R, lexS f nd s = R := ⟨_, rfl⟩
  rw [hR]
  have HR := Hid_mk hR
  have HC := Hid_mk hc
  have HS := Hid_mk hs
  have HN := Hid_mk hnd
  have hnd8 : (nd : Int) ≤ 800 := by omega
  have hndc : (nd : Int) ≤ (c : Int) := by omega
  have hnd0 : (0 : Int) ≤ (nd : Int) := Int.natCast_nonneg _
  clear hR hc hs hnd
  go_enter Tryz.func133, Tryz.ntmps133
  go_wp2_with fail
  go_loopw [5] (fun a wr => ∃ i m : Nat, a = .int .i64 (i : Int) ∧ i ≤ s.length ∧ lexF f nd s (s.length - i) i = R ∧ wr = w.drewN m) (fun a _ => s.length - (intOf a).toNat)
  case atStart => exact ⟨0, 0, rfl, Nat.zero_le _, HR.out, rfl⟩
  case round =>
    obtain ⟨i, m, rfl, hi, hl, hwr⟩ := hrel
    have HW := Hid_mk hwr
    have HI := Hid_mk hi
    have hi0 : (0 : Int) ≤ (i : Int) := Int.natCast_nonneg _
    have hil : (i : Int) ≤ 1000 := by have := HS.out; omega
    rcases Nat.lt_or_ge i s.length with hlt | hge
    · have hlt2 : i < (st s).size := by rw [hsz]; exact hlt
      have hlti : (i : Int) < (s.length : Int) := by omega
      have hg := bt_get s i hlt2
      rw [show s.length - i = (s.length - (i + 1)) + 1 by omega, lexF] at hl
      have HLt := Hid_mk hlt
      rcases Nat.lt_or_ge i nd with hin | hin
      · rw [if_neg (by omega)] at hl
        have hini : ¬ (nd : Int) ≤ (i : Int) := by omega
        have hini2 : (i : Int) < (nd : Int) := by omega
        have cd : wr.cell? ⟨q, i, none⟩ = some (.int .u8 (f i : Int)) := by rw [hwr]; exact ((Kp.refl No w).drewN m).cell' (HC.out i hin) id
        have hqs : q < wr.heap.size := World.block_lt_of_cell? wr _ cd
        obtain ⟨b, hb⟩ : ∃ b, bt s i = b := ⟨_, rfl⟩
        obtain ⟨x, hx⟩ : ∃ x, f i = x := ⟨_, rfl⟩
        rw [hb] at hg hl
        rw [hx] at cd hl
        have HB := Hid_mk hb
        have HX := Hid_mk hx
        by_cases e : x = b
        · rw [if_pos e] at hl
          have ei : ((x : Int) != (b : Int)) = false := by simp; omega
          have HL := Hid_mk hl
          clear hl hi hlt hin hb hx e hwr
          go_wp2_with fail
          go_quiet (fail)
          go_wp2
          go_roundw
          case rel => obtain ⟨m2, hm2⟩ := drews w m nq; exact ⟨i + 1, m2, by go_num, HLt.out, HL.out, by rw [HW.out, hm2]⟩
          case measure => have := HLt.out; simp [intOf]; omega
        · rw [if_neg e] at hl
          have ei : ((x : Int) != (b : Int)) = true := by simp; omega
          have el : decide (x < b) = R := hl
          have HL := Hid_mk el
          clear hl hi hlt hin hb hx e el hwr
          go_wp2_with fail
          go_quiet (fail)
          go_wp2_with fail
          obtain ⟨W2, hW2⟩ : ∃ W2, wr.drewN nq = W2 := ⟨_, rfl⟩
          rw [hW2]
          have HW2 : Hid (∃ m2, W2 = w.drewN m2) := Hid_mk (by obtain ⟨m2, hm2⟩ := drews w m nq; exact ⟨m2, by rw [← hW2, HW.out, hm2]⟩)
          have cd2 : W2.cell? ⟨q, i, none⟩ = some (.int .u8 (x : Int)) := by rw [← hW2]; exact ((Kp.refl No wr).drewN nq).cell' cd id
          have hqs2 : q < W2.heap.size := World.block_lt_of_cell? W2 _ cd2
          clear hW2
          go_quiet (fail)
          go_wp2
          go_ret
          obtain ⟨m2, hm2⟩ := HW2.out
          obtain ⟨m3, hm3⟩ := drews w m2 nq
          exact ⟨by rw [HL.out]; rfl, m3, by rw [hm2, hm3]⟩
      · rw [if_pos hin] at hl
        have hini : (nd : Int) ≤ (i : Int) := by omega
        have HL := Hid_mk hl
        clear hl hi hlt hin hwr
        go_wp2
        go_ret
        exact ⟨by rw [← HL.out]; rfl, m, HW.out⟩
    · obtain rfl : i = s.length := by omega
      have hlti : ¬ (s.length : Int) < (s.length : Int) := by omega
      rw [Nat.sub_self, lexF] at hl
      have HL := Hid_mk hl
      clear hl hi hge hwr
      go_wp2
      go_ret
      exact ⟨by rw [← HL.out]; rfl, m, HW.out⟩

end Go.Proofs.YtgnddabdjjkgiaaGreatDoor.fmtf

namespace Go.Proofs.YtgnddabdjjkgiaaGreatDoor.fmtf
open Go.RowKit Go.Proofs.YtgnddabdjjkgiaaGreatDoor.sum Go.Proofs.YtgnddabdjjkgiaaGreatDoor.kept Go.Proofs.YtgnddabdjjkgiaaGreatDoor.str Go.Proofs.YtgnddabdjjkgiaaGreatDoor.nums
set_option linter.unusedVariables false

theorem val_bd {f : Nat → Nat} {n : Nat} (h : DgF f n) {i : Nat} : ∀ {m : Nat}, i + m ≤ n → valF f i * 10 ^ m ≤ valF f (i + m) ∧ valF f (i + m) < (valF f i + 1) * 10 ^ m
  | 0, _ => by simp
  | m + 1, hm => by
    obtain ⟨a, b⟩ := val_bd h (i := i) (m := m) (by omega)
    have hd := h (i + m) (by omega)
    show _ ≤ valF f (i + m + 1) ∧ valF f (i + m + 1) < _
    rw [valF, Nat.pow_succ, ← Nat.mul_assoc, ← Nat.mul_assoc]
    omega
/-- what a text of the table is -/
structure Cheat (k dl : Nat) (s : List UInt8) : Prop where
  dg : DgF (bt s) s.length
  pos : 0 < s.length
  last : 48 < bt s (s.length - 1)
  val : valF (bt s) s.length = 5 ^ k
  sum : dl + s.length = k + 1
  low : 10 ^ (dl - 1) ≤ 2 ^ k
  high : 2 ^ k < 10 ^ dl
  one : 1 ≤ dl
def cheatB (k dl : Nat) (s : List UInt8) : Bool :=
  ((List.range s.length).all fun i => decide (48 ≤ bt s i) && decide (bt s i ≤ 57)) && decide (0 < s.length) && decide (48 < bt s (s.length - 1)) && decide (valF (bt s) s.length = 5 ^ k) && decide (dl + s.length = k + 1) && decide (10 ^ (dl - 1) ≤ 2 ^ k) && decide (2 ^ k < 10 ^ dl) && decide (1 ≤ dl)
theorem cheat_of {k dl : Nat} {s : List UInt8} (h : cheatB k dl s = true) : Cheat k dl s := by
  unfold cheatB at h
  simp only [Bool.and_eq_true, decide_eq_true_eq, List.all_eq_true, List.mem_range] at h
  obtain ⟨⟨⟨⟨⟨⟨⟨h1, h2⟩, h3⟩, h4⟩, h5⟩, h6⟩, h7⟩, h8⟩ := h
  exact ⟨h1, h2, h3, h4, h5, h6, h7, h8⟩
theorem lex_iff {f : Nat → Nat} {nd : Nat} {s : List UInt8} (hf : DgF f nd) (hc : DgF (bt s) s.length) (hl : 48 < bt s (s.length - 1)) : ∀ (m i : Nat), m + i = s.length → i ≤ nd → valF f i = valF (bt s) i →
    (lexF f nd s m i = true ↔ valF f nd * 10 ^ s.length < valF (bt s) s.length * 10 ^ nd)
  | 0, i, hm, hi, hv => by
    obtain rfl : i = s.length := by omega
    obtain ⟨a, b⟩ := val_bd hf (i := s.length) (m := nd - s.length) (by omega)
    rw [show s.length + (nd - s.length) = nd by omega, hv] at a
    rw [lexF]
    constructor
    · intro h; cases h
    · intro h
      exfalso
      have h2 := Nat.mul_le_mul_right (10 ^ s.length) a
      rw [Nat.mul_assoc, ← Nat.pow_add, show nd - s.length + s.length = nd by omega] at h2
      omega
  | m + 1, i, hm, hi, hv => by
    rw [lexF]
    by_cases h1 : nd ≤ i
    · rw [if_pos h1]
      obtain rfl : i = nd := by omega
      refine ⟨fun _ => ?_, fun _ => rfl⟩
      obtain ⟨a, b⟩ := val_bd hc (i := i) (m := s.length - 1 - i) (by omega)
      rw [show i + (s.length - 1 - i) = s.length - 1 by omega] at a
      have hlast : valF (bt s) s.length = 10 * valF (bt s) (s.length - 1) + (bt s (s.length - 1) - 48) := by
        rw [show s.length = (s.length - 1) + 1 by omega, valF, Nat.add_sub_cancel]
      have h2 : valF (bt s) i * 10 ^ (s.length - i) < valF (bt s) s.length := by
        rw [show s.length - i = (s.length - 1 - i) + 1 by omega, Nat.pow_succ, ← Nat.mul_assoc, hlast]
        omega
      have h3 := Nat.mul_lt_mul_of_pos_right h2 (show 0 < 10 ^ i from Nat.pow_pos (by omega))
      rw [Nat.mul_assoc, ← Nat.pow_add, show s.length - i + i = s.length by omega] at h3
      rw [hv]
      exact h3
    · rw [if_neg h1]
      have hfi := hf i (by omega)
      have hci := hc i (by omega)
      by_cases h2 : f i = bt s i
      · rw [if_pos h2]
        exact lex_iff hf hc hl m (i + 1) (by omega) (by omega) (by rw [valF, valF, hv, h2])
      · rw [if_neg h2, decide_eq_true_eq]
        obtain ⟨a1, b1⟩ := val_bd hf (i := i + 1) (m := nd - (i + 1)) (by omega)
        obtain ⟨a2, b2⟩ := val_bd hc (i := i + 1) (m := s.length - (i + 1)) (by omega)
        rw [show i + 1 + (nd - (i + 1)) = nd by omega] at a1 b1
        rw [show i + 1 + (s.length - (i + 1)) = s.length by omega] at a2 b2
        rw [valF] at a1 b1 a2 b2
        rw [hv] at a1 b1
        have hp1 : 10 ^ nd = 10 ^ (nd - (i + 1)) * 10 ^ (i + 1) := by rw [← Nat.pow_add]; congr 1; omega
        have hp2 : 10 ^ s.length = 10 ^ (s.length - (i + 1)) * 10 ^ (i + 1) := by rw [← Nat.pow_add]; congr 1; omega
        generalize valF (bt s) i = v at *
        generalize valF f nd = V at *
        generalize valF (bt s) s.length = C at *
        have q1 : 0 < 10 ^ (nd - (i + 1)) := Nat.pow_pos (by omega)
        have q2 : 0 < 10 ^ (s.length - (i + 1)) := Nat.pow_pos (by omega)
        have q3 : 0 < 10 ^ (i + 1) := Nat.pow_pos (by omega)
        rw [hp1, hp2]
        generalize 10 ^ (nd - (i + 1)) = A at *
        generalize 10 ^ (s.length - (i + 1)) = B at *
        generalize 10 ^ (i + 1) = E at *
        constructor
        · intro h3
          have h4 : (10 * v + (f i - 48) + 1) * A ≤ (10 * v + (bt s i - 48)) * A := Nat.mul_le_mul_right _ (by omega)
          have h5 : V < (10 * v + (bt s i - 48)) * A := Nat.lt_of_lt_of_le b1 h4
          have h6 : V * B < (10 * v + (bt s i - 48)) * A * B := Nat.mul_lt_mul_of_pos_right h5 q2
          have h7 : (10 * v + (bt s i - 48)) * B * A ≤ C * A := Nat.mul_le_mul_right _ a2
          have h8 : V * B < C * A := by
            rw [Nat.mul_right_comm] at h6
            omega
          rw [← Nat.mul_assoc, ← Nat.mul_assoc]
          exact Nat.mul_lt_mul_of_pos_right h8 q3
        · intro h3
          rw [← Nat.mul_assoc, ← Nat.mul_assoc] at h3
          have h8 := Nat.lt_of_mul_lt_mul_right h3
          rcases Nat.lt_or_ge (f i) (bt s i) with h9 | h9
          · exact h9
          · exfalso
            have h4 : (10 * v + (bt s i - 48) + 1) * A ≤ (10 * v + (f i - 48)) * A := Nat.mul_le_mul_right _ (by omega)
            have h5 : (10 * v + (bt s i - 48) + 1) * A ≤ V := Nat.le_trans h4 a1
            have h6 := Nat.mul_le_mul_right B h5
            have h7 := Nat.mul_lt_mul_of_pos_right b2 q1
            rw [Nat.mul_right_comm] at h6
            omega
/-- how long a shifted number is -/
theorem cheat_bd {k dl : Nat} {s : List UInt8} (hc : Cheat k dl s) {f : Nat → Nat} {nd : Nat} (hf : DgF f nd) (hnd : 0 < nd) (h0 : 10 ^ (nd - 1) ≤ valF f nd) :
    (if lexS f nd s = true then valF f nd * 2 ^ k < 10 ^ (nd + (dl - 1)) ∧ 10 ^ (nd + (dl - 1) - 1) ≤ valF f nd * 2 ^ k else valF f nd * 2 ^ k < 10 ^ (nd + dl) ∧ 10 ^ (nd + dl - 1) ≤ valF f nd * 2 ^ k) := by
  have hi := lex_iff hf hc.dg hc.last s.length 0 (by omega) (by omega) (by rw [valF, valF])
  have hlt := valF_lt hf
  rw [hc.val] at hi
  have h10 : (10 : Nat) ^ k = 2 ^ k * 5 ^ k := by rw [← Nat.mul_pow]
  have hsum := hc.sum
  have hone := hc.one
  have hpos := hc.pos
  have hlow := hc.low
  have hhigh := hc.high
  unfold lexS
  generalize valF f nd = V at *
  split
  · rename_i h
    have h1 := hi.1 h
    constructor
    · have h2 := Nat.mul_lt_mul_of_pos_right h1 (show 0 < 2 ^ k from Nat.pow_pos (by omega))
      rw [Nat.mul_right_comm, Nat.mul_right_comm (5 ^ k), Nat.mul_comm (5 ^ k), ← h10, ← Nat.pow_add, show k + nd = nd + (dl - 1) + s.length by omega, Nat.pow_add] at h2
      exact Nat.lt_of_mul_lt_mul_right h2
    · have h2 := Nat.mul_le_mul h0 hlow
      rw [← Nat.pow_add] at h2
      rw [show nd + (dl - 1) - 1 = nd - 1 + (dl - 1) by omega]
      exact h2
  · rename_i h
    have h1 : ¬ V * 10 ^ s.length < 5 ^ k * 10 ^ nd := fun h9 => h (hi.2 h9)
    constructor
    · have h2 := Nat.mul_lt_mul_of_lt_of_lt hlt hhigh
      rw [← Nat.pow_add] at h2
      exact h2
    · have h2 := Nat.mul_le_mul_right (2 ^ k) (Nat.not_lt.1 h1)
      rw [Nat.mul_right_comm, Nat.mul_right_comm V, Nat.mul_comm (5 ^ k), ← h10, ← Nat.pow_add, show k + nd = nd + dl - 1 + s.length by omega, Nat.pow_add] at h2
      exact Nat.le_of_mul_le_mul_right h2 (Nat.pow_pos (by omega))

end Go.Proofs.YtgnddabdjjkgiaaGreatDoor.fmtf
