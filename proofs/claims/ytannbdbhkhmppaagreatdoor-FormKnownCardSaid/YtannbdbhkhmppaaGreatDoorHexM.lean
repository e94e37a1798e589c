/- A number's hexadecimal digits, as strconv writes them: plain lists, and formatBits at 16. Cuts of a slice of bytes. strconv's formatBits at base 16. A number's octal digits, as strconv writes them: plain lists, and formatBits at 8. strconv's formatBits at base 8. Package printf: digits of another base; a number's size; %f. Package printf: a conversion's text is put out, filled up to its width. -/
import Derived.Test.YtannbdbhkhmppaaGreatDoorRow0M
import Derived.Laws.BitsAllLaws
import Derived.OwnWalk
import Derived.RegionTactic
import Derived.IntWalk
import Derived.Test.YtannbdbhkhmppaaGreatDoorPfTell2
import Derived.Test.YtannbdbhkhmppaaGreatDoorPfNumM

namespace Go.Proofs.YtannbdbhkhmppaaGreatDoor.hex
open Go.RowKit Go.Proofs.YtannbdbhkhmppaaGreatDoor.sum Go.Proofs.YtannbdbhkhmppaaGreatDoor.kept Go.Proofs.YtannbdbhkhmppaaGreatDoor.app Go.Proofs.YtannbdbhkhmppaaGreatDoor.writer Go.Proofs.YtannbdbhkhmppaaGreatDoor.known
set_option linter.unusedVariables false

def hexd (d : Nat) : UInt8 := if d < 10 then (48 + d).toUInt8 else (87 + d).toUInt8
def hexs (n : Nat) : List UInt8 := if h : n < 16 then [hexd n] else hexs (n / 16) ++ [hexd (n % 16)]
termination_by n
decreasing_by omega

theorem hexs_small {n : Nat} (h : n < 16) : hexs n = [hexd n] := by rw [hexs]; simp [h]
theorem hexs_big {n : Nat} (h : ¬ n < 16) : hexs n = hexs (n / 16) ++ [hexd (n % 16)] := by rw [hexs]; simp [h]
theorem hexs_len (n k : Nat) (hk : n < 16 ^ k) (h1 : 0 < k) : (hexs n).length ≤ k := by
  induction k generalizing n with
  | zero => omega
  | succ k ih =>
    by_cases h : n < 16
    · rw [hexs_small h]; simp
    · rw [hexs_big h, List.length_append]
      have hk0 : 0 < k := by
        rcases Nat.eq_zero_or_pos k with rfl | h2
        · simp at hk; omega
        · exact h2
      have := ih (n / 16) (by rw [Nat.pow_succ] at hk; omega) hk0
      simp; omega
theorem hexs_pos (n : Nat) : 0 < (hexs n).length := by
  by_cases h : n < 16
  · rw [hexs_small h]; simp
  · rw [hexs_big h]; simp

def digits : ByteArray := ⟨#[48, 49, 50, 51, 52, 53, 54, 55, 56, 57, 97, 98, 99, 100, 101, 102, 103, 104, 105, 106, 107, 108, 109, 110, 111, 112, 113, 114, 115, 116, 117, 118, 119, 120, 121, 122]⟩
theorem digits_at : ∀ k : Fin 16, digits[k.val]? = some (hexd k.val) := by decide +kernel
theorem run_digit (d : Nat) (hd : d < 16) (k : IntKind) (w : World) : (Instr.index 9 (.string digits) (.int k (d : Int))).run Tryz.prog w = .ok (B (hexd d)) w := by
  have hs : digits.size = 36 := by decide
  rw [run_index_string w 9 digits k _ Tryz.underlying9, dif_pos ⟨by omega, by rw [hs]; omega⟩]
  have h := digits_at ⟨d, hd⟩
  simp only at h
  have e : ((d : Int)).toNat = d := by omega
  have h2 : digits[d]'(by rw [hs]; omega) = hexd d := by
    rw [ByteArray.getElem?_lt' digits d (by rw [hs]; omega)] at h
    exact Option.some.inj h
  simp only [e, h2]
  rfl

theorem and15 (m : Nat) (hm : m < 18446744073709551616) : bits .and .u64 (m : Int) 15 = ((m % 16 : Nat) : Int) := by
  have := u64_and_nat m 15 hm (by omega)
  rw [show ((15 : Nat) : Int) = 15 from rfl] at this
  rw [this, show 15 = 2 ^ 4 - 1 by rfl, Nat.and_two_pow_sub_one_eq_mod]

end Go.Proofs.YtannbdbhkhmppaaGreatDoor.hex

namespace Go.Proofs.YtannbdbhkhmppaaGreatDoor.unseal
open Go.RowKit Go.Proofs.YtannbdbhkhmppaaGreatDoor.sum Go.Proofs.YtannbdbhkhmppaaGreatDoor.kept Go.Proofs.YtannbdbhkhmppaaGreatDoor.app Go.Proofs.YtannbdbhkhmppaaGreatDoor.writer Go.Proofs.YtannbdbhkhmppaaGreatDoor.clone Go.Proofs.YtannbdbhkhmppaaGreatDoor.known
set_option linter.unusedVariables false

/-- behind a draw everything reads as before -/
theorem bs_drewN {w : World} {v : Value} {bs : List UInt8} (n : Nat) (h : Bs w v bs) : Bs (w.drewN n) v bs := bs_no h ((Kp.refl _ _).drewN n)

/-- a cut of a slice of bytes -/
theorem bs_take {w : World} {b : Option Addr} {len cap : Nat} {bs : List UInt8} (h : Bs w (.slice b len cap) bs) (k : Nat) (hk : k ≤ len) : Bs w (.slice b k cap) (bs.take k) := by
  obtain ⟨a, c, e, h1, h2, h3⟩ := h
  simp only [Value.slice.injEq] at e
  obtain ⟨rfl, rfl, rfl⟩ := e
  refine ⟨b, cap, by rw [List.length_take, Nat.min_eq_left hk], by rw [List.length_take]; omega, h2, fun hne => ?_⟩
  obtain ⟨B, o, rfl, hc⟩ := h3 (by intro e; subst e; simp at hne)
  refine ⟨B, o, rfl, fun i hi => ?_⟩
  rw [List.length_take] at hi
  rw [hc i (by omega)]
  simp [List.getD, show i < k by omega]

theorem bs_drop {w : World} {b o len cap : Nat} {bs : List UInt8} (h : Bs w (.slice (some ⟨b, o, none⟩) len cap) bs) (k : Nat) (hk : k ≤ len) (ao : Option Addr) (hao : ¬ k = cap → ao = some ⟨b, o + k, none⟩) : Bs w (.slice ao (len - k) (cap - k)) (bs.drop k) := by
  obtain ⟨a, c, e, h1, h2, h3⟩ := h
  simp only [Value.slice.injEq] at e
  obtain ⟨rfl, rfl, rfl⟩ := e
  refine ⟨ao, _, by rw [List.length_drop], by rw [List.length_drop]; omega, by omega, fun hne => ?_⟩
  have hlt : k < bs.length := by
    rcases Nat.lt_or_ge k bs.length with h | h
    · exact h
    · rw [List.drop_of_length_le h] at hne; exact absurd rfl hne
  obtain ⟨B, o', e, hc⟩ := h3 (by intro e; subst e; simp at hlt)
  cases e
  refine ⟨_, _, hao (by omega), fun i hi => ?_⟩
  rw [List.length_drop] at hi
  rw [Nat.add_assoc, hc (k + i) (by omega)]
  simp [List.getD]

end Go.Proofs.YtannbdbhkhmppaaGreatDoor.unseal

namespace Go.Proofs.YtannbdbhkhmppaaGreatDoor.hex
open Go.RowKit Go.Proofs.YtannbdbhkhmppaaGreatDoor.sum Go.Proofs.YtannbdbhkhmppaaGreatDoor.kept Go.Proofs.YtannbdbhkhmppaaGreatDoor.app Go.Proofs.YtannbdbhkhmppaaGreatDoor.writer Go.Proofs.YtannbdbhkhmppaaGreatDoor.known
set_option linter.unusedVariables false

/-- the one number of a table of package math/bits that is read -/
def Tz (w : World) : Prop := w.cell? ⟨10, 15, none⟩ = some (.int .u8 4)
theorem Tz.kept {S : Nat → Prop} {w w' : World} (h : Tz w) (hk : Kp S w w') (hs : ¬ S 10) : Tz w' := hk.cell' h hs
theorem Tz.no {w w' : World} (h : Tz w) (hk : Kp No w w') : Tz w' := h.kept hk id

set_option maxRecDepth 100000 in
set_option maxHeartbeats 1000000 in
theorem tz_any (w : World) (h : Tz w) : Calls Tryz.prog 99 #[.int .u64 16] w fun e w' => e = .returned (.int .i64 4) ∧ w = w' := by
  have q1 : bits BinOp.and IntKind.u64 16 (IntKind.u64.wrap (-16)) = 16 := by decide +kernel
  have q2 : IntKind.u64.wrap (16 * 285870213051353865) / 288230376151711744 = 15 := by decide +kernel
  unfold Tz at h
  go_enter Tryz.func99, Tryz.ntmps99
  go_wp2
  go_ret
  exact ⟨rfl, rfl⟩

/-- the loop: what is left, and the digits that lie at the array's end -/
def BitsRel (w : World) (g n : Nat) (u i : Value) (wr : World) : Prop :=
  ∃ (m j : Nat) (ds : List UInt8), u = .int .u64 (m : Int) ∧ i = .int .i64 (j : Int) ∧ j + ds.length = 65 ∧ m < 18446744073709551616 ∧ hexs m ++ ds = hexs n ∧
    (∀ o, o < 65 → ∃ v, wr.cell? ⟨g, o, none⟩ = some v) ∧ (∀ o, wr.frozen? ⟨g, o, none⟩ = false) ∧ (∀ k, k < ds.length → wr.cell? ⟨g, j + k, none⟩ = some (B (ds.getD k 0))) ∧ Kp No w wr

theorem BitsRel.start (w : World) (n : Nat) (hn : n < 18446744073709551616) : BitsRel w w.heap.size n (.int .u64 (n : Int)) (.int .i64 65) (w.alloc (Obj.cells Tryz.zeroCells132 132)) := by
  refine ⟨n, 65, [], rfl, rfl, rfl, hn, by simp, fun o ho => ?_, fun o => ?_, fun k hk => by simp at hk, (Kp.refl No w).alloc _⟩
  · rw [World.cell?_alloc_mark]
    have hz : Tryz.zeroCells132.size = 65 := by decide +kernel
    exact ⟨Tryz.zeroCells132[o], by simp [hz, ho]; rfl⟩
  · simp
theorem BitsRel.push {w wr : World} {g j : Nat} {ds : List UInt8} (d : UInt8) (hg : w.heap.size ≤ g) (hj : j + 1 + ds.length = 65)
    (h1 : ∀ o, o < 65 → ∃ v, wr.cell? ⟨g, o, none⟩ = some v) (h2 : ∀ o, wr.frozen? ⟨g, o, none⟩ = false) (h3 : ∀ k, k < ds.length → wr.cell? ⟨g, j + 1 + k, none⟩ = some (B (ds.getD k 0))) (h4 : Kp No w wr) :
    (∀ o, o < 65 → ∃ v, (wr.setCell ⟨g, j, none⟩ (B d)).cell? ⟨g, o, none⟩ = some v) ∧ (∀ o, (wr.setCell ⟨g, j, none⟩ (B d)).frozen? ⟨g, o, none⟩ = false) ∧
    (∀ k, k < (d :: ds).length → (wr.setCell ⟨g, j, none⟩ (B d)).cell? ⟨g, j + k, none⟩ = some (B ((d :: ds).getD k 0))) ∧ Kp No w (wr.setCell ⟨g, j, none⟩ (B d)) := by
  obtain ⟨v0, hv0⟩ := h1 j (by omega)
  refine ⟨fun o ho => ?_, fun o => by rw [World.frozen?_setCell]; exact h2 o, fun k hk => ?_, h4.setCell (fun hp => absurd hp (by simp; omega)) _⟩
  · by_cases e : o = j
    · subst e; exact ⟨_, World.cell?_setCell_same wr _ _ hv0⟩
    · obtain ⟨v, hv⟩ := h1 o ho
      exact ⟨v, (World.cell?_setCell_other wr _ _ _ (fun e' => e (by injection e' with _ e2 _; exact e2.symm))).trans hv⟩
  · cases k with
    | zero => exact World.cell?_setCell_same wr _ _ hv0
    | succ k =>
      have hk' : k < ds.length := by simpa using hk
      rw [World.cell?_setCell_other wr _ _ _ (fun e' => by injection e' with _ e2 _; omega), show j + (k + 1) = j + 1 + k by omega]
      exact h3 k hk'
theorem BitsRel.text {wr : World} {g j : Nat} {ds : List UInt8} (hj : j + ds.length = 65) (h3 : ∀ k, k < ds.length → wr.cell? ⟨g, j + k, none⟩ = some (B (ds.getD k 0))) :
    Bs wr (.slice (some ⟨g, j, none⟩) (65 - j) (65 - j)) ds := by
  have e : 65 - j = ds.length := by omega
  rw [e]
  exact ⟨_, _, rfl, Nat.le_refl _, by unfold maxLen; omega, fun _ => ⟨g, j, rfl, h3⟩⟩

theorem dig_at (s : ByteArray) (hs : s = digits) (d : Nat) (hd : d < 16) (h' : d < s.size) : Value.int .u8 ((s[d]'h').toNat : Int) = B (hexd d) := by
  subst hs
  have h := digits_at ⟨d, hd⟩
  simp only at h
  rw [ByteArray.getElem?_lt' digits d h'] at h
  have h2 : digits[d] = hexd d := Option.some.inj h
  rw [← h2]
  rfl
theorem run_from (g j : Nat) (hj : j < 65) (w : World) : (Instr.sliceAt 132 (.pointer (some ⟨g, 0, none⟩)) (some (.int .i64 (j : Int))) none none).run Tryz.prog w = .ok (.slice (some ⟨g, j, none⟩) (65 - j) (65 - j)) w := by
  have hu : Tryz.prog.underlying 132 = some (.array (Tryz.prog.arrayLen 132) (Tryz.prog.elem 132)) := by kernel_rfl
  have hl : Tryz.prog.arrayLen 132 = 65 := by kernel_rfl
  have hs : ∀ W, (sizeOf (Tryz.prog.elem 132)).run Tryz.prog W = .ok 1 W := fun W => by kernel_rfl
  rw [run_sliceAt_array_l w 132 ⟨g, 0, none⟩ hu .i64 (j : Int) (by omega) (by rw [hl]; omega), hs]
  show Result.ok (slicedAt _ _ _ _ _) w = _
  rw [hl]
  unfold slicedAt
  rw [if_neg (by omega), addr_add]
  simp

set_option maxRecDepth 100000 in
set_option maxHeartbeats 4000000 in
theorem bits_any (n : Nat) (hn : n < 18446744073709551616) (w : World) (ht : Tz w) :
    Calls Tryz.prog 78 #[.slice none 0 0, .int .u64 (n : Int), .int .i64 16, .bool false, .bool false] w fun e w' => e = .returned (.tuple #[.slice none 0 0, .string ⟨(hexs n).toArray⟩]) ∧ Kp No w w' := by
  have HN := Hid_mk (hexs_len n 16 (by omega) (by omega))
  have HT : Hid (Tz (w.alloc (Obj.cells Tryz.zeroCells132 132))) := Hid_mk (ht.no ((Kp.refl No w).alloc _))
  have HS := Hid_mk (BitsRel.start w n hn)
  clear hn ht
  go_enter Tryz.func78, Tryz.ntmps78
  have q1 : (bits BinOp.and IntKind.i64 16 15 == 0) = true := by decide +kernel
  go_wp2_with (first | (go_at_call 99; refine (tz_any _ HT.out).mono ?_; rintro e w' ⟨rfl, rfl⟩) | go_in)
  obtain ⟨g, hg⟩ : ∃ g, g = w.heap.size := ⟨_, rfl⟩
  have HG := Hid_mk hg
  rw [← hg] at HS ⊢
  clear hg q1 HT
  go_loopw [1, 13] (fun u i wr => BitsRel w g n u i wr) (fun u _ _ => (intOf u).toNat)
  case atStart => exact HS.out
  case round =>
    obtain ⟨m, j, ds, rfl, rfl, hj, hm, hh, h1, h2, h3, h4⟩ := hrel
    have hpos := hexs_pos m
    have hds : ds.length ≤ 15 := by
      have h := HN.out; rw [← hh, List.length_append] at h; omega
    obtain ⟨j, rfl⟩ : ∃ j', j = j' + 1 := ⟨j - 1, by omega⟩
    obtain ⟨v0, hv0⟩ := h1 j (by omega)
    have hf0 := h2 j
    have hjl : j < 65 := by omega
    have hr := fun d hd w => run_digit d hd .u64 w
    by_cases hlt : m < 16
    · have hrd := fun w => run_digit m hlt .u64 w
      have hp := BitsRel.push (w := w) (hexd m) (by rw [HG.out]; exact Nat.le_refl _) hj h1 h2 h3 h4
      have HP := Hid_mk hp
      have HX := Hid_mk (BitsRel.text (ds := hexd m :: ds) (by simp; omega) hp.2.2.1)
      have HH := Hid_mk hh
      have HJ := Hid_mk hj
      clear hp h1 h2 h3 h4 hh hr hj hm hpos hds
      have hlt' : ¬ (16 : Int) ≤ (m : Int) := by omega
      have hfr := run_from g j hjl
      go_wp2
      rw [dig_at _ (by rfl) m hlt, conv_bs HX.out]
      go_wp2
      go_ret2
      refine ⟨?_, HP.out.2.2.2⟩
      rw [← HH.out, hexs_small hlt]
      rfl
    · have hrd := fun w => run_digit (m % 16) (by omega) .u64 w
      have ha := and15 m hm
      have hp := BitsRel.push (w := w) (hexd (m % 16)) (by rw [HG.out]; exact Nat.le_refl _) hj h1 h2 h3 h4
      have HP := Hid_mk hp
      have HH := Hid_mk hh
      have HJ := Hid_mk hj
      have HM := Hid_mk hm
      clear hp h1 h2 h3 h4 hh hr hj hm hpos hds
      have hlt' : (16 : Int) ≤ (m : Int) := by omega
      go_wp2
      rw [dig_at _ (by rfl) (m % 16) (by omega)]
      exact ⟨⟨m / 16, j, hexd (m % 16) :: ds, by go_num, rfl, by have := HJ.out; simp; omega, by have := HM.out; omega, by rw [← HH.out, hexs_big hlt, List.append_assoc]; rfl, HP.out.1, HP.out.2.1, HP.out.2.2.1, HP.out.2.2.2⟩, by simp [intOf]; omega⟩

end Go.Proofs.YtannbdbhkhmppaaGreatDoor.hex

namespace Go.Proofs.YtannbdbhkhmppaaGreatDoor.oct
open Go.RowKit Go.Proofs.YtannbdbhkhmppaaGreatDoor.sum Go.Proofs.YtannbdbhkhmppaaGreatDoor.kept Go.Proofs.YtannbdbhkhmppaaGreatDoor.app Go.Proofs.YtannbdbhkhmppaaGreatDoor.writer Go.Proofs.YtannbdbhkhmppaaGreatDoor.known
set_option linter.unusedVariables false

def octd (d : Nat) : UInt8 := if d < 10 then (48 + d).toUInt8 else (87 + d).toUInt8
def octs (n : Nat) : List UInt8 := if h : n < 8 then [octd n] else octs (n / 8) ++ [octd (n % 8)]
termination_by n
decreasing_by omega

theorem octs_small {n : Nat} (h : n < 8) : octs n = [octd n] := by rw [octs]; simp [h]
theorem octs_big {n : Nat} (h : ¬ n < 8) : octs n = octs (n / 8) ++ [octd (n % 8)] := by rw [octs]; simp [h]
theorem octs_len (n k : Nat) (hk : n < 8 ^ k) (h1 : 0 < k) : (octs n).length ≤ k := by
  induction k generalizing n with
  | zero => omega
  | succ k ih =>
    by_cases h : n < 8
    · rw [octs_small h]; simp
    · rw [octs_big h, List.length_append]
      have hk0 : 0 < k := by
        rcases Nat.eq_zero_or_pos k with rfl | h2
        · simp at hk; omega
        · exact h2
      have := ih (n / 8) (by rw [Nat.pow_succ] at hk; omega) hk0
      simp; omega
theorem octs_pos (n : Nat) : 0 < (octs n).length := by
  by_cases h : n < 8
  · rw [octs_small h]; simp
  · rw [octs_big h]; simp

def digits : ByteArray := ⟨#[48, 49, 50, 51, 52, 53, 54, 55, 56, 57, 97, 98, 99, 100, 101, 102, 103, 104, 105, 106, 107, 108, 109, 110, 111, 112, 113, 114, 115, 116, 117, 118, 119, 120, 121, 122]⟩
theorem digits_at : ∀ k : Fin 16, digits[k.val]? = some (octd k.val) := by decide +kernel
theorem run_digit (d : Nat) (hd : d < 16) (k : IntKind) (w : World) : (Instr.index 9 (.string digits) (.int k (d : Int))).run Tryz.prog w = .ok (B (octd d)) w := by
  have hs : digits.size = 36 := by decide
  rw [run_index_string w 9 digits k _ Tryz.underlying9, dif_pos ⟨by omega, by rw [hs]; omega⟩]
  have h := digits_at ⟨d, hd⟩
  simp only at h
  have e : ((d : Int)).toNat = d := by omega
  have h2 : digits[d]'(by rw [hs]; omega) = octd d := by
    rw [ByteArray.getElem?_lt' digits d (by rw [hs]; omega)] at h
    exact Option.some.inj h
  simp only [e, h2]
  rfl

theorem and7 (m : Nat) (hm : m < 18446744073709551616) : bits .and .u64 (m : Int) 7 = ((m % 8 : Nat) : Int) := by
  have := u64_and_nat m 7 hm (by omega)
  rw [show ((7 : Nat) : Int) = 7 from rfl] at this
  rw [this, show 7 = 2 ^ 3 - 1 by rfl, Nat.and_two_pow_sub_one_eq_mod]

end Go.Proofs.YtannbdbhkhmppaaGreatDoor.oct

namespace Go.Proofs.YtannbdbhkhmppaaGreatDoor.oct
open Go.RowKit Go.Proofs.YtannbdbhkhmppaaGreatDoor.sum Go.Proofs.YtannbdbhkhmppaaGreatDoor.kept Go.Proofs.YtannbdbhkhmppaaGreatDoor.app Go.Proofs.YtannbdbhkhmppaaGreatDoor.writer Go.Proofs.YtannbdbhkhmppaaGreatDoor.known
set_option linter.unusedVariables false

/-- the one number of a table of package math/bits that is read -/
def Tz (w : World) : Prop := w.cell? ⟨10, 7, none⟩ = some (.int .u8 3)
theorem Tz.kept {S : Nat → Prop} {w w' : World} (h : Tz w) (hk : Kp S w w') (hs : ¬ S 10) : Tz w' := hk.cell' h hs
theorem Tz.no {w w' : World} (h : Tz w) (hk : Kp No w w') : Tz w' := h.kept hk id

set_option maxRecDepth 100000 in
set_option maxHeartbeats 1000000 in
theorem tz_any (w : World) (h : Tz w) : Calls Tryz.prog 99 #[.int .u64 8] w fun e w' => e = .returned (.int .i64 3) ∧ w = w' := by
  have q1 : bits BinOp.and IntKind.u64 8 (IntKind.u64.wrap (-8)) = 8 := by decide +kernel
  have q2 : IntKind.u64.wrap (8 * 285870213051353865) / 288230376151711744 = 7 := by decide +kernel
  unfold Tz at h
  go_enter Tryz.func99, Tryz.ntmps99
  go_wp2
  go_ret
  exact ⟨rfl, rfl⟩

/-- the loop: what is left, and the digits that lie at the array's end -/
def BitsRel (w : World) (g n : Nat) (u i : Value) (wr : World) : Prop :=
  ∃ (m j : Nat) (ds : List UInt8), u = .int .u64 (m : Int) ∧ i = .int .i64 (j : Int) ∧ j + ds.length = 65 ∧ m < 18446744073709551616 ∧ octs m ++ ds = octs n ∧
    (∀ o, o < 65 → ∃ v, wr.cell? ⟨g, o, none⟩ = some v) ∧ (∀ o, wr.frozen? ⟨g, o, none⟩ = false) ∧ (∀ k, k < ds.length → wr.cell? ⟨g, j + k, none⟩ = some (B (ds.getD k 0))) ∧ Kp No w wr

theorem BitsRel.start (w : World) (n : Nat) (hn : n < 18446744073709551616) : BitsRel w w.heap.size n (.int .u64 (n : Int)) (.int .i64 65) (w.alloc (Obj.cells Tryz.zeroCells132 132)) := by
  refine ⟨n, 65, [], rfl, rfl, rfl, hn, by simp, fun o ho => ?_, fun o => ?_, fun k hk => by simp at hk, (Kp.refl No w).alloc _⟩
  · rw [World.cell?_alloc_mark]
    have hz : Tryz.zeroCells132.size = 65 := by decide +kernel
    exact ⟨Tryz.zeroCells132[o], by simp [hz, ho]; rfl⟩
  · simp
theorem BitsRel.push {w wr : World} {g j : Nat} {ds : List UInt8} (d : UInt8) (hg : w.heap.size ≤ g) (hj : j + 1 + ds.length = 65)
    (h1 : ∀ o, o < 65 → ∃ v, wr.cell? ⟨g, o, none⟩ = some v) (h2 : ∀ o, wr.frozen? ⟨g, o, none⟩ = false) (h3 : ∀ k, k < ds.length → wr.cell? ⟨g, j + 1 + k, none⟩ = some (B (ds.getD k 0))) (h4 : Kp No w wr) :
    (∀ o, o < 65 → ∃ v, (wr.setCell ⟨g, j, none⟩ (B d)).cell? ⟨g, o, none⟩ = some v) ∧ (∀ o, (wr.setCell ⟨g, j, none⟩ (B d)).frozen? ⟨g, o, none⟩ = false) ∧
    (∀ k, k < (d :: ds).length → (wr.setCell ⟨g, j, none⟩ (B d)).cell? ⟨g, j + k, none⟩ = some (B ((d :: ds).getD k 0))) ∧ Kp No w (wr.setCell ⟨g, j, none⟩ (B d)) := by
  obtain ⟨v0, hv0⟩ := h1 j (by omega)
  refine ⟨fun o ho => ?_, fun o => by rw [World.frozen?_setCell]; exact h2 o, fun k hk => ?_, h4.setCell (fun hp => absurd hp (by simp; omega)) _⟩
  · by_cases e : o = j
    · subst e; exact ⟨_, World.cell?_setCell_same wr _ _ hv0⟩
    · obtain ⟨v, hv⟩ := h1 o ho
      exact ⟨v, (World.cell?_setCell_other wr _ _ _ (fun e' => e (by injection e' with _ e2 _; exact e2.symm))).trans hv⟩
  · cases k with
    | zero => exact World.cell?_setCell_same wr _ _ hv0
    | succ k =>
      have hk' : k < ds.length := by simpa using hk
      rw [World.cell?_setCell_other wr _ _ _ (fun e' => by injection e' with _ e2 _; omega), show j + (k + 1) = j + 1 + k by omega]
      exact h3 k hk'
theorem BitsRel.text {wr : World} {g j : Nat} {ds : List UInt8} (hj : j + ds.length = 65) (h3 : ∀ k, k < ds.length → wr.cell? ⟨g, j + k, none⟩ = some (B (ds.getD k 0))) :
    Bs wr (.slice (some ⟨g, j, none⟩) (65 - j) (65 - j)) ds := by
  have e : 65 - j = ds.length := by omega
  rw [e]
  exact ⟨_, _, rfl, Nat.le_refl _, by unfold maxLen; omega, fun _ => ⟨g, j, rfl, h3⟩⟩

theorem dig_at (s : ByteArray) (hs : s = digits) (d : Nat) (hd : d < 16) (h' : d < s.size) : Value.int .u8 ((s[d]'h').toNat : Int) = B (octd d) := by
  subst hs
  have h := digits_at ⟨d, hd⟩
  simp only at h
  rw [ByteArray.getElem?_lt' digits d h'] at h
  have h2 : digits[d] = octd d := Option.some.inj h
  rw [← h2]
  rfl
theorem run_from (g j : Nat) (hj : j < 65) (w : World) : (Instr.sliceAt 132 (.pointer (some ⟨g, 0, none⟩)) (some (.int .i64 (j : Int))) none none).run Tryz.prog w = .ok (.slice (some ⟨g, j, none⟩) (65 - j) (65 - j)) w := by
  have hu : Tryz.prog.underlying 132 = some (.array (Tryz.prog.arrayLen 132) (Tryz.prog.elem 132)) := by kernel_rfl
  have hl : Tryz.prog.arrayLen 132 = 65 := by kernel_rfl
  have hs : ∀ W, (sizeOf (Tryz.prog.elem 132)).run Tryz.prog W = .ok 1 W := fun W => by kernel_rfl
  rw [run_sliceAt_array_l w 132 ⟨g, 0, none⟩ hu .i64 (j : Int) (by omega) (by rw [hl]; omega), hs]
  show Result.ok (slicedAt _ _ _ _ _) w = _
  rw [hl]
  unfold slicedAt
  rw [if_neg (by omega), addr_add]
  simp

set_option maxRecDepth 100000 in
set_option maxHeartbeats 4000000 in
theorem bits_any (n : Nat) (hn : n < 18446744073709551616) (w : World) (ht : Tz w) :
    Calls Tryz.prog 78 #[.slice none 0 0, .int .u64 (n : Int), .int .i64 8, .bool false, .bool false] w fun e w' => e = .returned (.tuple #[.slice none 0 0, .string ⟨(octs n).toArray⟩]) ∧ Kp No w w' := by
  have HN := Hid_mk (octs_len n 22 (by omega) (by omega))
  have HT : Hid (Tz (w.alloc (Obj.cells Tryz.zeroCells132 132))) := Hid_mk (ht.no ((Kp.refl No w).alloc _))
  have HS := Hid_mk (BitsRel.start w n hn)
  clear hn ht
  go_enter Tryz.func78, Tryz.ntmps78
  have q1 : (bits BinOp.and IntKind.i64 8 7 == 0) = true := by decide +kernel
  go_wp2_with (first | (go_at_call 99; refine (tz_any _ HT.out).mono ?_; rintro e w' ⟨rfl, rfl⟩) | go_in)
  obtain ⟨g, hg⟩ : ∃ g, g = w.heap.size := ⟨_, rfl⟩
  have HG := Hid_mk hg
  rw [← hg] at HS ⊢
  clear hg q1 HT
  go_loopw [1, 13] (fun u i wr => BitsRel w g n u i wr) (fun u _ _ => (intOf u).toNat)
  case atStart => exact HS.out
  case round =>
    obtain ⟨m, j, ds, rfl, rfl, hj, hm, hh, h1, h2, h3, h4⟩ := hrel
    have hpos := octs_pos m
    have hds : ds.length ≤ 21 := by
      have h := HN.out; rw [← hh, List.length_append] at h; omega
    obtain ⟨j, rfl⟩ : ∃ j', j = j' + 1 := ⟨j - 1, by omega⟩
    obtain ⟨v0, hv0⟩ := h1 j (by omega)
    have hf0 := h2 j
    have hjl : j < 65 := by omega
    have hr := fun d hd w => run_digit d hd .u64 w
    by_cases hlt : m < 8
    · have hrd := fun w => run_digit m (by omega) .u64 w
      have hp := BitsRel.push (w := w) (octd m) (by rw [HG.out]; exact Nat.le_refl _) hj h1 h2 h3 h4
      have HP := Hid_mk hp
      have HX := Hid_mk (BitsRel.text (ds := octd m :: ds) (by simp; omega) hp.2.2.1)
      have HH := Hid_mk hh
      have HJ := Hid_mk hj
      clear hp h1 h2 h3 h4 hh hr hj hm hpos hds
      have hlt' : ¬ (8 : Int) ≤ (m : Int) := by omega
      have hfr := run_from g j hjl
      go_wp2
      rw [dig_at _ (by rfl) m (by omega), conv_bs HX.out]
      go_wp2
      go_ret2
      refine ⟨?_, HP.out.2.2.2⟩
      rw [← HH.out, octs_small hlt]
      rfl
    · have hrd := fun w => run_digit (m % 8) (by omega) .u64 w
      have ha := and7 m hm
      have hp := BitsRel.push (w := w) (octd (m % 8)) (by rw [HG.out]; exact Nat.le_refl _) hj h1 h2 h3 h4
      have HP := Hid_mk hp
      have HH := Hid_mk hh
      have HJ := Hid_mk hj
      have HM := Hid_mk hm
      clear hp h1 h2 h3 h4 hh hr hj hm hpos hds
      have hlt' : (8 : Int) ≤ (m : Int) := by omega
      go_wp2
      rw [dig_at _ (by rfl) (m % 8) (by omega)]
      exact ⟨⟨m / 8, j, octd (m % 8) :: ds, by go_num, rfl, by have := HJ.out; simp; omega, by have := HM.out; omega, by rw [← HH.out, octs_big hlt, List.append_assoc]; rfl, HP.out.1, HP.out.2.1, HP.out.2.2.1, HP.out.2.2.2⟩, by simp [intOf]; omega⟩

end Go.Proofs.YtannbdbhkhmppaaGreatDoor.oct

namespace Go.Proofs.YtannbdbhkhmppaaGreatDoor.pf
open Go.RowKit Go.Lib Go.Proofs.YtannbdbhkhmppaaGreatDoor.sum Go.Proofs.YtannbdbhkhmppaaGreatDoor.kept Go.Proofs.YtannbdbhkhmppaaGreatDoor.app Go.Proofs.YtannbdbhkhmppaaGreatDoor.writer Go.Proofs.YtannbdbhkhmppaaGreatDoor.known Go.Proofs.YtannbdbhkhmppaaGreatDoor.str Go.Proofs.YtannbdbhkhmppaaGreatDoor.fmtf
set_option linter.unusedVariables false
attribute [local go_sem] run_store_float'

set_option maxRecDepth 100000 in
theorem fuint16 (w : World) (n : Nat) (hn : n < 18446744073709551616) (ht : hex.Tz w) : Calls Tryz.prog 45 #[.int .u64 (n : Int), .int .i64 16] w (TxK w (hex.hexs n)) := by
  have H1 : Calls Tryz.prog 61 #[.int .u64 (n : Int), .int .i64 16] w (TxK w (hex.hexs n)) := by
    have HB := Hid_mk (hex.bits_any n hn w ht)
    go_enter Tryz.func61, Tryz.ntmps61
    go_wp2_with fail
    with_reducible refine HB.out.mono ?_
    rintro e w1 ⟨rfl, hk⟩
    have HK := Hid_mk hk
    clear hk
    go_wp2
    go_ret
    exact ⟨rfl, HK.out⟩
  have HB := Hid_mk H1
  clear H1
  go_enter Tryz.func45, Tryz.ntmps45
  go_wp2_with fail
  with_reducible refine HB.out.mono ?_
  rintro e w1 ⟨rfl, hk⟩
  have HK := Hid_mk hk
  clear hk
  go_wp2
  go_ret
  exact ⟨rfl, HK.out⟩

set_option maxRecDepth 100000 in
theorem fuint8 (w : World) (n : Nat) (hn : n < 18446744073709551616) (ht : oct.Tz w) : Calls Tryz.prog 45 #[.int .u64 (n : Int), .int .i64 8] w (TxK w (oct.octs n)) := by
  have H1 : Calls Tryz.prog 61 #[.int .u64 (n : Int), .int .i64 8] w (TxK w (oct.octs n)) := by
    have HB := Hid_mk (oct.bits_any n hn w ht)
    go_enter Tryz.func61, Tryz.ntmps61
    go_wp2_with fail
    with_reducible refine HB.out.mono ?_
    rintro e w1 ⟨rfl, hk⟩
    have HK := Hid_mk hk
    clear hk
    go_wp2
    go_ret
    exact ⟨rfl, HK.out⟩
  have HB := Hid_mk H1
  clear H1
  go_enter Tryz.func45, Tryz.ntmps45
  go_wp2_with fail
  with_reducible refine HB.out.mono ?_
  rintro e w1 ⟨rfl, hk⟩
  have HK := Hid_mk hk
  clear hk
  go_wp2
  go_ret
  exact ⟨rfl, HK.out⟩

set_option maxRecDepth 100000 in
theorem based_yes (w : World) (b : Nat) (base : Int) (d S : List UInt8) (u : Nat) (hn : nanB b = false) (h1 : (FloatKind.f64.format.order (truncB b) 0 == some .lt) = false) (h2 : (FloatKind.f64.format.order (truncB b) 4895412794951729152 == some .gt) = false) (h3 : (FloatKind.f64.format.order (truncB b) 4895412794951729152 == some .eq) = false)
    (hu : floatToIntVal .f64 (truncB b) .u64 = some (u : Int)) (hf : Calls Tryz.prog 45 #[.int .u64 (u : Int), .int .i64 base] w (TxK w S)) : Calls Tryz.prog 28 #[.float .f64 b, .int .i64 base, .string (st d)] w (TxK w S) := by
  have HT := Hid_mk (trunc_any w b hn)
  have HF := Hid_mk hf
  have hcv := conv_u64 (truncB b) u hu
  obtain ⟨t, ht⟩ : ∃ t, truncB b = t := ⟨_, rfl⟩
  rw [ht] at HT h1 h2 h3
  rw [ht] at hcv
  clear hf hu ht hn
  go_enter Tryz.func28, Tryz.ntmps28
  go_wp2_with fail
  with_reducible refine HT.out.mono ?_
  rintro e w1 ⟨rfl, rfl⟩
  go_wp2_with fail
  with_reducible refine HF.out.mono ?_
  rintro e w1 ⟨rfl, hk⟩
  have HK := Hid_mk hk
  clear hk
  go_wp2
  go_ret
  exact ⟨rfl, HK.out⟩

theorem run_mfbits (b : Nat) (w : World) : (callFunc 50 #[.float .f64 b]).run Tryz.prog w = .ok (.value (.int .u64 (b : Int))) w := by
  rw [run_callFunc_extern Tryz.func50 (by kernel_rfl) (by kernel_rfl) (by kernel_rfl) (show Extern.find _ = some Extern.MathFloatBits.float64bits by kernel_rfl)]
  rfl
theorem run_ffbits (m : Nat) (w : World) : (callFunc 49 #[.int .u64 (m : Int)]).run Tryz.prog w = .ok (.value (.float .f64 m)) w := by
  rw [run_callFunc_extern Tryz.func49 (by kernel_rfl) (by kernel_rfl) (by kernel_rfl) (show Extern.find _ = some Extern.MathFloatBits.float64frombits by kernel_rfl)]
  rfl
set_option maxRecDepth 100000 in
theorem abs_any (w : World) (b m : Nat) (hx : bits .andNot .u64 (b : Int) 9223372036854775808 = (m : Int)) : Calls Tryz.prog 31 #[.float .f64 b] w (RF w m) := by
  have q1 := fun w => run_mfbits b w
  have q2 := fun w => run_ffbits m w
  go_enter Tryz.func31, Tryz.ntmps31
  go_wp2
  go_ret
  exact ⟨rfl, rfl⟩

end Go.Proofs.YtannbdbhkhmppaaGreatDoor.pf

namespace Go.Proofs.YtannbdbhkhmppaaGreatDoor.pf
open Go.RowKit Go.Lib Go.Proofs.YtannbdbhkhmppaaGreatDoor.sum Go.Proofs.YtannbdbhkhmppaaGreatDoor.kept Go.Proofs.YtannbdbhkhmppaaGreatDoor.app Go.Proofs.YtannbdbhkhmppaaGreatDoor.writer Go.Proofs.YtannbdbhkhmppaaGreatDoor.known Go.Proofs.YtannbdbhkhmppaaGreatDoor.str
set_option linter.unusedVariables false

def fillN (c : Cv) (t : Td) : Int := max (c.width - (t.sign.length : Int) - (t.body.length : Int)) 0
def putS (bs : List UInt8) (c : Cv) (t : Td) : List UInt8 :=
  if c.left = true then addS (addS (addS bs t.sign) t.body) (List.replicate (fillN c t).toNat 32)
  else if c.noughts = true ∧ t.fills = true then addS (addS (addS bs t.sign) (List.replicate (fillN c t).toNat 48)) t.body
  else addS (addS (addS bs (List.replicate (fillN c t).toNat 32)) t.sign) t.body
/-- the two boxes of put, aside of what is written -/
structure PutM (wS : World) (oS : Value) (W : World) (q Cb Tb : Nat) (o : Value) (c : Cv) (t : Td) : Prop where
  cv : CvAt W Cb c
  td : B3 W Tb (.string (st t.sign)) (.string (st t.body)) (.bool t.fills)
  no1 : Cb ≠ q ∧ Tb ≠ q
  no2 : o.ownBlock ≠ some Cb ∧ o.ownBlock ≠ some Tb
  top : Cb < W.heap.size ∧ Tb < W.heap.size
  kq : Kp (fun k => k = q ∨ some k = oS.ownBlock) wS W
  fo : o.ownBlock = oS.ownBlock ∨ ∀ g, o.ownBlock = some g → wS.heap.size ≤ g
theorem B3.keptP {S : Nat → Prop} {W W' : World} {b : Nat} {x0 x1 x2 : Value} (h : B3 W b x0 x1 x2) (hk : Kp S W W') (hb : ¬ S b) : B3 W' b x0 x1 x2 :=
  ⟨hk.cell' h.c0 hb, hk.cell' h.c1 hb, hk.cell' h.c2 hb, fun i => (hk.frozen (p := ⟨b, i, none⟩) (World.block_lt_of_cell? W ⟨b, 0, none⟩ h.c0) hb).trans (h.warm i)⟩
theorem PutM.no {wS : World} {oS : Value} {W W' : World} {q Cb Tb : Nat} {o : Value} {c : Cv} {t : Td} (h : PutM wS oS W q Cb Tb o c t) (hk : Kp No W W') : PutM wS oS W' q Cb Tb o c t :=
  ⟨h.cv.no2 hk, h.td.no hk, h.no1, h.no2, ⟨Nat.lt_of_lt_of_le h.top.1 hk.size, Nat.lt_of_lt_of_le h.top.2 hk.size⟩, h.kq.trans' hk.to, h.fo⟩
theorem PutM.step {wS : World} {oS : Value} {W W' : World} {q Cb Tb : Nat} {o o' : Value} {c : Cv} {t : Td} (h : PutM wS oS W q Cb Tb o c t) (hk : Kp (fun k => k = q ∨ some k = o.ownBlock) W W') (hf : o'.ownBlock = o.ownBlock ∨ ∀ g, o'.ownBlock = some g → W.heap.size ≤ g) : PutM wS oS W' q Cb Tb o' c t := by
  have n1 : ¬ (Cb = q ∨ some Cb = o.ownBlock) := by rintro (e | e); exact h.no1.1 e; exact h.no2.1 e.symm
  have n2 : ¬ (Tb = q ∨ some Tb = o.ownBlock) := by rintro (e | e); exact h.no1.2 e; exact h.no2.2 e.symm
  refine ⟨h.cv.kept hk n1, h.td.keptP hk n2, h.no1, ?_, ⟨Nat.lt_of_lt_of_le h.top.1 hk.size, Nat.lt_of_lt_of_le h.top.2 hk.size⟩, h.kq.trans hk (fun i hi e => ?_), ?_⟩
  rotate_left 1
  · rcases e with e | e
    · exact .inl e
    · rcases h.fo with f | f
      · exact .inr (e.trans f)
      · have := f i e.symm; omega
  · rcases hf with e | e
    · rw [e]; exact h.fo
    · exact .inr fun g hg => Nat.le_trans h.kq.size (e g hg)
  rcases hf with e | e
  · rw [e]; exact h.no2
  · exact ⟨fun x => by have := e _ x; have := h.top.1; omega, fun x => by have := e _ x; have := h.top.2; omega⟩
def PuPost (w0 : World) (q : Nat) (l : List UInt8) (A : Value) (bs : List UInt8) (w : World) (oS : Value) (e : Ending) (w' : World) : Prop := e = .returned (.tuple #[]) ∧ (∃ o, WkAt w0 w' q l A o bs) ∧ Kp (fun k => k = q ∨ some k = oS.ownBlock) w w'

set_option maxRecDepth 100000 in
set_option maxHeartbeats 8000000 in
theorem put_any {w0 w : World} {q : Nat} {l : List UInt8} {A o : Value} {bs : List UInt8} (h : WkAt w0 w q l A o bs) (hb : bs.length ≤ 257) (c : Cv) (t : Td) (hs : t.sign.length ≤ 1000000) (ht : t.body.length ≤ 1000000) (hw1 : -1000 ≤ c.width) (hw2 : c.width ≤ 1000) :
    Calls Tryz.prog 10 #[.pointer (some ⟨q, 0, none⟩), cvV c, tdV t] w (PuPost w0 q l A (putS bs c t) w o) := by
  obtain ⟨R, hR⟩ : ∃ R, putS bs c t = R := ⟨_, rfl⟩
  rw [hR]
  unfold putS at hR
  obtain ⟨N, hN⟩ : ∃ N, fillN c t = N := ⟨_, rfl⟩
  rw [hN] at hR
  unfold fillN at hN
  have HR := Hid_mk hR
  have hNb : 0 ≤ N ∧ N ≤ 1000 := by omega
  have HNb := Hid_mk hNb
  have HRp32 : Hid (∀ W, Calls Tryz.prog 22 #[.string ⟨#[32]⟩, .int .i64 N] W fun e w' => e = .returned (.string (st (List.replicate N.toNat 32))) ∧ Kp No W w') := Hid_mk fun W => repeat_any W 32 N hNb.1 (by omega)
  have HRp48 : Hid (∀ W, Calls Tryz.prog 22 #[.string ⟨#[48]⟩, .int .i64 N] W fun e w' => e = .returned (.string (st (List.replicate N.toNat 48))) ∧ Kp No W w') := Hid_mk fun W => repeat_any W 48 N hNb.1 (by omega)
  have HBl := Hid_mk hb
  have HLs : Hid (t.sign.length ≤ 140737488355327 ∧ t.body.length ≤ 140737488355327) := Hid_mk ⟨by omega, by omega⟩
  have hs1 := st_size t.sign
  have hs2 := st_size t.body
  have hNi : max (c.width - ((st t.sign).size : Int) - ((st t.body).size : Int)) 0 = N := by rw [hs1, hs2]; exact hN
  have hsi1 : ((st t.sign).size : Int) ≤ 1000000 := by rw [hs1]; omega
  have hsi2 : ((st t.body).size : Int) ≤ 1000000 := by rw [hs2]; omega
  obtain ⟨W1, hW1, hk1, hz1⟩ := named_alloc w (.cells (cvC c) 36)
  obtain ⟨Cb, hCb⟩ : ∃ Cb, w.heap.size = Cb := ⟨_, rfl⟩
  have hcv : CvAt W1 Cb c := by rw [← hW1, ← hCb]; exact CvAt.new w c 36
  obtain ⟨W2, hW2, hk2, hz2⟩ := named_alloc W1 (.cells #[.string (st t.sign), .string (st t.body), .bool t.fills] 41)
  have htd := B3.new W1 (.string (st t.sign)) (.string (st t.body)) (.bool t.fills) 41
  rw [hCb] at hz1
  obtain ⟨Tb, hTb⟩ : ∃ Tb, Cb + 1 = Tb := ⟨_, rfl⟩
  rw [hW2, hz1, hTb] at htd
  have ho1 := h.old (Nat.le_refl _)
  have ho2 := (h.no hk1).old (Nat.le_refl _)
  rw [hCb] at ho1
  rw [hz1, hTb] at ho2
  have HM : Hid (PutM w o W2 q Cb Tb o c t) := Hid_mk ⟨hcv.no2 hk2, htd, ⟨ho1.1.symm, ho2.1.symm⟩, ⟨ho1.2, ho2.2⟩, ⟨by omega, by omega⟩, (hk1.trans' hk2).to, .inl rfl⟩
  have HW := Hid_mk ((h.no hk1).no hk2)
  have HZ1 := Hid_mk (show W1.heap.size = Tb by omega)
  clear h hb hR hN hNb hs ht hs1 hs2 hk1 hk2 hz1 hz2 hcv htd ho1 ho2
  obtain ⟨cl, cp, cbk, cno, cw, cpr, cle⟩ := c
  simp only [cvV, cvC, tdV] at hW1 hNi hw1 hw2 HR ⊢
  obtain ⟨W1', hW1'⟩ : ∃ x, x = W1 := ⟨_, rfl⟩
  cases cl with
  | true =>
    go_enter Tryz.func10, Tryz.ntmps10
    go_upto_region 1 with fail
    try rw [HZ1.out]
    clear hW1 hW2 hCb hTb
    obtain ⟨⟨d0, d1, d2, d3, d4, d5, d6, d7⟩, ⟨r0, r1, r2, r3⟩, -, -, -, -, -⟩ := HM.out
    simp only at d0 d1 d2 d3 d4 d5 d6
    have HAd := Hid_mk (add_any HW.out HBl.out (t.sign) (HLs.out.1))
    skip
    go_wp2_with fail
    with_reducible refine HAd.out.mono ?_
    rintro e w4 ⟨rfl, o4, hw4, hk4, hf4⟩
    have HP := Hid_mk (PutM.step HM.out hk4 hf4)
    have HBl := Hid_mk (add_len _ (t.sign) HBl.out)
    have HW := Hid_mk hw4
    have HM := Hid_mk HP.out
    clear hw4 hk4 hf4 HAd
    clear d0 d1 d2 d3 d4 d5 d6 d7 r0 r1 r2 r3
    obtain ⟨⟨d0, d1, d2, d3, d4, d5, d6, d7⟩, ⟨r0, r1, r2, r3⟩, -, -, -, -, -⟩ := HM.out
    simp only at d0 d1 d2 d3 d4 d5 d6
    have HAd := Hid_mk (add_any HW.out HBl.out (t.body) (HLs.out.2))
    skip
    go_wp2_with fail
    with_reducible refine HAd.out.mono ?_
    rintro e w5 ⟨rfl, o5, hw5, hk5, hf5⟩
    have HP := Hid_mk (PutM.step HM.out hk5 hf5)
    have HBl := Hid_mk (add_len _ (t.body) HBl.out)
    have HW := Hid_mk hw5
    have HM := Hid_mk HP.out
    clear hw5 hk5 hf5 HAd
    clear d0 d1 d2 d3 d4 d5 d6 d7 r0 r1 r2 r3
    obtain ⟨⟨d0, d1, d2, d3, d4, d5, d6, d7⟩, ⟨r0, r1, r2, r3⟩, -, -, -, -, -⟩ := HM.out
    simp only at d0 d1 d2 d3 d4 d5 d6
    go_wp2_with fail
    with_reducible refine (HRp32.out _).mono ?_
    rintro e w6 ⟨rfl, hk6⟩
    have HW := Hid_mk (HW.out.no hk6)
    have HM := Hid_mk (HM.out.no hk6)
    clear hk6
    clear d0 d1 d2 d3 d4 d5 d6 d7 r0 r1 r2 r3
    obtain ⟨⟨d0, d1, d2, d3, d4, d5, d6, d7⟩, ⟨r0, r1, r2, r3⟩, -, -, -, -, -⟩ := HM.out
    simp only at d0 d1 d2 d3 d4 d5 d6
    have HAd := Hid_mk (add_any HW.out HBl.out (List.replicate N.toNat 32) (by rw [List.length_replicate]; have := HNb.out; omega))
    skip
    go_wp2_with fail
    with_reducible refine HAd.out.mono ?_
    rintro e w7 ⟨rfl, o7, hw7, hk7, hf7⟩
    have HP := Hid_mk (PutM.step HM.out hk7 hf7)
    have HBl := Hid_mk (add_len _ (List.replicate N.toNat 32) HBl.out)
    have HW := Hid_mk hw7
    have HM := Hid_mk HP.out
    clear hw7 hk7 hf7 HAd
    go_wp2
    go_end0
    rw [← HR.out]
    exact ⟨rfl, ⟨_, HW.out⟩, HM.out.kq⟩
  | false =>
    rw [if_neg (by simp)] at HR
    obtain ⟨ts, tb, tf⟩ := t
    simp only at hNi hsi1 hsi2 HR HLs ⊢
    cases cno with
    | false =>
      rw [if_neg (by simp)] at HR
      go_enter Tryz.func10, Tryz.ntmps10
      go_upto_region 1 with fail
      try rw [HZ1.out]
      clear hW1 hW2 hCb hTb
      obtain ⟨⟨d0, d1, d2, d3, d4, d5, d6, d7⟩, ⟨r0, r1, r2, r3⟩, -, -, -, -, -⟩ := HM.out
      simp only at d0 d1 d2 d3 d4 d5 d6
      go_wp2_with fail
      with_reducible refine (HRp32.out _).mono ?_
      rintro e w4 ⟨rfl, hk4⟩
      have HW := Hid_mk (HW.out.no hk4)
      have HM := Hid_mk (HM.out.no hk4)
      clear hk4
      clear d0 d1 d2 d3 d4 d5 d6 d7 r0 r1 r2 r3
      obtain ⟨⟨d0, d1, d2, d3, d4, d5, d6, d7⟩, ⟨r0, r1, r2, r3⟩, -, -, -, -, -⟩ := HM.out
      simp only at d0 d1 d2 d3 d4 d5 d6
      have HAd := Hid_mk (add_any HW.out HBl.out (List.replicate N.toNat 32) (by rw [List.length_replicate]; have := HNb.out; omega))
      skip
      go_wp2_with fail
      with_reducible refine HAd.out.mono ?_
      rintro e w5 ⟨rfl, o5, hw5, hk5, hf5⟩
      have HP := Hid_mk (PutM.step HM.out hk5 hf5)
      have HBl := Hid_mk (add_len _ (List.replicate N.toNat 32) HBl.out)
      have HW := Hid_mk hw5
      have HM := Hid_mk HP.out
      clear hw5 hk5 hf5 HAd
      clear d0 d1 d2 d3 d4 d5 d6 d7 r0 r1 r2 r3
      obtain ⟨⟨d0, d1, d2, d3, d4, d5, d6, d7⟩, ⟨r0, r1, r2, r3⟩, -, -, -, -, -⟩ := HM.out
      simp only at d0 d1 d2 d3 d4 d5 d6
      have HAd := Hid_mk (add_any HW.out HBl.out (ts) (HLs.out.1))
      skip
      go_wp2_with fail
      with_reducible refine HAd.out.mono ?_
      rintro e w6 ⟨rfl, o6, hw6, hk6, hf6⟩
      have HP := Hid_mk (PutM.step HM.out hk6 hf6)
      have HBl := Hid_mk (add_len _ (ts) HBl.out)
      have HW := Hid_mk hw6
      have HM := Hid_mk HP.out
      clear hw6 hk6 hf6 HAd
      clear d0 d1 d2 d3 d4 d5 d6 d7 r0 r1 r2 r3
      obtain ⟨⟨d0, d1, d2, d3, d4, d5, d6, d7⟩, ⟨r0, r1, r2, r3⟩, -, -, -, -, -⟩ := HM.out
      simp only at d0 d1 d2 d3 d4 d5 d6
      have HAd := Hid_mk (add_any HW.out HBl.out (tb) (HLs.out.2))
      skip
      go_wp2_with fail
      with_reducible refine HAd.out.mono ?_
      rintro e w7 ⟨rfl, o7, hw7, hk7, hf7⟩
      have HP := Hid_mk (PutM.step HM.out hk7 hf7)
      have HBl := Hid_mk (add_len _ (tb) HBl.out)
      have HW := Hid_mk hw7
      have HM := Hid_mk HP.out
      clear hw7 hk7 hf7 HAd
      go_wp2
      go_end0
      rw [← HR.out]
      exact ⟨rfl, ⟨_, HW.out⟩, HM.out.kq⟩
    | true =>
      cases tf with
      | true =>
        rw [if_pos ⟨rfl, rfl⟩] at HR
        go_enter Tryz.func10, Tryz.ntmps10
        go_upto_region 1 with fail
        try rw [HZ1.out]
        clear hW1 hW2 hCb hTb
        obtain ⟨⟨d0, d1, d2, d3, d4, d5, d6, d7⟩, ⟨r0, r1, r2, r3⟩, -, -, -, -, -⟩ := HM.out
        simp only at d0 d1 d2 d3 d4 d5 d6
        have HAd := Hid_mk (add_any HW.out HBl.out (ts) (HLs.out.1))
        skip
        go_wp2_with fail
        with_reducible refine HAd.out.mono ?_
        rintro e w4 ⟨rfl, o4, hw4, hk4, hf4⟩
        have HP := Hid_mk (PutM.step HM.out hk4 hf4)
        have HBl := Hid_mk (add_len _ (ts) HBl.out)
        have HW := Hid_mk hw4
        have HM := Hid_mk HP.out
        clear hw4 hk4 hf4 HAd
        clear d0 d1 d2 d3 d4 d5 d6 d7 r0 r1 r2 r3
        obtain ⟨⟨d0, d1, d2, d3, d4, d5, d6, d7⟩, ⟨r0, r1, r2, r3⟩, -, -, -, -, -⟩ := HM.out
        simp only at d0 d1 d2 d3 d4 d5 d6
        go_wp2_with fail
        with_reducible refine (HRp48.out _).mono ?_
        rintro e w5 ⟨rfl, hk5⟩
        have HW := Hid_mk (HW.out.no hk5)
        have HM := Hid_mk (HM.out.no hk5)
        clear hk5
        clear d0 d1 d2 d3 d4 d5 d6 d7 r0 r1 r2 r3
        obtain ⟨⟨d0, d1, d2, d3, d4, d5, d6, d7⟩, ⟨r0, r1, r2, r3⟩, -, -, -, -, -⟩ := HM.out
        simp only at d0 d1 d2 d3 d4 d5 d6
        have HAd := Hid_mk (add_any HW.out HBl.out (List.replicate N.toNat 48) (by rw [List.length_replicate]; have := HNb.out; omega))
        skip
        go_wp2_with fail
        with_reducible refine HAd.out.mono ?_
        rintro e w6 ⟨rfl, o6, hw6, hk6, hf6⟩
        have HP := Hid_mk (PutM.step HM.out hk6 hf6)
        have HBl := Hid_mk (add_len _ (List.replicate N.toNat 48) HBl.out)
        have HW := Hid_mk hw6
        have HM := Hid_mk HP.out
        clear hw6 hk6 hf6 HAd
        clear d0 d1 d2 d3 d4 d5 d6 d7 r0 r1 r2 r3
        obtain ⟨⟨d0, d1, d2, d3, d4, d5, d6, d7⟩, ⟨r0, r1, r2, r3⟩, -, -, -, -, -⟩ := HM.out
        simp only at d0 d1 d2 d3 d4 d5 d6
        have HAd := Hid_mk (add_any HW.out HBl.out (tb) (HLs.out.2))
        skip
        go_wp2_with fail
        with_reducible refine HAd.out.mono ?_
        rintro e w7 ⟨rfl, o7, hw7, hk7, hf7⟩
        have HP := Hid_mk (PutM.step HM.out hk7 hf7)
        have HBl := Hid_mk (add_len _ (tb) HBl.out)
        have HW := Hid_mk hw7
        have HM := Hid_mk HP.out
        clear hw7 hk7 hf7 HAd
        go_wp2
        go_end0
        rw [← HR.out]
        exact ⟨rfl, ⟨_, HW.out⟩, HM.out.kq⟩
      | false =>
        rw [if_neg (by simp)] at HR
        go_enter Tryz.func10, Tryz.ntmps10
        go_upto_region 1 with fail
        try rw [HZ1.out]
        clear hW1 hW2 hCb hTb
        obtain ⟨⟨d0, d1, d2, d3, d4, d5, d6, d7⟩, ⟨r0, r1, r2, r3⟩, -, -, -, -, -⟩ := HM.out
        simp only at d0 d1 d2 d3 d4 d5 d6
        go_wp2_with fail
        with_reducible refine (HRp32.out _).mono ?_
        rintro e w4 ⟨rfl, hk4⟩
        have HW := Hid_mk (HW.out.no hk4)
        have HM := Hid_mk (HM.out.no hk4)
        clear hk4
        clear d0 d1 d2 d3 d4 d5 d6 d7 r0 r1 r2 r3
        obtain ⟨⟨d0, d1, d2, d3, d4, d5, d6, d7⟩, ⟨r0, r1, r2, r3⟩, -, -, -, -, -⟩ := HM.out
        simp only at d0 d1 d2 d3 d4 d5 d6
        have HAd := Hid_mk (add_any HW.out HBl.out (List.replicate N.toNat 32) (by rw [List.length_replicate]; have := HNb.out; omega))
        skip
        go_wp2_with fail
        with_reducible refine HAd.out.mono ?_
        rintro e w5 ⟨rfl, o5, hw5, hk5, hf5⟩
        have HP := Hid_mk (PutM.step HM.out hk5 hf5)
        have HBl := Hid_mk (add_len _ (List.replicate N.toNat 32) HBl.out)
        have HW := Hid_mk hw5
        have HM := Hid_mk HP.out
        clear hw5 hk5 hf5 HAd
        clear d0 d1 d2 d3 d4 d5 d6 d7 r0 r1 r2 r3
        obtain ⟨⟨d0, d1, d2, d3, d4, d5, d6, d7⟩, ⟨r0, r1, r2, r3⟩, -, -, -, -, -⟩ := HM.out
        simp only at d0 d1 d2 d3 d4 d5 d6
        have HAd := Hid_mk (add_any HW.out HBl.out (ts) (HLs.out.1))
        skip
        go_wp2_with fail
        with_reducible refine HAd.out.mono ?_
        rintro e w6 ⟨rfl, o6, hw6, hk6, hf6⟩
        have HP := Hid_mk (PutM.step HM.out hk6 hf6)
        have HBl := Hid_mk (add_len _ (ts) HBl.out)
        have HW := Hid_mk hw6
        have HM := Hid_mk HP.out
        clear hw6 hk6 hf6 HAd
        clear d0 d1 d2 d3 d4 d5 d6 d7 r0 r1 r2 r3
        obtain ⟨⟨d0, d1, d2, d3, d4, d5, d6, d7⟩, ⟨r0, r1, r2, r3⟩, -, -, -, -, -⟩ := HM.out
        simp only at d0 d1 d2 d3 d4 d5 d6
        have HAd := Hid_mk (add_any HW.out HBl.out (tb) (HLs.out.2))
        skip
        go_wp2_with fail
        with_reducible refine HAd.out.mono ?_
        rintro e w7 ⟨rfl, o7, hw7, hk7, hf7⟩
        have HP := Hid_mk (PutM.step HM.out hk7 hf7)
        have HBl := Hid_mk (add_len _ (tb) HBl.out)
        have HW := Hid_mk hw7
        have HM := Hid_mk HP.out
        clear hw7 hk7 hf7 HAd
        go_wp2
        go_end0
        rw [← HR.out]
        exact ⟨rfl, ⟨_, HW.out⟩, HM.out.kq⟩

end Go.Proofs.YtannbdbhkhmppaaGreatDoor.pf
