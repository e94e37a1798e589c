/- A number's hexadecimal digits, as strconv writes them: plain lists, and formatBits at 16. strconv's formatBits at base 16. wal.Name: what it answers of any number. strconv.ParseUint of small hexadecimal digits; wal's isName of a journal's names. -/
import Derived.Test.YteekcbbdbciddaaGreatDoorKnown0
import Derived.Laws.BitsAllLaws
import Derived.Test.YteekcbbdbciddaaGreatDoorSealM

namespace Go.Proofs.YteekcbbdbciddaaGreatDoor.hex
open Go.RowKit Go.Proofs.YteekcbbdbciddaaGreatDoor.sum Go.Proofs.YteekcbbdbciddaaGreatDoor.kept Go.Proofs.YteekcbbdbciddaaGreatDoor.app Go.Proofs.YteekcbbdbciddaaGreatDoor.writer Go.Proofs.YteekcbbdbciddaaGreatDoor.known
set_option linter.unusedVariables false

def hexd (d : Nat) : UInt8 := if d < 10 then (48 + d).toUInt8 else (87 + d).toUInt8
def hexs (n : Nat) : List UInt8 := if h : n < 16 then [hexd n] else hexs (n / 16) ++ [hexd (n % 16)]
termination_by n
decreasing_by omega

theorem hexs_small {n : Nat} (h : n < 16) : hexs n = [hexd n] := by rw [hexs]; simp [h]
theorem hexs_big {n : Nat} (h : ¬ n < 16) : hexs n = hexs (n / 16) ++ [hexd (n % 16)] := by rw [hexs]; simp [h]
theorem hexs_len (n k : Nat) (hk : n < 16 ^ k) (h1 : 0 < k) : (hexs n).length ≤ k := by
  induction k generalizing n with
  | zero => omega
  | succ k ih =>
    by_cases h : n < 16
    · rw [hexs_small h]; simp
    · rw [hexs_big h, List.length_append]
      have hk0 : 0 < k := by
        rcases Nat.eq_zero_or_pos k with rfl | h2
        · simp at hk; omega
        · exact h2
      have := ih (n / 16) (by rw [Nat.pow_succ] at hk; omega) hk0
      simp; omega
theorem hexs_pos (n : Nat) : 0 < (hexs n).length := by
  by_cases h : n < 16
  · rw [hexs_small h]; simp
  · rw [hexs_big h]; simp

def digits : ByteArray := ⟨#[48, 49, 50, 51, 52, 53, 54, 55, 56, 57, 97, 98, 99, 100, 101, 102, 103, 104, 105, 106, 107, 108, 109, 110, 111, 112, 113, 114, 115, 116, 117, 118, 119, 120, 121, 122]⟩
theorem digits_at : ∀ k : Fin 16, digits[k.val]? = some (hexd k.val) := by decide +kernel
theorem run_digit (d : Nat) (hd : d < 16) (k : IntKind) (w : World) : (Instr.index 9 (.string digits) (.int k (d : Int))).run Tryz.prog w = .ok (B (hexd d)) w := by
  have hs : digits.size = 36 := by decide
  rw [run_index_string w 9 digits k _ Tryz.underlying9, dif_pos ⟨by omega, by rw [hs]; omega⟩]
  have h := digits_at ⟨d, hd⟩
  simp only at h
  have e : ((d : Int)).toNat = d := by omega
  have h2 : digits[d]'(by rw [hs]; omega) = hexd d := by
    rw [ByteArray.getElem?_lt' digits d (by rw [hs]; omega)] at h
    exact Option.some.inj h
  simp only [e, h2]
  rfl

theorem and15 (m : Nat) (hm : m < 18446744073709551616) : bits .and .u64 (m : Int) 15 = ((m % 16 : Nat) : Int) := by
  have := u64_and_nat m 15 hm (by omega)
  rw [show ((15 : Nat) : Int) = 15 from rfl] at this
  rw [this, show 15 = 2 ^ 4 - 1 by rfl, Nat.and_two_pow_sub_one_eq_mod]

end Go.Proofs.YteekcbbdbciddaaGreatDoor.hex

namespace Go.Proofs.YteekcbbdbciddaaGreatDoor.hex
open Go.RowKit Go.Proofs.YteekcbbdbciddaaGreatDoor.sum Go.Proofs.YteekcbbdbciddaaGreatDoor.kept Go.Proofs.YteekcbbdbciddaaGreatDoor.app Go.Proofs.YteekcbbdbciddaaGreatDoor.writer Go.Proofs.YteekcbbdbciddaaGreatDoor.known
set_option linter.unusedVariables false

/-- the one number of a table of package math/bits that is read -/
def Tz (w : World) : Prop := w.cell? ⟨6, 15, none⟩ = some (.int .u8 4)
theorem Tz.kept {S : Nat → Prop} {w w' : World} (h : Tz w) (hk : Kp S w w') (hs : ¬ S 6) : Tz w' := hk.cell' h hs
theorem Tz.no {w w' : World} (h : Tz w) (hk : Kp No w w') : Tz w' := h.kept hk id

set_option maxRecDepth 100000 in
set_option maxHeartbeats 1000000 in
theorem tz_any (w : World) (h : Tz w) : Calls Tryz.prog 107 #[.int .u64 16] w fun e w' => e = .returned (.int .i64 4) ∧ w = w' := by
  have q1 : bits BinOp.and IntKind.u64 16 (IntKind.u64.wrap (-16)) = 16 := by decide +kernel
  have q2 : IntKind.u64.wrap (16 * 285870213051353865) / 288230376151711744 = 15 := by decide +kernel
  unfold Tz at h
  go_enter Tryz.func107, Tryz.ntmps107
  go_wp2
  go_ret
  exact ⟨rfl, rfl⟩

/-- the loop: what is left, and the digits that lie at the array's end -/
def BitsRel (w : World) (g n : Nat) (u i : Value) (wr : World) : Prop :=
  ∃ (m j : Nat) (ds : List UInt8), u = .int .u64 (m : Int) ∧ i = .int .i64 (j : Int) ∧ j + ds.length = 65 ∧ m < 18446744073709551616 ∧ hexs m ++ ds = hexs n ∧
    (∀ o, o < 65 → ∃ v, wr.cell? ⟨g, o, none⟩ = some v) ∧ (∀ o, wr.frozen? ⟨g, o, none⟩ = false) ∧ (∀ k, k < ds.length → wr.cell? ⟨g, j + k, none⟩ = some (B (ds.getD k 0))) ∧ Kp No w wr

theorem BitsRel.start (w : World) (n : Nat) (hn : n < 18446744073709551616) : BitsRel w w.heap.size n (.int .u64 (n : Int)) (.int .i64 65) (w.alloc (Obj.cells Tryz.zeroCells153 153)) := by
  refine ⟨n, 65, [], rfl, rfl, rfl, hn, by simp, fun o ho => ?_, fun o => ?_, fun k hk => by simp at hk, (Kp.refl No w).alloc _⟩
  · rw [World.cell?_alloc_mark]
    have hz : Tryz.zeroCells153.size = 65 := by decide +kernel
    exact ⟨Tryz.zeroCells153[o], by simp [hz, ho]; rfl⟩
  · simp
theorem BitsRel.push {w wr : World} {g j : Nat} {ds : List UInt8} (d : UInt8) (hg : w.heap.size ≤ g) (hj : j + 1 + ds.length = 65)
    (h1 : ∀ o, o < 65 → ∃ v, wr.cell? ⟨g, o, none⟩ = some v) (h2 : ∀ o, wr.frozen? ⟨g, o, none⟩ = false) (h3 : ∀ k, k < ds.length → wr.cell? ⟨g, j + 1 + k, none⟩ = some (B (ds.getD k 0))) (h4 : Kp No w wr) :
    (∀ o, o < 65 → ∃ v, (wr.setCell ⟨g, j, none⟩ (B d)).cell? ⟨g, o, none⟩ = some v) ∧ (∀ o, (wr.setCell ⟨g, j, none⟩ (B d)).frozen? ⟨g, o, none⟩ = false) ∧
    (∀ k, k < (d :: ds).length → (wr.setCell ⟨g, j, none⟩ (B d)).cell? ⟨g, j + k, none⟩ = some (B ((d :: ds).getD k 0))) ∧ Kp No w (wr.setCell ⟨g, j, none⟩ (B d)) := by
  obtain ⟨v0, hv0⟩ := h1 j (by omega)
  refine ⟨fun o ho => ?_, fun o => by rw [World.frozen?_setCell]; exact h2 o, fun k hk => ?_, h4.setCell (fun hp => absurd hp (by simp; omega)) _⟩
  · by_cases e : o = j
    · subst e; exact ⟨_, World.cell?_setCell_same wr _ _ hv0⟩
    · obtain ⟨v, hv⟩ := h1 o ho
      exact ⟨v, (World.cell?_setCell_other wr _ _ _ (fun e' => e (by injection e' with _ e2 _; exact e2.symm))).trans hv⟩
  · cases k with
    | zero => exact World.cell?_setCell_same wr _ _ hv0
    | succ k =>
      have hk' : k < ds.length := by simpa using hk
      rw [World.cell?_setCell_other wr _ _ _ (fun e' => by injection e' with _ e2 _; omega), show j + (k + 1) = j + 1 + k by omega]
      exact h3 k hk'
theorem BitsRel.text {wr : World} {g j : Nat} {ds : List UInt8} (hj : j + ds.length = 65) (h3 : ∀ k, k < ds.length → wr.cell? ⟨g, j + k, none⟩ = some (B (ds.getD k 0))) :
    Bs wr (.slice (some ⟨g, j, none⟩) (65 - j) (65 - j)) ds := by
  have e : 65 - j = ds.length := by omega
  rw [e]
  exact ⟨_, _, rfl, Nat.le_refl _, by unfold maxLen; omega, fun _ => ⟨g, j, rfl, h3⟩⟩

theorem dig_at (s : ByteArray) (hs : s = digits) (d : Nat) (hd : d < 16) (h' : d < s.size) : Value.int .u8 ((s[d]'h').toNat : Int) = B (hexd d) := by
  subst hs
  have h := digits_at ⟨d, hd⟩
  simp only at h
  rw [ByteArray.getElem?_lt' digits d h'] at h
  have h2 : digits[d] = hexd d := Option.some.inj h
  rw [← h2]
  rfl
theorem run_from (g j : Nat) (hj : j < 65) (w : World) : (Instr.sliceAt 153 (.pointer (some ⟨g, 0, none⟩)) (some (.int .i64 (j : Int))) none none).run Tryz.prog w = .ok (.slice (some ⟨g, j, none⟩) (65 - j) (65 - j)) w := by
  have hu : Tryz.prog.underlying 153 = some (.array (Tryz.prog.arrayLen 153) (Tryz.prog.elem 153)) := by kernel_rfl
  have hl : Tryz.prog.arrayLen 153 = 65 := by kernel_rfl
  have hs : ∀ W, (sizeOf (Tryz.prog.elem 153)).run Tryz.prog W = .ok 1 W := fun W => by kernel_rfl
  rw [run_sliceAt_array_l w 153 ⟨g, 0, none⟩ hu .i64 (j : Int) (by omega) (by rw [hl]; omega), hs]
  show Result.ok (slicedAt _ _ _ _ _) w = _
  rw [hl]
  unfold slicedAt
  rw [if_neg (by omega), addr_add]
  simp

set_option maxRecDepth 100000 in
set_option maxHeartbeats 4000000 in
theorem bits_any (n : Nat) (hn : n < 18446744073709551616) (w : World) (ht : Tz w) :
    Calls Tryz.prog 79 #[.slice none 0 0, .int .u64 (n : Int), .int .i64 16, .bool false, .bool false] w fun e w' => e = .returned (.tuple #[.slice none 0 0, .string ⟨(hexs n).toArray⟩]) ∧ Kp No w w' := by
  have HN := Hid_mk (hexs_len n 16 (by omega) (by omega))
  have HT : Hid (Tz (w.alloc (Obj.cells Tryz.zeroCells153 153))) := Hid_mk (ht.no ((Kp.refl No w).alloc _))
  have HS := Hid_mk (BitsRel.start w n hn)
  clear hn ht
  go_enter Tryz.func79, Tryz.ntmps79
  have q1 : (bits BinOp.and IntKind.i64 16 15 == 0) = true := by decide +kernel
  go_wp2_with (first | (go_at_call 107; refine (tz_any _ HT.out).mono ?_; rintro e w' ⟨rfl, rfl⟩) | go_in)
  obtain ⟨g, hg⟩ : ∃ g, g = w.heap.size := ⟨_, rfl⟩
  have HG := Hid_mk hg
  rw [← hg] at HS ⊢
  clear hg q1 HT
  go_loopw [1, 13] (fun u i wr => BitsRel w g n u i wr) (fun u _ _ => (intOf u).toNat)
  case atStart => exact HS.out
  case round =>
    obtain ⟨m, j, ds, rfl, rfl, hj, hm, hh, h1, h2, h3, h4⟩ := hrel
    have hpos := hexs_pos m
    have hds : ds.length ≤ 15 := by
      have h := HN.out; rw [← hh, List.length_append] at h; omega
    obtain ⟨j, rfl⟩ : ∃ j', j = j' + 1 := ⟨j - 1, by omega⟩
    obtain ⟨v0, hv0⟩ := h1 j (by omega)
    have hf0 := h2 j
    have hjl : j < 65 := by omega
    have hr := fun d hd w => run_digit d hd .u64 w
    by_cases hlt : m < 16
    · have hrd := fun w => run_digit m hlt .u64 w
      have hp := BitsRel.push (w := w) (hexd m) (by rw [HG.out]; exact Nat.le_refl _) hj h1 h2 h3 h4
      have HP := Hid_mk hp
      have HX := Hid_mk (BitsRel.text (ds := hexd m :: ds) (by simp; omega) hp.2.2.1)
      have HH := Hid_mk hh
      have HJ := Hid_mk hj
      clear hp h1 h2 h3 h4 hh hr hj hm hpos hds
      have hlt' : ¬ (16 : Int) ≤ (m : Int) := by omega
      have hfr := run_from g j hjl
      go_wp2
      rw [dig_at _ (by rfl) m hlt, conv_bs HX.out]
      go_wp2
      go_ret2
      refine ⟨?_, HP.out.2.2.2⟩
      rw [← HH.out, hexs_small hlt]
      rfl
    · have hrd := fun w => run_digit (m % 16) (by omega) .u64 w
      have ha := and15 m hm
      have hp := BitsRel.push (w := w) (hexd (m % 16)) (by rw [HG.out]; exact Nat.le_refl _) hj h1 h2 h3 h4
      have HP := Hid_mk hp
      have HH := Hid_mk hh
      have HJ := Hid_mk hj
      have HM := Hid_mk hm
      clear hp h1 h2 h3 h4 hh hr hj hm hpos hds
      have hlt' : (16 : Int) ≤ (m : Int) := by omega
      go_wp2
      rw [dig_at _ (by rfl) (m % 16) (by omega)]
      exact ⟨⟨m / 16, j, hexd (m % 16) :: ds, by go_num, rfl, by have := HJ.out; simp; omega, by have := HM.out; omega, by rw [← HH.out, hexs_big hlt, List.append_assoc]; rfl, HP.out.1, HP.out.2.1, HP.out.2.2.1, HP.out.2.2.2⟩, by simp [intOf]; omega⟩

end Go.Proofs.YteekcbbdbciddaaGreatDoor.hex

namespace Go.Proofs.YteekcbbdbciddaaGreatDoor.hex
open Go.RowKit Go.Proofs.YteekcbbdbciddaaGreatDoor.sum Go.Proofs.YteekcbbdbciddaaGreatDoor.kept Go.Proofs.YteekcbbdbciddaaGreatDoor.app Go.Proofs.YteekcbbdbciddaaGreatDoor.writer Go.Proofs.YteekcbbdbciddaaGreatDoor.known
set_option linter.unusedVariables false

set_option maxRecDepth 100000 in
set_option maxHeartbeats 2000000 in
theorem format_any (n : Nat) (hn : n < 18446744073709551616) (w : World) (ht : Tz w) :
    Calls Tryz.prog 26 #[.int .u64 (n : Int), .int .i64 16] w fun e w' => e = .returned (.string ⟨(hexs n).toArray⟩) ∧ Kp No w w' := by
  have HB := Hid_mk (bits_any n hn w ht)
  clear hn ht
  go_enter Tryz.func26, Tryz.ntmps26
  go_wp2_with (first | (go_at_call 79; refine HB.out.mono ?_; rintro e w' ⟨rfl, hk⟩) | go_in)
  go_ret
  exact ⟨rfl, hk⟩

def zeros (k : Nat) : ByteArray := ⟨(List.replicate k 48).toArray⟩

set_option maxRecDepth 100000 in
set_option maxHeartbeats 2000000 in
theorem prefix_any (s : ByteArray) (h : 1 ≤ s.size) (hm : s.size ≤ 1000) (b : Bool) (hb : ((s.extract 0 1).toList == [48]) = b) (w : World) :
    Calls Tryz.prog 56 #[.string s, .string ⟨#[48]⟩] w fun e w' => e = .returned (.bool b) ∧ w = w' := by
  have h' : (1 : Int) ≤ (s.size : Int) := by omega
  go_enter Tryz.func56, Tryz.ntmps56
  go_wp2
  go_ret
  exact ⟨by rw [← hb]; rfl, rfl⟩

theorem zeros_of (t : ByteArray) (n : Nat) (ht : t = zeros n) (k : Nat) (hk : k ≤ n) : Value.string (t.extract 0 k) = .string (zeros k) := by
  subst ht
  congr 1
  apply ByteArray.ext
  rw [← Array.toList_inj]
  simp [zeros, hk]

set_option maxRecDepth 100000 in
set_option maxHeartbeats 2000000 in
theorem repeat_any (k : Nat) (h1 : 2 ≤ k) (h2 : k ≤ 64) (w : World) :
    Calls Tryz.prog 27 #[.string ⟨#[48]⟩, .int .i64 (k : Int)] w fun e w' => e = .returned (.string (zeros k)) ∧ w = w' := by
  have q1 : bits .and .u64 (k : Int) 4294967295 = k := by
    have := u64_and_nat k 4294967295 (by omega) (by omega)
    rw [show ((4294967295 : Nat) : Int) = 4294967295 from rfl] at this
    rw [this, show 4294967295 = 2 ^ 32 - 1 by rfl, Nat.and_two_pow_sub_one_eq_mod, Nat.mod_eq_of_lt (by omega)]
  have q2 : (k : Int) / 4294967296 = 0 := by omega
  have q3 : bits .and .u64 1 4294967295 = 1 := by decide +kernel
  have q6 : bits .and .u64 0 4294967295 = 0 := by decide +kernel
  have q4 : ((k : Int) == 0) = false := by simp; omega
  have q5 : ((k : Int) == 1) = false := by simp; omega
  have q7 : ((⟨#[48]⟩ : ByteArray)[0]'(by decide)).toNat = 48 := rfl
  go_enter Tryz.func27, Tryz.ntmps27
  go_wp2_with (first
    | (go_at_call 56; refine (prefix_any _ ?hs ?hm true ?hp _).mono ?_; (case hs => decide +kernel); (case hm => decide +kernel); (case hp => decide +kernel); rintro e w' ⟨rfl, rfl⟩)
    | (go_at_call 56; refine (prefix_any _ ?hs ?hm false ?hp _).mono ?_; (case hs => decide +kernel); (case hm => decide +kernel); (case hp => decide +kernel); rintro e w' ⟨rfl, rfl⟩)
    | go_in)
  go_ret
  refine ⟨?_, rfl⟩
  rw [← zeros_of _ 64 ?_ k h2]
  · rfl
  · decide +kernel

/-- a journal's file's name -/
def nameOf (n : Nat) : List UInt8 := 106 :: (List.replicate (15 - (hexs n).length) 48 ++ hexs n)

theorem name_len (n : Nat) (hn : n ≤ 1099511627776) : (hexs n).length ≤ 11 := hexs_len n 11 (by omega) (by omega)
theorem nameOf_len (n : Nat) (hn : n ≤ 1099511627776) : (nameOf n).length = 16 := by
  have := name_len n hn
  simp [nameOf]; omega
theorem name_cat (a b : List UInt8) : (⟨#[106]⟩ : ByteArray) ++ ⟨a.toArray⟩ ++ ⟨b.toArray⟩ = ⟨(106 :: (a ++ b)).toArray⟩ := by
  apply ByteArray.ext
  rw [← Array.toList_inj]
  simp

set_option maxRecDepth 100000 in
set_option maxHeartbeats 2000000 in
theorem name_any (n : Nat) (hn : n ≤ 1099511627776) (w : World) (ht : Tz w) :
    Calls Tryz.prog 13 #[.int .u64 (n : Int)] w fun e w' => e = .returned (.string ⟨(nameOf n).toArray⟩) ∧ Kp No w w' := by
  have HF := Hid_mk (format_any n (by omega) w ht)
  have hl := name_len n hn
  have hz := fun w => repeat_any (15 - (hexs n).length) (by omega) (by omega) w
  have e : ((15 - (hexs n).length : Nat) : Int) = 15 - ((hexs n).length : Int) := by omega
  rw [e] at hz
  have HZ := Hid_mk hz
  have hn' : ¬ (1099511627776 : Int) < (n : Int) := by omega
  have hs : (⟨(hexs n).toArray⟩ : ByteArray).size = (hexs n).length := rfl
  have hzs : (zeros (15 - (hexs n).length)).size = 15 - (hexs n).length := by show (List.replicate _ _).toArray.size = _; simp
  have h8 : ¬ 9223372036854775807 < 1 + (zeros (15 - (hexs n).length)).size := by omega
  have h9 : ¬ 9223372036854775807 < 1 + (zeros (15 - (hexs n).length)).size + (hexs n).length := by omega
  clear hzs
  clear ht hn hz e
  go_enter Tryz.func13, Tryz.ntmps13
  go_wp2_with (first | (go_at_call 26; refine HF.out.mono ?_; rintro e w' ⟨rfl, hk⟩) | (go_at_call 27; refine (HZ.out _).mono ?_; rintro e w' ⟨rfl, rfl⟩) | go_in)
  go_ret
  refine ⟨?_, hk⟩
  unfold zeros
  rw [name_cat]
  rfl

theorem name_no (n : Nat) (hn : 1099511627776 < n) (w : World) : Calls Tryz.prog 13 #[.int .u64 (n : Int)] w fun e w' => e = .returned (.string ⟨#[]⟩) ∧ w = w' := by
  have hn' : (1099511627776 : Int) < (n : Int) := by omega
  go_enter Tryz.func13, Tryz.ntmps13
  go_wp2
  go_ret
  exact ⟨rfl, rfl⟩

end Go.Proofs.YteekcbbdbciddaaGreatDoor.hex

namespace Go.Proofs.YteekcbbdbciddaaGreatDoor.hex
open Go.RowKit Go.Proofs.YteekcbbdbciddaaGreatDoor.sum Go.Proofs.YteekcbbdbciddaaGreatDoor.kept Go.Proofs.YteekcbbdbciddaaGreatDoor.app Go.Proofs.YteekcbbdbciddaaGreatDoor.writer Go.Proofs.YteekcbbdbciddaaGreatDoor.known
set_option linter.unusedVariables false

def hval (c : UInt8) : Nat := if c.toNat ≤ 57 then c.toNat - 48 else c.toNat - 87
def Hex (c : UInt8) : Prop := (48 ≤ c.toNat ∧ c.toNat ≤ 57) ∨ (97 ≤ c.toNat ∧ c.toNat ≤ 102)
def val (l : List UInt8) : Nat := l.foldl (fun a c => 16 * a + hval c) 0
theorem val_snoc (l : List UInt8) (c : UInt8) : val (l ++ [c]) = 16 * val l + hval c := by simp [val]
theorem hval_lt {c : UInt8} (h : Hex c) : hval c < 16 := by
  unfold Hex at h; unfold hval; split <;> omega
theorem hexd_fin : ∀ k : Fin 16, (hexd k.val).toNat = if k.val < 10 then 48 + k.val else 87 + k.val := by decide +kernel
theorem hexd_nat (d : Nat) (h : d < 16) : (hexd d).toNat = if d < 10 then 48 + d else 87 + d := hexd_fin ⟨d, h⟩
theorem hexd_hex (d : Nat) (h : d < 16) : Hex (hexd d) := by
  unfold Hex; rw [hexd_nat d h]; split <;> omega
theorem hval_hexd (d : Nat) (h : d < 16) : hval (hexd d) = d := by
  unfold hval; rw [hexd_nat d h]; split <;> split <;> omega
theorem hexs_hex (n : Nat) : ∀ c ∈ hexs n, Hex c := by
  induction n using Nat.strongRecOn with
  | ind n ih =>
    by_cases h : n < 16
    · rw [hexs_small h]; intro c hc; simp only [List.mem_singleton] at hc; subst hc; exact hexd_hex n h
    · rw [hexs_big h]; intro c hc
      rcases List.mem_append.1 hc with hc | hc
      · exact ih (n / 16) (by omega) c hc
      · simp only [List.mem_singleton] at hc; subst hc; exact hexd_hex _ (by omega)
theorem val_hexs (n : Nat) : val (hexs n) = n := by
  induction n using Nat.strongRecOn with
  | ind n ih =>
    by_cases h : n < 16
    · rw [hexs_small h]; simp [val, hval_hexd n h]
    · rw [hexs_big h, val_snoc, ih (n / 16) (by omega), hval_hexd _ (by omega)]; omega
theorem val_zeros (k : Nat) (l : List UInt8) : val (List.replicate k 48 ++ l) = val l := by
  have : ∀ k, (List.replicate k (48 : UInt8)).foldl (fun a c => 16 * a + hval c) 0 = 0 := by
    intro k
    induction k with
    | zero => rfl
    | succ k ih => rw [List.replicate_succ, List.foldl_cons]; exact ih
  unfold val
  rw [List.foldl_append, this k]
theorem val_lt (l : List UInt8) (h : ∀ c ∈ l, Hex c) : val l < 16 ^ l.length := by
  obtain ⟨m, hm⟩ : ∃ m, l.length = m := ⟨_, rfl⟩
  induction m generalizing l with
  | zero => rw [List.eq_nil_of_length_eq_zero hm]; simp [val]
  | succ m ih =>
    have hne : l ≠ [] := by intro e; subst e; simp at hm
    have e := (List.dropLast_concat_getLast hne).symm
    generalize l.dropLast = l' at *
    generalize l.getLast hne = c at *
    subst e
    have h1 := ih l' (fun c hc => h c (List.mem_append_left _ hc)) (by simpa using hm)
    have h2 := hval_lt (h c (by simp))
    rw [val_snoc, List.length_append, List.length_singleton, Nat.pow_succ]
    omega

theorem or32_fin : ∀ k : Fin 6, bits .or .u8 ((97 + k.val : Nat) : Int) 32 = ((97 + k.val : Nat) : Int) := by decide +kernel
theorem or32 (c : Nat) (h1 : 97 ≤ c) (h2 : c ≤ 102) : bits .or .u8 (c : Int) 32 = (c : Int) := by
  have h := or32_fin ⟨c - 97, by omega⟩
  simp only at h
  rwa [show 97 + (c - 97) = c by omega] at h

/-- a text's bytes, in new memory -/
theorem conv_str (w : World) (s : ByteArray) (hs : s.size ≤ maxLen) : ∃ c w', (convert 9 34 (.string s)).run Tryz.prog w = .ok (.slice (some ⟨w.heap.size, 0, none⟩) s.size c) w' ∧
    Bs w' (.slice (some ⟨w.heap.size, 0, none⟩) s.size c) s.data.toList ∧ Kp No w w' := by
  refine ⟨_, _, run_bytes_of_string w 9 34 5 s Tryz.underlying9 Tryz.underlying34 Tryz.underlying5, ?_, ((Kp.refl No w).drew).alloc _⟩
  have e : s.size = s.data.toList.length := by rw [Array.length_toList]; rfl
  refine ⟨_, _, by rw [← e], by rw [← e]; exact grownCap_ge _ _ _ _, grownCap_le_maxLen _ _ _ _ hs, fun _ => ⟨_, 0, rfl, fun k hk => ?_⟩⟩
  have hk' : k < s.data.size := by rw [Array.length_toList] at hk; exact hk
  rw [show w.heap.size = w.drew.heap.size from rfl, World.cell?_alloc_mark]
  simp only [Nat.zero_add, if_pos trivial]
  rw [bytesRow_at s _ k hk']
  unfold B
  have e2 : s.data.toList.getD k 0 = s.data[k] := by rw [List.getD, Array.getElem?_toList, Array.getElem?_eq_getElem hk']; rfl
  rw [e2]

def PRel (l : List UInt8) (u n i : Value) : Prop := u = .bool false ∧ ∃ k : Nat, k ≤ l.length ∧ i = .int .i64 (k : Int) ∧ n = .int .u64 (val (l.take k) : Int)

set_option maxRecDepth 100000 in
set_option maxHeartbeats 4000000 in
theorem parse_any (l : List UInt8) (h : ∀ c ∈ l, Hex c) (h0 : l ≠ []) (hl : l.length ≤ 15) (w : World) :
    Calls Tryz.prog 92 #[.string ⟨l.toArray⟩, .int .i64 16, .int .i64 64] w fun e w' => e = .returned (.tuple #[.int .u64 (val l : Int), .nilIface]) ∧ Kp No w w' := by
  have hs : (⟨l.toArray⟩ : ByteArray).size = l.length := rfl
  have e0 : l.isEmpty = false := by simpa using h0
  obtain ⟨c, w1, hconv, hbs, hk⟩ := conv_str w ⟨l.toArray⟩ (by rw [hs]; unfold maxLen; omega)
  rw [hs] at hconv hbs
  obtain ⟨a, c', e, h1, h2, h3⟩ := hbs
  simp only [Value.slice.injEq] at e
  obtain ⟨rfl, -, rfl⟩ := e
  obtain ⟨b, o, e, hc⟩ := h3 h0
  simp only [Option.some.injEq, Addr.mk.injEq] at e
  obtain ⟨rfl, rfl, -⟩ := e
  simp only [Nat.zero_add] at hc
  have HH := Hid_mk h
  have HC := Hid_mk hc
  have HK := Hid_mk hk
  have q1 : IntKind.u64.wrap (IntKind.u64.wrap 18446744073709551616 - 1) = 18446744073709551615 := by decide +kernel
  clear h3 h1 h2 hs h hc hk
  go_enter Tryz.func92, Tryz.ntmps92
  go_wp2
  go_loop [12, 13, 101] (fun u n i => PRel l u n i) (fun _ _ i => l.length - (intOf i).toNat)
  case atStart => exact ⟨rfl, 0, Nat.zero_le _, rfl, rfl⟩
  case round =>
    obtain ⟨rfl, k, hk, rfl, rfl⟩ := hrel
    by_cases hlt : k < l.length
    · have hv := val_lt (l.take k) fun c hc => HH.out c (List.mem_of_mem_take hc)
      have hv2 : val (l.take k) < 72057594037927936 := by
        refine Nat.lt_of_lt_of_le hv ?_
        have : 16 ^ (l.take k).length ≤ 16 ^ 14 := Nat.pow_le_pow_right (by omega) (by rw [List.length_take]; omega)
        exact this
      have hx : w1.cell? ⟨w.heap.size, k, none⟩ = some (.int .u8 ((l.getD k 0).toNat : Int)) := HC.out k hlt
      have hcx : Hex (l.getD k 0) := by
        rw [show l.getD k 0 = l[k] by simp [List.getD, hlt]]; exact HH.out _ (List.getElem_mem hlt)
      have hsn : val (l.take (k + 1)) = 16 * val (l.take k) + hval (l.getD k 0) := by
        rw [take_snoc hlt, val_snoc]
      have HSn := Hid_mk hsn
      generalize hd : l.getD k 0 = d at *
      generalize hN : val (l.take k) = N at *
      have HD := Hid_mk hd
      have HN := Hid_mk hN
      clear hd hN hsn hv
      have hcut : ¬ (1152921504606846976 : Int) ≤ (N : Int) := by omega
      rcases hcx with ⟨ha, hb⟩ | ⟨ha, hb⟩
      · have e1 : hval d = d.toNat - 48 := if_pos hb
        have HE := Hid_mk e1
        have f1 : (48 : Int) ≤ (d.toNat : Int) := by omega
        have f2 : (d.toNat : Int) ≤ 57 := by omega
        have f3 : ((d.toNat : Int) == 95) = false := by simp; omega
        have f4 : ¬ (16 : Int) ≤ (d.toNat : Int) - 48 := by omega
        clear e1
        go_wp2
        refine ⟨⟨rfl, k + 1, by omega, by go_num, ?_⟩, by simp [intOf]; omega⟩
        rw [HSn.out, HE.out]
        congr 1
        omega
      · have e1 : hval d = d.toNat - 87 := if_neg (by omega)
        have HE := Hid_mk e1
        have f0 : (48 : Int) ≤ (d.toNat : Int) := by omega
        have f1 : ¬ (d.toNat : Int) ≤ 57 := by omega
        have f2 : (97 : Int) ≤ (d.toNat : Int) := by omega
        have f3 : ((d.toNat : Int) == 95) = false := by simp; omega
        have f4 : (d.toNat : Int) ≤ 122 := by omega
        have f5 := or32 d.toNat ha hb
        have f6 : ¬ (16 : Int) ≤ (d.toNat : Int) - 97 + 10 := by omega
        clear e1
        go_wp2
        refine ⟨⟨rfl, k + 1, by omega, by go_num, ?_⟩, by simp [intOf]; omega⟩
        rw [HSn.out, HE.out]
        congr 1
        omega
    · obtain rfl : k = l.length := by omega
      rw [List.take_length]
      go_wp2
      go_ret2
      exact ⟨rfl, HK.out⟩

theorem nameOf_hex (n : Nat) : ∀ c ∈ List.replicate (15 - (hexs n).length) 48 ++ hexs n, Hex c := by
  intro c hc
  rcases List.mem_append.1 hc with hc | hc
  · have := List.eq_of_mem_replicate hc
    subst this; unfold Hex; decide
  · exact hexs_hex n c hc
theorem val_nameOf (n : Nat) : val (List.replicate (15 - (hexs n).length) 48 ++ hexs n) = n := by rw [val_zeros, val_hexs]

set_option maxRecDepth 100000 in
set_option maxHeartbeats 4000000 in
theorem is_any (n : Nat) (hn : n ≤ 1099511627776) (w : World) (ht : Tz w) :
    Calls Tryz.prog 33 #[.string ⟨(nameOf n).toArray⟩] w fun e w' => e = .returned (.bool true) ∧ Kp No w w' := by
  have hlen : (List.replicate (15 - (hexs n).length) 48 ++ hexs n).length = 15 := by
    have := name_len n hn; simp; omega
  have HP0 := fun w => parse_any _ (nameOf_hex n) (by intro e; rw [e] at hlen; simp at hlen) (by omega) w
  rw [val_nameOf] at HP0
  have HN0 := fun w ht => name_any n hn w ht
  unfold nameOf at *
  generalize List.replicate (15 - (hexs n).length) 48 ++ hexs n = l at *
  have q1 : (⟨(106 :: l).toArray⟩ : ByteArray).size = 16 := by show (106 :: l).toArray.size = _; simp [hlen]
  have q2 : (⟨(106 :: l).toArray⟩ : ByteArray).extract 1 16 = ⟨l.toArray⟩ := by
    apply ByteArray.ext
    rw [← Array.toList_inj]
    simp [hlen, List.take_of_length_le]
  have q3 : ((⟨(106 :: l).toArray⟩ : ByteArray).extract 0 1).toList = [106] := by
    rw [ByteArray.toList_eq]; simp
  have HP := Hid_mk HP0
  have HN := Hid_mk HN0
  clear HP0 HN0
  have HT := Hid_mk ht
  clear hlen hn ht
  generalize (⟨(106 :: l).toArray⟩ : ByteArray) = s at *
  go_enter Tryz.func33, Tryz.ntmps33
  go_wp2_with (first
    | (go_at_call 92; refine (HP.out _).mono ?_; rintro e w1 ⟨rfl, hk1⟩; have HK1 := Hid_mk hk1; clear hk1)
    | (go_at_call 13; refine (HN.out _ (HT.out.no HK1.out)).mono ?_; rintro e w2 ⟨rfl, hk2⟩; have HK2 := Hid_mk hk2; clear hk2)
    | go_in)
  go_ret
  exact ⟨rfl, HK1.out.trans' HK2.out⟩

end Go.Proofs.YteekcbbdbciddaaGreatDoor.hex
