/- What every statement asks first: some of chapter 1's examples; and bytes as a text. -/
import Derived.Test.YtaghpjlodlbmjaaClone
import Derived.Laws.IdiomStrings
import Derived.Laws.BytesArg
import Derived.Laws.Pointers
namespace Go.Proofs.Ytaghpjlodlbmjaa.known
open Go.RowKit Go.Proofs.Ytaghpjlodlbmjaa.sum Go.Proofs.Ytaghpjlodlbmjaa.kept Go.Proofs.Ytaghpjlodlbmjaa.app Go.Proofs.Ytaghpjlodlbmjaa.writer Go.Proofs.Ytaghpjlodlbmjaa.clone Go.Proofs.Ytaghpjlodlbmjaa.fl
set_option linter.unusedVariables false

/-- bytes as a text -/
theorem conv_bs {w : World} {v : Value} {bs : List UInt8} (h : Bs w v bs) : (convert 28 9 v).run Try.prog w = .ok (.string ⟨bs.toArray⟩) w := by
  obtain ⟨a, cap, rfl, h1, h2, h3⟩ := h
  by_cases hbs : bs = []
  · subst hbs
    cases a with
    | none => exact run_convert_bytes_nil w 28 5 Try.underlying28 Try.underlying5 _ _ _ Try.underlying9
    | some ad => exact run_convert_bytes_back w 28 9 5 ad cap [] Try.underlying28 Try.underlying5 Try.underlying9 (fun j hj => by simp at hj)
  · obtain ⟨b, o, rfl, hc⟩ := h3 hbs
    refine run_convert_bytes_back w 28 9 5 ⟨b, o, none⟩ cap bs Try.underlying28 Try.underlying5 Try.underlying9 (fun j hj => ?_)
    rw [addr_add, hc j hj]
    simp [B, List.getD, hj]

theorem c258 : (4643246400191070208 : Nat) = fl 258 := by decide +kernel

theorem sum_zero_byte : cx (pl.sum [0]) = .complex .f64 4643246400191070208 4613937818241073152 := by
  have e : pl.sum [0] = (258, 3) := by decide
  rw [e, c258, ← w3]; rfl
theorem bytes_known : ([] : List UInt8) ++ [7] ++ num 300 ++ (num 2 ++ [97, 98]) = [7, 172, 2, 2, 97, 98] := by
  have e1 : num 300 = [(300 % 128 + 128).toUInt8, (300 / 128).toUInt8] := by rw [num_big (n := 300) (by omega), num_small (n := 300 / 128) (by omega)]
  have e2 : num 2 = [Nat.toUInt8 2] := num_small (by omega)
  rw [e1, e2]
  decide

set_option maxRecDepth 100000 in
set_option maxHeartbeats 1000000 in
theorem known_any (w : World) : Calls Try.prog 26 #[] w fun e w' => e = .returned (.bool true) ∧ Kp No w w' := by
  go_enter Try.func26, Try.ntmps26
  go_wp2_with fail
  refine (new_any w).mono ?_
  rintro e w1 ⟨rfl, hw1, k1⟩
  have W1 := Hid_mk hw1
  have K1 := Hid_mk k1
  clear hw1 k1
  go_wp2_with fail
  refine (byte_nat w.heap.size w.heap.size w1 _ _ 7 (by omega) W1.out (by simp)).mono ?_
  rintro e w2 ⟨rfl, v2, hat2⟩
  have A2 := Hid_mk hat2
  clear hat2
  go_wp2_with fail
  refine (num_any w.heap.size w.heap.size w2 _ _ 300 (by rw [u64_eq]; omega) A2.out.1 (by simp)).mono ?_
  rintro e w3 ⟨rfl, v3, hat3⟩
  have A3 := Hid_mk hat3
  clear hat3
  go_wp2_with fail
  refine (text_any w.heap.size w.heap.size w3 _ _ ⟨#[97, 98]⟩ A3.out.1 (by
    have := num_len 300 2 (by omega) (by omega)
    have e : (⟨#[97, 98]⟩ : ByteArray).size = 2 := rfl
    rw [e]; simp; omega)).mono ?_
  rintro e w4 ⟨rfl, v4, hat4⟩
  have A4 := Hid_mk hat4
  clear hat4
  go_wp2_with fail
  have hlen : ([] ++ [Nat.toUInt8 7] ++ num 300 ++ (num (ByteArray.size ⟨#[97, 98]⟩) ++ (⟨#[97, 98]⟩ : ByteArray).data.toList) : List UInt8) = [7, 172, 2, 2, 97, 98] := bytes_known
  rw [hlen] at A4
  refine (bytes_any w.heap.size w.heap.size w4 _ _ A4.out.1 (by simp)).mono ?_
  rintro e w5 ⟨v5, rfl, how5, hk5⟩
  have B5 := owns_bs how5
  have hconv := conv_bs B5
  have HOW5 := Hid_mk how5
  have HK5 := Hid_mk hk5
  clear how5 hk5 hlen B5
  go_wp2_with fail
  have hs := sum_any (w5.alloc (.cells #[.int .u8 0] 5)) (.slice (some ⟨w5.heap.size, 0, none⟩) 1 1) [0] (bs_one w5 0)
  rw [sum_zero_byte] at hs
  refine hs.mono ?_
  rintro e w6 ⟨rfl, rfl⟩
  clear hconv
  have o1 : (FloatKind.f64.format.order 4643246400191070208 4643246400191070208 == some .eq) = true := by decide +kernel
  have o2 : (FloatKind.f64.format.order 4613937818241073152 4613937818241073152 == some .eq) = true := by decide +kernel
  clear hs
  go_wp2
  go_ret
  refine ⟨rfl, ?_⟩
  obtain ⟨-, v9, h9⟩ := wr_join A2.out (wr_join (e := .returned (.tuple #[])) A3.out ⟨rfl, v4, A4.out⟩)
  refine ((K1.out.trans h9.2.1 ?_).trans' HK5.out).alloc _
  rintro i hi (e | e)
  · omega
  · simp [Value.ownBlock] at e

end Go.Proofs.Ytaghpjlodlbmjaa.known
