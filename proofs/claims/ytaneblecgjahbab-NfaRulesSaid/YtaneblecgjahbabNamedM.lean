/- Package class: the sets that have names. Texts of known bytes: their length, an index, a piece, a test, as the walk asks for them. -/
import Derived.Test.YtaneblecgjahbabSetsM
import Derived.Deep.CutRange
import Derived.Test.YtaneblecgjahbabBaseM
import Derived.Laws.DeepStrings4

namespace Go.Proofs.Ytaneblecgjahbab.cls
open Go.RowKit Go.Proofs.Ytaneblecgjahbab.sum Go.Proofs.Ytaneblecgjahbab.kept Go.Proofs.Ytaneblecgjahbab.pop
set_option linter.unusedVariables false

def lettersS : Nat → Bool := fun x => spn 65 90 x || spn 97 122 x
def digitsS : Nat → Bool := spn 48 57

theorem bs_of1 (w : World) (b : UInt8) : Bs (w.alloc (.cells #[.int .u8 (b.toNat : Int)] 5)) (.slice (some ⟨w.heap.size, 0, none⟩) 1 1) [b] :=
  ⟨_, 1, rfl, Nat.le_refl _, by decide, fun _ => ⟨_, 0, rfl, fun k hk => by
    obtain rfl : k = 0 := by simpa using hk
    simp [B]⟩⟩
theorem bs_of2 (w : World) (a b : UInt8) : Bs (w.alloc (.cells #[.int .u8 (a.toNat : Int), .int .u8 (b.toNat : Int)] 5)) (.slice (some ⟨w.heap.size, 0, none⟩) 2 2) [a, b] :=
  ⟨_, 2, rfl, Nat.le_refl _, by decide, fun _ => ⟨_, 0, rfl, fun k hk => by
    have : k = 0 ∨ k = 1 := by simp at hk; omega
    rcases this with rfl | rfl <;> simp [B]⟩⟩
theorem bs_of3 (w : World) (a b c : UInt8) : Bs (w.alloc (.cells #[.int .u8 (a.toNat : Int), .int .u8 (b.toNat : Int), .int .u8 (c.toNat : Int)] 5)) (.slice (some ⟨w.heap.size, 0, none⟩) 3 3) [a, b, c] :=
  ⟨_, 3, rfl, Nat.le_refl _, by decide, fun _ => ⟨_, 0, rfl, fun k hk => by
    have : k = 0 ∨ k = 1 ∨ k = 2 := by simp at hk; omega
    rcases this with rfl | rfl | rfl <;> simp [B]⟩⟩

set_option maxRecDepth 100000 in
theorem letters_any (w : World) : Calls Try.prog 138 #[] w fun e w' => e = .returned (sv lettersS) ∧ Kp No w w' := by
  have HZ := Hid_mk (SetAt.zero w)
  have HK0 := Hid_mk ((Kp.refl No w).alloc (.cells #[.int .u64 0, .int .u64 0, .int .u64 0, .int .u64 0] 27))
  go_enter Try.func138, Try.ntmps138
  go_wp2_with fail
  with_reducible refine (span_i _ 65 90 65 90 rfl rfl (by decide) (by decide)).mono ?_
  rintro e w1 ⟨rfl, k1⟩
  go_wp2_with fail
  with_reducible refine (span_i _ 97 122 97 122 rfl rfl (by decide) (by decide)).mono ?_
  rintro e w2 ⟨rfl, k2⟩
  go_wp2_with fail
  with_reducible refine (or_any _ _ _).mono ?_
  rintro e w3 ⟨rfl, k3⟩
  have hk := (HK0.out.trans' k1).trans' (k2.trans' k3)
  have hz := HZ.out.kept (k1.trans' (k2.trans' k3)) id
  obtain ⟨WR, hWR, hs, hkr⟩ := put_any hz lettersS hk (fun h => Nat.lt_irrefl _ h)
  have HWR := Hid_mk hWR
  have HS := Hid_mk hs
  have HKR := Hid_mk hkr
  obtain ⟨z0, z1, z2, z3⟩ := hz.cells
  have zw := hz.warm
  clear k1 k2 k3 hk hz hWR hs hkr
  unfold lettersS at HWR
  go_wp2
  rw [HWR.out]
  clear z0 z1 z2 z3 zw HWR
  obtain ⟨r0, r1, r2, r3⟩ := HS.out.cells
  refine bodyPost_ret (v := sv lettersS) ?_ rfl ⟨rfl, HKR.out⟩
  simp [results, Try.results138, go_sem, r0, r1, r2, r3]

set_option maxRecDepth 100000 in
theorem digits_any (w : World) : Calls Try.prog 139 #[] w fun e w' => e = .returned (sv digitsS) ∧ Kp No w w' := by
  have HZ := Hid_mk (SetAt.zero w)
  have HK0 := Hid_mk ((Kp.refl No w).alloc (.cells #[.int .u64 0, .int .u64 0, .int .u64 0, .int .u64 0] 27))
  go_enter Try.func139, Try.ntmps139
  go_wp2_with fail
  with_reducible refine (span_i _ 48 57 48 57 rfl rfl (by decide) (by decide)).mono ?_
  rintro e w1 ⟨rfl, k1⟩
  have hk := HK0.out.trans' k1
  have hz := HZ.out.kept k1 id
  obtain ⟨WR, hWR, hs, hkr⟩ := put_any hz digitsS hk (fun h => Nat.lt_irrefl _ h)
  have HWR := Hid_mk hWR
  have HS := Hid_mk hs
  have HKR := Hid_mk hkr
  obtain ⟨z0, z1, z2, z3⟩ := hz.cells
  have zw := hz.warm
  clear k1 hk hz hWR hs hkr
  unfold digitsS at HWR
  go_wp2
  rw [HWR.out]
  clear z0 z1 z2 z3 zw HWR
  obtain ⟨r0, r1, r2, r3⟩ := HS.out.cells
  refine bodyPost_ret (v := sv digitsS) ?_ rfl ⟨rfl, HKR.out⟩
  simp [results, Try.results139, go_sem, r0, r1, r2, r3]

/-- the names, in their order -/
abbrev nmB0 : List UInt8 := [97, 108, 112, 104, 97]
abbrev nmB1 : List UInt8 := [100, 105, 103, 105, 116]
abbrev nmB2 : List UInt8 := [97, 108, 110, 117, 109]
abbrev nmB3 : List UInt8 := [117, 112, 112, 101, 114]
abbrev nmB4 : List UInt8 := [108, 111, 119, 101, 114]
abbrev nmB5 : List UInt8 := [115, 112, 97, 99, 101]
abbrev nmB6 : List UInt8 := [98, 108, 97, 110, 107]
abbrev nmB7 : List UInt8 := [112, 117, 110, 99, 116]
abbrev nmB8 : List UInt8 := [112, 114, 105, 110, 116]
abbrev nmB9 : List UInt8 := [103, 114, 97, 112, 104]
abbrev nmB10 : List UInt8 := [99, 110, 116, 114, 108]
abbrev nmB11 : List UInt8 := [120, 100, 105, 103, 105, 116]
/-- what a name stands for -/
def namedS (l : List UInt8) : (Nat → Bool) × Bool :=
  if l = nmB0 then (lettersS, true)
  else if l = nmB1 then (digitsS, true)
  else if l = nmB2 then ((fun x => lettersS x || digitsS x), true)
  else if l = nmB3 then ((spn 65 90), true)
  else if l = nmB4 then ((spn 97 122), true)
  else if l = nmB5 then ((fun x => spn 9 13 x || ofL [32] x), true)
  else if l = nmB6 then ((ofL [9, 32]), true)
  else if l = nmB7 then ((fun x => (fun x => (fun x => spn 33 47 x || spn 58 64 x) x || spn 91 96 x) x || spn 123 126 x), true)
  else if l = nmB8 then ((spn 32 126), true)
  else if l = nmB9 then ((spn 33 126), true)
  else if l = nmB10 then ((fun x => spn 0 31 x || ofL [127] x), true)
  else if l = nmB11 then ((fun x => (fun x => digitsS x || spn 65 70 x) x || spn 97 102 x), true)
  else (nul, false)

set_option maxRecDepth 100000 in
theorem named_alpha (w : World) (s : ByteArray) (n0 : (s.toList == [97, 108, 112, 104, 97]) = true) :
    Calls Try.prog 133 #[.string s] w fun e w' => e = .returned (.tuple #[sv lettersS, .bool true]) ∧ Kp No w w' := by
  have HZ := Hid_mk (SetAt.zero w)
  have HK0 := Hid_mk ((Kp.refl No w).alloc (.cells #[.int .u64 0, .int .u64 0, .int .u64 0, .int .u64 0] 27))
  go_enter Try.func133, Try.ntmps133
  go_wp2_with fail
  with_reducible refine (letters_any _).mono ?_
  rintro e w1 ⟨rfl, k1⟩
  have hk := HK0.out.trans' (k1)
  have hz := HZ.out.kept (k1) id
  obtain ⟨WR, hWR, hs, hkr⟩ := put_any hz lettersS hk (fun h => Nat.lt_irrefl _ h)
  have HWR := Hid_mk hWR
  have HS := Hid_mk hs
  have HKR := Hid_mk hkr
  obtain ⟨z0, z1, z2, z3⟩ := hz.cells
  have zw := hz.warm
  clear k1 hk hz hWR hs hkr
  go_wp2
  rw [HWR.out]
  clear z0 z1 z2 z3 zw HWR
  obtain ⟨r0, r1, r2, r3⟩ := HS.out.cells
  refine bodyPost_ret (v := .tuple #[sv lettersS, .bool true]) ?_ rfl ⟨rfl, HKR.out⟩
  simp [results, Try.results133, go_sem, r0, r1, r2, r3]

set_option maxRecDepth 100000 in
theorem named_digit (w : World) (s : ByteArray) (n0 : (s.toList == [97, 108, 112, 104, 97]) = false) (n1 : (s.toList == [100, 105, 103, 105, 116]) = true) :
    Calls Try.prog 133 #[.string s] w fun e w' => e = .returned (.tuple #[sv digitsS, .bool true]) ∧ Kp No w w' := by
  have HZ := Hid_mk (SetAt.zero w)
  have HK0 := Hid_mk ((Kp.refl No w).alloc (.cells #[.int .u64 0, .int .u64 0, .int .u64 0, .int .u64 0] 27))
  go_enter Try.func133, Try.ntmps133
  go_wp2_with fail
  with_reducible refine (digits_any _).mono ?_
  rintro e w1 ⟨rfl, k1⟩
  have hk := HK0.out.trans' (k1)
  have hz := HZ.out.kept (k1) id
  obtain ⟨WR, hWR, hs, hkr⟩ := put_any hz digitsS hk (fun h => Nat.lt_irrefl _ h)
  have HWR := Hid_mk hWR
  have HS := Hid_mk hs
  have HKR := Hid_mk hkr
  obtain ⟨z0, z1, z2, z3⟩ := hz.cells
  have zw := hz.warm
  clear k1 hk hz hWR hs hkr
  go_wp2
  rw [HWR.out]
  clear z0 z1 z2 z3 zw HWR
  obtain ⟨r0, r1, r2, r3⟩ := HS.out.cells
  refine bodyPost_ret (v := .tuple #[sv digitsS, .bool true]) ?_ rfl ⟨rfl, HKR.out⟩
  simp [results, Try.results133, go_sem, r0, r1, r2, r3]

set_option maxRecDepth 100000 in
theorem named_alnum (w : World) (s : ByteArray) (n0 : (s.toList == [97, 108, 112, 104, 97]) = false) (n1 : (s.toList == [100, 105, 103, 105, 116]) = false) (n2 : (s.toList == [97, 108, 110, 117, 109]) = true) :
    Calls Try.prog 133 #[.string s] w fun e w' => e = .returned (.tuple #[sv (fun x => lettersS x || digitsS x), .bool true]) ∧ Kp No w w' := by
  have HZ := Hid_mk (SetAt.zero w)
  have HK0 := Hid_mk ((Kp.refl No w).alloc (.cells #[.int .u64 0, .int .u64 0, .int .u64 0, .int .u64 0] 27))
  go_enter Try.func133, Try.ntmps133
  go_wp2_with fail
  with_reducible refine (letters_any _).mono ?_
  rintro e w1 ⟨rfl, k1⟩
  go_wp2_with fail
  with_reducible refine (digits_any _).mono ?_
  rintro e w2 ⟨rfl, k2⟩
  go_wp2_with fail
  with_reducible refine (or_any _ _ _).mono ?_
  rintro e w3 ⟨rfl, k3⟩
  have hk := HK0.out.trans' (k1.trans' (k2.trans' (k3)))
  have hz := HZ.out.kept (k1.trans' (k2.trans' (k3))) id
  obtain ⟨WR, hWR, hs, hkr⟩ := put_any hz (fun x => lettersS x || digitsS x) hk (fun h => Nat.lt_irrefl _ h)
  have HWR := Hid_mk hWR
  have HS := Hid_mk hs
  have HKR := Hid_mk hkr
  obtain ⟨z0, z1, z2, z3⟩ := hz.cells
  have zw := hz.warm
  clear k1 k2 k3 hk hz hWR hs hkr
  go_wp2
  rw [HWR.out]
  clear z0 z1 z2 z3 zw HWR
  obtain ⟨r0, r1, r2, r3⟩ := HS.out.cells
  refine bodyPost_ret (v := .tuple #[sv (fun x => lettersS x || digitsS x), .bool true]) ?_ rfl ⟨rfl, HKR.out⟩
  simp [results, Try.results133, go_sem, r0, r1, r2, r3]

set_option maxRecDepth 100000 in
theorem named_upper (w : World) (s : ByteArray) (n0 : (s.toList == [97, 108, 112, 104, 97]) = false) (n1 : (s.toList == [100, 105, 103, 105, 116]) = false) (n2 : (s.toList == [97, 108, 110, 117, 109]) = false) (n3 : (s.toList == [117, 112, 112, 101, 114]) = true) :
    Calls Try.prog 133 #[.string s] w fun e w' => e = .returned (.tuple #[sv (spn 65 90), .bool true]) ∧ Kp No w w' := by
  have HZ := Hid_mk (SetAt.zero w)
  have HK0 := Hid_mk ((Kp.refl No w).alloc (.cells #[.int .u64 0, .int .u64 0, .int .u64 0, .int .u64 0] 27))
  go_enter Try.func133, Try.ntmps133
  go_wp2_with fail
  with_reducible refine (span_i _ 65 90 65 90 rfl rfl (by decide) (by decide)).mono ?_
  rintro e w1 ⟨rfl, k1⟩
  have hk := HK0.out.trans' (k1)
  have hz := HZ.out.kept (k1) id
  obtain ⟨WR, hWR, hs, hkr⟩ := put_any hz (spn 65 90) hk (fun h => Nat.lt_irrefl _ h)
  have HWR := Hid_mk hWR
  have HS := Hid_mk hs
  have HKR := Hid_mk hkr
  obtain ⟨z0, z1, z2, z3⟩ := hz.cells
  have zw := hz.warm
  clear k1 hk hz hWR hs hkr
  go_wp2
  rw [HWR.out]
  clear z0 z1 z2 z3 zw HWR
  obtain ⟨r0, r1, r2, r3⟩ := HS.out.cells
  refine bodyPost_ret (v := .tuple #[sv (spn 65 90), .bool true]) ?_ rfl ⟨rfl, HKR.out⟩
  simp [results, Try.results133, go_sem, r0, r1, r2, r3]

set_option maxRecDepth 100000 in
theorem named_lower (w : World) (s : ByteArray) (n0 : (s.toList == [97, 108, 112, 104, 97]) = false) (n1 : (s.toList == [100, 105, 103, 105, 116]) = false) (n2 : (s.toList == [97, 108, 110, 117, 109]) = false) (n3 : (s.toList == [117, 112, 112, 101, 114]) = false) (n4 : (s.toList == [108, 111, 119, 101, 114]) = true) :
    Calls Try.prog 133 #[.string s] w fun e w' => e = .returned (.tuple #[sv (spn 97 122), .bool true]) ∧ Kp No w w' := by
  have HZ := Hid_mk (SetAt.zero w)
  have HK0 := Hid_mk ((Kp.refl No w).alloc (.cells #[.int .u64 0, .int .u64 0, .int .u64 0, .int .u64 0] 27))
  go_enter Try.func133, Try.ntmps133
  go_wp2_with fail
  with_reducible refine (span_i _ 97 122 97 122 rfl rfl (by decide) (by decide)).mono ?_
  rintro e w1 ⟨rfl, k1⟩
  have hk := HK0.out.trans' (k1)
  have hz := HZ.out.kept (k1) id
  obtain ⟨WR, hWR, hs, hkr⟩ := put_any hz (spn 97 122) hk (fun h => Nat.lt_irrefl _ h)
  have HWR := Hid_mk hWR
  have HS := Hid_mk hs
  have HKR := Hid_mk hkr
  obtain ⟨z0, z1, z2, z3⟩ := hz.cells
  have zw := hz.warm
  clear k1 hk hz hWR hs hkr
  go_wp2
  rw [HWR.out]
  clear z0 z1 z2 z3 zw HWR
  obtain ⟨r0, r1, r2, r3⟩ := HS.out.cells
  refine bodyPost_ret (v := .tuple #[sv (spn 97 122), .bool true]) ?_ rfl ⟨rfl, HKR.out⟩
  simp [results, Try.results133, go_sem, r0, r1, r2, r3]

set_option maxRecDepth 100000 in
theorem named_space (w : World) (s : ByteArray) (n0 : (s.toList == [97, 108, 112, 104, 97]) = false) (n1 : (s.toList == [100, 105, 103, 105, 116]) = false) (n2 : (s.toList == [97, 108, 110, 117, 109]) = false) (n3 : (s.toList == [117, 112, 112, 101, 114]) = false) (n4 : (s.toList == [108, 111, 119, 101, 114]) = false) (n5 : (s.toList == [115, 112, 97, 99, 101]) = true) :
    Calls Try.prog 133 #[.string s] w fun e w' => e = .returned (.tuple #[sv (fun x => spn 9 13 x || ofL [32] x), .bool true]) ∧ Kp No w w' := by
  have HZ := Hid_mk (SetAt.zero w)
  have HK0 := Hid_mk ((Kp.refl No w).alloc (.cells #[.int .u64 0, .int .u64 0, .int .u64 0, .int .u64 0] 27))
  go_enter Try.func133, Try.ntmps133
  go_wp2_with fail
  with_reducible refine (span_i _ 9 13 9 13 rfl rfl (by decide) (by decide)).mono ?_
  rintro e w1 ⟨rfl, k1⟩
  have hbs := bs_of1 w1 32
  have HBS := Hid_mk hbs
  clear hbs
  go_wp2_with fail
  refine (of_any _ _ [32] HBS.out).mono ?_
  rintro e w2 ⟨rfl, k2⟩
  replace k2 := ((Kp.refl No w1).alloc (.cells #[.int .u8 ((32 : UInt8).toNat : Int)] 5)).trans' k2
  go_wp2_with fail
  with_reducible refine (or_any _ _ _).mono ?_
  rintro e w3 ⟨rfl, k3⟩
  have hk := HK0.out.trans' (k1.trans' (k2.trans' (k3)))
  have hz := HZ.out.kept (k1.trans' (k2.trans' (k3))) id
  obtain ⟨WR, hWR, hs, hkr⟩ := put_any hz (fun x => spn 9 13 x || ofL [32] x) hk (fun h => Nat.lt_irrefl _ h)
  have HWR := Hid_mk hWR
  have HS := Hid_mk hs
  have HKR := Hid_mk hkr
  obtain ⟨z0, z1, z2, z3⟩ := hz.cells
  have zw := hz.warm
  clear k1 k2 k3 hk hz hWR hs hkr
  go_wp2
  rw [HWR.out]
  clear z0 z1 z2 z3 zw HWR
  obtain ⟨r0, r1, r2, r3⟩ := HS.out.cells
  refine bodyPost_ret (v := .tuple #[sv (fun x => spn 9 13 x || ofL [32] x), .bool true]) ?_ rfl ⟨rfl, HKR.out⟩
  simp [results, Try.results133, go_sem, r0, r1, r2, r3]

set_option maxRecDepth 100000 in
theorem named_blank (w : World) (s : ByteArray) (n0 : (s.toList == [97, 108, 112, 104, 97]) = false) (n1 : (s.toList == [100, 105, 103, 105, 116]) = false) (n2 : (s.toList == [97, 108, 110, 117, 109]) = false) (n3 : (s.toList == [117, 112, 112, 101, 114]) = false) (n4 : (s.toList == [108, 111, 119, 101, 114]) = false) (n5 : (s.toList == [115, 112, 97, 99, 101]) = false) (n6 : (s.toList == [98, 108, 97, 110, 107]) = true) :
    Calls Try.prog 133 #[.string s] w fun e w' => e = .returned (.tuple #[sv (ofL [9, 32]), .bool true]) ∧ Kp No w w' := by
  have HZ := Hid_mk (SetAt.zero w)
  have HK0 := Hid_mk ((Kp.refl No w).alloc (.cells #[.int .u64 0, .int .u64 0, .int .u64 0, .int .u64 0] 27))
  go_enter Try.func133, Try.ntmps133
  have hbs := bs_of2 (w.alloc (.cells #[.int .u64 0, .int .u64 0, .int .u64 0, .int .u64 0] 27)) 9 32
  simp only [World.size_alloc] at hbs
  have HBS := Hid_mk hbs
  clear hbs
  go_wp2_with fail
  refine (of_any _ _ [9, 32] HBS.out).mono ?_
  rintro e w1 ⟨rfl, k1⟩
  replace k1 := ((Kp.refl No (w.alloc (.cells #[.int .u64 0, .int .u64 0, .int .u64 0, .int .u64 0] 27))).alloc (.cells #[.int .u8 ((9 : UInt8).toNat : Int), .int .u8 ((32 : UInt8).toNat : Int)] 5)).trans' k1
  have hk := HK0.out.trans' (k1)
  have hz := HZ.out.kept (k1) id
  obtain ⟨WR, hWR, hs, hkr⟩ := put_any hz (ofL [9, 32]) hk (fun h => Nat.lt_irrefl _ h)
  have HWR := Hid_mk hWR
  have HS := Hid_mk hs
  have HKR := Hid_mk hkr
  obtain ⟨z0, z1, z2, z3⟩ := hz.cells
  have zw := hz.warm
  clear k1 hk hz hWR hs hkr
  go_wp2
  rw [HWR.out]
  clear z0 z1 z2 z3 zw HWR
  obtain ⟨r0, r1, r2, r3⟩ := HS.out.cells
  refine bodyPost_ret (v := .tuple #[sv (ofL [9, 32]), .bool true]) ?_ rfl ⟨rfl, HKR.out⟩
  simp [results, Try.results133, go_sem, r0, r1, r2, r3]

set_option maxRecDepth 100000 in
theorem named_punct (w : World) (s : ByteArray) (n0 : (s.toList == [97, 108, 112, 104, 97]) = false) (n1 : (s.toList == [100, 105, 103, 105, 116]) = false) (n2 : (s.toList == [97, 108, 110, 117, 109]) = false) (n3 : (s.toList == [117, 112, 112, 101, 114]) = false) (n4 : (s.toList == [108, 111, 119, 101, 114]) = false) (n5 : (s.toList == [115, 112, 97, 99, 101]) = false) (n6 : (s.toList == [98, 108, 97, 110, 107]) = false) (n7 : (s.toList == [112, 117, 110, 99, 116]) = true) :
    Calls Try.prog 133 #[.string s] w fun e w' => e = .returned (.tuple #[sv (fun x => (fun x => (fun x => spn 33 47 x || spn 58 64 x) x || spn 91 96 x) x || spn 123 126 x), .bool true]) ∧ Kp No w w' := by
  have HZ := Hid_mk (SetAt.zero w)
  have HK0 := Hid_mk ((Kp.refl No w).alloc (.cells #[.int .u64 0, .int .u64 0, .int .u64 0, .int .u64 0] 27))
  go_enter Try.func133, Try.ntmps133
  go_wp2_with fail
  with_reducible refine (span_i _ 33 47 33 47 rfl rfl (by decide) (by decide)).mono ?_
  rintro e w1 ⟨rfl, k1⟩
  go_wp2_with fail
  with_reducible refine (span_i _ 58 64 58 64 rfl rfl (by decide) (by decide)).mono ?_
  rintro e w2 ⟨rfl, k2⟩
  go_wp2_with fail
  with_reducible refine (or_any _ _ _).mono ?_
  rintro e w3 ⟨rfl, k3⟩
  go_wp2_with fail
  with_reducible refine (span_i _ 91 96 91 96 rfl rfl (by decide) (by decide)).mono ?_
  rintro e w4 ⟨rfl, k4⟩
  go_wp2_with fail
  with_reducible refine (or_any _ _ _).mono ?_
  rintro e w5 ⟨rfl, k5⟩
  go_wp2_with fail
  with_reducible refine (span_i _ 123 126 123 126 rfl rfl (by decide) (by decide)).mono ?_
  rintro e w6 ⟨rfl, k6⟩
  go_wp2_with fail
  with_reducible refine (or_any _ _ _).mono ?_
  rintro e w7 ⟨rfl, k7⟩
  have hk := HK0.out.trans' (k1.trans' (k2.trans' (k3.trans' (k4.trans' (k5.trans' (k6.trans' (k7)))))))
  have hz := HZ.out.kept (k1.trans' (k2.trans' (k3.trans' (k4.trans' (k5.trans' (k6.trans' (k7))))))) id
  obtain ⟨WR, hWR, hs, hkr⟩ := put_any hz (fun x => (fun x => (fun x => spn 33 47 x || spn 58 64 x) x || spn 91 96 x) x || spn 123 126 x) hk (fun h => Nat.lt_irrefl _ h)
  have HWR := Hid_mk hWR
  have HS := Hid_mk hs
  have HKR := Hid_mk hkr
  obtain ⟨z0, z1, z2, z3⟩ := hz.cells
  have zw := hz.warm
  clear k1 k2 k3 k4 k5 k6 k7 hk hz hWR hs hkr
  go_wp2
  rw [HWR.out]
  clear z0 z1 z2 z3 zw HWR
  obtain ⟨r0, r1, r2, r3⟩ := HS.out.cells
  refine bodyPost_ret (v := .tuple #[sv (fun x => (fun x => (fun x => spn 33 47 x || spn 58 64 x) x || spn 91 96 x) x || spn 123 126 x), .bool true]) ?_ rfl ⟨rfl, HKR.out⟩
  simp [results, Try.results133, go_sem, r0, r1, r2, r3]

set_option maxRecDepth 100000 in
theorem named_print (w : World) (s : ByteArray) (n0 : (s.toList == [97, 108, 112, 104, 97]) = false) (n1 : (s.toList == [100, 105, 103, 105, 116]) = false) (n2 : (s.toList == [97, 108, 110, 117, 109]) = false) (n3 : (s.toList == [117, 112, 112, 101, 114]) = false) (n4 : (s.toList == [108, 111, 119, 101, 114]) = false) (n5 : (s.toList == [115, 112, 97, 99, 101]) = false) (n6 : (s.toList == [98, 108, 97, 110, 107]) = false) (n7 : (s.toList == [112, 117, 110, 99, 116]) = false) (n8 : (s.toList == [112, 114, 105, 110, 116]) = true) :
    Calls Try.prog 133 #[.string s] w fun e w' => e = .returned (.tuple #[sv (spn 32 126), .bool true]) ∧ Kp No w w' := by
  have HZ := Hid_mk (SetAt.zero w)
  have HK0 := Hid_mk ((Kp.refl No w).alloc (.cells #[.int .u64 0, .int .u64 0, .int .u64 0, .int .u64 0] 27))
  go_enter Try.func133, Try.ntmps133
  go_wp2_with fail
  with_reducible refine (span_i _ 32 126 32 126 rfl rfl (by decide) (by decide)).mono ?_
  rintro e w1 ⟨rfl, k1⟩
  have hk := HK0.out.trans' (k1)
  have hz := HZ.out.kept (k1) id
  obtain ⟨WR, hWR, hs, hkr⟩ := put_any hz (spn 32 126) hk (fun h => Nat.lt_irrefl _ h)
  have HWR := Hid_mk hWR
  have HS := Hid_mk hs
  have HKR := Hid_mk hkr
  obtain ⟨z0, z1, z2, z3⟩ := hz.cells
  have zw := hz.warm
  clear k1 hk hz hWR hs hkr
  go_wp2
  rw [HWR.out]
  clear z0 z1 z2 z3 zw HWR
  obtain ⟨r0, r1, r2, r3⟩ := HS.out.cells
  refine bodyPost_ret (v := .tuple #[sv (spn 32 126), .bool true]) ?_ rfl ⟨rfl, HKR.out⟩
  simp [results, Try.results133, go_sem, r0, r1, r2, r3]

set_option maxRecDepth 100000 in
theorem named_graph (w : World) (s : ByteArray) (n0 : (s.toList == [97, 108, 112, 104, 97]) = false) (n1 : (s.toList == [100, 105, 103, 105, 116]) = false) (n2 : (s.toList == [97, 108, 110, 117, 109]) = false) (n3 : (s.toList == [117, 112, 112, 101, 114]) = false) (n4 : (s.toList == [108, 111, 119, 101, 114]) = false) (n5 : (s.toList == [115, 112, 97, 99, 101]) = false) (n6 : (s.toList == [98, 108, 97, 110, 107]) = false) (n7 : (s.toList == [112, 117, 110, 99, 116]) = false) (n8 : (s.toList == [112, 114, 105, 110, 116]) = false) (n9 : (s.toList == [103, 114, 97, 112, 104]) = true) :
    Calls Try.prog 133 #[.string s] w fun e w' => e = .returned (.tuple #[sv (spn 33 126), .bool true]) ∧ Kp No w w' := by
  have HZ := Hid_mk (SetAt.zero w)
  have HK0 := Hid_mk ((Kp.refl No w).alloc (.cells #[.int .u64 0, .int .u64 0, .int .u64 0, .int .u64 0] 27))
  go_enter Try.func133, Try.ntmps133
  go_wp2_with fail
  with_reducible refine (span_i _ 33 126 33 126 rfl rfl (by decide) (by decide)).mono ?_
  rintro e w1 ⟨rfl, k1⟩
  have hk := HK0.out.trans' (k1)
  have hz := HZ.out.kept (k1) id
  obtain ⟨WR, hWR, hs, hkr⟩ := put_any hz (spn 33 126) hk (fun h => Nat.lt_irrefl _ h)
  have HWR := Hid_mk hWR
  have HS := Hid_mk hs
  have HKR := Hid_mk hkr
  obtain ⟨z0, z1, z2, z3⟩ := hz.cells
  have zw := hz.warm
  clear k1 hk hz hWR hs hkr
  go_wp2
  rw [HWR.out]
  clear z0 z1 z2 z3 zw HWR
  obtain ⟨r0, r1, r2, r3⟩ := HS.out.cells
  refine bodyPost_ret (v := .tuple #[sv (spn 33 126), .bool true]) ?_ rfl ⟨rfl, HKR.out⟩
  simp [results, Try.results133, go_sem, r0, r1, r2, r3]

set_option maxRecDepth 100000 in
theorem named_cntrl (w : World) (s : ByteArray) (n0 : (s.toList == [97, 108, 112, 104, 97]) = false) (n1 : (s.toList == [100, 105, 103, 105, 116]) = false) (n2 : (s.toList == [97, 108, 110, 117, 109]) = false) (n3 : (s.toList == [117, 112, 112, 101, 114]) = false) (n4 : (s.toList == [108, 111, 119, 101, 114]) = false) (n5 : (s.toList == [115, 112, 97, 99, 101]) = false) (n6 : (s.toList == [98, 108, 97, 110, 107]) = false) (n7 : (s.toList == [112, 117, 110, 99, 116]) = false) (n8 : (s.toList == [112, 114, 105, 110, 116]) = false) (n9 : (s.toList == [103, 114, 97, 112, 104]) = false) (n10 : (s.toList == [99, 110, 116, 114, 108]) = true) :
    Calls Try.prog 133 #[.string s] w fun e w' => e = .returned (.tuple #[sv (fun x => spn 0 31 x || ofL [127] x), .bool true]) ∧ Kp No w w' := by
  have HZ := Hid_mk (SetAt.zero w)
  have HK0 := Hid_mk ((Kp.refl No w).alloc (.cells #[.int .u64 0, .int .u64 0, .int .u64 0, .int .u64 0] 27))
  go_enter Try.func133, Try.ntmps133
  go_wp2_with fail
  with_reducible refine (span_i _ 0 31 0 31 rfl rfl (by decide) (by decide)).mono ?_
  rintro e w1 ⟨rfl, k1⟩
  have hbs := bs_of1 w1 127
  have HBS := Hid_mk hbs
  clear hbs
  go_wp2_with fail
  refine (of_any _ _ [127] HBS.out).mono ?_
  rintro e w2 ⟨rfl, k2⟩
  replace k2 := ((Kp.refl No w1).alloc (.cells #[.int .u8 ((127 : UInt8).toNat : Int)] 5)).trans' k2
  go_wp2_with fail
  with_reducible refine (or_any _ _ _).mono ?_
  rintro e w3 ⟨rfl, k3⟩
  have hk := HK0.out.trans' (k1.trans' (k2.trans' (k3)))
  have hz := HZ.out.kept (k1.trans' (k2.trans' (k3))) id
  obtain ⟨WR, hWR, hs, hkr⟩ := put_any hz (fun x => spn 0 31 x || ofL [127] x) hk (fun h => Nat.lt_irrefl _ h)
  have HWR := Hid_mk hWR
  have HS := Hid_mk hs
  have HKR := Hid_mk hkr
  obtain ⟨z0, z1, z2, z3⟩ := hz.cells
  have zw := hz.warm
  clear k1 k2 k3 hk hz hWR hs hkr
  go_wp2
  rw [HWR.out]
  clear z0 z1 z2 z3 zw HWR
  obtain ⟨r0, r1, r2, r3⟩ := HS.out.cells
  refine bodyPost_ret (v := .tuple #[sv (fun x => spn 0 31 x || ofL [127] x), .bool true]) ?_ rfl ⟨rfl, HKR.out⟩
  simp [results, Try.results133, go_sem, r0, r1, r2, r3]

set_option maxRecDepth 100000 in
theorem named_xdigit (w : World) (s : ByteArray) (n0 : (s.toList == [97, 108, 112, 104, 97]) = false) (n1 : (s.toList == [100, 105, 103, 105, 116]) = false) (n2 : (s.toList == [97, 108, 110, 117, 109]) = false) (n3 : (s.toList == [117, 112, 112, 101, 114]) = false) (n4 : (s.toList == [108, 111, 119, 101, 114]) = false) (n5 : (s.toList == [115, 112, 97, 99, 101]) = false) (n6 : (s.toList == [98, 108, 97, 110, 107]) = false) (n7 : (s.toList == [112, 117, 110, 99, 116]) = false) (n8 : (s.toList == [112, 114, 105, 110, 116]) = false) (n9 : (s.toList == [103, 114, 97, 112, 104]) = false) (n10 : (s.toList == [99, 110, 116, 114, 108]) = false) (n11 : (s.toList == [120, 100, 105, 103, 105, 116]) = true) :
    Calls Try.prog 133 #[.string s] w fun e w' => e = .returned (.tuple #[sv (fun x => (fun x => digitsS x || spn 65 70 x) x || spn 97 102 x), .bool true]) ∧ Kp No w w' := by
  have HZ := Hid_mk (SetAt.zero w)
  have HK0 := Hid_mk ((Kp.refl No w).alloc (.cells #[.int .u64 0, .int .u64 0, .int .u64 0, .int .u64 0] 27))
  go_enter Try.func133, Try.ntmps133
  go_wp2_with fail
  with_reducible refine (digits_any _).mono ?_
  rintro e w1 ⟨rfl, k1⟩
  go_wp2_with fail
  with_reducible refine (span_i _ 65 70 65 70 rfl rfl (by decide) (by decide)).mono ?_
  rintro e w2 ⟨rfl, k2⟩
  go_wp2_with fail
  with_reducible refine (or_any _ _ _).mono ?_
  rintro e w3 ⟨rfl, k3⟩
  go_wp2_with fail
  with_reducible refine (span_i _ 97 102 97 102 rfl rfl (by decide) (by decide)).mono ?_
  rintro e w4 ⟨rfl, k4⟩
  go_wp2_with fail
  with_reducible refine (or_any _ _ _).mono ?_
  rintro e w5 ⟨rfl, k5⟩
  have hk := HK0.out.trans' (k1.trans' (k2.trans' (k3.trans' (k4.trans' (k5)))))
  have hz := HZ.out.kept (k1.trans' (k2.trans' (k3.trans' (k4.trans' (k5))))) id
  obtain ⟨WR, hWR, hs, hkr⟩ := put_any hz (fun x => (fun x => digitsS x || spn 65 70 x) x || spn 97 102 x) hk (fun h => Nat.lt_irrefl _ h)
  have HWR := Hid_mk hWR
  have HS := Hid_mk hs
  have HKR := Hid_mk hkr
  obtain ⟨z0, z1, z2, z3⟩ := hz.cells
  have zw := hz.warm
  clear k1 k2 k3 k4 k5 hk hz hWR hs hkr
  go_wp2
  rw [HWR.out]
  clear z0 z1 z2 z3 zw HWR
  obtain ⟨r0, r1, r2, r3⟩ := HS.out.cells
  refine bodyPost_ret (v := .tuple #[sv (fun x => (fun x => digitsS x || spn 65 70 x) x || spn 97 102 x), .bool true]) ?_ rfl ⟨rfl, HKR.out⟩
  simp [results, Try.results133, go_sem, r0, r1, r2, r3]

set_option maxRecDepth 100000 in
theorem named_none (w : World) (s : ByteArray) (n0 : (s.toList == [97, 108, 112, 104, 97]) = false) (n1 : (s.toList == [100, 105, 103, 105, 116]) = false) (n2 : (s.toList == [97, 108, 110, 117, 109]) = false) (n3 : (s.toList == [117, 112, 112, 101, 114]) = false) (n4 : (s.toList == [108, 111, 119, 101, 114]) = false) (n5 : (s.toList == [115, 112, 97, 99, 101]) = false) (n6 : (s.toList == [98, 108, 97, 110, 107]) = false) (n7 : (s.toList == [112, 117, 110, 99, 116]) = false) (n8 : (s.toList == [112, 114, 105, 110, 116]) = false) (n9 : (s.toList == [103, 114, 97, 112, 104]) = false) (n10 : (s.toList == [99, 110, 116, 114, 108]) = false) (n11 : (s.toList == [120, 100, 105, 103, 105, 116]) = false) :
    Calls Try.prog 133 #[.string s] w fun e w' => e = .returned (.tuple #[sv nul, .bool false]) ∧ Kp No w w' := by
  have HZ := Hid_mk (SetAt.zero w)
  have HK0 := Hid_mk ((Kp.refl No w).alloc (.cells #[.int .u64 0, .int .u64 0, .int .u64 0, .int .u64 0] 27))
  go_enter Try.func133, Try.ntmps133
  go_wp2
  refine bodyPost_ret (v := .tuple #[sv nul, .bool false]) ?_ rfl ⟨rfl, HK0.out⟩
  simp [results, Try.results133, go_sem, wd_nul]

theorem named_any (w : World) (s : ByteArray) :
    Calls Try.prog 133 #[.string s] w fun e w' => e = .returned (.tuple #[sv (namedS s.toList).1, .bool (namedS s.toList).2]) ∧ Kp No w w' := by
  unfold namedS
  by_cases h0 : s.toList = nmB0
  · rw [if_pos h0]
    exact named_alpha w s (beq_iff_eq.2 h0)
  rw [if_neg h0]
  by_cases h1 : s.toList = nmB1
  · rw [if_pos h1]
    exact named_digit w s (beq_eq_false_iff_ne.2 h0) (beq_iff_eq.2 h1)
  rw [if_neg h1]
  by_cases h2 : s.toList = nmB2
  · rw [if_pos h2]
    exact named_alnum w s (beq_eq_false_iff_ne.2 h0) (beq_eq_false_iff_ne.2 h1) (beq_iff_eq.2 h2)
  rw [if_neg h2]
  by_cases h3 : s.toList = nmB3
  · rw [if_pos h3]
    exact named_upper w s (beq_eq_false_iff_ne.2 h0) (beq_eq_false_iff_ne.2 h1) (beq_eq_false_iff_ne.2 h2) (beq_iff_eq.2 h3)
  rw [if_neg h3]
  by_cases h4 : s.toList = nmB4
  · rw [if_pos h4]
    exact named_lower w s (beq_eq_false_iff_ne.2 h0) (beq_eq_false_iff_ne.2 h1) (beq_eq_false_iff_ne.2 h2) (beq_eq_false_iff_ne.2 h3) (beq_iff_eq.2 h4)
  rw [if_neg h4]
  by_cases h5 : s.toList = nmB5
  · rw [if_pos h5]
    exact named_space w s (beq_eq_false_iff_ne.2 h0) (beq_eq_false_iff_ne.2 h1) (beq_eq_false_iff_ne.2 h2) (beq_eq_false_iff_ne.2 h3) (beq_eq_false_iff_ne.2 h4) (beq_iff_eq.2 h5)
  rw [if_neg h5]
  by_cases h6 : s.toList = nmB6
  · rw [if_pos h6]
    exact named_blank w s (beq_eq_false_iff_ne.2 h0) (beq_eq_false_iff_ne.2 h1) (beq_eq_false_iff_ne.2 h2) (beq_eq_false_iff_ne.2 h3) (beq_eq_false_iff_ne.2 h4) (beq_eq_false_iff_ne.2 h5) (beq_iff_eq.2 h6)
  rw [if_neg h6]
  by_cases h7 : s.toList = nmB7
  · rw [if_pos h7]
    exact named_punct w s (beq_eq_false_iff_ne.2 h0) (beq_eq_false_iff_ne.2 h1) (beq_eq_false_iff_ne.2 h2) (beq_eq_false_iff_ne.2 h3) (beq_eq_false_iff_ne.2 h4) (beq_eq_false_iff_ne.2 h5) (beq_eq_false_iff_ne.2 h6) (beq_iff_eq.2 h7)
  rw [if_neg h7]
  by_cases h8 : s.toList = nmB8
  · rw [if_pos h8]
    exact named_print w s (beq_eq_false_iff_ne.2 h0) (beq_eq_false_iff_ne.2 h1) (beq_eq_false_iff_ne.2 h2) (beq_eq_false_iff_ne.2 h3) (beq_eq_false_iff_ne.2 h4) (beq_eq_false_iff_ne.2 h5) (beq_eq_false_iff_ne.2 h6) (beq_eq_false_iff_ne.2 h7) (beq_iff_eq.2 h8)
  rw [if_neg h8]
  by_cases h9 : s.toList = nmB9
  · rw [if_pos h9]
    exact named_graph w s (beq_eq_false_iff_ne.2 h0) (beq_eq_false_iff_ne.2 h1) (beq_eq_false_iff_ne.2 h2) (beq_eq_false_iff_ne.2 h3) (beq_eq_false_iff_ne.2 h4) (beq_eq_false_iff_ne.2 h5) (beq_eq_false_iff_ne.2 h6) (beq_eq_false_iff_ne.2 h7) (beq_eq_false_iff_ne.2 h8) (beq_iff_eq.2 h9)
  rw [if_neg h9]
  by_cases h10 : s.toList = nmB10
  · rw [if_pos h10]
    exact named_cntrl w s (beq_eq_false_iff_ne.2 h0) (beq_eq_false_iff_ne.2 h1) (beq_eq_false_iff_ne.2 h2) (beq_eq_false_iff_ne.2 h3) (beq_eq_false_iff_ne.2 h4) (beq_eq_false_iff_ne.2 h5) (beq_eq_false_iff_ne.2 h6) (beq_eq_false_iff_ne.2 h7) (beq_eq_false_iff_ne.2 h8) (beq_eq_false_iff_ne.2 h9) (beq_iff_eq.2 h10)
  rw [if_neg h10]
  by_cases h11 : s.toList = nmB11
  · rw [if_pos h11]
    exact named_xdigit w s (beq_eq_false_iff_ne.2 h0) (beq_eq_false_iff_ne.2 h1) (beq_eq_false_iff_ne.2 h2) (beq_eq_false_iff_ne.2 h3) (beq_eq_false_iff_ne.2 h4) (beq_eq_false_iff_ne.2 h5) (beq_eq_false_iff_ne.2 h6) (beq_eq_false_iff_ne.2 h7) (beq_eq_false_iff_ne.2 h8) (beq_eq_false_iff_ne.2 h9) (beq_eq_false_iff_ne.2 h10) (beq_iff_eq.2 h11)
  rw [if_neg h11]
  exact named_none w s (beq_eq_false_iff_ne.2 h0) (beq_eq_false_iff_ne.2 h1) (beq_eq_false_iff_ne.2 h2) (beq_eq_false_iff_ne.2 h3) (beq_eq_false_iff_ne.2 h4) (beq_eq_false_iff_ne.2 h5) (beq_eq_false_iff_ne.2 h6) (beq_eq_false_iff_ne.2 h7) (beq_eq_false_iff_ne.2 h8) (beq_eq_false_iff_ne.2 h9) (beq_eq_false_iff_ne.2 h10) (beq_eq_false_iff_ne.2 h11)

end Go.Proofs.Ytaneblecgjahbab.cls

namespace Go.Proofs.Ytaneblecgjahbab.str
open Go.RowKit Go.Proofs.Ytaneblecgjahbab.sum Go.Proofs.Ytaneblecgjahbab.kept
set_option linter.unusedVariables false

/-- bytes as a text -/
def st (l : List UInt8) : ByteArray := ⟨l.toArray⟩
theorem st_size (l : List UInt8) : (st l).size = l.length := by simp [st, ByteArray.size]
theorem st_list (l : List UInt8) : (st l).toList = l := by rw [ByteArray.toList_eq]; simp [st]
theorem st_data (l : List UInt8) : (st l).data.toList = l := by simp [st]
theorem st_of (s : ByteArray) : st s.data.toList = s := by
  apply ByteArray.ext
  simp [st]
theorem st_get (l : List UInt8) (k : Nat) (h : k < (st l).size) : ((st l)[k]).toNat = (l.getD k 0).toNat := by
  have hk : k < l.length := by rw [st_size] at h; exact h
  have e : ((st l)[k]'h) = l[k] := by
    show l.toArray[k] = l[k]
    simp
  exact (congrArg UInt8.toNat e).trans (by simp [List.getD, hk])
/-- from a place on -/
theorem st_from (l : List UInt8) (i : Nat) : (st l).extract i l.length = st (l.drop i) := by
  apply ByteArray.ext
  rw [ByteArray.data_extract]
  apply Array.ext'
  simp [st, List.take_of_length_le]
theorem st_piece (l : List UInt8) (i j : Nat) : (st l).extract i j = st ((l.drop i).take (j - i)) := by
  apply ByteArray.ext
  rw [ByteArray.data_extract]
  apply Array.ext'
  simp [st, List.take_drop]
theorem getD_lt (l : List UInt8) (k : Nat) : (l.getD k 0).toNat < 256 := (l.getD k 0).toNat_lt

end Go.Proofs.Ytaneblecgjahbab.str
