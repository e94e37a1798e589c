/- Package class: Bracket of a text whose ends are bare bytes; the law's known. -/
import Derived.Test.YtdognehkbahmdaaBracket2
import Derived.Deep.RegionWith
import Derived.Deep.RegionHeld3
namespace Go.Proofs.Ytdognehkbahmdaa.cls
open Go.RowKit Go.Proofs.Ytdognehkbahmdaa.sum Go.Proofs.Ytdognehkbahmdaa.kept Go.Proofs.Ytdognehkbahmdaa.pop Go.Proofs.Ytdognehkbahmdaa.str
set_option linter.unusedVariables false

/-- the library's own variable holds some number -/
def Mx (w : World) : Prop := ∃ m, w.cell? ⟨0, 0, none⟩ = some (.int .i64 m)
theorem Mx.no {w w' : World} (h : Mx w) (hk : Kp No w w') : Mx w' := by obtain ⟨m, h⟩ := h; exact ⟨m, hk.cell' h id⟩
theorem sv_congr {f g : Nat → Bool} (h : ∀ x, x < 256 → f x = g x) : sv f = sv g := by
  rw [svd, svd, wd_congr (o := 0) (f := f) (g := g) fun j hj => h _ (by omega), wd_congr (o := 64) (f := f) (g := g) fun j hj => h _ (by omega), wd_congr (o := 128) (f := f) (g := g) fun j hj => h _ (by omega), wd_congr (o := 192) (f := f) (g := g) fun j hj => h _ (by omega)]

theorem eq_set (a b c d x y z u : Int) (w : World) : (Op.equalIn 10000 24 (.agg #[.int .u64 a, .int .u64 b, .int .u64 c, .int .u64 d]) (.agg #[.int .u64 x, .int .u64 y, .int .u64 z, .int .u64 u])).run Try.prog w = .ok (a == x && b == y && c == z && d == u) w := by
  have u3 := Try.underlying22
  have a3 := Try.isAgg22
  have z3 := Try.sizeOf22
  rw [show (10000 : Nat) = 9999 + 1 from rfl, Op.equalIn]
  simp only [Sem.run_bind, run_underlying Try.underlying24, Result.andThen_ok]
  simp only [Std.Legacy.Range.forIn_eq_forIn_range', Std.Legacy.Range.size, Nat.sub_zero, Nat.add_sub_cancel, Nat.div_one, List.range'_succ, List.range'_zero, List.forIn_cons, List.forIn_nil]
  go_simp
  by_cases h1 : a = x <;> by_cases h2 : b = y <;> by_cases h3 : c = z <;> by_cases h4 : d = u <;> simp [h1, h2, h3, h4]
theorem eq_self (f : Nat → Bool) (w : World) : (Op.equalIn 10000 24 (.agg #[.int .u64 (wd f 0 64 : Nat), .int .u64 (wd f 64 64 : Nat), .int .u64 (wd f 128 64 : Nat), .int .u64 (wd f 192 64 : Nat)]) (.agg #[.int .u64 (wd f 0 64 : Nat), .int .u64 (wd f 64 64 : Nat), .int .u64 (wd f 128 64 : Nat), .int .u64 (wd f 192 64 : Nat)])).run Try.prog w = .ok true w := by
  rw [eq_set]
  simp

theorem item_any (l : List UInt8) (h92 : ∀ k, k < l.length → (l.getD k 0).toNat ≠ 92) (hl : l.length < 4294967281) (w : World) (k : Nat) (hm : Mx w) (hk : k < l.length) :
    Calls Try.prog 102 #[.string (st l), .int .i64 (k : Int)] w (ItPost w (itemS l k)) := by
  by_cases hn : namesB l k = true
  · exact item_name w l k hn hl hm
  · have hn' : namesB l k = false := by simpa using hn
    by_cases hr : rangesB l (k + 1) = true
    · exact item_range w l k hn' (h92 k hk) hr hl fun _ => ⟨ranges_lt hr, h92 _ (ranges_lt hr)⟩
    · exact item_one w l k hk hn' (h92 k hk) (by simpa using hr) hl
theorem item_adv (l : List UInt8) (k : Nat) (x : (Nat → Bool) × Nat) (hk : k < l.length) (h : itemS l k = some x) : k < x.2 ∧ x.2 ≤ l.length := by
  unfold itemS at h
  split at h
  · rename_i hn
    have h2 := names_lt hn
    split at h
    · rename_i hc
      cases h
      unfold nameS at hc ⊢
      simp only [Bool.and_eq_true] at hc
      obtain ⟨hc, -⟩ := hc
      unfold Lib.cut at hc ⊢
      split at hc
      · rename_i h0
        have hro := Lib.index_room (l.drop (k + 2)) [58, 93] h0
        simp only [List.length_drop, List.length_cons, List.length_nil] at hro
        rw [if_pos h0]
        simp only [List.length_take, List.length_drop]
        omega
      · cases hc
    · cases h
  · split at h
    · cases h
      exact ⟨Nat.lt_succ_self _, hk⟩
    · rename_i hr
      have hr2 := ranges_lt (l := l) (k := k + 1) (by simpa using hr)
      split at h
      · cases h
      · split at h
        · cases h
          exact ⟨by simp only; omega, by simp only; omega⟩
        · cases h

/-- Bracket of a text of known bytes -/
theorem bracket_l (w : World) (l : List UInt8) (s : ByteArray) (hs : s = st l) (o : Bool) (R : Option ((Nat → Bool) × Nat)) (h92 : ∀ k, k < l.length → (l.getD k 0).toNat ≠ 92) (hl : l.length < 4294967281) (hm : Mx w)
    (ho : Lib.hasPrefix l [94] = o) (hR : brS (itemS l) l (if o = true then 0 + 1 else 0) (l.length + 1) (if o = true then 0 + 1 else 0) nul = R) :
    Calls Try.prog 91 #[.string s, .int .i64 0] w fun e w' => e = .returned (brV o R) ∧ Kp No w w' := by
  subst hs hR
  exact bracket_any w l 0 o (Nat.zero_le _) hl hm (itemS l) (fun W j h hj => item_any l h92 hl W j h hj) (item_adv l) (by rw [List.drop_zero]; exact ho)

theorem bs_l3 (w : World) (a b c : UInt8) (x y z : Int) (hx : x = (a.toNat : Int)) (hy : y = (b.toNat : Int)) (hz : z = (c.toNat : Int)) : Bs (w.alloc (.cells #[.int .u8 x, .int .u8 y, .int .u8 z] 5)) (.slice (some ⟨w.heap.size, 0, none⟩) 3 3) [a, b, c] := by
  subst hx hy hz
  exact bs_of3 w a b c
theorem bs_l2 (w : World) (a b : UInt8) (x y : Int) (hx : x = (a.toNat : Int)) (hy : y = (b.toNat : Int)) : Bs (w.alloc (.cells #[.int .u8 x, .int .u8 y] 5)) (.slice (some ⟨w.heap.size, 0, none⟩) 2 2) [a, b] := by
  subst hx hy
  exact bs_of2 w a b
theorem bs_l1 (w : World) (a : UInt8) (x : Int) (hx : x = (a.toNat : Int)) : Bs (w.alloc (.cells #[.int .u8 x] 5)) (.slice (some ⟨w.heap.size, 0, none⟩) 1 1) [a] := by
  subst hx
  exact bs_of1 w a

def bA : List UInt8 := [97, 45, 99, 93, 120]
theorem bA_ok : brS (itemS bA) bA 0 6 0 nul = some (fun x => nul x || spn 97 99 x, 4) := rfl
theorem bracketA (w : World) (hm : Mx w) : Calls Try.prog 91 #[.string ⟨#[97, 45, 99, 93, 120]⟩, .int .i64 0] w fun e w' => e = .returned (.tuple #[sv (spn 97 99), .int .i64 4, .bool true]) ∧ Kp No w w' := by
  refine (bracket_l w bA _ rfl false _ (by decide) (by decide) hm rfl bA_ok).mono ?_
  rintro e w' ⟨rfl, hk⟩
  refine ⟨?_, hk⟩
  simp only [brV]
  rfl

theorem ofL_abc : sv (ofL [97, 98, 99]) = sv (spn 97 99) := sv_congr (by decide +kernel)
theorem cnt_ac : cnt (spn 97 99) 0 256 = 3 := by decide +kernel
theorem digit_named : namedS [100, 105, 103, 105, 116] = (digitsS, true) := rfl

end Go.Proofs.Ytdognehkbahmdaa.cls
