/- internal/strconv: a number's decimal digits. -/
import Derived.Test.YtannbdbhkhmppaaGreatDoorFmtSmallM
import Derived.BigRegion
import Derived.Deep.RegionLaw

namespace Go.Proofs.YtannbdbhkhmppaaGreatDoor.fmtf
open Go.RowKit Go.Proofs.YtannbdbhkhmppaaGreatDoor.sum Go.Proofs.YtannbdbhkhmppaaGreatDoor.kept
set_option linter.unusedVariables false

def smalls : ByteArray := ⟨#[48, 48, 48, 49, 48, 50, 48, 51, 48, 52, 48, 53, 48, 54, 48, 55, 48, 56, 48, 57, 49, 48, 49, 49, 49, 50, 49, 51, 49, 52, 49, 53, 49, 54, 49, 55, 49, 56, 49, 57, 50, 48, 50, 49, 50, 50, 50, 51, 50, 52, 50, 53, 50, 54, 50, 55, 50, 56, 50, 57, 51, 48, 51, 49, 51, 50, 51, 51, 51, 52, 51, 53, 51, 54, 51, 55, 51, 56, 51, 57, 52, 48, 52, 49, 52, 50, 52, 51, 52, 52, 52, 53, 52, 54, 52, 55, 52, 56, 52, 57, 53, 48, 53, 49, 53, 50, 53, 51, 53, 52, 53, 53, 53, 54, 53, 55, 53, 56, 53, 57, 54, 48, 54, 49, 54, 50, 54, 51, 54, 52, 54, 53, 54, 54, 54, 55, 54, 56, 54, 57, 55, 48, 55, 49, 55, 50, 55, 51, 55, 52, 55, 53, 55, 54, 55, 55, 55, 56, 55, 57, 56, 48, 56, 49, 56, 50, 56, 51, 56, 52, 56, 53, 56, 54, 56, 55, 56, 56, 56, 57, 57, 48, 57, 49, 57, 50, 57, 51, 57, 52, 57, 53, 57, 54, 57, 55, 57, 56, 57, 57]⟩
theorem smalls_at (a : Nat) (h : a < 100) (W : World) : (Instr.index 9 (.string smalls) (.int .u32 ((a : Int) * 2))).run Tryz.prog W = .ok (.int .u8 ((48 + a / 10 : Nat) : Int)) W ∧ (Instr.index 9 (.string smalls) (.int .u32 ((a : Int) * 2 + 1))).run Tryz.prog W = .ok (.int .u8 ((48 + a % 10 : Nat) : Int)) W := by
  have hu : Tryz.prog.underlying 9 = some .string := Tryz.underlying9
  have hd : ∀ a : Fin 100, (smalls.data.toList.getD (a.val * 2) 0).toNat = 48 + a.val / 10 ∧ (smalls.data.toList.getD (a.val * 2 + 1) 0).toNat = 48 + a.val % 10 := by decide +kernel
  have hz : smalls.size = 200 := by decide +kernel
  obtain ⟨d1, d2⟩ := hd ⟨a, h⟩
  have hg : ∀ (k : Nat) (hk : k < smalls.size), (smalls[k]'hk).toNat = (smalls.data.toList.getD k 0).toNat := fun k hk => by
    have hk2 : k < smalls.data.toList.length := by rw [Array.length_toList]; exact hk
    rw [List.getD_eq_getElem?_getD, List.getElem?_eq_getElem hk2]
    rfl
  have e1 : ((a : Int) * 2).toNat = a * 2 := by omega
  have e2 : ((a : Int) * 2 + 1).toNat = a * 2 + 1 := by omega
  constructor
  · rw [run_index_string (P := Tryz.prog) W _ _ _ _ hu, dif_pos ⟨by omega, by rw [hz]; omega⟩, hg]
    simp only [e1]
    rw [d1]
  · rw [run_index_string (P := Tryz.prog) W _ _ _ _ hu, dif_pos ⟨by omega, by rw [hz]; omega⟩, hg]
    simp only [e2]
    rw [d2]
theorem small0 (a : Nat) (h : a < 100) (W : World) : (Instr.index 9 (.string ⟨#[48, 48, 48, 49, 48, 50, 48, 51, 48, 52, 48, 53, 48, 54, 48, 55, 48, 56, 48, 57, 49, 48, 49, 49, 49, 50, 49, 51, 49, 52, 49, 53, 49, 54, 49, 55, 49, 56, 49, 57, 50, 48, 50, 49, 50, 50, 50, 51, 50, 52, 50, 53, 50, 54, 50, 55, 50, 56, 50, 57, 51, 48, 51, 49, 51, 50, 51, 51, 51, 52, 51, 53, 51, 54, 51, 55, 51, 56, 51, 57, 52, 48, 52, 49, 52, 50, 52, 51, 52, 52, 52, 53, 52, 54, 52, 55, 52, 56, 52, 57, 53, 48, 53, 49, 53, 50, 53, 51, 53, 52, 53, 53, 53, 54, 53, 55, 53, 56, 53, 57, 54, 48, 54, 49, 54, 50, 54, 51, 54, 52, 54, 53, 54, 54, 54, 55, 54, 56, 54, 57, 55, 48, 55, 49, 55, 50, 55, 51, 55, 52, 55, 53, 55, 54, 55, 55, 55, 56, 55, 57, 56, 48, 56, 49, 56, 50, 56, 51, 56, 52, 56, 53, 56, 54, 56, 55, 56, 56, 56, 57, 57, 48, 57, 49, 57, 50, 57, 51, 57, 52, 57, 53, 57, 54, 57, 55, 57, 56, 57, 57]⟩) (.int .u32 ((a : Int) * 2))).run Tryz.prog W = .ok (.int .u8 ((48 + a / 10 : Nat) : Int)) W := (smalls_at a h W).1
theorem small1 (a : Nat) (h : a < 100) (W : World) : (Instr.index 9 (.string ⟨#[48, 48, 48, 49, 48, 50, 48, 51, 48, 52, 48, 53, 48, 54, 48, 55, 48, 56, 48, 57, 49, 48, 49, 49, 49, 50, 49, 51, 49, 52, 49, 53, 49, 54, 49, 55, 49, 56, 49, 57, 50, 48, 50, 49, 50, 50, 50, 51, 50, 52, 50, 53, 50, 54, 50, 55, 50, 56, 50, 57, 51, 48, 51, 49, 51, 50, 51, 51, 51, 52, 51, 53, 51, 54, 51, 55, 51, 56, 51, 57, 52, 48, 52, 49, 52, 50, 52, 51, 52, 52, 52, 53, 52, 54, 52, 55, 52, 56, 52, 57, 53, 48, 53, 49, 53, 50, 53, 51, 53, 52, 53, 53, 53, 54, 53, 55, 53, 56, 53, 57, 54, 48, 54, 49, 54, 50, 54, 51, 54, 52, 54, 53, 54, 54, 54, 55, 54, 56, 54, 57, 55, 48, 55, 49, 55, 50, 55, 51, 55, 52, 55, 53, 55, 54, 55, 55, 55, 56, 55, 57, 56, 48, 56, 49, 56, 50, 56, 51, 56, 52, 56, 53, 56, 54, 56, 55, 56, 56, 56, 57, 57, 48, 57, 49, 57, 50, 57, 51, 57, 52, 57, 53, 57, 54, 57, 55, 57, 56, 57, 57]⟩) (.int .u32 ((a : Int) * 2 + 1))).run Tryz.prog W = .ok (.int .u8 ((48 + a % 10 : Nat) : Int)) W := (smalls_at a h W).2
/-- bytes that may be written: what the first n cells behind a place hold -/
structure BufAt (w : World) (g o n : Nat) (f : Nat → Nat) : Prop where
  cell : ∀ i, i < n → w.cell? ⟨g, o + i, none⟩ = some (.int .u8 (f i : Int))
  warm : ∀ i, w.frozen? ⟨g, i, none⟩ = false
def upd (f : Nat → Nat) (i v : Nat) : Nat → Nat := fun j => if j = i then v else f j
theorem BufAt.set {w : World} {g o n : Nat} {f : Nat → Nat} (h : BufAt w g o n f) (i v : Nat) : BufAt (w.setCell ⟨g, o + i, none⟩ (.int .u8 (v : Int))) g o n (upd f i v) := by
  refine ⟨fun j hj => ?_, fun j => by simp only [World.frozen?_setCell]; exact h.warm j⟩
  unfold upd
  by_cases e : j = i
  · subst e
    rw [if_pos rfl]
    exact World.cell?_setCell_same _ _ _ (h.cell j hj)
  · rw [if_neg e, World.cell?_setCell_other _ _ _ _ (by intro e2; injection e2 with _ e2; omega)]
    exact h.cell j hj
theorem BufAt.drew {w : World} {g o n : Nat} {f : Nat → Nat} (h : BufAt w g o n f) : BufAt w.drew g o n f :=
  ⟨fun i hi => (Kp.refl No w).drew.cell' (h.cell i hi) id, fun i => by have := h.warm i; simpa using this⟩
theorem wu (z : Int) (h : 0 ≤ z) (h2 : z < 18446744073709551616) : IntKind.u64.wrap z = z := by
  simp [IntKind.wrap, IntKind.signed, IntKind.bits]
  omega
/-- the i-th one of n digits -/
def dgt (u n i : Nat) : Nat := 48 + u / 10 ^ (n - 1 - i) % 10
/-- from a place on the digits are there -/
def Good (u n : Nat) (f : Nat → Nat) (k : Nat) : Prop := ∀ i, k ≤ i → i < n → f i = dgt u n i
theorem Good.pair {u n k a : Nat} {f : Nat → Nat} (h : Good u n f k) (h2 : 2 ≤ k) (hk : k ≤ n) (ha : u / 10 ^ (n - k) % 100 = a) : Good u n (upd (upd f (k - 1) (48 + a % 10)) (k - 2) (48 + a / 10)) (k - 2) := by
  intro i h3 h4
  unfold upd
  by_cases e : i = k - 2
  · rw [if_pos e]
    unfold dgt
    rw [e, show n - 1 - (k - 2) = (n - k) + 1 by omega, Nat.pow_succ, ← Nat.div_div_eq_div_mul]
    omega
  · rw [if_neg e]
    by_cases e2 : i = k - 1
    · rw [if_pos e2]
      unfold dgt
      rw [e2, show n - 1 - (k - 1) = n - k by omega]
      omega
    · rw [if_neg e2]
      exact h i (by omega) h4
theorem Good.one {u n : Nat} {f : Nat → Nat} (h : Good u n f 1) (hn : 1 ≤ n) (hu : u < 10 ^ n) : Good u n (upd f 0 (48 + u / 10 ^ (n - 1))) 0 := by
  intro i h3 h4
  unfold upd
  by_cases e : i = 0
  · rw [if_pos e]
    unfold dgt
    rw [e, Nat.sub_zero]
    have h5 : u / 10 ^ (n - 1) < 10 := by
      rw [Nat.div_lt_iff_lt_mul (Nat.pow_pos (by decide)), ← Nat.pow_succ']
      rw [show (n - 1).succ = n by omega]
      exact hu
    rw [Nat.mod_eq_of_lt h5]
  · rw [if_neg e]
    exact h i (by omega) h4
theorem div_lt_pow {u n k : Nat} (hu : u < 10 ^ n) (hk : k ≤ n) : u / 10 ^ (n - k) < 10 ^ k := by
  rw [Nat.div_lt_iff_lt_mul (Nat.pow_pos (by decide)), ← Nat.pow_add, show k + (n - k) = n by omega]
  exact hu
theorem buf_pair {w w0 : World} {g o n i j a b : Nat} {f : Nat → Nat} (h : BufAt w g o n f) (hk : Kp (fun x => x = g) w0 w) (x y : Int) (hx : x = (a : Int)) (hy : y = (b : Int)) : BufAt (((w.setCell ⟨g, o + i, none⟩ (.int .u8 x)).setCell ⟨g, o + j, none⟩ (.int .u8 y)).drew) g o n (upd (upd f i a) j b) ∧ Kp (fun x => x = g) w0 (((w.setCell ⟨g, o + i, none⟩ (.int .u8 x)).setCell ⟨g, o + j, none⟩ (.int .u8 y)).drew) := by
  subst hx
  subst hy
  exact ⟨((h.set i a).set j b).drew, ((hk.setCell (p := ⟨g, o + i, none⟩) (fun _ => rfl) _).setCell (p := ⟨g, o + j, none⟩) (fun _ => rfl) _).drew⟩

set_option maxRecDepth 100000 in
set_option maxHeartbeats 16000000 in
theorem base10_any (w : World) (g o n c u : Nat) (f : Nat → Nat) (h : BufAt w g o n f) (hn : n ≤ 18) (hu : u < 10 ^ n) :
    Calls Tryz.prog 77 #[.slice (some ⟨g, o, none⟩) n c, .int .u64 (u : Int)] w fun e w' => e = .returned (.tuple #[]) ∧ Kp (fun b => b = g) w w' ∧ BufAt w' g o n (dgt u n) := by
  have HH := Hid_mk h
  have HN := Hid_mk hn
  have HU := Hid_mk hu
  clear h hn hu
  go_enter Tryz.func77, Tryz.ntmps77
  go_wp2_with fail
  go_loopw [4, 1] (fun a b wr => ∃ (k v : Nat) (f2 : Nat → Nat), a = .int .i64 (k : Int) ∧ b = .int .u64 (v : Int) ∧ k ≤ n ∧ v = u / 10 ^ (n - k) ∧ Good u n f2 k ∧ BufAt wr g o n f2 ∧ Kp (fun b => b = g) w wr) (fun a _ _ => (intOf a).toNat)
  case atStart => exact ⟨n, u, f, rfl, rfl, Nat.le_refl _, by rw [Nat.sub_self]; simp, fun i h1 h2 => absurd h1 (by omega), HH.out, Kp.refl _ _⟩
  case round =>
    obtain ⟨k, v, f2, rfl, rfl, hk, hv, hgd, hb, hkp⟩ := hrel
    have HBwr := Hid_mk hb
    have HKwr := Hid_mk hkp
    have HGd := Hid_mk hgd
    have HV := Hid_mk hv
    have HKn := Hid_mk hk
    have hvb : v < 10 ^ 18 := Nat.lt_of_lt_of_le (by rw [hv]; exact div_lt_pow HU.out hk) (Nat.pow_le_pow_right (by decide) (Nat.le_trans hk HN.out))
    have hk0 : (0 : Int) ≤ (k : Int) := Int.natCast_nonneg _
    have hk18 : (k : Int) ≤ 18 := by have := HN.out; omega
    have hkn : (k : Int) ≤ (n : Int) := by omega
    have hv0 : (0 : Int) ≤ (v : Int) := Int.natCast_nonneg _
    by_cases h8 : 8 ≤ k
    · have h8i : (8 : Int) ≤ (k : Int) := by omega
      obtain ⟨a0, ha0⟩ : ∃ a : Nat, v % 100 = a := ⟨_, rfl⟩
      obtain ⟨a1, ha1⟩ : ∃ a : Nat, v / 100 % 100 = a := ⟨_, rfl⟩
      obtain ⟨a2, ha2⟩ : ∃ a : Nat, v / 10000 % 100 = a := ⟨_, rfl⟩
      obtain ⟨a3, ha3⟩ : ∃ a : Nat, v / 1000000 % 100 = a := ⟨_, rfl⟩
      have i0 : (v : Int) % 100 * 2 = (a0 : Int) * 2 := by omega
      have i1 : (v : Int) % 10000 / 100 * 2 = (a1 : Int) * 2 := by omega
      have i2 : (v : Int) % 100000000 / 10000 % 100 * 2 = (a2 : Int) * 2 := by omega
      have i3 : (v : Int) % 100000000 / 10000 / 100 * 2 = (a3 : Int) * 2 := by omega
      have hv8 : IntKind.u64.wrap ((v : Int) / 100000000) = ((v / 100000000 : Nat) : Int) := by rw [wu _ (by omega) (by omega)]; omega
      have n0 := fun W => small0 a0 (by omega) W
      have m0 := fun W => small1 a0 (by omega) W
      have l0 : (a0 : Int) < 100 := by omega
      have n1 := fun W => small0 a1 (by omega) W
      have m1 := fun W => small1 a1 (by omega) W
      have l1 : (a1 : Int) < 100 := by omega
      have n2 := fun W => small0 a2 (by omega) W
      have m2 := fun W => small1 a2 (by omega) W
      have l2 : (a2 : Int) < 100 := by omega
      have n3 := fun W => small0 a3 (by omega) W
      have m3 := fun W => small1 a3 (by omega) W
      have l3 : (a3 : Int) < 100 := by omega
      have HA := Hid_mk (And.intro ha0 (And.intro ha1 (And.intro ha2 ha3)))
      have H8 := Hid_mk h8
      have c1 := HBwr.out.cell (k - 1) (by omega)
      have c2 := HBwr.out.cell (k - 2) (by omega)
      have cw := HBwr.out.warm
      have o1 : (k : Int) - 1 = ((k - 1 : Nat) : Int) := by omega
      have o2 : (k : Int) - 2 = ((k - 2 : Nat) : Int) := by omega
      clear hb ha0 ha1 ha2 ha3 hk hkp hv hgd hvb h8
      go_upto_region 7 with fail
      go_region
      obtain ⟨X1, hX1⟩ : ∃ W, ((wr.setCell ⟨g, o + (k - 1), none⟩ (.int .u8 (48 + (a0 : Int) % 10))).setCell ⟨g, o + (k - 2), none⟩ (.int .u8 (48 + (a0 : Int) / 10))).drew = W := ⟨_, rfl⟩
      rw [hX1]
      have hbX1 := buf_pair (i := k - 1) (j := k - 2) (a := 48 + a0 % 10) (b := 48 + a0 / 10) HBwr.out HKwr.out (48 + (a0 : Int) % 10) (48 + (a0 : Int) / 10) (by omega) (by omega)
      rw [hX1] at hbX1
      have HBX1 := Hid_mk hbX1.1
      have HKX1 := Hid_mk hbX1.2
      clear c1 c2 cw o1 o2 hbX1 hX1
      have H8' := H8.out
      have c1 := HBX1.out.cell (k - 3) (by omega)
      have c2 := HBX1.out.cell (k - 4) (by omega)
      have cw := HBX1.out.warm
      have o1 : (k : Int) - 3 = ((k - 3 : Nat) : Int) := by omega
      have o2 : (k : Int) - 4 = ((k - 4 : Nat) : Int) := by omega
      clear H8'
      go_upto_region 8 with fail
      go_region
      obtain ⟨X2, hX2⟩ : ∃ W, ((X1.setCell ⟨g, o + (k - 3), none⟩ (.int .u8 (48 + (a1 : Int) % 10))).setCell ⟨g, o + (k - 4), none⟩ (.int .u8 (48 + (a1 : Int) / 10))).drew = W := ⟨_, rfl⟩
      rw [hX2]
      have hbX2 := buf_pair (i := k - 3) (j := k - 4) (a := 48 + a1 % 10) (b := 48 + a1 / 10) HBX1.out HKX1.out (48 + (a1 : Int) % 10) (48 + (a1 : Int) / 10) (by omega) (by omega)
      rw [hX2] at hbX2
      have HBX2 := Hid_mk hbX2.1
      have HKX2 := Hid_mk hbX2.2
      clear c1 c2 cw o1 o2 hbX2 hX2
      have H8' := H8.out
      have c1 := HBX2.out.cell (k - 5) (by omega)
      have c2 := HBX2.out.cell (k - 6) (by omega)
      have cw := HBX2.out.warm
      have o1 : (k : Int) - 5 = ((k - 5 : Nat) : Int) := by omega
      have o2 : (k : Int) - 6 = ((k - 6 : Nat) : Int) := by omega
      clear H8'
      go_upto_region 9 with fail
      go_region
      obtain ⟨X3, hX3⟩ : ∃ W, ((X2.setCell ⟨g, o + (k - 5), none⟩ (.int .u8 (48 + (a2 : Int) % 10))).setCell ⟨g, o + (k - 6), none⟩ (.int .u8 (48 + (a2 : Int) / 10))).drew = W := ⟨_, rfl⟩
      rw [hX3]
      have hbX3 := buf_pair (i := k - 5) (j := k - 6) (a := 48 + a2 % 10) (b := 48 + a2 / 10) HBX2.out HKX2.out (48 + (a2 : Int) % 10) (48 + (a2 : Int) / 10) (by omega) (by omega)
      rw [hX3] at hbX3
      have HBX3 := Hid_mk hbX3.1
      have HKX3 := Hid_mk hbX3.2
      clear c1 c2 cw o1 o2 hbX3 hX3
      have H8' := H8.out
      have c1 := HBX3.out.cell (k - 7) (by omega)
      have c2 := HBX3.out.cell (k - 8) (by omega)
      have cw := HBX3.out.warm
      have o1 : (k : Int) - 7 = ((k - 7 : Nat) : Int) := by omega
      have o2 : (k : Int) - 8 = ((k - 8 : Nat) : Int) := by omega
      clear H8'
      go_upto_region 10 with fail
      go_region
      obtain ⟨X4, hX4⟩ : ∃ W, ((X3.setCell ⟨g, o + (k - 7), none⟩ (.int .u8 (48 + (a3 : Int) % 10))).setCell ⟨g, o + (k - 8), none⟩ (.int .u8 (48 + (a3 : Int) / 10))).drew = W := ⟨_, rfl⟩
      rw [hX4]
      have hbX4 := buf_pair (i := k - 7) (j := k - 8) (a := 48 + a3 % 10) (b := 48 + a3 / 10) HBX3.out HKX3.out (48 + (a3 : Int) % 10) (48 + (a3 : Int) / 10) (by omega) (by omega)
      rw [hX4] at hbX4
      have HBX4 := Hid_mk hbX4.1
      have HKX4 := Hid_mk hbX4.2
      clear c1 c2 cw o1 o2 hbX4 hX4
      have o8 : (k : Int) - 8 = ((k - 8 : Nat) : Int) := by have := H8.out; omega
      go_wp2
      go_roundw
      case rel =>
        have h8 := H8.out
        obtain ⟨ha0, ha1, ha2, ha3⟩ := HA.out
        have hk := HKn.out
        have hv := HV.out
        have e2 : ∀ j, j ≤ k → u / 10 ^ (n - (k - j)) = v / 10 ^ j := fun j hj => by rw [hv, Nat.div_div_eq_div_mul, ← Nat.pow_add, show n - (k - j) = n - k + j by omega]
        have g1 := HGd.out.pair (by omega) hk (a := a0) (by rw [← hv]; exact ha0)
        have g2 := g1.pair (by omega) (by omega) (a := a1) (by rw [e2 2 (by omega)]; exact ha1)
        rw [show k - 2 - 1 = k - 3 by omega, show k - 2 - 2 = k - 4 by omega] at g2
        have g3 := g2.pair (by omega) (by omega) (a := a2) (by rw [e2 4 (by omega)]; exact ha2)
        rw [show k - 4 - 1 = k - 5 by omega, show k - 4 - 2 = k - 6 by omega] at g3
        have g4 := g3.pair (by omega) (by omega) (a := a3) (by rw [e2 6 (by omega)]; exact ha3)
        rw [show k - 6 - 1 = k - 7 by omega, show k - 6 - 2 = k - 8 by omega] at g4
        exact ⟨k - 8, v / 100000000, _, rfl, by simp, by omega, by rw [e2 8 (by omega)], g4, HBX4.out, HKX4.out⟩
      case measure => have := H8.out; simp [intOf]; omega
    · have hk8 : k = 0 ∨ k = 1 ∨ k = 2 ∨ k = 3 ∨ k = 4 ∨ k = 5 ∨ k = 6 ∨ k = 7 := by omega
      have e2 : ∀ j, j ≤ k → u / 10 ^ (n - (k - j)) = v / 10 ^ j := fun j hj => by rw [hv, Nat.div_div_eq_div_mul, ← Nat.pow_add, show n - (k - j) = n - k + j by omega]
      have hvk : v < 10 ^ k := by rw [hv]; exact div_lt_pow HU.out hk
      have HE2 := Hid_mk e2
      have HVk := Hid_mk hvk
      clear hb hkp hgd hv hvb e2 hvk h8 hk
      rcases hk8 with rfl | rfl | rfl | rfl | rfl | rfl | rfl | rfl
      · have hvk : v < 1 := HVk.out
        have hvi : (v : Int) < 1 := by omega
        have HG0 := Hid_mk HGd.out
        go_wp2
        go_end0
        exact ⟨rfl, HKwr.out, ⟨fun i hi => by rw [← HG0.out i (Nat.zero_le _) hi]; exact HBwr.out.cell i hi, HBwr.out.warm⟩⟩
      · have hvk : v < 10 := HVk.out
        have hvi : (v : Int) < 10 := by omega
        have HG0 := Hid_mk HGd.out
        obtain ⟨d0, hd0⟩ : ∃ a : Nat, v = a := ⟨_, rfl⟩
        have c1 := HBwr.out.cell 0 (by have := HKn.out; omega)
        simp only [Nat.add_zero] at c1
        have cw := HBwr.out.warm
        have ld0 : (d0 : Int) < 10 := by omega
        have id0 : (v : Int) = (d0 : Int) := by omega
        have id1 : (v : Int) / 1 = (d0 : Int) := by omega
        have HD0 := Hid_mk hd0
        clear hd0
        go_wp2
        go_end0
        have hb9 := HBwr.out.set 0 (48 + d0)
        have hg9 := HG0.out.one (by have := HKn.out; omega) HU.out
        have h9 := HE2.out 0 (by decide)
        rw [show 1 - 0 = 1 from rfl] at h9
        rw [h9, show (10 : Nat) ^ 0 = 1 from rfl] at hg9
        rw [Nat.div_one] at hg9
        rw [HD0.out] at hg9
        have hi9 : ((48 + d0 : Nat) : Int) = 48 + (d0 : Int) := by omega
        rw [hi9] at hb9
        exact ⟨rfl, HKwr.out.setCell (p := ⟨g, o, none⟩) (fun _ => rfl) _, ⟨fun i hi => by rw [← hg9 i (Nat.zero_le _) hi]; exact hb9.cell i hi, hb9.warm⟩⟩
      · have hvk : v < 100 := HVk.out
        have hvi : (v : Int) < 100 := by omega
        have HG0 := Hid_mk HGd.out
        obtain ⟨b0, hb0⟩ : ∃ a : Nat, v % 100 = a := ⟨_, rfl⟩
        have nb0 := fun W => small0 b0 (by omega) W
        have mb0 := fun W => small1 b0 (by omega) W
        have lb0 : (b0 : Int) < 100 := by omega
        have ib0 : (v : Int) % 100 * 2 = (b0 : Int) * 2 := by omega
        have Hb0 := Hid_mk hb0
        clear hb0
        have c1 := HBwr.out.cell 1 (by have := HKn.out; omega)
        have c2 := HBwr.out.cell 0 (by have := HKn.out; omega)
        simp only [Nat.add_zero] at c2
        have cw := HBwr.out.warm
        go_upto_region 23 with fail
        go_region
        obtain ⟨Y1, hY1⟩ : ∃ W, ((wr.setCell ⟨g, o + 1, none⟩ (.int .u8 (48 + (b0 : Int) % 10))).setCell ⟨g, o, none⟩ (.int .u8 (48 + (b0 : Int) / 10))).drew = W := ⟨_, rfl⟩
        rw [hY1]
        have hbY1 := buf_pair (i := 1) (j := 0) (a := 48 + b0 % 10) (b := 48 + b0 / 10) HBwr.out HKwr.out (48 + (b0 : Int) % 10) (48 + (b0 : Int) / 10) (by omega) (by omega)
        rw [show (⟨g, o + 1, none⟩ : Addr) = ⟨g, o + 1, none⟩ from rfl, show (⟨g, o + 0, none⟩ : Addr) = ⟨g, o, none⟩ from rfl, hY1] at hbY1
        have HBY1 := Hid_mk hbY1.1
        have HKY1 := Hid_mk hbY1.2
        have HG1 := Hid_mk (HG0.out.pair (by decide) (by have := HKn.out; omega) (a := b0) (by have h9 := HE2.out 0 (by decide); rw [show 2 - 0 = 2 from rfl] at h9; rw [h9, Nat.pow_zero, Nat.div_one]; exact Hb0.out))
        clear c1 c2 cw hbY1 hY1
        go_wp2
        go_end0
        exact ⟨rfl, HKY1.out, ⟨fun i hi => by rw [← HG1.out i (Nat.zero_le _) hi]; exact HBY1.out.cell i hi, HBY1.out.warm⟩⟩
      · have hvk : v < 1000 := HVk.out
        have hvi : (v : Int) < 1000 := by omega
        have HG0 := Hid_mk HGd.out
        obtain ⟨b0, hb0⟩ : ∃ a : Nat, v % 100 = a := ⟨_, rfl⟩
        have nb0 := fun W => small0 b0 (by omega) W
        have mb0 := fun W => small1 b0 (by omega) W
        have lb0 : (b0 : Int) < 100 := by omega
        have ib0 : (v : Int) % 100 * 2 = (b0 : Int) * 2 := by omega
        have Hb0 := Hid_mk hb0
        clear hb0
        have c1 := HBwr.out.cell 2 (by have := HKn.out; omega)
        have c2 := HBwr.out.cell 1 (by have := HKn.out; omega)
        skip
        have cw := HBwr.out.warm
        go_upto_region 23 with fail
        go_region
        obtain ⟨Y1, hY1⟩ : ∃ W, ((wr.setCell ⟨g, o + 2, none⟩ (.int .u8 (48 + (b0 : Int) % 10))).setCell ⟨g, o + 1, none⟩ (.int .u8 (48 + (b0 : Int) / 10))).drew = W := ⟨_, rfl⟩
        rw [hY1]
        have hbY1 := buf_pair (i := 2) (j := 1) (a := 48 + b0 % 10) (b := 48 + b0 / 10) HBwr.out HKwr.out (48 + (b0 : Int) % 10) (48 + (b0 : Int) / 10) (by omega) (by omega)
        rw [show (⟨g, o + 2, none⟩ : Addr) = ⟨g, o + 2, none⟩ from rfl, show (⟨g, o + 1, none⟩ : Addr) = ⟨g, o + 1, none⟩ from rfl, hY1] at hbY1
        have HBY1 := Hid_mk hbY1.1
        have HKY1 := Hid_mk hbY1.2
        have HG1 := Hid_mk (HG0.out.pair (by decide) (by have := HKn.out; omega) (a := b0) (by have h9 := HE2.out 0 (by decide); rw [show 3 - 0 = 3 from rfl] at h9; rw [h9, Nat.pow_zero, Nat.div_one]; exact Hb0.out))
        clear c1 c2 cw hbY1 hY1
        obtain ⟨d0, hd0⟩ : ∃ a : Nat, v / 100 = a := ⟨_, rfl⟩
        have c1 := HBY1.out.cell 0 (by have := HKn.out; omega)
        simp only [Nat.add_zero] at c1
        have cw := HBY1.out.warm
        have ld0 : (d0 : Int) < 10 := by omega
        have id0 : (v : Int) / 100 = (d0 : Int) := by omega
        have id1 : (v : Int) / 100 = (d0 : Int) := by omega
        have HD0 := Hid_mk hd0
        clear hd0
        go_wp2
        go_end0
        have hb9 := HBY1.out.set 0 (48 + d0)
        have hg9 := HG1.out.one (by have := HKn.out; omega) HU.out
        have h9 := HE2.out 2 (by decide)
        rw [show 3 - 2 = 1 from rfl] at h9
        rw [h9, show (10 : Nat) ^ 2 = 100 from rfl] at hg9
        rw [HD0.out] at hg9
        have hi9 : ((48 + d0 : Nat) : Int) = 48 + (d0 : Int) := by omega
        rw [hi9] at hb9
        exact ⟨rfl, HKY1.out.setCell (p := ⟨g, o, none⟩) (fun _ => rfl) _, ⟨fun i hi => by rw [← hg9 i (Nat.zero_le _) hi]; exact hb9.cell i hi, hb9.warm⟩⟩
      · have hvk : v < 10000 := HVk.out
        have hvi : (v : Int) < 10000 := by omega
        have HG0 := Hid_mk HGd.out
        obtain ⟨a0, ha0⟩ : ∃ a : Nat, v % 100 = a := ⟨_, rfl⟩
        have na0 := fun W => small0 a0 (by omega) W
        have ma0 := fun W => small1 a0 (by omega) W
        have la0 : (a0 : Int) < 100 := by omega
        have ia0 : (v : Int) % 100 * 2 = (a0 : Int) * 2 := by omega
        have Ha0 := Hid_mk ha0
        obtain ⟨a1, ha1⟩ : ∃ a : Nat, v / 100 % 100 = a := ⟨_, rfl⟩
        have na1 := fun W => small0 a1 (by omega) W
        have ma1 := fun W => small1 a1 (by omega) W
        have la1 : (a1 : Int) < 100 := by omega
        have ia1 : (v : Int) % 10000 / 100 * 2 = (a1 : Int) * 2 := by omega
        have Ha1 := Hid_mk ha1
        clear ha0 ha1
        have c1 := HBwr.out.cell 3 (by have := HKn.out; omega)
        have c2 := HBwr.out.cell 2 (by have := HKn.out; omega)
        skip
        have cw := HBwr.out.warm
        go_upto_region 17 with fail
        go_region
        obtain ⟨Y1, hY1⟩ : ∃ W, ((wr.setCell ⟨g, o + 3, none⟩ (.int .u8 (48 + (a0 : Int) % 10))).setCell ⟨g, o + 2, none⟩ (.int .u8 (48 + (a0 : Int) / 10))).drew = W := ⟨_, rfl⟩
        rw [hY1]
        have hbY1 := buf_pair (i := 3) (j := 2) (a := 48 + a0 % 10) (b := 48 + a0 / 10) HBwr.out HKwr.out (48 + (a0 : Int) % 10) (48 + (a0 : Int) / 10) (by omega) (by omega)
        rw [show (⟨g, o + 3, none⟩ : Addr) = ⟨g, o + 3, none⟩ from rfl, show (⟨g, o + 2, none⟩ : Addr) = ⟨g, o + 2, none⟩ from rfl, hY1] at hbY1
        have HBY1 := Hid_mk hbY1.1
        have HKY1 := Hid_mk hbY1.2
        have HG1 := Hid_mk (HG0.out.pair (by decide) (by have := HKn.out; omega) (a := a0) (by have h9 := HE2.out 0 (by decide); rw [show 4 - 0 = 4 from rfl] at h9; rw [h9, Nat.pow_zero, Nat.div_one]; exact Ha0.out))
        clear c1 c2 cw hbY1 hY1
        have c1 := HBY1.out.cell 1 (by have := HKn.out; omega)
        have c2 := HBY1.out.cell 0 (by have := HKn.out; omega)
        simp only [Nat.add_zero] at c2
        have cw := HBY1.out.warm
        go_upto_region 18 with fail
        go_region
        obtain ⟨Y2, hY2⟩ : ∃ W, ((Y1.setCell ⟨g, o + 1, none⟩ (.int .u8 (48 + (a1 : Int) % 10))).setCell ⟨g, o, none⟩ (.int .u8 (48 + (a1 : Int) / 10))).drew = W := ⟨_, rfl⟩
        rw [hY2]
        have hbY2 := buf_pair (i := 1) (j := 0) (a := 48 + a1 % 10) (b := 48 + a1 / 10) HBY1.out HKY1.out (48 + (a1 : Int) % 10) (48 + (a1 : Int) / 10) (by omega) (by omega)
        rw [show (⟨g, o + 1, none⟩ : Addr) = ⟨g, o + 1, none⟩ from rfl, show (⟨g, o + 0, none⟩ : Addr) = ⟨g, o, none⟩ from rfl, hY2] at hbY2
        have HBY2 := Hid_mk hbY2.1
        have HKY2 := Hid_mk hbY2.2
        have HG2 := Hid_mk (HG1.out.pair (by decide) (by have := HKn.out; omega) (a := a1) (by have h9 := HE2.out 2 (by decide); rw [show 4 - 2 = 2 from rfl] at h9; rw [h9]; exact Ha1.out))
        clear c1 c2 cw hbY2 hY2
        go_wp2
        go_end0
        exact ⟨rfl, HKY2.out, ⟨fun i hi => by rw [← HG2.out i (Nat.zero_le _) hi]; exact HBY2.out.cell i hi, HBY2.out.warm⟩⟩
      · have hvk : v < 100000 := HVk.out
        have hvi : (v : Int) < 100000 := by omega
        have HG0 := Hid_mk HGd.out
        obtain ⟨a0, ha0⟩ : ∃ a : Nat, v % 100 = a := ⟨_, rfl⟩
        have na0 := fun W => small0 a0 (by omega) W
        have ma0 := fun W => small1 a0 (by omega) W
        have la0 : (a0 : Int) < 100 := by omega
        have ia0 : (v : Int) % 100 * 2 = (a0 : Int) * 2 := by omega
        have Ha0 := Hid_mk ha0
        obtain ⟨a1, ha1⟩ : ∃ a : Nat, v / 100 % 100 = a := ⟨_, rfl⟩
        have na1 := fun W => small0 a1 (by omega) W
        have ma1 := fun W => small1 a1 (by omega) W
        have la1 : (a1 : Int) < 100 := by omega
        have ia1 : (v : Int) % 10000 / 100 * 2 = (a1 : Int) * 2 := by omega
        have Ha1 := Hid_mk ha1
        clear ha0 ha1
        have c1 := HBwr.out.cell 4 (by have := HKn.out; omega)
        have c2 := HBwr.out.cell 3 (by have := HKn.out; omega)
        skip
        have cw := HBwr.out.warm
        go_upto_region 17 with fail
        go_region
        obtain ⟨Y1, hY1⟩ : ∃ W, ((wr.setCell ⟨g, o + 4, none⟩ (.int .u8 (48 + (a0 : Int) % 10))).setCell ⟨g, o + 3, none⟩ (.int .u8 (48 + (a0 : Int) / 10))).drew = W := ⟨_, rfl⟩
        rw [hY1]
        have hbY1 := buf_pair (i := 4) (j := 3) (a := 48 + a0 % 10) (b := 48 + a0 / 10) HBwr.out HKwr.out (48 + (a0 : Int) % 10) (48 + (a0 : Int) / 10) (by omega) (by omega)
        rw [show (⟨g, o + 4, none⟩ : Addr) = ⟨g, o + 4, none⟩ from rfl, show (⟨g, o + 3, none⟩ : Addr) = ⟨g, o + 3, none⟩ from rfl, hY1] at hbY1
        have HBY1 := Hid_mk hbY1.1
        have HKY1 := Hid_mk hbY1.2
        have HG1 := Hid_mk (HG0.out.pair (by decide) (by have := HKn.out; omega) (a := a0) (by have h9 := HE2.out 0 (by decide); rw [show 5 - 0 = 5 from rfl] at h9; rw [h9, Nat.pow_zero, Nat.div_one]; exact Ha0.out))
        clear c1 c2 cw hbY1 hY1
        have c1 := HBY1.out.cell 2 (by have := HKn.out; omega)
        have c2 := HBY1.out.cell 1 (by have := HKn.out; omega)
        skip
        have cw := HBY1.out.warm
        go_upto_region 18 with fail
        go_region
        obtain ⟨Y2, hY2⟩ : ∃ W, ((Y1.setCell ⟨g, o + 2, none⟩ (.int .u8 (48 + (a1 : Int) % 10))).setCell ⟨g, o + 1, none⟩ (.int .u8 (48 + (a1 : Int) / 10))).drew = W := ⟨_, rfl⟩
        rw [hY2]
        have hbY2 := buf_pair (i := 2) (j := 1) (a := 48 + a1 % 10) (b := 48 + a1 / 10) HBY1.out HKY1.out (48 + (a1 : Int) % 10) (48 + (a1 : Int) / 10) (by omega) (by omega)
        rw [show (⟨g, o + 2, none⟩ : Addr) = ⟨g, o + 2, none⟩ from rfl, show (⟨g, o + 1, none⟩ : Addr) = ⟨g, o + 1, none⟩ from rfl, hY2] at hbY2
        have HBY2 := Hid_mk hbY2.1
        have HKY2 := Hid_mk hbY2.2
        have HG2 := Hid_mk (HG1.out.pair (by decide) (by have := HKn.out; omega) (a := a1) (by have h9 := HE2.out 2 (by decide); rw [show 5 - 2 = 3 from rfl] at h9; rw [h9]; exact Ha1.out))
        clear c1 c2 cw hbY2 hY2
        obtain ⟨d0, hd0⟩ : ∃ a : Nat, v / 10000 = a := ⟨_, rfl⟩
        have c1 := HBY2.out.cell 0 (by have := HKn.out; omega)
        simp only [Nat.add_zero] at c1
        have cw := HBY2.out.warm
        have ld0 : (d0 : Int) < 10 := by omega
        have id0 : (v : Int) / 10000 = (d0 : Int) := by omega
        have id1 : (v : Int) / 10000 = (d0 : Int) := by omega
        have HD0 := Hid_mk hd0
        clear hd0
        go_wp2
        go_end0
        have hb9 := HBY2.out.set 0 (48 + d0)
        have hg9 := HG2.out.one (by have := HKn.out; omega) HU.out
        have h9 := HE2.out 4 (by decide)
        rw [show 5 - 4 = 1 from rfl] at h9
        rw [h9, show (10 : Nat) ^ 4 = 10000 from rfl] at hg9
        rw [HD0.out] at hg9
        have hi9 : ((48 + d0 : Nat) : Int) = 48 + (d0 : Int) := by omega
        rw [hi9] at hb9
        exact ⟨rfl, HKY2.out.setCell (p := ⟨g, o, none⟩) (fun _ => rfl) _, ⟨fun i hi => by rw [← hg9 i (Nat.zero_le _) hi]; exact hb9.cell i hi, hb9.warm⟩⟩
      · have hvk : v < 1000000 := HVk.out
        have hvi : (v : Int) < 1000000 := by omega
        have HG0 := Hid_mk HGd.out
        obtain ⟨a0, ha0⟩ : ∃ a : Nat, v % 100 = a := ⟨_, rfl⟩
        have na0 := fun W => small0 a0 (by omega) W
        have ma0 := fun W => small1 a0 (by omega) W
        have la0 : (a0 : Int) < 100 := by omega
        have ia0 : (v : Int) % 100 * 2 = (a0 : Int) * 2 := by omega
        have Ha0 := Hid_mk ha0
        obtain ⟨a1, ha1⟩ : ∃ a : Nat, v / 100 % 100 = a := ⟨_, rfl⟩
        have na1 := fun W => small0 a1 (by omega) W
        have ma1 := fun W => small1 a1 (by omega) W
        have la1 : (a1 : Int) < 100 := by omega
        have ia1 : (v : Int) % 10000 / 100 * 2 = (a1 : Int) * 2 := by omega
        have Ha1 := Hid_mk ha1
        obtain ⟨b0, hb0⟩ : ∃ a : Nat, v / 10000 % 100 = a := ⟨_, rfl⟩
        have nb0 := fun W => small0 b0 (by omega) W
        have mb0 := fun W => small1 b0 (by omega) W
        have lb0 : (b0 : Int) < 100 := by omega
        have ib0 : (v : Int) / 10000 % 100 * 2 = (b0 : Int) * 2 := by omega
        have Hb0 := Hid_mk hb0
        clear ha0 ha1 hb0
        have c1 := HBwr.out.cell 5 (by have := HKn.out; omega)
        have c2 := HBwr.out.cell 4 (by have := HKn.out; omega)
        skip
        have cw := HBwr.out.warm
        go_upto_region 17 with fail
        go_region
        obtain ⟨Y1, hY1⟩ : ∃ W, ((wr.setCell ⟨g, o + 5, none⟩ (.int .u8 (48 + (a0 : Int) % 10))).setCell ⟨g, o + 4, none⟩ (.int .u8 (48 + (a0 : Int) / 10))).drew = W := ⟨_, rfl⟩
        rw [hY1]
        have hbY1 := buf_pair (i := 5) (j := 4) (a := 48 + a0 % 10) (b := 48 + a0 / 10) HBwr.out HKwr.out (48 + (a0 : Int) % 10) (48 + (a0 : Int) / 10) (by omega) (by omega)
        rw [show (⟨g, o + 5, none⟩ : Addr) = ⟨g, o + 5, none⟩ from rfl, show (⟨g, o + 4, none⟩ : Addr) = ⟨g, o + 4, none⟩ from rfl, hY1] at hbY1
        have HBY1 := Hid_mk hbY1.1
        have HKY1 := Hid_mk hbY1.2
        have HG1 := Hid_mk (HG0.out.pair (by decide) (by have := HKn.out; omega) (a := a0) (by have h9 := HE2.out 0 (by decide); rw [show 6 - 0 = 6 from rfl] at h9; rw [h9, Nat.pow_zero, Nat.div_one]; exact Ha0.out))
        clear c1 c2 cw hbY1 hY1
        have c1 := HBY1.out.cell 3 (by have := HKn.out; omega)
        have c2 := HBY1.out.cell 2 (by have := HKn.out; omega)
        skip
        have cw := HBY1.out.warm
        go_upto_region 18 with fail
        go_region
        obtain ⟨Y2, hY2⟩ : ∃ W, ((Y1.setCell ⟨g, o + 3, none⟩ (.int .u8 (48 + (a1 : Int) % 10))).setCell ⟨g, o + 2, none⟩ (.int .u8 (48 + (a1 : Int) / 10))).drew = W := ⟨_, rfl⟩
        rw [hY2]
        have hbY2 := buf_pair (i := 3) (j := 2) (a := 48 + a1 % 10) (b := 48 + a1 / 10) HBY1.out HKY1.out (48 + (a1 : Int) % 10) (48 + (a1 : Int) / 10) (by omega) (by omega)
        rw [show (⟨g, o + 3, none⟩ : Addr) = ⟨g, o + 3, none⟩ from rfl, show (⟨g, o + 2, none⟩ : Addr) = ⟨g, o + 2, none⟩ from rfl, hY2] at hbY2
        have HBY2 := Hid_mk hbY2.1
        have HKY2 := Hid_mk hbY2.2
        have HG2 := Hid_mk (HG1.out.pair (by decide) (by have := HKn.out; omega) (a := a1) (by have h9 := HE2.out 2 (by decide); rw [show 6 - 2 = 4 from rfl] at h9; rw [h9]; exact Ha1.out))
        clear c1 c2 cw hbY2 hY2
        have c1 := HBY2.out.cell 1 (by have := HKn.out; omega)
        have c2 := HBY2.out.cell 0 (by have := HKn.out; omega)
        simp only [Nat.add_zero] at c2
        have cw := HBY2.out.warm
        go_upto_region 23 with fail
        go_region
        obtain ⟨Y3, hY3⟩ : ∃ W, ((Y2.setCell ⟨g, o + 1, none⟩ (.int .u8 (48 + (b0 : Int) % 10))).setCell ⟨g, o, none⟩ (.int .u8 (48 + (b0 : Int) / 10))).drew = W := ⟨_, rfl⟩
        rw [hY3]
        have hbY3 := buf_pair (i := 1) (j := 0) (a := 48 + b0 % 10) (b := 48 + b0 / 10) HBY2.out HKY2.out (48 + (b0 : Int) % 10) (48 + (b0 : Int) / 10) (by omega) (by omega)
        rw [show (⟨g, o + 1, none⟩ : Addr) = ⟨g, o + 1, none⟩ from rfl, show (⟨g, o + 0, none⟩ : Addr) = ⟨g, o, none⟩ from rfl, hY3] at hbY3
        have HBY3 := Hid_mk hbY3.1
        have HKY3 := Hid_mk hbY3.2
        have HG3 := Hid_mk (HG2.out.pair (by decide) (by have := HKn.out; omega) (a := b0) (by have h9 := HE2.out 4 (by decide); rw [show 6 - 4 = 2 from rfl] at h9; rw [h9]; exact Hb0.out))
        clear c1 c2 cw hbY3 hY3
        go_wp2
        go_end0
        exact ⟨rfl, HKY3.out, ⟨fun i hi => by rw [← HG3.out i (Nat.zero_le _) hi]; exact HBY3.out.cell i hi, HBY3.out.warm⟩⟩
      · have hvk : v < 10000000 := HVk.out
        have hvi : (v : Int) < 10000000 := by omega
        have HG0 := Hid_mk HGd.out
        obtain ⟨a0, ha0⟩ : ∃ a : Nat, v % 100 = a := ⟨_, rfl⟩
        have na0 := fun W => small0 a0 (by omega) W
        have ma0 := fun W => small1 a0 (by omega) W
        have la0 : (a0 : Int) < 100 := by omega
        have ia0 : (v : Int) % 100 * 2 = (a0 : Int) * 2 := by omega
        have Ha0 := Hid_mk ha0
        obtain ⟨a1, ha1⟩ : ∃ a : Nat, v / 100 % 100 = a := ⟨_, rfl⟩
        have na1 := fun W => small0 a1 (by omega) W
        have ma1 := fun W => small1 a1 (by omega) W
        have la1 : (a1 : Int) < 100 := by omega
        have ia1 : (v : Int) % 10000 / 100 * 2 = (a1 : Int) * 2 := by omega
        have Ha1 := Hid_mk ha1
        obtain ⟨b0, hb0⟩ : ∃ a : Nat, v / 10000 % 100 = a := ⟨_, rfl⟩
        have nb0 := fun W => small0 b0 (by omega) W
        have mb0 := fun W => small1 b0 (by omega) W
        have lb0 : (b0 : Int) < 100 := by omega
        have ib0 : (v : Int) / 10000 % 100 * 2 = (b0 : Int) * 2 := by omega
        have Hb0 := Hid_mk hb0
        clear ha0 ha1 hb0
        have c1 := HBwr.out.cell 6 (by have := HKn.out; omega)
        have c2 := HBwr.out.cell 5 (by have := HKn.out; omega)
        skip
        have cw := HBwr.out.warm
        go_upto_region 17 with fail
        go_region
        obtain ⟨Y1, hY1⟩ : ∃ W, ((wr.setCell ⟨g, o + 6, none⟩ (.int .u8 (48 + (a0 : Int) % 10))).setCell ⟨g, o + 5, none⟩ (.int .u8 (48 + (a0 : Int) / 10))).drew = W := ⟨_, rfl⟩
        rw [hY1]
        have hbY1 := buf_pair (i := 6) (j := 5) (a := 48 + a0 % 10) (b := 48 + a0 / 10) HBwr.out HKwr.out (48 + (a0 : Int) % 10) (48 + (a0 : Int) / 10) (by omega) (by omega)
        rw [show (⟨g, o + 6, none⟩ : Addr) = ⟨g, o + 6, none⟩ from rfl, show (⟨g, o + 5, none⟩ : Addr) = ⟨g, o + 5, none⟩ from rfl, hY1] at hbY1
        have HBY1 := Hid_mk hbY1.1
        have HKY1 := Hid_mk hbY1.2
        have HG1 := Hid_mk (HG0.out.pair (by decide) (by have := HKn.out; omega) (a := a0) (by have h9 := HE2.out 0 (by decide); rw [show 7 - 0 = 7 from rfl] at h9; rw [h9, Nat.pow_zero, Nat.div_one]; exact Ha0.out))
        clear c1 c2 cw hbY1 hY1
        have c1 := HBY1.out.cell 4 (by have := HKn.out; omega)
        have c2 := HBY1.out.cell 3 (by have := HKn.out; omega)
        skip
        have cw := HBY1.out.warm
        go_upto_region 18 with fail
        go_region
        obtain ⟨Y2, hY2⟩ : ∃ W, ((Y1.setCell ⟨g, o + 4, none⟩ (.int .u8 (48 + (a1 : Int) % 10))).setCell ⟨g, o + 3, none⟩ (.int .u8 (48 + (a1 : Int) / 10))).drew = W := ⟨_, rfl⟩
        rw [hY2]
        have hbY2 := buf_pair (i := 4) (j := 3) (a := 48 + a1 % 10) (b := 48 + a1 / 10) HBY1.out HKY1.out (48 + (a1 : Int) % 10) (48 + (a1 : Int) / 10) (by omega) (by omega)
        rw [show (⟨g, o + 4, none⟩ : Addr) = ⟨g, o + 4, none⟩ from rfl, show (⟨g, o + 3, none⟩ : Addr) = ⟨g, o + 3, none⟩ from rfl, hY2] at hbY2
        have HBY2 := Hid_mk hbY2.1
        have HKY2 := Hid_mk hbY2.2
        have HG2 := Hid_mk (HG1.out.pair (by decide) (by have := HKn.out; omega) (a := a1) (by have h9 := HE2.out 2 (by decide); rw [show 7 - 2 = 5 from rfl] at h9; rw [h9]; exact Ha1.out))
        clear c1 c2 cw hbY2 hY2
        have c1 := HBY2.out.cell 2 (by have := HKn.out; omega)
        have c2 := HBY2.out.cell 1 (by have := HKn.out; omega)
        skip
        have cw := HBY2.out.warm
        go_upto_region 23 with fail
        go_region
        obtain ⟨Y3, hY3⟩ : ∃ W, ((Y2.setCell ⟨g, o + 2, none⟩ (.int .u8 (48 + (b0 : Int) % 10))).setCell ⟨g, o + 1, none⟩ (.int .u8 (48 + (b0 : Int) / 10))).drew = W := ⟨_, rfl⟩
        rw [hY3]
        have hbY3 := buf_pair (i := 2) (j := 1) (a := 48 + b0 % 10) (b := 48 + b0 / 10) HBY2.out HKY2.out (48 + (b0 : Int) % 10) (48 + (b0 : Int) / 10) (by omega) (by omega)
        rw [show (⟨g, o + 2, none⟩ : Addr) = ⟨g, o + 2, none⟩ from rfl, show (⟨g, o + 1, none⟩ : Addr) = ⟨g, o + 1, none⟩ from rfl, hY3] at hbY3
        have HBY3 := Hid_mk hbY3.1
        have HKY3 := Hid_mk hbY3.2
        have HG3 := Hid_mk (HG2.out.pair (by decide) (by have := HKn.out; omega) (a := b0) (by have h9 := HE2.out 4 (by decide); rw [show 7 - 4 = 3 from rfl] at h9; rw [h9]; exact Hb0.out))
        clear c1 c2 cw hbY3 hY3
        obtain ⟨d0, hd0⟩ : ∃ a : Nat, v / 1000000 = a := ⟨_, rfl⟩
        have c1 := HBY3.out.cell 0 (by have := HKn.out; omega)
        simp only [Nat.add_zero] at c1
        have cw := HBY3.out.warm
        have ld0 : (d0 : Int) < 10 := by omega
        have id0 : (v : Int) / 10000 / 100 = (d0 : Int) := by omega
        have id1 : (v : Int) / 1000000 = (d0 : Int) := by omega
        have HD0 := Hid_mk hd0
        clear hd0
        go_wp2
        go_end0
        have hb9 := HBY3.out.set 0 (48 + d0)
        have hg9 := HG3.out.one (by have := HKn.out; omega) HU.out
        have h9 := HE2.out 6 (by decide)
        rw [show 7 - 6 = 1 from rfl] at h9
        rw [h9, show (10 : Nat) ^ 6 = 1000000 from rfl] at hg9
        rw [HD0.out] at hg9
        have hi9 : ((48 + d0 : Nat) : Int) = 48 + (d0 : Int) := by omega
        rw [hi9] at hb9
        exact ⟨rfl, HKY3.out.setCell (p := ⟨g, o, none⟩) (fun _ => rfl) _, ⟨fun i hi => by rw [← hg9 i (Nat.zero_le _) hi]; exact hb9.cell i hi, hb9.warm⟩⟩

/-- without noughts at the end -/
def trimN (f : Nat → Nat) : Nat → Nat
  | 0 => 0
  | k + 1 => if f k = 48 then trimN f k else k + 1
theorem trimN_le (f : Nat → Nat) : ∀ k, trimN f k ≤ k
  | 0 => Nat.le_refl _
  | k + 1 => by
    rw [trimN]
    split
    · exact Nat.le_succ_of_le (trimN_le f k)
    · exact Nat.le_refl _
theorem zeros_buf (W : World) (t : TypeId) : BufAt (W.alloc (.cells #[.int .u8 0, .int .u8 0, .int .u8 0, .int .u8 0, .int .u8 0, .int .u8 0, .int .u8 0, .int .u8 0, .int .u8 0, .int .u8 0, .int .u8 0, .int .u8 0, .int .u8 0, .int .u8 0, .int .u8 0, .int .u8 0, .int .u8 0, .int .u8 0, .int .u8 0, .int .u8 0, .int .u8 0, .int .u8 0, .int .u8 0, .int .u8 0] t)) W.heap.size 0 24 (fun _ => 0) :=
  ⟨fun i hi => by rcases i with _ | _ | _ | _ | _ | _ | _ | _ | _ | _ | _ | _ | _ | _ | _ | _ | _ | _ | _ | _ | _ | _ | _ | _ | i <;> first | (exfalso; omega) | simp, fun i => by simp⟩

end Go.Proofs.YtannbdbhkhmppaaGreatDoor.fmtf
