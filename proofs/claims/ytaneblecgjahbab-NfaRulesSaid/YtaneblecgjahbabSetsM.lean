/- Package class: sets of bytes, their calls. Package class: sets out of bytes and out of spans. -/
import Derived.Test.YtaneblecgjahbabBaseM

namespace Go.Proofs.Ytaneblecgjahbab.cls
open Go.RowKit Go.Proofs.Ytaneblecgjahbab.sum Go.Proofs.Ytaneblecgjahbab.kept Go.Proofs.Ytaneblecgjahbab.pop
set_option linter.unusedVariables false

/-- a set as its value -/
abbrev sv (f : Nat → Bool) : Value := .agg #[.int .u64 (wd f 0 64 : Nat), .int .u64 (wd f 64 64 : Nat), .int .u64 (wd f 128 64 : Nat), .int .u64 (wd f 192 64 : Nat)]

theorem wd_le (f : Nat → Bool) (o : Nat) : wd f o 64 < 18446744073709551616 := wd_lt f o 64

theorem and_u64 (a b : Nat) (ha : a < 18446744073709551616) (hb : b < 18446744073709551616) : bits .and .u64 (a : Int) (b : Int) = ((a &&& b : Nat) : Int) := u64_and_nat a b ha hb
theorem wrap_u64_in (a : Nat) (ha : a < 18446744073709551616) : IntKind.u64.wrap (a : Int) = (a : Int) := by rw [IntKind.wrap_u64]; omega
theorem wrap_add (a b c : Nat) (hc : c = a + b) (h : c < 18446744073709551616) : IntKind.u64.wrap ((a : Int) + (b : Int)) = (c : Int) := by
  rw [← Int.natCast_add, ← hc, wrap_u64_in _ h]

theorem low7_i64 (r : Nat) (h : r < 18446744073709551616) : bits .and .i64 (wrap64 (r : Int)) 127 = ((r % 128 : Nat) : Int) := by
  have h1 : (BitVec.ofInt 64 (wrap64 (r : Int))).toNat = r := by
    rw [BitVec.toNat_ofInt]
    unfold wrap64
    omega
  have h2 : (BitVec.ofInt 64 (127 : Int)).toNat = 127 := rfl
  show IntKind.i64.wrap ((BitVec.ofInt 64 (wrap64 (r : Int)) &&& BitVec.ofInt 64 (127 : Int)).toNat : Int) = _
  rw [BitVec.toNat_and, h1, h2, Nat.and_two_pow_sub_one_eq_mod r 7, IntKind.wrap_i64]
  omega

set_option maxRecDepth 100000 in
theorem ones_any (w : World) (f : Nat → Bool) (o : Nat) :
    Calls Try.prog 95 #[.int .u64 (wd f o 64 : Nat)] w fun e w' => e = .returned (.int .i64 (cnt f o 64 : Nat)) ∧ w' = w := by
  obtain ⟨y, z, n, hy, hz, hn, ly, lz, lzz, ln, hf⟩ := ones f o
  obtain ⟨lp, lq, lr, hr⟩ := hf _ _ _ rfl rfl rfl
  have lx := wd_le f o
  generalize hx : wd f o 64 = x at hy lx
  have e1 : bits .and .u64 ((x : Int) / 2) 6148914691236517205 = ((x / 2 &&& 6148914691236517205 : Nat) : Int) := u64_and_nat (x / 2) 6148914691236517205 (by omega) (by decide)
  have e2 : bits .and .u64 (x : Int) 6148914691236517205 = ((x &&& 6148914691236517205 : Nat) : Int) := u64_and_nat x 6148914691236517205 lx (by decide)
  have e3 := wrap_add _ _ y hy ly
  have e4 : bits .and .u64 ((y : Int) / 4) 3689348814741910323 = ((y / 4 &&& 3689348814741910323 : Nat) : Int) := u64_and_nat (y / 4) 3689348814741910323 (by omega) (by decide)
  have e5 : bits .and .u64 (y : Int) 3689348814741910323 = ((y &&& 3689348814741910323 : Nat) : Int) := u64_and_nat y 3689348814741910323 ly (by decide)
  have e6 := wrap_add _ _ z hz lz
  have e7 : IntKind.u64.wrap ((z : Int) / 16 + (z : Int)) = ((z / 16 + z : Nat) : Int) := wrap_add (z / 16) z _ rfl lzz
  generalize z / 16 + z = s0 at *
  have e8 : bits .and .u64 (s0 : Int) 1085102592571150095 = (n : Int) := by rw [hn]; exact u64_and_nat _ _ lzz (by decide)
  have e9 : IntKind.u64.wrap ((n : Int) + (n : Int) / 256) = ((n + n / 256 : Nat) : Int) := wrap_add n (n / 256) _ rfl lp
  generalize n + n / 256 = p at *
  have e10 : IntKind.u64.wrap ((p : Int) + (p : Int) / 65536) = ((p + p / 65536 : Nat) : Int) := wrap_add p (p / 65536) _ rfl lq
  generalize p + p / 65536 = q at *
  have e11 : IntKind.u64.wrap ((q : Int) + (q : Int) / 4294967296) = ((q + q / 4294967296 : Nat) : Int) := wrap_add q (q / 4294967296) _ rfl lr
  generalize q + q / 4294967296 = r at *
  have e12 : bits .and .i64 (wrap64 (r : Int)) 127 = ((r % 128 : Nat) : Int) := low7_i64 r lr
  generalize r % 128 = u at *
  clear hf hy hz hn ly lz lzz ln lp lq lr lx
  go_enter Try.func95, Try.ntmps95
  go_wp2
  go_ret
  exact ⟨rfl, rfl⟩

theorem or_wd (f g : Nat → Bool) (o : Nat) : wd f o 64 ||| wd g o 64 = wd (fun x => f x || g x) o 64 :=
  wd_eq (Nat.or_lt_two_pow (wd_lt f o 64) (wd_lt g o 64)) fun j hj => by rw [Nat.testBit_or, wd_bit, wd_bit]; simp [hj]
theorem not_wd (f : Nat → Bool) (o : Nat) : 18446744073709551615 - wd f o 64 = wd (fun x => !f x) o 64 :=
  wd_eq (by omega) fun j hj => by
    have h := wd_lt f o 64
    rw [show 18446744073709551615 - wd f o 64 = 2 ^ 64 - (wd f o 64 + 1) from by omega, Nat.testBit_two_pow_sub_succ h, wd_bit]
    simp [hj]
theorem set_wd (f : Nat → Bool) (o b : Nat) (hb : b < 64) : wd f o 64 ||| 2 ^ b = wd (fun x => f x || x == o + b) o 64 :=
  wd_eq (Nat.or_lt_two_pow (wd_lt f o 64) (Nat.pow_lt_pow_right (by decide) hb)) fun j hj => by
    rw [Nat.testBit_or, wd_bit, Nat.testBit_two_pow]
    simp only [hj, decide_true, Bool.true_and]
    congr 1
    rw [Bool.eq_iff_iff]
    simp only [decide_eq_true_eq, beq_iff_eq]
    omega
theorem has_wd (f : Nat → Bool) (o b : Nat) (hb : b < 64) : wd f o 64 / 2 ^ b % 2 = if f (o + b) then 1 else 0 := by
  have h := wd_bit f o 64 b
  rw [Nat.testBit_eq_decide_div_mod_eq] at h
  simp only [hb, decide_true, Bool.true_and] at h
  cases hf : f (o + b) with
  | true => rw [hf] at h; simpa using h
  | false => rw [hf] at h; simp only [decide_eq_false_iff_not] at h; simp; omega

theorem sv_cells (w : World) (f : Nat → Bool) (q : Nat) (hq : q < 4) : (w.alloc (.cells #[.int .u64 (wd f 0 64 : Nat), .int .u64 (wd f 64 64 : Nat), .int .u64 (wd f 128 64 : Nat), .int .u64 (wd f 192 64 : Nat)] 27)).cell? ⟨w.heap.size, q, none⟩ = some (.int .u64 (wd f (64 * q) 64 : Nat)) := by
  have h4 : q = 0 ∨ q = 1 ∨ q = 2 ∨ q = 3 := by omega
  rcases h4 with rfl | rfl | rfl | rfl <;> simp

set_option maxRecDepth 100000 in
theorem has_any (w : World) (f : Nat → Bool) (b : Nat) (hb : b < 256) :
    Calls Try.prog 59 #[sv f, .int .u8 (b : Int)] w fun e w' => e = .returned (.bool (f b)) ∧ Kp No w w' := by
  unfold sv
  obtain ⟨q, hq⟩ : ∃ q, b / 64 = q := ⟨_, rfl⟩
  obtain ⟨r, hr⟩ : ∃ r, b % 64 = r := ⟨_, rfl⟩
  have hq4 : q < 4 := by omega
  have hr64 : r < 64 := by omega
  have hc := sv_cells w f q hq4
  have hqi : (b : Int) / 64 = (q : Int) := by omega
  have hri : (b : Int) % 64 = (r : Int) := by omega
  have hr0 : (0 : Int) ≤ (r : Int) := Int.natCast_nonneg _
  have hfb := has_wd f (64 * q) r hr64
  rw [show 64 * q + r = b from by omega] at hfb
  have hx := wd_le f (64 * q)
  generalize wd f (64 * q) 64 = x at hc hfb hx
  have hv : (bits BinOp.and IntKind.u64 ((x : Int) / 2 ^ r) 1 == 1) = f b := by
    have e1 : (x : Int) / 2 ^ r = ((x / 2 ^ r : Nat) : Int) := by push_cast; rfl
    have hx2 : x / 2 ^ r < 18446744073709551616 := Nat.lt_of_le_of_lt (Nat.div_le_self _ _) hx
    have e2 : bits BinOp.and IntKind.u64 ((x / 2 ^ r : Nat) : Int) 1 = ((x / 2 ^ r % 2 : Nat) : Int) := by
      have := u64_and_nat (x / 2 ^ r) 1 hx2 (by decide)
      rw [Nat.and_one_is_mod] at this
      exact this
    rw [e1, e2, hfb]
    cases f b <;> rfl
  clear hq hr hfb hx
  go_enter Try.func59, Try.ntmps59
  go_wp2
  go_ret
  exact ⟨rfl, (Kp.refl _ _).alloc _⟩

/-- a set in memory that may be written -/
structure SetAt (w : World) (q : Nat) (f : Nat → Bool) : Prop where
  cell : ∀ k, k < 4 → w.cell? ⟨q, k, none⟩ = some (.int .u64 (wd f (64 * k) 64 : Nat))
  warm : ∀ j, w.frozen? ⟨q, j, none⟩ = false
theorem SetAt.kept {S : Nat → Prop} {w w' : World} {q : Nat} {f : Nat → Bool} (h : SetAt w q f) (hk : Kp S w w') (hq : ¬ S q) : SetAt w' q f :=
  ⟨fun k h4 => hk.cell' (h.cell k h4) hq, fun j => (hk.frozen (p := ⟨q, j, none⟩) (World.block_lt_of_cell? w ⟨q, 0, none⟩ (h.cell 0 (by omega))) hq).trans (h.warm j)⟩
theorem SetAt.no {w w' : World} {q : Nat} {f : Nat → Bool} (h : SetAt w q f) (hk : Kp No w w') : SetAt w' q f := h.kept hk id
theorem SetAt.congr {w : World} {q : Nat} {f g : Nat → Bool} (h : SetAt w q f) (e : ∀ x, x < 256 → f x = g x) : SetAt w q g :=
  ⟨fun k h4 => by rw [h.cell k h4, wd_congr fun j hj => e _ (by omega)], h.warm⟩
theorem SetAt.set {w : World} {q : Nat} {f g : Nat → Bool} (h : SetAt w q f) (k : Nat) (hk : k < 4) (e : ∀ x, x < 256 → x / 64 ≠ k → g x = f x) : SetAt (w.setCell ⟨q, k, none⟩ (.int .u64 (wd g (64 * k) 64 : Nat))) q g := by
  refine ⟨fun i h4 => ?_, fun j => by simpa using h.warm j⟩
  by_cases hi : i = k
  · subst hi
    exact World.cell?_setCell_same w _ _ (h.cell i h4)
  · rw [wd_congr (o := 64 * i) (f := g) (g := f) fun j hj => e _ (by omega) (by omega), World.cell?_setCell_other, h.cell i h4]
    simp only [ne_eq, Addr.mk.injEq, true_and, and_true]
    exact fun e => hi e.symm
theorem SetAt.made (w : World) (f : Nat → Bool) : SetAt (w.alloc (.cells #[.int .u64 (wd f 0 64 : Nat), .int .u64 (wd f 64 64 : Nat), .int .u64 (wd f 128 64 : Nat), .int .u64 (wd f 192 64 : Nat)] 27)) w.heap.size f :=
  ⟨sv_cells w f, fun j => by simp⟩
def nul : Nat → Bool := fun _ => false
theorem wd_nul (o : Nat) : ∀ n, wd nul o n = 0
  | 0 => rfl
  | n + 1 => by simp [wd, wd_nul o n, nul]
theorem SetAt.zero (w : World) : SetAt (w.alloc (.cells #[.int .u64 0, .int .u64 0, .int .u64 0, .int .u64 0] 27)) w.heap.size nul := by
  have h := SetAt.made w nul
  simp only [wd_nul] at h
  exact h

/-- behind k words -/
def OrRel (w : World) (q : Nat) (f g : Nat → Bool) (i : Value) (wr : World) : Prop :=
  ∃ k : Nat, k ≤ 4 ∧ i = .int .i64 (k : Int) ∧ SetAt wr q (fun x => if x < 64 * k then f x || g x else f x) ∧ Kp (fun b => b = q) w wr
set_option maxRecDepth 100000 in
theorem index_sv (g : Nat → Bool) (k : Nat) (hk : k < 4) (w : World) : (Instr.index 27 (sv g) (.int .i64 (k : Int))).run Try.prog w = .ok (.int .u64 (wd g (64 * k) 64 : Nat)) w := by
  have h4 : k = 0 ∨ k = 1 ∨ k = 2 ∨ k = 3 := by omega
  unfold sv
  rcases h4 with rfl | rfl | rfl | rfl <;> (go_simp; try rfl)

theorem word_or (a b : Nat) (ha : a < 18446744073709551616) (hb : b < 18446744073709551616) : bits BinOp.or IntKind.u64 (a : Int) (b : Int) = ((a ||| b : Nat) : Int) := u64_or_nat a b ha hb
theorem svd (f : Nat → Bool) : sv f = .agg #[.int .u64 (wd f 0 64 : Nat), .int .u64 (wd f 64 64 : Nat), .int .u64 (wd f 128 64 : Nat), .int .u64 (wd f 192 64 : Nat)] := rfl
theorem SetAt.cells {w : World} {q : Nat} {f : Nat → Bool} (h : SetAt w q f) : w.cell? ⟨q, 0, none⟩ = some (.int .u64 (wd f 0 64 : Nat)) ∧ w.cell? ⟨q, 1, none⟩ = some (.int .u64 (wd f 64 64 : Nat)) ∧ w.cell? ⟨q, 2, none⟩ = some (.int .u64 (wd f 128 64 : Nat)) ∧ w.cell? ⟨q, 3, none⟩ = some (.int .u64 (wd f 192 64 : Nat)) :=
  ⟨h.cell 0 (by decide), h.cell 1 (by decide), h.cell 2 (by decide), h.cell 3 (by decide)⟩

/-- a whole set is stored -/
abbrev putS (w : World) (q : Nat) (f : Nat → Bool) : World := (((w.setCell ⟨q, 0, none⟩ (.int .u64 (wd f 0 64 : Nat))).setCell ⟨q, 1, none⟩ (.int .u64 (wd f 64 64 : Nat))).setCell ⟨q, 2, none⟩ (.int .u64 (wd f 128 64 : Nat))).setCell ⟨q, 3, none⟩ (.int .u64 (wd f 192 64 : Nat))
theorem SetAt.puts {w : World} {q : Nat} {g : Nat → Bool} (h : SetAt w q g) (f : Nat → Bool) : SetAt (putS w q f) q f := by
  have h1 := h.set (g := fun x => if x < 64 then f x else g x) 0 (by omega) fun x hx e => by rw [if_neg (by omega)]
  have h2 := h1.set (g := fun x => if x < 128 then f x else g x) 1 (by omega) fun x hx e => by split <;> split <;> first | rfl | omega
  have h3 := h2.set (g := fun x => if x < 192 then f x else g x) 2 (by omega) fun x hx e => by split <;> split <;> first | rfl | omega
  have h4 := h3.set (g := f) 3 (by omega) fun x hx e => by rw [if_pos (by omega)]
  rw [wd_congr (o := 64 * 0) (g := f) fun j hj => by rw [if_pos (by omega)]] at h4
  rw [wd_congr (o := 64 * 1) (g := f) fun j hj => by rw [if_pos (by omega)]] at h4
  rw [wd_congr (o := 64 * 2) (g := f) fun j hj => by rw [if_pos (by omega)]] at h4
  exact h4
theorem kp_puts {S : Nat → Prop} {w0 w : World} (h : Kp S w0 w) {q : Nat} (hq : q < w0.heap.size → S q) (f : Nat → Bool) : Kp S w0 (putS w q f) :=
  (((h.setCell (p := ⟨q, 0, none⟩) hq _).setCell (p := ⟨q, 1, none⟩) hq _).setCell (p := ⟨q, 2, none⟩) hq _).setCell (p := ⟨q, 3, none⟩) hq _

set_option maxRecDepth 100000 in
theorem or_any (w : World) (f g : Nat → Bool) :
    Calls Try.prog 122 #[sv f, sv g] w fun e w' => e = .returned (sv fun x => f x || g x) ∧ Kp No w w' := by
  obtain ⟨W0, hW0⟩ : ∃ W0, ((w.alloc (.cells #[.int .u64 (wd f 0 64 : Nat), .int .u64 (wd f 64 64 : Nat), .int .u64 (wd f 128 64 : Nat), .int .u64 (wd f 192 64 : Nat)] 27)).alloc (.cells #[.int .u64 (wd g 0 64 : Nat), .int .u64 (wd g 64 64 : Nat), .int .u64 (wd g 128 64 : Nat), .int .u64 (wd g 192 64 : Nat)] 27)).alloc (.cells #[.int .u64 0, .int .u64 0, .int .u64 0, .int .u64 0] 27) = W0 := ⟨_, rfl⟩
  have HK0 : Hid (Kp No w W0) := Hid_mk (by rw [← hW0]; exact (((Kp.refl No w).alloc _).alloc _).alloc _)
  have hs0 : SetAt W0 w.heap.size f := by
    rw [← hW0]
    exact (SetAt.made w f).kept (((Kp.refl No _).alloc _).alloc _) id
  have HS0 := Hid_mk hs0
  have hz0 : SetAt W0 (w.heap.size + 1 + 1) nul := by
    rw [← hW0]
    have := SetAt.zero ((w.alloc (.cells #[.int .u64 (wd f 0 64 : Nat), .int .u64 (wd f 64 64 : Nat), .int .u64 (wd f 128 64 : Nat), .int .u64 (wd f 192 64 : Nat)] 27)).alloc (.cells #[.int .u64 (wd g 0 64 : Nat), .int .u64 (wd g 64 64 : Nat), .int .u64 (wd g 128 64 : Nat), .int .u64 (wd g 192 64 : Nat)] 27))
    simpa using this
  have HZ0 := Hid_mk hz0
  have HI := Hid_mk fun k hk W => index_sv g k hk W
  have HW0 := Hid_mk hW0
  clear hs0 hz0 hW0
  rw [svd f]
  go_enter Try.func122, Try.ntmps122
  unfold sv
  go_wp2
  rw [HW0.out]
  clear HW0
  obtain ⟨q, hq⟩ : ∃ q, w.heap.size = q := ⟨_, rfl⟩
  rw [hq] at HS0 HZ0
  go_loopw [8] (fun i wr => OrRel W0 q f g i wr) (fun i _ => 4 - (intOf i).toNat)
  case atStart => exact ⟨0, by omega, rfl, HS0.out.congr fun x _ => by simp, Kp.refl _ _⟩
  case round =>
    obtain ⟨k, hk, rfl, hs, hkp⟩ := hrel
    have HS := Hid_mk hs
    have HKp := Hid_mk hkp
    have hk0 : (0 : Int) ≤ (k : Int) := Int.natCast_nonneg _
    by_cases h4 : k < 4
    · have hki : (k : Int) < 4 := by omega
      have hix := fun W => HI.out k h4 W
      unfold sv at hix
      have hc := hs.cell k h4
      have hwm := hs.warm k
      have hwi : IntKind.i64.wrap ((k : Int) + 1) = (k : Int) + 1 := IntWalk.i64_in _ (by omega)
      have hor := word_or (wd (fun x => if x < 64 * k then f x || g x else f x) (64 * k) 64) (wd g (64 * k) 64) (wd_le _ _) (wd_le _ _)
      have hst : SetAt (wr.setCell ⟨q, k, none⟩ (.int .u64 ((wd (fun x => if x < 64 * k then f x || g x else f x) (64 * k) 64 ||| wd g (64 * k) 64 : Nat) : Int))) q (fun x => if x < 64 * (k + 1) then f x || g x else f x) := by
        have := hs.set (g := fun x => if x < 64 * (k + 1) then f x || g x else f x) k h4 fun x hx h => by
          show (if x < 64 * (k + 1) then f x || g x else f x) = if x < 64 * k then f x || g x else f x
          split <;> split <;> first | rfl | omega
        rw [or_wd]
        rw [wd_congr (g := fun x => if x < 64 * (k + 1) then f x || g x else f x) fun j hj => by
          show (_ || _) = _
          rw [if_neg (by omega), if_pos (by omega)]]
        exact this
      have HST := Hid_mk hst
      clear hs hkp hst
      go_wp2
      go_roundw
      case rel => exact ⟨k + 1, by omega, by push_cast; rfl, HST.out, HKp.out.setCell (p := ⟨q, k, none⟩) (fun _ => rfl) _⟩
      case measure => simp only [intOf]; omega
    · obtain rfl : k = 4 := by omega
      obtain ⟨c0, c1, c2, c3⟩ := (hs.congr (g := fun x => f x || g x) fun x hx => if_pos (by omega)).cells
      obtain ⟨z0, z1, z2, z3⟩ := (HZ0.out.kept hkp (by rw [← hq]; omega)).cells
      have zw := (HZ0.out.kept hkp (by rw [← hq]; omega)).warm
      clear hs hkp
      have hres := (HZ0.out.kept HKp.out (by rw [← hq]; omega)).puts fun x => f x || g x
      obtain ⟨WR, hWR⟩ : ∃ WR, (((wr.setCell ⟨q + 1 + 1, 0, none⟩ (.int .u64 (wd (fun x => f x || g x) 0 64 : Nat))).setCell ⟨q + 1 + 1, 1, none⟩ (.int .u64 (wd (fun x => f x || g x) 64 64 : Nat))).setCell ⟨q + 1 + 1, 2, none⟩ (.int .u64 (wd (fun x => f x || g x) 128 64 : Nat))).setCell ⟨q + 1 + 1, 3, none⟩ (.int .u64 (wd (fun x => f x || g x) 192 64 : Nat)) = WR := ⟨_, rfl⟩
      have HKR : Hid (Kp No w (putS wr (q + 1 + 1) fun x => f x || g x)) := Hid_mk (kp_puts (HK0.out.trans HKp.out fun i hi e => by omega) (fun h => by omega) _)
      unfold putS at hres HKR
      rw [hWR] at hres HKR
      have HR := Hid_mk hres
      have HWR := Hid_mk hWR
      clear hres hWR
      go_wp2
      rw [hq, HWR.out]
      obtain ⟨r0, r1, r2, r3⟩ := HR.out.cells
      clear c0 c1 c2 c3 z0 z1 z2 z3 zw HWR
      refine bodyPost_ret (v := sv (fun x => f x || g x)) ?_ rfl ⟨rfl, HKR.out⟩
      simp [results, Try.results122, go_sem, r0, r1, r2, r3, sv]

/-- behind k words -/
def NotRel (w : World) (q : Nat) (f : Nat → Bool) (i : Value) (wr : World) : Prop :=
  ∃ k : Nat, k ≤ 4 ∧ i = .int .i64 (k : Int) ∧ SetAt wr q (fun x => if x < 64 * k then !f x else f x) ∧ Kp (fun b => b = q) w wr
theorem word_not (a : Nat) (ha : a < 18446744073709551616) : bits BinOp.xor IntKind.u64 (if IntKind.u64.signed = true then -1 else IntKind.u64.max) (a : Int) = ((18446744073709551615 - a : Nat) : Int) := by
  have h := u64_xor_nat 18446744073709551615 a (by decide) ha
  have e : 18446744073709551615 ^^^ a = 18446744073709551615 - a := by
    refine Nat.eq_of_testBit_eq fun j => ?_
    rw [Nat.testBit_xor, show 18446744073709551615 - a = 2 ^ 64 - (a + 1) from by omega, Nat.testBit_two_pow_sub_succ ha, show (18446744073709551615 : Nat) = 2 ^ 64 - 1 from rfl, Nat.testBit_two_pow_sub_one]
    by_cases hj : j < 64
    · simp [hj]
    · rw [Nat.testBit_lt_two_pow (Nat.lt_of_lt_of_le ha (Nat.pow_le_pow_right (n := 2) (by decide) (show 64 ≤ j by omega)))]
      simp [hj]
  rw [e] at h
  exact h

set_option maxRecDepth 100000 in
theorem not_any (w : World) (f : Nat → Bool) :
    Calls Try.prog 100 #[sv f] w fun e w' => e = .returned (sv fun x => !f x) ∧ Kp No w w' := by
  obtain ⟨W0, hW0⟩ : ∃ W0, (w.alloc (.cells #[.int .u64 (wd f 0 64 : Nat), .int .u64 (wd f 64 64 : Nat), .int .u64 (wd f 128 64 : Nat), .int .u64 (wd f 192 64 : Nat)] 27)).alloc (.cells #[.int .u64 0, .int .u64 0, .int .u64 0, .int .u64 0] 27) = W0 := ⟨_, rfl⟩
  have HK0 : Hid (Kp No w W0) := Hid_mk (by rw [← hW0]; exact ((Kp.refl No w).alloc _).alloc _)
  have hs0 : SetAt W0 w.heap.size f := by
    rw [← hW0]
    exact (SetAt.made w f).kept ((Kp.refl No _).alloc _) id
  have HS0 := Hid_mk hs0
  have hz0 : SetAt W0 (w.heap.size + 1) nul := by
    rw [← hW0]
    have := SetAt.zero (w.alloc (.cells #[.int .u64 (wd f 0 64 : Nat), .int .u64 (wd f 64 64 : Nat), .int .u64 (wd f 128 64 : Nat), .int .u64 (wd f 192 64 : Nat)] 27))
    simpa using this
  have HZ0 := Hid_mk hz0
  have HI := Hid_mk fun k hk W => index_sv f k hk W
  have HW0 := Hid_mk hW0
  clear hs0 hz0 hW0
  rw [svd f]
  go_enter Try.func100, Try.ntmps100
  unfold sv
  go_wp2
  rw [HW0.out]
  clear HW0
  obtain ⟨q, hq⟩ : ∃ q, w.heap.size = q := ⟨_, rfl⟩
  rw [hq] at HS0 HZ0
  go_loopw [6] (fun i wr => NotRel W0 q f i wr) (fun i _ => 4 - (intOf i).toNat)
  case atStart => exact ⟨0, by omega, rfl, HS0.out.congr fun x _ => by simp, Kp.refl _ _⟩
  case round =>
    obtain ⟨k, hk, rfl, hs, hkp⟩ := hrel
    have HS := Hid_mk hs
    have HKp := Hid_mk hkp
    have hk0 : (0 : Int) ≤ (k : Int) := Int.natCast_nonneg _
    by_cases h4 : k < 4
    · have hki : (k : Int) < 4 := by omega
      have hix := fun W => HI.out k h4 W
      unfold sv at hix
      have hc := hs.cell k h4
      have hwm := hs.warm k
      have hwi : IntKind.i64.wrap ((k : Int) + 1) = (k : Int) + 1 := IntWalk.i64_in _ (by omega)
      have hno := word_not (wd f (64 * k) 64) (wd_le _ _)
      rw [not_wd] at hno
      have hst : SetAt (wr.setCell ⟨q, k, none⟩ (.int .u64 (wd (fun x => !f x) (64 * k) 64 : Nat))) q (fun x => if x < 64 * (k + 1) then !f x else f x) := by
        have := hs.set (g := fun x => if x < 64 * (k + 1) then !f x else f x) k h4 fun x hx h => by
          show (if x < 64 * (k + 1) then !f x else f x) = if x < 64 * k then !f x else f x
          split <;> split <;> first | rfl | omega
        rw [wd_congr (f := (fun x => !f x)) (g := fun x => if x < 64 * (k + 1) then !f x else f x) fun j hj => by
          show (!_) = _
          rw [if_pos (by omega)]]
        exact this
      have HST := Hid_mk hst
      clear hs hkp hst
      go_wp2
      go_roundw
      case rel => exact ⟨k + 1, by omega, by push_cast; rfl, HST.out, HKp.out.setCell (p := ⟨q, k, none⟩) (fun _ => rfl) _⟩
      case measure => simp only [intOf]; omega
    · obtain rfl : k = 4 := by omega
      obtain ⟨c0, c1, c2, c3⟩ := (hs.congr (g := (fun x => !f x)) fun x hx => if_pos (by omega)).cells
      obtain ⟨z0, z1, z2, z3⟩ := (HZ0.out.kept hkp (by rw [← hq]; omega)).cells
      have zw := (HZ0.out.kept hkp (by rw [← hq]; omega)).warm
      clear hs hkp
      have hres := (HZ0.out.kept HKp.out (by rw [← hq]; omega)).puts (fun x => !f x)
      obtain ⟨WR, hWR⟩ : ∃ WR, (((wr.setCell ⟨q + 1, 0, none⟩ (.int .u64 (wd (fun x => !f x) 0 64 : Nat))).setCell ⟨q + 1, 1, none⟩ (.int .u64 (wd (fun x => !f x) 64 64 : Nat))).setCell ⟨q + 1, 2, none⟩ (.int .u64 (wd (fun x => !f x) 128 64 : Nat))).setCell ⟨q + 1, 3, none⟩ (.int .u64 (wd (fun x => !f x) 192 64 : Nat)) = WR := ⟨_, rfl⟩
      have HKR : Hid (Kp No w (putS wr (q + 1) (fun x => !f x))) := Hid_mk (kp_puts (HK0.out.trans HKp.out fun i hi e => by omega) (fun h => by omega) _)
      unfold putS at hres HKR
      rw [hWR] at hres HKR
      have HR := Hid_mk hres
      have HWR := Hid_mk hWR
      clear hres hWR
      go_wp2
      rw [hq, HWR.out]
      obtain ⟨r0, r1, r2, r3⟩ := HR.out.cells
      clear c0 c1 c2 c3 z0 z1 z2 z3 zw HWR
      refine bodyPost_ret (v := sv (fun x => !f x)) ?_ rfl ⟨rfl, HKR.out⟩
      simp [results, Try.results100, go_sem, r0, r1, r2, r3, sv]

/-- behind k words -/
def CntRel (w : World) (f : Nat → Bool) (n i : Value) (wr : World) : Prop :=
  ∃ k : Nat, k ≤ 4 ∧ i = .int .i64 (k : Int) ∧ n = .int .i64 (cnt f 0 (64 * k) : Nat) ∧ wr = w
theorem cnt_le (f : Nat → Bool) (o : Nat) : ∀ n, cnt f o n ≤ n
  | 0 => Nat.le_refl _
  | n + 1 => by have := cnt_le f o n; simp only [cnt]; split <;> omega

set_option maxRecDepth 100000 in
theorem count_any (w : World) (f : Nat → Bool) :
    Calls Try.prog 88 #[sv f] w fun e w' => e = .returned (.int .i64 (cnt f 0 256 : Nat)) ∧ Kp No w w' := by
  obtain ⟨W0, hW0⟩ : ∃ W0, w.alloc (.cells #[.int .u64 (wd f 0 64 : Nat), .int .u64 (wd f 64 64 : Nat), .int .u64 (wd f 128 64 : Nat), .int .u64 (wd f 192 64 : Nat)] 27) = W0 := ⟨_, rfl⟩
  have HK0 : Hid (Kp No w W0) := Hid_mk (by rw [← hW0]; exact (Kp.refl No w).alloc _)
  have HI := Hid_mk fun k hk W => index_sv f k hk W
  have HO := Hid_mk fun k W => ones_any W f (64 * k)
  have HW0 := Hid_mk hW0
  clear hW0
  rw [svd f]
  go_enter Try.func88, Try.ntmps88
  go_wp2
  rw [HW0.out]
  clear HW0
  go_loopw [3, 7] (fun n i wr => CntRel W0 f n i wr) (fun _ i _ => 4 - (intOf i).toNat)
  case atStart => exact ⟨0, by omega, rfl, rfl, rfl⟩
  case round =>
    obtain ⟨k, hk, rfl, rfl, rfl⟩ := hrel
    have hk0 : (0 : Int) ≤ (k : Int) := Int.natCast_nonneg _
    by_cases h4 : k < 4
    · have hki : (k : Int) < 4 := by omega
      have hix := fun W => HI.out k h4 W
      unfold sv at hix
      have hwi : IntKind.i64.wrap ((k : Int) + 1) = (k : Int) + 1 := IntWalk.i64_in _ (by omega)
      have l1 := cnt_le f 0 (64 * k)
      have l2 := cnt_le f (64 * k) 64
      have hwc : IntKind.i64.wrap ((cnt f 0 (64 * k) : Nat) + (cnt f (64 * k) 64 : Nat) : Int) = (cnt f 0 (64 * k) : Nat) + (cnt f (64 * k) 64 : Nat) := IntWalk.i64_in _ (by omega)
      have hadd := cnt_add f 0 (64 * k) 64
      rw [Nat.zero_add] at hadd
      have HA := Hid_mk hadd
      clear l1 l2 hadd
      go_wp2_with fail
      with_reducible refine (HO.out k _).mono ?_
      rintro e w' ⟨rfl, rfl⟩
      go_wp2
      go_roundw
      case rel => exact ⟨k + 1, by omega, by push_cast; rfl, by rw [show 64 * (k + 1) = 64 * k + 64 from by omega, HA.out]; push_cast; rfl, rfl⟩
      case measure => simp only [intOf]; omega
    · obtain rfl : k = 4 := by omega
      go_wp2
      go_ret
      exact ⟨rfl, HK0.out⟩

end Go.Proofs.Ytaneblecgjahbab.cls

namespace Go.Proofs.Ytaneblecgjahbab.cls
open Go.RowKit Go.Proofs.Ytaneblecgjahbab.sum Go.Proofs.Ytaneblecgjahbab.kept Go.Proofs.Ytaneblecgjahbab.pop
set_option linter.unusedVariables false

/-- a set is stored whole; what comes of it, under one name -/
theorem put_any {S : Nat → Prop} {w0 w : World} {q : Nat} {g : Nat → Bool} (h : SetAt w q g) (f : Nat → Bool) (hk : Kp S w0 w) (hq : q < w0.heap.size → S q) :
    ∃ WR, (((w.setCell ⟨q, 0, none⟩ (.int .u64 (wd f 0 64 : Nat))).setCell ⟨q, 1, none⟩ (.int .u64 (wd f 64 64 : Nat))).setCell ⟨q, 2, none⟩ (.int .u64 (wd f 128 64 : Nat))).setCell ⟨q, 3, none⟩ (.int .u64 (wd f 192 64 : Nat)) = WR ∧ SetAt WR q f ∧ Kp S w0 WR :=
  ⟨_, rfl, h.puts f, kp_puts hk hq f⟩

theorem put_nul {S : Nat → Prop} {w0 w : World} {q : Nat} {g : Nat → Bool} (h : SetAt w q g) (hk : Kp S w0 w) (hq : q < w0.heap.size → S q) :
    ∃ WR, (((w.setCell ⟨q, 0, none⟩ (.int .u64 0)).setCell ⟨q, 1, none⟩ (.int .u64 0)).setCell ⟨q, 2, none⟩ (.int .u64 0)).setCell ⟨q, 3, none⟩ (.int .u64 0) = WR ∧ SetAt WR q nul ∧ Kp S w0 WR := by
  have := put_any h nul hk hq
  simp only [wd_nul] at this
  exact this
theorem made_any {w0 w1 : World} (hk : Kp No w0 w1) (f : Nat → Bool) : ∃ q W, w1.heap.size = q ∧ w1.alloc (.cells #[.int .u64 (wd f 0 64 : Nat), .int .u64 (wd f 64 64 : Nat), .int .u64 (wd f 128 64 : Nat), .int .u64 (wd f 192 64 : Nat)] 27) = W ∧ SetAt W q f ∧ Kp No w0 W ∧ Kp No w1 W :=
  ⟨_, _, rfl, rfl, SetAt.made w1 f, hk.alloc _, (Kp.refl No w1).alloc _⟩
theorem word_shl (r : Nat) (h : r < 64) : IntKind.u64.wrap ((2 : Int) ^ r) = ((2 ^ r : Nat) : Int) := by
  have : (2 : Nat) ^ r < 2 ^ 64 := Nat.pow_lt_pow_right (by decide) h
  rw [show ((2 : Int) ^ r) = ((2 ^ r : Nat) : Int) from by push_cast; rfl]
  exact wrap_u64_in _ this

/-- a set of listed bytes -/
def ofL (bs : List UInt8) : Nat → Bool := fun x => bs.any fun b => b.toNat == x
/-- behind k bytes -/
def OfRel (w : World) (q : Nat) (bs : List UInt8) (i : Value) (wr : World) : Prop :=
  ∃ k : Nat, k ≤ bs.length ∧ i = .int .i64 (k : Int) ∧ SetAt wr q (ofL (bs.take k)) ∧ Kp (fun b => b = q) w wr
theorem ofL_snoc (bs : List UInt8) (k : Nat) (h : k < bs.length) (x : Nat) : ofL (bs.take (k + 1)) x = (ofL (bs.take k) x || x == (bs.getD k 0).toNat) := by
  unfold ofL
  rw [take_snoc h, List.any_append]
  simp only [List.any_cons, List.any_nil, Bool.or_false]
  congr 1
  rw [Bool.eq_iff_iff]
  simp only [beq_iff_eq]
  exact eq_comm

set_option maxRecDepth 100000 in
theorem of_any (w : World) (v : Value) (bs : List UInt8) (hb : Bs w v bs) :
    Calls Try.prog 102 #[v] w fun e w' => e = .returned (sv (ofL bs)) ∧ Kp No w w' := by
  obtain ⟨W0, hW0⟩ : ∃ W0, (w.alloc (.cells #[.int .u64 0, .int .u64 0, .int .u64 0, .int .u64 0] 27)).alloc (.cells #[.int .u64 0, .int .u64 0, .int .u64 0, .int .u64 0] 27) = W0 := ⟨_, rfl⟩
  have HK0 : Hid (Kp No w W0) := Hid_mk (by rw [← hW0]; exact ((Kp.refl No w).alloc _).alloc _)
  have HZ0 : Hid (SetAt W0 w.heap.size nul) := Hid_mk (by rw [← hW0]; exact (SetAt.zero w).kept ((Kp.refl No _).alloc _) id)
  have HZ1 : Hid (SetAt W0 (w.heap.size + 1) nul) := Hid_mk (by
    rw [← hW0]
    have := SetAt.zero (w.alloc (.cells #[.int .u64 0, .int .u64 0, .int .u64 0, .int .u64 0] 27))
    simpa using this)
  have HB := Hid_mk hb
  obtain ⟨a, c, rfl, l1, l2, l3⟩ := hb
  unfold maxLen at l2
  have H3 := Hid_mk l3
  have HW0 := Hid_mk hW0
  clear hW0 l3
  go_enter Try.func102, Try.ntmps102
  go_wp2
  rw [HW0.out]
  clear HW0
  obtain ⟨q, hq⟩ : ∃ q, w.heap.size = q := ⟨_, rfl⟩
  rw [hq] at HZ0 HZ1
  go_loopw [8] (fun i wr => OfRel W0 (q + 1) bs i wr) (fun i _ => bs.length - (intOf i).toNat)
  case atStart => exact ⟨0, Nat.zero_le _, rfl, HZ1.out.congr fun x _ => by simp [nul, ofL], Kp.refl _ _⟩
  case round =>
    obtain ⟨k, hk, rfl, hs, hkp⟩ := hrel
    have HS := Hid_mk hs
    have HKp := Hid_mk hkp
    have hk0 : (0 : Int) ≤ (k : Int) := Int.natCast_nonneg _
    by_cases hlt : k < bs.length
    · have hki : (k : Int) < (bs.length : Int) := by omega
      have hwi : IntKind.i64.wrap ((k : Int) + 1) = (k : Int) + 1 := IntWalk.i64_in _ (by omega)
      obtain ⟨b, o, rfl, hc⟩ := H3.out (by intro e; rw [e] at hlt; simp at hlt)
      have hblt : b < w.heap.size := World.block_lt_of_cell? w _ (hc k hlt)
      have hci : wr.cell? ⟨b, o + k, none⟩ = some (B (bs.getD k 0)) := hkp.cell' (HK0.out.cell' (hc k hlt) id) (by show ¬ b = q + 1; omega)
      have hsn := fun x => ofL_snoc bs k hlt x
      generalize bs.getD k 0 = y at hci hsn
      have hy := y.toNat_lt
      unfold B at hci
      obtain ⟨n, hn⟩ : ∃ n, y.toNat = n := ⟨_, rfl⟩
      rw [hn] at hci hsn hy
      obtain ⟨p, hp⟩ : ∃ p, n / 64 = p := ⟨_, rfl⟩
      obtain ⟨r, hr⟩ : ∃ r, n % 64 = r := ⟨_, rfl⟩
      have hp4 : p < 4 := by omega
      have hr64 : r < 64 := by omega
      have hpi : (n : Int) / 64 = (p : Int) := by omega
      have hri : (n : Int) % 64 = (r : Int) := by omega
      have hr0 : (0 : Int) ≤ (r : Int) := Int.natCast_nonneg _
      have hp0 : (0 : Int) ≤ (p : Int) := Int.natCast_nonneg _
      have hpi4 : (p : Int) < 4 := by omega
      have hcs := hs.cell p hp4
      have hwm := hs.warm p
      have hsh := word_shl r hr64
      have hor := word_or (wd (ofL (bs.take k)) (64 * p) 64) (2 ^ r) (wd_le _ _) (Nat.pow_lt_pow_right (by decide) hr64)
      have ht : wd (ofL (bs.take k)) (64 * p) 64 ||| 2 ^ r = wd (ofL (bs.take (k + 1))) (64 * p) 64 := by
        rw [set_wd _ _ _ hr64, show 64 * p + r = n from by omega]
        exact wd_congr fun j hj => (hsn _).symm
      rw [ht] at hor
      generalize 2 ^ r = T at hsh hor
      clear ht
      have HST := Hid_mk (hs.set (g := ofL (bs.take (k + 1))) p hp4 fun x hx h => by
        rw [hsn x]
        have : (x == n) = false := by simp; omega
        rw [this, Bool.or_false])
      clear hs hkp hc hp hr hn hsn hblt
      go_wp2
      go_roundw
      case rel => exact ⟨k + 1, by omega, by push_cast; rfl, HST.out, HKp.out.setCell (p := ⟨q + 1, p, none⟩) (fun _ => rfl) _⟩
      case measure => simp only [intOf]; omega
    · obtain rfl : k = bs.length := by omega
      have hki : ¬ ((bs.length : Nat) : Int) < (bs.length : Int) := by omega
      obtain ⟨c0, c1, c2, c3⟩ := (hs.congr (g := ofL bs) fun x hx => by rw [List.take_length]).cells
      obtain ⟨z0, z1, z2, z3⟩ := (HZ0.out.kept hkp (by omega)).cells
      have zw := (HZ0.out.kept hkp (by omega)).warm
      have hres := (HZ0.out.kept hkp (by omega)).puts (ofL bs)
      obtain ⟨WR, hWR⟩ : ∃ WR, (((wr.setCell ⟨q, 0, none⟩ (.int .u64 (wd (ofL bs) 0 64 : Nat))).setCell ⟨q, 1, none⟩ (.int .u64 (wd (ofL bs) 64 64 : Nat))).setCell ⟨q, 2, none⟩ (.int .u64 (wd (ofL bs) 128 64 : Nat))).setCell ⟨q, 3, none⟩ (.int .u64 (wd (ofL bs) 192 64 : Nat)) = WR := ⟨_, rfl⟩
      have HKR : Hid (Kp No w (putS wr q (ofL bs))) := Hid_mk (kp_puts (HK0.out.trans hkp fun i hi e => by omega) (fun h => by omega) _)
      unfold putS at hres HKR
      rw [hWR] at hres HKR
      have HR := Hid_mk hres
      have HWR := Hid_mk hWR
      clear hres hWR hs hkp HS HKp
      go_wp2
      try rw [hq]
      rw [HWR.out]
      obtain ⟨r0, r1, r2, r3⟩ := HR.out.cells
      clear c0 c1 c2 c3 z0 z1 z2 z3 zw HWR
      refine bodyPost_ret (v := sv (ofL bs)) ?_ rfl ⟨rfl, HKR.out⟩
      simp [results, Try.results102, go_sem, r0, r1, r2, r3, sv]

/-- all from a to b -/
def spn (a b : Nat) : Nat → Bool := fun x => decide (a ≤ x) && decide (x ≤ b)
/-- up to k -/
def upS (a k : Nat) : Nat → Bool := fun x => decide (a ≤ x) && decide (x < k)
def SpRel (w : World) (q a b : Nat) (i : Value) (wr : World) : Prop :=
  ∃ k : Nat, a ≤ k ∧ (k ≤ b + 1 ∨ k = a) ∧ i = .int .i64 (k : Int) ∧ SetAt wr q (upS a k) ∧ Kp (fun b => b = q) w wr

set_option maxRecDepth 100000 in
theorem span_any (w : World) (a b : Nat) (ha : a < 256) (hb : b < 256) :
    Calls Try.prog 130 #[.int .u8 (a : Int), .int .u8 (b : Int)] w fun e w' => e = .returned (sv (spn a b)) ∧ Kp No w w' := by
  obtain ⟨W0, hW0⟩ : ∃ W0, (w.alloc (.cells #[.int .u64 0, .int .u64 0, .int .u64 0, .int .u64 0] 27)).alloc (.cells #[.int .u64 0, .int .u64 0, .int .u64 0, .int .u64 0] 27) = W0 := ⟨_, rfl⟩
  have HK0 : Hid (Kp No w W0) := Hid_mk (by rw [← hW0]; exact ((Kp.refl No w).alloc _).alloc _)
  have HZ0 : Hid (SetAt W0 w.heap.size nul) := Hid_mk (by rw [← hW0]; exact (SetAt.zero w).kept ((Kp.refl No _).alloc _) id)
  have HZ1 : Hid (SetAt W0 (w.heap.size + 1) nul) := Hid_mk (by
    rw [← hW0]
    have := SetAt.zero (w.alloc (.cells #[.int .u64 0, .int .u64 0, .int .u64 0, .int .u64 0] 27))
    simpa using this)
  have HW0 := Hid_mk hW0
  have ha0 : (0 : Int) ≤ (a : Int) := Int.natCast_nonneg _
  have hb0 : (0 : Int) ≤ (b : Int) := Int.natCast_nonneg _
  have hwa : IntKind.i64.wrap (a : Int) = (a : Int) := IntWalk.i64_in _ (by omega)
  have hwb : IntKind.i64.wrap (b : Int) = (b : Int) := IntWalk.i64_in _ (by omega)
  clear hW0
  go_enter Try.func130, Try.ntmps130
  go_wp2
  rw [HW0.out]
  clear HW0
  obtain ⟨q, hq⟩ : ∃ q, w.heap.size = q := ⟨_, rfl⟩
  rw [hq] at HZ0 HZ1
  go_loopw [6] (fun i wr => SpRel W0 (q + 1) a b i wr) (fun i _ => b + 1 - (intOf i).toNat)
  case atStart => exact ⟨a, Nat.le_refl _, .inr rfl, rfl, HZ1.out.congr fun x _ => by simp [nul, upS], Kp.refl _ _⟩
  case round =>
    obtain ⟨k, hak, hk, rfl, hs, hkp⟩ := hrel
    have HS := Hid_mk hs
    have HKp := Hid_mk hkp
    have hk0 : (0 : Int) ≤ (k : Int) := Int.natCast_nonneg _
    by_cases hlt : k ≤ b
    · have hki : (k : Int) ≤ (b : Int) := by omega
      have hwi : IntKind.i64.wrap ((k : Int) + 1) = (k : Int) + 1 := IntWalk.i64_in _ (by omega)
      obtain ⟨p, hp⟩ : ∃ p, k / 64 = p := ⟨_, rfl⟩
      obtain ⟨r, hr⟩ : ∃ r, k % 64 = r := ⟨_, rfl⟩
      have hp4 : p < 4 := by omega
      have hr64 : r < 64 := by omega
      have hpi : (k : Int).tdiv 64 = (p : Int) := by rw [Int.tdiv_eq_ediv_of_nonneg hk0]; omega
      have hri : (k : Int).tmod 64 = (r : Int) := by rw [Int.tmod_eq_emod_of_nonneg hk0]; omega
      have hwp : IntKind.i64.wrap (p : Int) = (p : Int) := IntWalk.i64_in _ (by omega)
      have hr0 : (0 : Int) ≤ (r : Int) := Int.natCast_nonneg _
      have hp0 : (0 : Int) ≤ (p : Int) := Int.natCast_nonneg _
      have hpi4 : (p : Int) < 4 := by omega
      have hcs := hs.cell p hp4
      have hwm := hs.warm p
      have hsh := word_shl r hr64
      have hor := word_or (wd (upS a k) (64 * p) 64) (2 ^ r) (wd_le _ _) (Nat.pow_lt_pow_right (by decide) hr64)
      have ht : wd (upS a k) (64 * p) 64 ||| 2 ^ r = wd (upS a (k + 1)) (64 * p) 64 := by
        rw [set_wd _ _ _ hr64, show 64 * p + r = k from by omega]
        refine wd_congr fun j hj => ?_
        unfold upS
        rw [Bool.eq_iff_iff]
        simp only [Bool.or_eq_true, Bool.and_eq_true, decide_eq_true_eq, beq_iff_eq]
        omega
      rw [ht] at hor
      generalize 2 ^ r = T at hsh hor
      have HST := Hid_mk (hs.set (g := upS a (k + 1)) p hp4 fun x hx h => by
        unfold upS
        rw [Bool.eq_iff_iff]
        simp only [Bool.and_eq_true, decide_eq_true_eq]
        omega)
      clear ht hs hkp hp hr
      go_wp2
      go_region
      all_goals
        go_wp2
        go_roundw
        case rel => exact ⟨k + 1, by omega, .inl (by omega), by push_cast; rfl, by first | exact HST.out.kept ((Kp.refl No _).drew) id | exact HST.out, by first | exact (HKp.out.setCell (p := ⟨q + 1, p, none⟩) (fun _ => rfl) _).drew | exact HKp.out.setCell (p := ⟨q + 1, p, none⟩) (fun _ => rfl) _⟩
        case measure => simp only [intOf]; omega
    · have hki : ¬ (k : Int) ≤ (b : Int) := by omega
      obtain ⟨c0, c1, c2, c3⟩ := (hs.congr (g := spn a b) fun x hx => by
        unfold upS spn
        rw [Bool.eq_iff_iff]
        simp only [Bool.and_eq_true, decide_eq_true_eq]
        omega).cells
      obtain ⟨z0, z1, z2, z3⟩ := (HZ0.out.kept hkp (by omega)).cells
      have zw := (HZ0.out.kept hkp (by omega)).warm
      have hres := (HZ0.out.kept hkp (by omega)).puts (spn a b)
      obtain ⟨WR, hWR⟩ : ∃ WR, (((wr.setCell ⟨q, 0, none⟩ (.int .u64 (wd (spn a b) 0 64 : Nat))).setCell ⟨q, 1, none⟩ (.int .u64 (wd (spn a b) 64 64 : Nat))).setCell ⟨q, 2, none⟩ (.int .u64 (wd (spn a b) 128 64 : Nat))).setCell ⟨q, 3, none⟩ (.int .u64 (wd (spn a b) 192 64 : Nat)) = WR := ⟨_, rfl⟩
      have HKR : Hid (Kp No w (putS wr q (spn a b))) := Hid_mk (kp_puts (HK0.out.trans hkp fun i hi e => by omega) (fun h => by omega) _)
      unfold putS at hres HKR
      rw [hWR] at hres HKR
      have HR := Hid_mk hres
      have HWR := Hid_mk hWR
      clear hres hWR hs hkp HS HKp
      go_wp2
      try rw [hq]
      rw [HWR.out]
      obtain ⟨r0, r1, r2, r3⟩ := HR.out.cells
      clear c0 c1 c2 c3 z0 z1 z2 z3 zw HWR
      refine bodyPost_ret (v := sv (spn a b)) ?_ rfl ⟨rfl, HKR.out⟩
      simp [results, Try.results130, go_sem, r0, r1, r2, r3, sv]

theorem span_i (w : World) (x y : Int) (a b : Nat) (hx : x = (a : Int)) (hy : y = (b : Int)) (ha : a < 256) (hb : b < 256) :
    Calls Try.prog 130 #[.int .u8 x, .int .u8 y] w fun e w' => e = .returned (sv (spn a b)) ∧ Kp No w w' := by
  subst hx hy
  exact span_any w a b ha hb
theorem has_i (w : World) (f : Nat → Bool) (x : Int) (b : Nat) (hx : x = (b : Int)) (hb : b < 256) :
    Calls Try.prog 59 #[sv f, .int .u8 x] w fun e w' => e = .returned (.bool (f b)) ∧ Kp No w w' := by
  subst hx
  exact has_any w f b hb

end Go.Proofs.Ytaneblecgjahbab.cls
