/- Seal and Unseal of package pack. Unseal of package pack. The reference's Sum. The reference's Seal. What every statement asks first: some of chapter 1's examples. package pack's number: the number that bytes begin with. The calls of package pack's Reader. Num and End of package pack's Reader. -/
import Derived.Test.YtpfpnlhihnfahaaDoorSpLayM
import Derived.Test.YtpfpnlhihnfahaaDoorBaseM
import Derived.OwnWalk
import Derived.Test.YtpfpnlhihnfahaaDoorFsPlainM
import Derived.Deep.QuietTactic
import Derived.BigQuiet
import Derived.RegionTactic
import Derived.Laws.BitsAllLaws
import Derived.IntWalk
import Derived.Test.YtpfpnlhihnfahaaDoorSplitTwoM

namespace Go.Proofs.YtpfpnlhihnfahaaDoor.seal
open Go.RowKit Go.Proofs.YtpfpnlhihnfahaaDoor.sum Go.Proofs.YtpfpnlhihnfahaaDoor.kept Go.Proofs.YtpfpnlhihnfahaaDoor.app Go.Proofs.YtpfpnlhihnfahaaDoor.writer Go.Proofs.YtpfpnlhihnfahaaDoor.clone Go.Proofs.YtpfpnlhihnfahaaDoor.known Go.Proofs.YtpfpnlhihnfahaaDoor.fl
set_option linter.unusedVariables false

/-- a number's three bytes, the lowest first -/
def part (n : Nat) : List UInt8 := [n.toUInt8, (n / 256).toUInt8, (n / 65536).toUInt8]
def tail (s : Nat × Nat) : List UInt8 := part s.1 ++ part s.2
def sealed (bs : List UInt8) : List UInt8 := bs ++ tail (pl.sum bs)

theorem part_len (n : Nat) : (part n).length = 3 := rfl
theorem tail_len (s : Nat × Nat) : (tail s).length = 6 := rfl
theorem u8_toNat (n : Nat) : n.toUInt8.toNat = n % 256 := by simp [Nat.toUInt8]

/-- What an append by a callee leaves: the row, of old memory only the old row. -/
def Onto (base : Nat) (v : Value) (bs : List UInt8) (w : World) (e : Ending) (w' : World) : Prop :=
  ∃ v', e = .returned v' ∧ w'.ownsRow base 5 1 v' bs.length (bs.map B) ∧ Kp (fun k => some k = v.ownBlock) w w'

/-- a literal of three bytes, as laid by the call -/
theorem bs_part (w : World) (n : Nat) (hn : n < 16777216) : Bs (w.alloc (.cells #[.int .u8 ((n : Int) % 256), .int .u8 ((n : Int) / 256 % 256), .int .u8 ((n : Int) / 65536)] 5)) (.slice (some ⟨w.heap.size, 0, none⟩) 3 3) (part n) := by
  have e1 : (n : Int) % 256 = ((n % 256 : Nat) : Int) := by omega
  have e2 : (n : Int) / 256 % 256 = ((n / 256 % 256 : Nat) : Int) := by omega
  have e3 : (n : Int) / 65536 = ((n / 65536 % 256 : Nat) : Int) := by omega
  rw [e1, e2, e3]
  refine ⟨_, 3, rfl, Nat.le_refl _, by decide, fun _ => ⟨_, _, rfl, fun k hk => ?_⟩⟩
  rw [part_len] at hk
  match k, hk with
  | 0, _ => simp [B, part, u8_toNat]
  | 1, _ => simp [B, part, u8_toNat]
  | 2, _ => simp [B, part, u8_toNat]

theorem conv_u32 (n : Nat) (hn : n < 16777216) (w : World) : (convert 131 113 (.float .f64 (fl n))).run Tryd.prog w = .ok (.int .u32 n) w := by
  refine run_convert_float_int w 131 113 .f64 .u32 _ n (by kernel_rfl) Tryd.underlying113 (fl_int n ?_ .u32 ?_ ?_)
  · unfold Small
    have : (2 : Nat) ^ 53 = 9007199254740992 := by decide
    omega
  · have : IntKind.min .u32 = 0 := by decide
    omega
  · have : IntKind.max .u32 = 4294967295 := by decide
    omega

end Go.Proofs.YtpfpnlhihnfahaaDoor.seal

namespace Go.Proofs.YtpfpnlhihnfahaaDoor.unseal
open Go.RowKit Go.Proofs.YtpfpnlhihnfahaaDoor.sum Go.Proofs.YtpfpnlhihnfahaaDoor.kept Go.Proofs.YtpfpnlhihnfahaaDoor.app Go.Proofs.YtpfpnlhihnfahaaDoor.writer Go.Proofs.YtpfpnlhihnfahaaDoor.clone Go.Proofs.YtpfpnlhihnfahaaDoor.known Go.Proofs.YtpfpnlhihnfahaaDoor.fl Go.Proofs.YtpfpnlhihnfahaaDoor.seal
set_option linter.unusedVariables false

/-- the number of three bytes -/
def num3 (bs : List UInt8) : Nat := (bs.getD 0 0).toNat + 256 * (bs.getD 1 0).toNat + 65536 * (bs.getD 2 0).toNat

theorem or3 (p q r : Nat) (hp : p < 256) (hq : q < 256) (hr : r < 256) : bits .or .u32 (bits .or .u32 (p : Int) ((q : Int) * 256)) ((r : Int) * 65536) = ((p + 256 * q + 65536 * r : Nat) : Int) := by
  have e1 : bits .or .u32 (p : Int) ((q : Int) * 256) = ((p + 256 * q : Nat) : Int) := by
    rw [u32_or _ _ (by omega) (by omega) (by omega) (by omega), show ((p : Int)).toNat = p by omega, show ((q : Int) * 256).toNat = q * 256 by omega, Nat.or_comm, nat_join 8 (q * 256) p (by omega) (by omega)]
    congr 1; omega
  rw [e1, u32_or _ _ (by omega) (by omega) (by omega) (by omega), show (((p + 256 * q : Nat) : Int)).toNat = p + 256 * q by omega, show ((r : Int) * 65536).toNat = r * 65536 by omega, Nat.or_comm, nat_join 16 (r * 65536) (p + 256 * q) (by omega) (by omega)]
  congr 1; omega

/-- the pair that the last six bytes say -/
def said (tl : List UInt8) : Nat × Nat := (num3 tl, num3 (tl.drop 3))
theorem num3_lt (bs : List UInt8) : num3 bs < 16777216 := by
  unfold num3
  have x0 : (bs.getD 0 0).toNat < 256 := UInt8.toNat_lt _
  have x1 : (bs.getD 1 0).toNat < 256 := UInt8.toNat_lt _
  have x2 : (bs.getD 2 0).toNat < 256 := UInt8.toNat_lt _
  omega

theorem neq_said (s : Nat × Nat) (hs : s.1 < pl.P ∧ s.2 < pl.P) (tl : List UInt8) (ty : TypeId) (w : World) :
    (binOp .neq ty (cx s) (.complex .f64 (fl (num3 tl)) (fl (num3 (tl.drop 3))))).run Tryd.prog w = .ok (.bool (!decide (s = said tl))) w := by
  have sm : ∀ n : Nat, n < 16777216 → Small (n : Int) := fun n h => by
    unfold Small
    have : (2 : Nat) ^ 53 = 9007199254740992 := by decide
    omega
  unfold pl.P at hs
  unfold cx said
  rw [run_neq_complex, fl_eql _ _ (sm _ (by omega)) (sm _ (num3_lt _)), fl_eql _ _ (sm _ (by omega)) (sm _ (num3_lt _))]
  congr 3
  rw [Bool.eq_iff_iff]
  simp [Prod.ext_iff]
  omega

def Unsealed (w : World) (bs : List UInt8) (e : Ending) (w' : World) : Prop :=
  Kp No w w' ∧ ∃ v', e = .returned (.tuple #[v', .int .i64 0]) ∧ w'.ownsRow w.heap.size 5 1 v' bs.length (bs.map B)
def Broken (w : World) (c : Int) (e : Ending) (w' : World) : Prop := Kp No w w' ∧ e = .returned (.tuple #[.slice none 0 0, .int .i64 c])

/-- What Unseal answers. -/
def UnsealPost (w : World) (bs : List UInt8) (e : Ending) (w' : World) : Prop :=
  if bs.length < 6 then Broken w 10 e w'
  else if pl.sum (bs.take (bs.length - 6)) = said (bs.drop (bs.length - 6)) then Unsealed w (bs.take (bs.length - 6)) e w' else Broken w 13 e w'

end Go.Proofs.YtpfpnlhihnfahaaDoor.unseal

namespace Go.Proofs.YtpfpnlhihnfahaaDoor.ref
open Go.RowKit Go.Proofs.YtpfpnlhihnfahaaDoor.sum Go.Proofs.YtpfpnlhihnfahaaDoor.kept Go.Proofs.YtpfpnlhihnfahaaDoor.writer Go.Proofs.YtpfpnlhihnfahaaDoor.clone Go.Proofs.YtpfpnlhihnfahaaDoor.known Go.Proofs.YtpfpnlhihnfahaaDoor.unseal
set_option linter.unusedVariables false

theorem wrapU (z : Int) (h : 0 ≤ z) (h2 : z < 18446744073709551616) : IntKind.u64.wrap z = z := by
  simp only [IntKind.wrap, IntKind.bits, IntKind.signed]
  simp
  omega

def SumRel (bs : List UInt8) (w : World) (i re im : Value) (wr : World) : Prop :=
  ∃ k, k ≤ bs.length ∧ i = .int .i64 ((k : Nat) : Int) ∧ re = .int .u64 ((pl.sum (bs.take k)).1 : Int) ∧ im = .int .u64 ((pl.sum (bs.take k)).2 : Int) ∧ wr = w

section
variable {p q x : Nat} (hp : p < 16777199) (hq : q < 16777199) (hx : x < 256)
include hp in
theorem s1 : IntKind.u64.wrap (257 * (p : Int)) = 257 * (p : Int) := wrapU _ (by omega) (by omega)
include hp hx in
theorem s2 : IntKind.u64.wrap (257 * (p : Int) + (x : Int)) = 257 * (p : Int) + (x : Int) := wrapU _ (by omega) (by omega)
include hp hx in
theorem s3 : IntKind.u64.wrap (257 * (p : Int) + (x : Int) + 1) = 257 * (p : Int) + (x : Int) + 1 := wrapU _ (by omega) (by omega)
include hq in
theorem s4 : IntKind.u64.wrap (16777199 - (q : Int)) = 16777199 - (q : Int) := wrapU _ (by omega) (by omega)
include hq in
theorem s5 : IntKind.u64.wrap (3 * (16777199 - (q : Int))) = 3 * (16777199 - (q : Int)) := wrapU _ (by omega) (by omega)
include hp hq hx in
theorem s6 : IntKind.u64.wrap (257 * (p : Int) + (x : Int) + 1 + 3 * (16777199 - (q : Int))) = 257 * (p : Int) + (x : Int) + 1 + 3 * (16777199 - (q : Int)) := wrapU _ (by omega) (by omega)
include hp in
theorem s7 : IntKind.u64.wrap (3 * (p : Int)) = 3 * (p : Int) := wrapU _ (by omega) (by omega)
include hp hq in
theorem s8 : IntKind.u64.wrap (257 * (q : Int) + 3 * (p : Int)) = 257 * (q : Int) + 3 * (p : Int) := wrapU _ (by omega) (by omega)
include hq in
theorem s_re : (257 * (p : Int) + (x : Int) + 1 + 3 * (16777199 - (q : Int))) % 16777199 = (((257 * p + x + 1 + 3 * (16777199 - q)) % 16777199 : Nat) : Int) := by omega
theorem s_im : (257 * (q : Int) + 3 * (p : Int)) % 16777199 = (((257 * q + 3 * p) % 16777199 : Nat) : Int) := by omega
end

theorem SumRel.next {bs : List UInt8} {w : World} {k p q x : Nat} {X : UInt8} (hlt : k < bs.length) (hs : pl.sum (bs.take k) = (p, q)) (hX : bs.getD k 0 = X) (hx : X.toNat = x) (hq : q < 16777199) :
    SumRel bs w (.int .i64 ((k + 1 : Nat) : Int)) (.int .u64 ((257 * (p : Int) + (x : Int) + 1 + 3 * (16777199 - (q : Int))) % 16777199)) (.int .u64 ((257 * (q : Int) + 3 * (p : Int)) % 16777199)) w := by
  have hfin := pl.sum_snoc (bs.take k) (bs.getD k 0)
  rw [← take_snoc hlt, hs, hX] at hfin
  refine ⟨k + 1, hlt, rfl, ?_, ?_, rfl⟩
  · rw [hfin, s_re hq]; unfold pl.step pl.P; rw [hx]
  · rw [hfin, s_im]; rfl

end Go.Proofs.YtpfpnlhihnfahaaDoor.ref

namespace Go.Proofs.YtpfpnlhihnfahaaDoor.ref
open Go.RowKit Go.Proofs.YtpfpnlhihnfahaaDoor.sum Go.Proofs.YtpfpnlhihnfahaaDoor.kept Go.Proofs.YtpfpnlhihnfahaaDoor.app Go.Proofs.YtpfpnlhihnfahaaDoor.writer Go.Proofs.YtpfpnlhihnfahaaDoor.clone Go.Proofs.YtpfpnlhihnfahaaDoor.known Go.Proofs.YtpfpnlhihnfahaaDoor.seal Go.Proofs.YtpfpnlhihnfahaaDoor.unseal
set_option linter.unusedVariables false

/-- a literal of six bytes, as laid by the call -/
theorem bs_tail (w : World) (s : Nat × Nat) : Bs (w.alloc (.cells #[.int .u8 ((s.1 : Int) % 256), .int .u8 ((s.1 : Int) / 256 % 256), .int .u8 ((s.1 : Int) / 65536 % 256), .int .u8 ((s.2 : Int) % 256), .int .u8 ((s.2 : Int) / 256 % 256), .int .u8 ((s.2 : Int) / 65536 % 256)] 5)) (.slice (some ⟨w.heap.size, 0, none⟩) 6 6) (tail s) := by
  obtain ⟨m, n⟩ := s
  simp only
  have e1 : (m : Int) % 256 = ((m % 256 : Nat) : Int) := by omega
  have e2 : (m : Int) / 256 % 256 = ((m / 256 % 256 : Nat) : Int) := by omega
  have e3 : (m : Int) / 65536 % 256 = ((m / 65536 % 256 : Nat) : Int) := by omega
  have e4 : (n : Int) % 256 = ((n % 256 : Nat) : Int) := by omega
  have e5 : (n : Int) / 256 % 256 = ((n / 256 % 256 : Nat) : Int) := by omega
  have e6 : (n : Int) / 65536 % 256 = ((n / 65536 % 256 : Nat) : Int) := by omega
  rw [e1, e2, e3, e4, e5, e6]
  refine ⟨_, 6, rfl, Nat.le_refl _, by decide, fun _ => ⟨_, _, rfl, fun k hk => ?_⟩⟩
  rw [tail_len] at hk
  rw [show tail (m, n) = [m.toUInt8, (m / 256).toUInt8, (m / 65536).toUInt8, n.toUInt8, (n / 256).toUInt8, (n / 65536).toUInt8] from rfl]
  match k, hk with
  | 0, _ => simp [B, u8_toNat]
  | 1, _ => simp [B, u8_toNat]
  | 2, _ => simp [B, u8_toNat]
  | 3, _ => simp [B, u8_toNat]
  | 4, _ => simp [B, u8_toNat]
  | 5, _ => simp [B, u8_toNat]

end Go.Proofs.YtpfpnlhihnfahaaDoor.ref

namespace Go.Proofs.YtpfpnlhihnfahaaDoor.known
open Go.RowKit Go.Proofs.YtpfpnlhihnfahaaDoor.sum Go.Proofs.YtpfpnlhihnfahaaDoor.kept Go.Proofs.YtpfpnlhihnfahaaDoor.app Go.Proofs.YtpfpnlhihnfahaaDoor.writer Go.Proofs.YtpfpnlhihnfahaaDoor.clone Go.Proofs.YtpfpnlhihnfahaaDoor.fl
set_option linter.unusedVariables false

theorem c258 : (4643246400191070208 : Nat) = fl 258 := by decide +kernel

theorem sum_zero_byte : cx (pl.sum [0]) = .complex .f64 4643246400191070208 4613937818241073152 := by
  have e : pl.sum [0] = (258, 3) := by decide
  rw [e, c258, ← w3]; rfl
theorem bytes_known : ([] : List UInt8) ++ [7] ++ num 300 ++ (num 2 ++ [97, 98]) = [7, 172, 2, 2, 97, 98] := by
  have e1 : num 300 = [(300 % 128 + 128).toUInt8, (300 / 128).toUInt8] := by rw [num_big (n := 300) (by omega), num_small (n := 300 / 128) (by omega)]
  have e2 : num 2 = [Nat.toUInt8 2] := num_small (by omega)
  rw [e1, e2]
  decide

end Go.Proofs.YtpfpnlhihnfahaaDoor.known

namespace Go.Proofs.YtpfpnlhihnfahaaDoor.number
open Go.RowKit Go.Proofs.YtpfpnlhihnfahaaDoor.sum Go.Proofs.YtpfpnlhihnfahaaDoor.kept Go.Proofs.YtpfpnlhihnfahaaDoor.writer Go.Proofs.YtpfpnlhihnfahaaDoor.unseal
set_option linter.unusedVariables false

/-- From digit i on, with n of the digits before: the number, how many digits, what is wrong. -/
def dig (i n : Nat) : List UInt8 → Nat × Nat × Nat
  | [] => (0, 0, 10)
  | d :: r =>
    if i = 9 ∧ 1 < d.toNat then (0, 0, 11)
    else if 128 ≤ d.toNat then dig (i + 1) (n + d.toNat % 128 * 128 ^ i) r
    else if d.toNat = 0 ∧ 0 < i then (0, 0, 11)
    else (n + d.toNat % 128 * 128 ^ i, i + 1, 0)

theorem dig_cut {n : Nat} {d : UInt8} {r : List UInt8} (h : 1 < d.toNat) : dig 9 n (d :: r) = (0, 0, 11) := by
  rw [dig]; rw [if_pos ⟨rfl, h⟩]
theorem dig_on {i n : Nat} {d : UInt8} {r : List UInt8} (h : ¬ (i = 9 ∧ 1 < d.toNat)) (h2 : 128 ≤ d.toNat) : dig i n (d :: r) = dig (i + 1) (n + d.toNat % 128 * 128 ^ i) r := by
  rw [dig]; rw [if_neg h, if_pos h2]
theorem dig_zero {i n : Nat} {d : UInt8} {r : List UInt8} (h2 : d.toNat = 0) (h3 : 0 < i) : dig i n (d :: r) = (0, 0, 11) := by
  rw [dig]; rw [if_neg (by omega), if_neg (by omega), if_pos ⟨h2, h3⟩]
theorem dig_end {i n : Nat} {d : UInt8} {r : List UInt8} (h : ¬ (i = 9 ∧ 1 < d.toNat)) (h2 : ¬ 128 ≤ d.toNat) (h3 : ¬ (d.toNat = 0 ∧ 0 < i)) : dig i n (d :: r) = (n + d.toNat % 128 * 128 ^ i, i + 1, 0) := by
  rw [dig]; rw [if_neg h, if_neg h2, if_neg h3]
theorem dig_nil (i n : Nat) : dig i n [] = (0, 0, 10) := rfl

def tup (r : Nat × Nat × Nat) : Value := .tuple #[.int .u64 (r.1 : Int), .int .i64 (r.2.1 : Int), .int .i64 (r.2.2 : Int)]

theorem tup_mk {a b : Int} {n s : Nat} (h1 : a = n) (h2 : b = s) : Ending.returned (.tuple #[.int .u64 a, .int .i64 b, .int .i64 0]) = .returned (tup (n, s, 0)) := by subst h1 h2; rfl

theorem andNot_fin : ∀ k : Fin 256, bits .andNot .u8 ((k.val : Nat) : Int) 128 = ((k.val % 128 : Nat) : Int) := by decide +kernel
theorem andNot128 (d : UInt8) : bits .andNot .u8 (d.toNat : Int) 128 = ((d.toNat % 128 : Nat) : Int) := andNot_fin ⟨d.toNat, UInt8.toNat_lt d⟩

theorem pow_le9 {i : Nat} (h : i ≤ 9) : 128 ^ i ≤ 9223372036854775808 := by
  have : 128 ^ i ≤ 128 ^ 9 := Nat.pow_le_pow_right (by omega) h
  have e : 128 ^ 9 = 9223372036854775808 := by decide
  omega

theorem pow128 (i : Nat) : (128 : Nat) ^ i = 2 ^ (7 * i) := by rw [show 128 = 2 ^ 7 by decide, ← Nat.pow_mul]

theorem dig_lt {d i : Nat} (hd : d < 128) (hi : i ≤ 9) (h9 : i = 9 → d ≤ 1) : d * 128 ^ i < 18446744073709551616 := by
  by_cases h : i = 9
  · subst h
    have := h9 rfl
    have e : 128 ^ 9 = 9223372036854775808 := by decide
    rw [e]
    omega
  · have : 128 ^ i ≤ 128 ^ 8 := Nat.pow_le_pow_right (by omega) (by omega)
    have e : 128 ^ 8 = 72057594037927936 := by decide
    have h2 : d * 128 ^ i ≤ 127 * 128 ^ 8 := Nat.mul_le_mul (by omega) this
    omega

theorem wrap_u64 (z : Int) (h : 0 ≤ z) (h2 : z < 18446744073709551616) : IntKind.u64.wrap z = z := by
  simp only [IntKind.wrap, IntKind.bits, IntKind.signed]
  simp
  omega

/-- a digit more -/
theorem or_dig (n i : Nat) (d : UInt8) (hn : n < 128 ^ i) (hi : i ≤ 9) (h9 : i = 9 → d.toNat ≤ 1) :
    bits .or .u64 (n : Int) (IntKind.u64.wrap ((d.toNat : Int) % 128 * 2 ^ (7 * i))) = ((n + d.toNat % 128 * 128 ^ i : Nat) : Int) := by
  have hp := pow_le9 hi
  have hlt := dig_lt (d := d.toNat % 128) (by omega) hi (by intro h; have := h9 h; omega)
  have e0 : (d.toNat : Int) % 128 * 2 ^ (7 * i) = ((d.toNat % 128 * 128 ^ i : Nat) : Int) := by
    rw [pow128]; simp
  rw [e0, wrap_u64 _ (by omega) (by omega), u64_or_nat _ _ (by omega) hlt]
  rw [Nat.or_comm, nat_join (7 * i) (d.toNat % 128 * 128 ^ i) n (by rw [pow128, Nat.mul_mod_left]) (by rw [← pow128]; exact hn), Nat.add_comm]

theorem dig_next {n i : Nat} {d : Nat} (hn : n < 128 ^ i) (hd : d < 128) : n + d * 128 ^ i < 128 ^ (i + 1) := by
  rw [Nat.pow_succ]
  have : d * 128 ^ i ≤ 127 * 128 ^ i := Nat.mul_le_mul_right _ (by omega)
  omega

set_option maxRecDepth 100000 in
set_option maxHeartbeats 1000000 in
theorem number_any (w : World) (v : Value) (bs : List UInt8) (h : Bs w v bs) :
    Calls Tryd.prog 66 #[v] w fun e w' => e = .returned (tup (dig 0 0 bs)) ∧ w = w' := by
  obtain ⟨a, cap, rfl, hl, hm, hc⟩ := h
  unfold maxLen at hm
  go_enter Tryd.func66, Tryd.ntmps66
  go_wp2
  go_loop [2, 9] (fun n i => ∃ k N : Nat, k ≤ bs.length ∧ k ≤ 9 ∧ i = .int .i64 k ∧ n = .int .u64 N ∧ N < 128 ^ k ∧ dig k N (bs.drop k) = dig 0 0 bs) (fun _ i => bs.length - (intOf i).toNat)
  case atStart => exact ⟨0, 0, Nat.zero_le _, by omega, rfl, rfl, by simp, rfl⟩
  case round =>
    obtain ⟨k, N, hk, hk9, rfl, rfl, hN, hdig⟩ := hrel
    have HN := Hid_mk hN
    have HDig := Hid_mk hdig
    clear hN hdig
    by_cases hlt : k < bs.length
    · obtain ⟨b, o, rfl, hcell⟩ := hc (by intro e; subst e; simp at hlt)
      have hx : w.cell? ⟨b, o + k, none⟩ = some (.int .u8 ((bs.getD k 0).toNat : Int)) := hcell k hlt
      have hd0 : bs.drop k = bs.getD k 0 :: bs.drop (k + 1) := by rw [List.drop_eq_getElem_cons hlt]; simp [List.getD, hlt]
      have HDrop := Hid_mk hd0
      have hxb : (bs.getD k 0).toNat < 256 := UInt8.toNat_lt _
      generalize bs.getD k 0 = d at *
      have hand := andNot128 d
      clear hcell hc hd0
      by_cases h9 : k = 9 ∧ 1 < d.toNat
      · obtain ⟨rfl, h1⟩ := h9
        have h1i : (1 : Int) < (d.toNat : Int) := by omega
        go_wp2
        refine bodyPost_ret (results_tmp3 rfl _ _ _) rfl ?_
        refine ⟨?_, rfl⟩
        have e : dig 0 0 bs = (0, 0, 11) := by rw [← HDig.out, HDrop.out, dig_cut h1]
        rw [e]
        rfl
      · by_cases hbig : 128 ≤ d.toNat
        · have hk8 : k ≤ 8 := by omega
          have hk9' : ((k : Int) == 9) = false := by simp; omega
          have hbi : (128 : Int) ≤ (d.toNat : Int) := by omega
          go_wp2
          rw [or_dig N k d HN.out hk9 (by omega)]
          go_round
          case rel => exact ⟨k + 1, _, by omega, by omega, by go_num, rfl, dig_next HN.out (by omega), by rw [← HDig.out, HDrop.out, dig_on h9 hbig]⟩
          case measure => simp [intOf]; omega
        · have hbi : ¬ (128 : Int) ≤ (d.toNat : Int) := by omega
          by_cases hz : d.toNat = 0 ∧ 0 < k
          · have hz1 : ((d.toNat : Int) == 0) = true := by simp; omega
            have hz2 : (0 : Int) < (k : Int) := by omega
            have e : dig 0 0 bs = (0, 0, 11) := by rw [← HDig.out, HDrop.out, dig_zero hz.1 hz.2]
            have HE := Hid_mk e
            clear e
            by_cases hk9' : k = 9
            · subst hk9'
              have h1i : ¬ (1 : Int) < (d.toNat : Int) := by omega
              have hd1 : decide ((1 : Int) < (d.toNat : Int)) = false := decide_eq_false h1i
              go_wp2
              refine bodyPost_ret (results_tmp3 rfl _ _ _) rfl ?_
              rw [HE.out]
              exact ⟨rfl, rfl⟩
            · have hk9'' : ((k : Int) == 9) = false := by simp; omega
              go_wp2
              refine bodyPost_ret (results_tmp3 rfl _ _ _) rfl ?_
              rw [HE.out]
              exact ⟨rfl, rfl⟩
          · have e : dig 0 0 bs = (N + d.toNat % 128 * 128 ^ k, k + 1, 0) := by rw [← HDig.out, HDrop.out, dig_end h9 hbig hz]
            have hor := or_dig N k d HN.out hk9 (by omega)
            have HOr := Hid_mk hor
            have HE := Hid_mk e
            clear e hor
            have hcase : (((d.toNat : Int) == 0) = false) ∨ (k = 0) := by
              by_cases h0 : d.toNat = 0
              · right; omega
              · left; simp; omega
            rcases hcase with hz1 | rfl
            · by_cases hk9' : k = 9
              · subst hk9'
                have hd1 : decide ((1 : Int) < (d.toNat : Int)) = false := decide_eq_false (by omega)
                clear hz h9
                go_wp2
                refine bodyPost_ret (results_tmp3 rfl _ _ _) rfl ?_
                rw [HE.out]
                have h := HOr.out
                rw [show ((2 : Int) ^ (7 * 9)) = 9223372036854775808 from by decide] at h
                exact ⟨tup_mk h rfl, rfl⟩
              · have hk9'' : ((k : Int) == 9) = false := by simp; omega
                clear hz h9
                go_wp2
                refine bodyPost_ret (results_tmp3 rfl _ _ _) rfl ?_
                rw [HE.out]
                exact ⟨tup_mk HOr.out (by omega), rfl⟩
            · have hx0 : w.cell? ⟨b, o, none⟩ = some (.int .u8 (d.toNat : Int)) := by simpa using hx
              obtain rfl : N = 0 := by have := HN.out; simp at this; omega
              clear hz h9 hx
              go_wp2
              all_goals
                refine bodyPost_ret (results_tmp3 rfl _ _ _) rfl ?_
                rw [HE.out]
                refine ⟨tup_mk ?_ rfl, rfl⟩
                have h := HOr.out
                simp only [Nat.mul_zero, Int.pow_zero, Int.mul_one] at h
                rw [wrap_u64 _ (by omega) (by omega)] at h
                first
                  | exact h
                  | (have h0 : d.toNat = 0 := by assumption
                     rw [h0]; decide)
    · go_wp2
      refine bodyPost_ret (results_tmp3 rfl _ _ _) rfl ?_
      refine ⟨?_, rfl⟩
      have e : dig 0 0 bs = (0, 0, 10) := by rw [← HDig.out, List.drop_of_length_le (by omega), dig_nil]
      rw [e]
      rfl

end Go.Proofs.YtpfpnlhihnfahaaDoor.number

namespace Go.Proofs.YtpfpnlhihnfahaaDoor.reader
open Go.RowKit Go.Proofs.YtpfpnlhihnfahaaDoor.sum Go.Proofs.YtpfpnlhihnfahaaDoor.kept Go.Proofs.YtpfpnlhihnfahaaDoor.app Go.Proofs.YtpfpnlhihnfahaaDoor.writer Go.Proofs.YtpfpnlhihnfahaaDoor.clone Go.Proofs.YtpfpnlhihnfahaaDoor.known Go.Proofs.YtpfpnlhihnfahaaDoor.unseal Go.Proofs.YtpfpnlhihnfahaaDoor.number
set_option linter.unusedVariables false

/-- A Reader at block p: its slice, its bytes, its place, what was wrong first. -/
structure Rd (w : World) (p : Nat) (v : Value) (bs : List UInt8) (at_ bad : Nat) : Prop where
  c0 : w.cell? ⟨p, 0, none⟩ = some v
  c1 : w.cell? ⟨p, 1, none⟩ = some (.int .i64 (at_ : Int))
  c2 : w.cell? ⟨p, 2, none⟩ = some (.int .i64 (bad : Int))
  warm : ∀ o, w.frozen? ⟨p, o, none⟩ = false
  reads : Bs w v bs
  shape : v = .slice none 0 0 ∨ ∃ b o n c, v = .slice (some ⟨b, o, none⟩) n c ∧ b ≠ p
  le : at_ ≤ bs.length
  short : bs.length ≤ 140737488355328

theorem Rd.kept {S : Nat → Prop} {w w' : World} {p : Nat} {v : Value} {bs : List UInt8} {at_ bad : Nat} (h : Rd w p v bs at_ bad) (hk : Kp S w w') (hp : ¬ S p) (hv : ∀ b o n c, v = .slice (some ⟨b, o, none⟩) n c → ¬ S b) : Rd w' p v bs at_ bad :=
  ⟨hk.cell' h.c0 hp, hk.cell' h.c1 hp, hk.cell' h.c2 hp, fun o => (hk.frozen (p := ⟨p, o, none⟩) (show p < w.heap.size from World.block_lt_of_cell? w ⟨p, 0, none⟩ h.c0) hp).trans (h.warm o), bs_kept h.reads hk hv, h.shape, h.le, h.short⟩

theorem Rd.drewN {w : World} {p : Nat} {v : Value} {bs : List UInt8} {at_ bad : Nat} (h : Rd w p v bs at_ bad) (n : Nat) : Rd (w.drewN n) p v bs at_ bad :=
  h.kept (S := No) ((Kp.refl No w).drewN n) id fun _ _ _ _ _ => id

theorem bs_empty (w : World) (a : Option Addr) (c : Nat) (hc : c ≤ maxLen) : Bs w (.slice a 0 c) [] := ⟨a, c, rfl, Nat.zero_le _, hc, fun h => absurd rfl h⟩

/-- What a call on a Reader leaves. -/
def RdPost (w : World) (p : Nat) (v : Value) (bs : List UInt8) (res : Value) (at_ bad : Nat) (e : Ending) (w' : World) : Prop :=
  e = .returned res ∧ Rd w' p v bs at_ bad ∧ Kp (fun k => k = p) w w'

set_option maxRecDepth 100000 in
set_option maxHeartbeats 1000000 in
theorem new_any (w : World) (v : Value) (bs : List UInt8) (h : Bs w v bs) (hl : bs.length ≤ 140737488355328) :
    Calls Tryd.prog 22 #[v] w fun e w' => ∃ p v', e = .returned (.pointer (some ⟨p, 0, none⟩)) ∧ w.heap.size ≤ p ∧ Rd w' p v' bs 0 0 ∧ Kp No w w' ∧ (∀ g, v'.ownBlock = some g → w.heap.size ≤ g) := by
  have H := Hid_mk h
  clear h
  go_enter Tryd.func22, Tryd.ntmps22
  go_wp2_with fail
  refine (clone_any w v bs H.out hl).mono ?_
  rintro e w1 ⟨v1, rfl, ho, hk⟩
  have HO := Hid_mk ho
  have HK := Hid_mk hk
  have hz := hk.size
  clear hk
  have fin : Rd (w1.alloc (.cells #[v1, .int .i64 0, .int .i64 0] 79)) w1.heap.size v1 bs 0 0 := by
    have hb := owns_bs ho
    refine ⟨by simp, by simp, by simp, fun o => by simp, bs_no hb ((Kp.refl No _).alloc _), ?_, Nat.zero_le _, hl⟩
    rcases owns_any ho with ⟨rfl, _⟩ | ⟨g, cap, rfl, h1, h2, _⟩
    · exact .inl rfl
    · exact .inr ⟨g, 0, _, cap, rfl, by omega⟩
  have HF := Hid_mk fin
  clear fin
  rcases owns_any ho with ⟨rfl, _⟩ | ⟨g, cap, rfl, h1, h2, _⟩
  · clear ho
    go_wp2
    go_ret
    exact ⟨_, _, rfl, hz, HF.out, HK.out.alloc _, fun g hg => (HO.out.lt g hg).1⟩
  · clear ho
    go_wp2
    go_ret
    exact ⟨_, _, rfl, hz, HF.out, HK.out.alloc _, fun g hg => (HO.out.lt g hg).1⟩

set_option maxRecDepth 100000 in
set_option maxHeartbeats 1000000 in
theorem left_any (w : World) (p : Nat) (v : Value) (bs : List UInt8) (at_ bad : Nat) (h : Rd w p v bs at_ bad) :
    Calls Tryd.prog 45 #[.pointer (some ⟨p, 0, none⟩)] w fun e w' => ∃ L n, e = .returned L ∧ Bs w' L (bs.drop at_) ∧ (∀ b o n c, L = .slice (some ⟨b, o, none⟩) n c → b ≠ p) ∧ w' = w.drewN n := by
  have c0 := h.c0
  have c1 := h.c1
  have hle := h.le
  rcases h.shape with rfl | ⟨b, o, n, c, rfl, hne⟩
  · obtain ⟨a, c, e, _, _, _⟩ := h.reads
    simp only [Value.slice.injEq] at e
    have hb0 : bs = [] := List.eq_nil_of_length_eq_zero e.2.1.symm
    subst hb0
    obtain rfl : at_ = 0 := by simpa using hle
    have hb := Hid_mk h.reads
    clear h e
    go_enter Tryd.func45, Tryd.ntmps45
    go_wp2
    go_quiet (fail)
    go_wp2
    go_ret
    exact ⟨_, _, rfl, bs_drewN _ hb.out, (fun _ _ _ _ e => by cases e), rfl⟩
  · have hn : n = bs.length := by obtain ⟨_, _, e, _⟩ := h.reads; simp only [Value.slice.injEq] at e; exact e.2.1
    subst hn
    have hcap : bs.length ≤ c := by obtain ⟨_, _, e, h1, _⟩ := h.reads; simp only [Value.slice.injEq] at e; rw [e.2.2]; exact h1
    have i1 : (at_ : Int) ≤ (bs.length : Int) := by omega
    have hb := Hid_mk h.reads
    clear h
    by_cases hc : c = at_
    · subst hc
      have hm : c ≤ maxLen := by obtain ⟨_, _, e, _, h2, _⟩ := hb.out; simp only [Value.slice.injEq] at e; rw [e.2.2]; exact h2
      go_enter Tryd.func45, Tryd.ntmps45
      go_wp2
      go_quiet (fail)
      go_wp2
      go_ret
      refine ⟨_, _, rfl, ?_, (fun _ _ _ _ e => by cases e; exact hne), rfl⟩
      rw [List.drop_of_length_le (by omega)]
      exact bs_empty _ _ _ (by omega)
    · have hd := bs_drop hb.out at_ hle (some ⟨b, o + at_, none⟩) (fun _ => rfl)
      have HD := Hid_mk hd
      clear hd
      go_enter Tryd.func45, Tryd.ntmps45
      go_wp2
      go_quiet (fail)
      go_wp2
      go_ret
      exact ⟨_, _, rfl, bs_drewN _ HD.out, (fun _ _ _ _ e => by cases e; exact hne), rfl⟩

theorem Rd.lt {w : World} {p : Nat} {v : Value} {bs : List UInt8} {at_ bad : Nat} (h : Rd w p v bs at_ bad) : p < w.heap.size := World.block_lt_of_cell? w ⟨p, 0, none⟩ h.c0

theorem Rd.set_bad {w : World} {p : Nat} {v : Value} {bs : List UInt8} {at_ bad : Nat} (h : Rd w p v bs at_ bad) (c : Nat) : Rd (w.setCell ⟨p, 2, none⟩ (.int .i64 (c : Int))) p v bs at_ c := by
  have hk : Kp (fun k => k = p) w (w.setCell ⟨p, 2, none⟩ (.int .i64 (c : Int))) := (Kp.refl (fun k => k = p) w).setCell (fun _ => rfl) _
  refine ⟨?_, ?_, World.cell?_setCell_same w _ _ h.c2, fun o => by rw [World.frozen?_setCell]; exact h.warm o, bs_kept h.reads hk ?_, h.shape, h.le, h.short⟩
  · rw [World.cell?_setCell_other w _ _ _ (by simp)]; exact h.c0
  · rw [World.cell?_setCell_other w _ _ _ (by simp)]; exact h.c1
  · intro b o n c e
    rcases h.shape with e2 | ⟨b', o', n', c', e2, hne⟩
    · rw [e] at e2; cases e2
    · rw [e] at e2; simp at e2; rw [e2.1.1]; exact hne
theorem Rd.set_at {w : World} {p : Nat} {v : Value} {bs : List UInt8} {at_ bad : Nat} (h : Rd w p v bs at_ bad) (c : Nat) (hc : c ≤ bs.length) : Rd (w.setCell ⟨p, 1, none⟩ (.int .i64 (c : Int))) p v bs c bad := by
  have hk : Kp (fun k => k = p) w (w.setCell ⟨p, 1, none⟩ (.int .i64 (c : Int))) := (Kp.refl (fun k => k = p) w).setCell (fun _ => rfl) _
  refine ⟨?_, World.cell?_setCell_same w _ _ h.c1, ?_, fun o => by rw [World.frozen?_setCell]; exact h.warm o, bs_kept h.reads hk ?_, h.shape, hc, h.short⟩
  · rw [World.cell?_setCell_other w _ _ _ (by simp)]; exact h.c0
  · rw [World.cell?_setCell_other w _ _ _ (by simp)]; exact h.c2
  · intro b o n c e
    rcases h.shape with e2 | ⟨b', o', n', c', e2, hne⟩
    · rw [e] at e2; cases e2
    · rw [e] at e2; simp at e2; rw [e2.1.1]; exact hne
theorem kp_set (w : World) (p o : Nat) (u : Value) : Kp (fun k => k = p) w (w.setCell ⟨p, o, none⟩ u) := (Kp.refl (fun k => k = p) w).setCell (fun _ => rfl) _

def rByte (bs : List UInt8) (at_ bad most : Nat) : Nat × Nat × Nat :=
  if bad ≠ 0 then (0, at_, bad)
  else if bs.drop at_ = [] then (0, at_, 10)
  else if most < ((bs.drop at_).getD 0 0).toNat then (0, at_, 12)
  else (((bs.drop at_).getD 0 0).toNat, at_ + 1, 0)

set_option maxRecDepth 100000 in
set_option maxHeartbeats 1000000 in
theorem byte_any (w : World) (p : Nat) (v : Value) (bs : List UInt8) (at_ bad most : Nat) (h : Rd w p v bs at_ bad) :
    Calls Tryd.prog 41 #[.pointer (some ⟨p, 0, none⟩), .int .u8 (most : Int)] w (RdPost w p v bs (.int .u8 ((rByte bs at_ bad most).1 : Int)) (rByte bs at_ bad most).2.1 (rByte bs at_ bad most).2.2) := by
  have c2 := h.c2
  have H := Hid_mk h
  by_cases hb : bad = 0
  · subst hb
    clear h
    go_enter Tryd.func41, Tryd.ntmps41
    go_wp2_with fail
    refine (left_any w p v bs at_ 0 H.out).mono ?_
    rintro e w0 ⟨L, nd, rfl, hL, hLp, hw0⟩
    have hR := H.out.drewN nd
    rw [← hw0] at hR
    have hK : Kp (fun k => k = p) w w0 := by rw [hw0]; exact (Kp.refl _ w).drewN nd
    have HR := Hid_mk hR
    have HK := Hid_mk hK
    have c2' := hR.c2
    have c1' := hR.c1
    have f2 := hR.warm 2
    have f1 := hR.warm 1
    obtain ⟨a, cap, rfl, hl, hm, hc⟩ := hL
    clear hw0 hR hK c2
    by_cases he : bs.drop at_ = []
    · have hl0 : (bs.drop at_).length = 0 := by rw [he]; rfl
      have hr : rByte bs at_ 0 most = (0, at_, 10) := by unfold rByte; rw [if_neg (by simp), if_pos he]
      rw [hl0]
      have HRes := Hid_mk hr
      clear hr hl hm hc he hl0 hLp
      go_wp2
      go_ret
      rw [HRes.out]
      exact ⟨rfl, HR.out.set_bad 10, HK.out.trans' (kp_set _ _ _ _)⟩
    · obtain ⟨b, o, rfl, hcell⟩ := hc he
      have hpos : 0 < (bs.drop at_).length := by rcases Nat.eq_zero_or_pos (bs.drop at_).length with h | h; exact absurd (List.eq_nil_of_length_eq_zero h) he; exact h
      have hbp : b ≠ p := hLp _ _ _ _ rfl
      have hx : w0.cell? ⟨b, o, none⟩ = some (.int .u8 (((bs.drop at_).getD 0 0).toNat : Int)) := hcell 0 hpos
      have hat : at_ + 1 ≤ bs.length := by rw [List.length_drop] at hpos; omega
      have hlm := H.out.short
      generalize hLen : (bs.drop at_).length = len at *
      generalize hd : ((bs.drop at_).getD 0 0).toNat = d at *
      have hposi : (0 : Int) < (len : Int) := by omega
      have hnz : ((len : Int) == 0) = false := by simp; omega
      clear hcell hc hLp
      by_cases hgt : most < d
      · have hr : rByte bs at_ 0 most = (0, at_, 12) := by unfold rByte; rw [if_neg (by simp), if_neg he, hd, if_pos hgt]
        have HRes := Hid_mk hr
        clear hr hl hm hLen hd he
        go_wp2
        go_ret
        rw [HRes.out]
        exact ⟨rfl, HR.out.set_bad 12, HK.out.trans' (kp_set _ _ _ _)⟩
      · have hr : rByte bs at_ 0 most = (d, at_ + 1, 0) := by unfold rByte; rw [if_neg (by simp), if_neg he, hd, if_neg hgt]
        have HRes := Hid_mk hr
        clear hr hl hm hLen hd he
        go_wp2
        go_ret
        rw [HRes.out]
        exact ⟨rfl, HR.out.set_at (at_ + 1) hat, HK.out.trans' (kp_set _ _ _ _)⟩
  · have hr : rByte bs at_ bad most = (0, at_, bad) := by unfold rByte; rw [if_pos hb]
    rw [hr]
    have hbz : ((bad : Int) == 0) = false := by simp; omega
    have hbz2 : ((bad : Int) != 0) = true := by simp; omega
    clear h hr
    go_enter Tryd.func41, Tryd.ntmps41
    go_wp2
    go_ret
    exact ⟨rfl, H.out, Kp.refl _ _⟩

end Go.Proofs.YtpfpnlhihnfahaaDoor.reader

namespace Go.Proofs.YtpfpnlhihnfahaaDoor.reader
open Go.RowKit Go.Proofs.YtpfpnlhihnfahaaDoor.sum Go.Proofs.YtpfpnlhihnfahaaDoor.kept Go.Proofs.YtpfpnlhihnfahaaDoor.app Go.Proofs.YtpfpnlhihnfahaaDoor.writer Go.Proofs.YtpfpnlhihnfahaaDoor.clone Go.Proofs.YtpfpnlhihnfahaaDoor.known Go.Proofs.YtpfpnlhihnfahaaDoor.unseal Go.Proofs.YtpfpnlhihnfahaaDoor.number
set_option linter.unusedVariables false

theorem dig_size : ∀ (bs : List UInt8) (i n : Nat), (dig i n bs).2.2 = 0 → (dig i n bs).2.1 ≤ i + bs.length
  | [], i, n, h => by simp [dig] at h
  | d :: r, i, n, h => by
    rw [dig] at h ⊢
    split at h
    · simp at h
    · rename_i h1
      split at h
      · rename_i h2
        have := dig_size r (i + 1) _ h
        rw [if_neg h1, if_pos h2]
        simp only [List.length_cons]; omega
      · rename_i h2
        split at h
        · simp at h
        · rename_i h3
          rw [if_neg h1, if_neg h2, if_neg h3]
          simp only [List.length_cons]; omega

theorem dig_zero_res : ∀ (bs : List UInt8) (i n : Nat), (dig i n bs).2.2 ≠ 0 → (dig i n bs).1 = 0 ∧ (dig i n bs).2.1 = 0
  | [], i, n, _ => ⟨rfl, rfl⟩
  | d :: r, i, n, h => by
    rw [dig] at h ⊢
    split at h
    · rename_i h1; rw [if_pos h1]; exact ⟨rfl, rfl⟩
    · rename_i h1
      split at h
      · rename_i h2
        rw [if_neg h1, if_pos h2]
        exact dig_zero_res r (i + 1) _ h
      · rename_i h2
        split at h
        · rename_i h3; rw [if_neg h1, if_neg h2, if_pos h3]; exact ⟨rfl, rfl⟩
        · simp at h

def rNum (bs : List UInt8) (at_ bad most : Nat) : Nat × Nat × Nat :=
  if bad ≠ 0 then (0, at_, bad)
  else if (dig 0 0 (bs.drop at_)).2.2 ≠ 0 then (0, at_, (dig 0 0 (bs.drop at_)).2.2)
  else if most < (dig 0 0 (bs.drop at_)).1 then (0, at_, 12)
  else ((dig 0 0 (bs.drop at_)).1, at_ + (dig 0 0 (bs.drop at_)).2.1, 0)

set_option maxRecDepth 100000 in
set_option maxHeartbeats 1000000 in
theorem num_any (w : World) (p : Nat) (v : Value) (bs : List UInt8) (at_ bad most : Nat) (h : Rd w p v bs at_ bad) :
    Calls Tryd.prog 58 #[.pointer (some ⟨p, 0, none⟩), .int .u64 (most : Int)] w (RdPost w p v bs (.int .u64 ((rNum bs at_ bad most).1 : Int)) (rNum bs at_ bad most).2.1 (rNum bs at_ bad most).2.2) := by
  have c2 := h.c2
  have H := Hid_mk h
  by_cases hb : bad = 0
  · subst hb
    have hsize := dig_size (bs.drop at_) 0 0
    have hle := h.le
    have hshort := h.short
    clear h
    go_enter Tryd.func58, Tryd.ntmps58
    go_wp2_with fail
    refine (left_any w p v bs at_ 0 H.out).mono ?_
    rintro e w0 ⟨L, nd, rfl, hL, -, hw0⟩
    have hR := H.out.drewN nd
    rw [← hw0] at hR
    have hK : Kp (fun k => k = p) w w0 := by rw [hw0]; exact (Kp.refl _ w).drewN nd
    have HR := Hid_mk hR
    have HK := Hid_mk hK
    have c2' := hR.c2
    have c1' := hR.c1
    have f2 := hR.warm 2
    have f1 := hR.warm 1
    have HL := Hid_mk hL
    clear hw0 hR hK c2 hL
    go_wp2_with fail
    refine (number_any w0 L _ HL.out).mono ?_
    rintro e w1 ⟨rfl, rfl⟩
    unfold tup
    have hres : rNum bs at_ 0 most = if (dig 0 0 (bs.drop at_)).2.2 ≠ 0 then (0, at_, (dig 0 0 (bs.drop at_)).2.2) else if most < (dig 0 0 (bs.drop at_)).1 then (0, at_, 12) else ((dig 0 0 (bs.drop at_)).1, at_ + (dig 0 0 (bs.drop at_)).2.1, 0) := by
      unfold rNum; rw [if_neg (by simp)]
    have hdl : (bs.drop at_).length ≤ bs.length - at_ := by rw [List.length_drop]; omega
    generalize dig 0 0 (bs.drop at_) = D at *
    obtain ⟨n, size, wrong⟩ := D
    simp only at hres hsize
    by_cases hw : wrong = 0
    · subst hw
      have hs := hsize rfl
      have hs2 : at_ + size ≤ bs.length := by omega
      by_cases hgt : most < n
      · rw [if_neg (by simp), if_pos hgt] at hres
        have HRes := Hid_mk hres
        have hgti : (most : Int) < (n : Int) := by omega
        clear hres hsize
        go_wp2
        go_ret
        rw [HRes.out]
        exact ⟨rfl, HR.out.set_bad 12, HK.out.trans' (kp_set _ _ _ _)⟩
      · rw [if_neg (by simp), if_neg hgt] at hres
        have HRes := Hid_mk hres
        have hgti : decide ((most : Int) < (n : Int)) = false := decide_eq_false (by omega)
        clear hres hsize
        go_wp2
        go_ret
        rw [HRes.out]
        exact ⟨rfl, HR.out.set_at (at_ + size) hs2, HK.out.trans' (kp_set _ _ _ _)⟩
    · rw [if_pos hw] at hres
      have HRes := Hid_mk hres
      have hwz : ((wrong : Int) == 0) = false := by simp; omega
      have hwz2 : ((wrong : Int) != 0) = true := by simp; omega
      clear hres hsize
      go_wp2
      go_ret
      rw [HRes.out]
      exact ⟨rfl, HR.out.set_bad wrong, HK.out.trans' (kp_set _ _ _ _)⟩
  · have hr : rNum bs at_ bad most = (0, at_, bad) := by unfold rNum; rw [if_pos hb]
    rw [hr]
    have hbz : ((bad : Int) == 0) = false := by simp; omega
    have hbz2 : ((bad : Int) != 0) = true := by simp; omega
    clear h hr
    go_enter Tryd.func58, Tryd.ntmps58
    go_wp2
    go_ret
    exact ⟨rfl, H.out, Kp.refl _ _⟩

def rEnd (bs : List UInt8) (at_ bad : Nat) : Nat := if bad = 0 ∧ at_ < bs.length then 11 else bad

set_option maxRecDepth 100000 in
set_option maxHeartbeats 1000000 in
theorem end_any (w : World) (p : Nat) (v : Value) (bs : List UInt8) (at_ bad : Nat) (h : Rd w p v bs at_ bad) :
    Calls Tryd.prog 25 #[.pointer (some ⟨p, 0, none⟩)] w fun e w' => e = .returned (.int .i64 (rEnd bs at_ bad : Int)) ∧ ∃ n, w' = w.drewN n := by
  have c2 := h.c2
  have H := Hid_mk h
  by_cases hb : bad = 0
  · subst hb
    clear h
    go_enter Tryd.func25, Tryd.ntmps25
    go_wp2_with fail
    refine (left_any w p v bs at_ 0 H.out).mono ?_
    rintro e w0 ⟨L, nd, rfl, hL, -, hw0⟩
    obtain ⟨a, cap, rfl, hl, hm, -⟩ := hL
    have HW := Hid_mk hw0
    have c2' : w0.cell? ⟨p, 2, none⟩ = some (.int .i64 ((0 : Nat) : Int)) := by rw [hw0]; exact (H.out.drewN nd).c2
    have hlen : (bs.drop at_).length = bs.length - at_ := List.length_drop
    rw [hlen]
    clear hw0 hl hm hlen c2
    by_cases hpos : at_ < bs.length
    · have hr : rEnd bs at_ 0 = 11 := by unfold rEnd; rw [if_pos ⟨rfl, hpos⟩]
      have hp1 : (0 : Int) < ((bs.length - at_ : Nat) : Int) := by omega
      have hp2 : 0 < bs.length - at_ := by omega
      have HRes := Hid_mk hr
      generalize bs.length - at_ = len at *
      clear hr hpos
      go_wp2
      go_ret
      rw [HRes.out]
      exact ⟨rfl, nd, HW.out⟩
    · have hr : rEnd bs at_ 0 = 0 := by unfold rEnd; rw [if_neg (by omega)]
      have hz : bs.length - at_ = 0 := by omega
      rw [hz]
      have HRes := Hid_mk hr
      clear hr hpos hz
      go_wp2
      go_ret
      rw [HRes.out]
      exact ⟨rfl, nd, HW.out⟩
  · have hr : rEnd bs at_ bad = bad := by unfold rEnd; rw [if_neg (by omega)]
    rw [hr]
    have hbz : ((bad : Int) == 0) = false := by simp; omega
    clear h hr
    go_enter Tryd.func25, Tryd.ntmps25
    go_wp2
    go_ret
    exact ⟨rfl, 0, rfl⟩

end Go.Proofs.YtpfpnlhihnfahaaDoor.reader
