/- Seal and Unseal of package pack. -/
import Derived.Test.YtbhhmbbldbgdnaaKnown0
import Derived.OwnWalk
namespace Go.Proofs.Ytbhhmbbldbgdnaa.seal
open Go.RowKit Go.Proofs.Ytbhhmbbldbgdnaa.sum Go.Proofs.Ytbhhmbbldbgdnaa.kept Go.Proofs.Ytbhhmbbldbgdnaa.app Go.Proofs.Ytbhhmbbldbgdnaa.writer Go.Proofs.Ytbhhmbbldbgdnaa.clone Go.Proofs.Ytbhhmbbldbgdnaa.known Go.Proofs.Ytbhhmbbldbgdnaa.fl
set_option linter.unusedVariables false

/-- a number's three bytes, the lowest first -/
def part (n : Nat) : List UInt8 := [n.toUInt8, (n / 256).toUInt8, (n / 65536).toUInt8]
def tail (s : Nat × Nat) : List UInt8 := part s.1 ++ part s.2
def sealed (bs : List UInt8) : List UInt8 := bs ++ tail (pl.sum bs)

theorem part_len (n : Nat) : (part n).length = 3 := rfl
theorem tail_len (s : Nat × Nat) : (tail s).length = 6 := rfl
theorem u8_toNat (n : Nat) : n.toUInt8.toNat = n % 256 := by simp [Nat.toUInt8]

/-- What an append by a callee leaves: the row, of old memory only the old row. -/
def Onto (base : Nat) (v : Value) (bs : List UInt8) (w : World) (e : Ending) (w' : World) : Prop :=
  ∃ v', e = .returned v' ∧ w'.ownsRow base 5 1 v' bs.length (bs.map B) ∧ Kp (fun k => some k = v.ownBlock) w w'

/-- a literal of three bytes, as laid by the call -/
theorem bs_part (w : World) (n : Nat) (hn : n < 16777216) : Bs (w.alloc (.cells #[.int .u8 ((n : Int) % 256), .int .u8 ((n : Int) / 256 % 256), .int .u8 ((n : Int) / 65536)] 5)) (.slice (some ⟨w.heap.size, 0, none⟩) 3 3) (part n) := by
  have e1 : (n : Int) % 256 = ((n % 256 : Nat) : Int) := by omega
  have e2 : (n : Int) / 256 % 256 = ((n / 256 % 256 : Nat) : Int) := by omega
  have e3 : (n : Int) / 65536 = ((n / 65536 % 256 : Nat) : Int) := by omega
  rw [e1, e2, e3]
  refine ⟨_, 3, rfl, Nat.le_refl _, by decide, fun _ => ⟨_, _, rfl, fun k hk => ?_⟩⟩
  rw [part_len] at hk
  match k, hk with
  | 0, _ => simp [B, part, u8_toNat]
  | 1, _ => simp [B, part, u8_toNat]
  | 2, _ => simp [B, part, u8_toNat]

theorem conv_u32 (n : Nat) (hn : n < 16777216) (w : World) : (convert 68 72 (.float .f64 (fl n))).run Try.prog w = .ok (.int .u32 n) w := by
  refine run_convert_float_int w 68 72 .f64 .u32 _ n (by kernel_rfl) Try.underlying72 (fl_int n ?_ .u32 ?_ ?_)
  · unfold Small
    have : (2 : Nat) ^ 53 = 9007199254740992 := by decide
    omega
  · have : IntKind.min .u32 = 0 := by decide
    omega
  · have : IntKind.max .u32 = 4294967295 := by decide
    omega

set_option maxRecDepth 100000 in
set_option maxHeartbeats 1000000 in
theorem lay_any (base : Nat) (w : World) (v : Value) (bs : List UInt8) (n : Nat) (hn : n < 16777216) (h : w.ownsRow base 5 1 v bs.length (bs.map B)) (hb : base ≤ w.heap.size) (hl : bs.length + 3 ≤ 140737488355328) :
    Calls Try.prog 46 #[v, .float .f64 (fl n)] w (Onto base v (bs ++ part n) w) := by
  have hq := conv_u32 n hn
  have H := Hid_mk h
  clear h
  go_enter Try.func46, Try.ntmps46
  go_wp2_with (at_builtin; (refine wpList_append_bs _ rfl _ _ rfl base _ bs rfl (H.out.alloc _) _ (part n) rfl (bs_part w n hn) ?c1 ?c2 ?_))
  case c1 => rw [part_len]; exact hl
  case c2 => simp; omega
  · intro v' w1 happ
    have hfin : Onto base v (bs ++ part n) w (.returned v') w1 := ⟨v', rfl, happ.1, app_kept happ fun k _ e => e.symm⟩
    have HF := Hid_mk hfin
    clear happ hfin hq
    go_wp2
    go_ret
    exact HF.out

set_option maxRecDepth 100000 in
set_option maxHeartbeats 1000000 in
theorem seal_any (w : World) (v : Value) (bs : List UInt8) (h : Bs w v bs) (hl : bs.length + 6 ≤ 140737488355328) :
    Calls Try.prog 40 #[v] w (NewBs w (sealed bs)) := by
  obtain ⟨i0, hi, hz0, hz1, hz2⟩ := info_parts info5
  have H := Hid_mk h
  obtain ⟨a, cap, rfl, hlc, hm, -⟩ := h
  have sl := pl.sum_lt bs
  have s1 : (pl.sum bs).1 < 16777216 := by have := sl.1; unfold pl.P at this; omega
  have s2 : (pl.sum bs).2 < 16777216 := by have := sl.2; unfold pl.P at this; omega
  have hml : bs.length + 6 ≤ maxLen := by unfold maxLen; omega
  unfold maxLen at hm
  clear sl
  go_enter Try.func40, Try.ntmps40
  go_wp2_with fail
  refine (sum_any _ _ _ H.out).mono ?_
  rintro e w' ⟨rfl, rfl⟩
  unfold cx
  go_wp2_with (at_make; refine wpList_make_own _ rfl _ _ 30 rfl w.heap.size 5 i0 (.int .u8 0) 1 Try.underlying30 hi hz0 hz1 _ _ _ (bs.length + 6) rfl rfl (by omega) ?b1 ?b2 (Nat.le_refl _) ?_)
  case b1 => rw [hz2]; omega
  case b2 => exact hml
  · intro w1 hown1 hgr1
    have k1 : Kp No w w1 := (Kp.refl No w).grown hgr1 fun k hk e => by cases e
    have K1 := Hid_mk k1
    have hx := bs_no H.out k1
    have HX := Hid_mk hx
    have hz : w.heap.size ≤ w1.heap.size := k1.size
    clear hgr1 k1 hx
    go_wp2_with (at_builtin; (refine wpList_append_bs _ rfl _ _ rfl w.heap.size _ [] rfl hown1 _ bs rfl HX.out ?c1 ?c2 ?_))
    case c1 => simp; omega
    case c2 => exact hz
    · intro v2 w2 happ2
      have k2 : Kp No w w2 := K1.out.grown happ2.2.1 fun k hk e => by have := (hown1.lt k e).1; omega
      have hz2' := k2.size
      have K2 := Hid_mk k2
      have O2 := Hid_mk happ2.1
      clear hown1 happ2 k2
      go_wp2_with fail
      refine (lay_any w.heap.size w2 _ _ (pl.sum bs).1 s1 O2.out hz2' (by simp; omega)).mono ?_
      rintro e w3 ⟨v3, rfl, o3, k3⟩
      have O3 := Hid_mk o3
      have k3' : Kp No w w3 := K2.out.trans k3 fun i hi e => by have := (O2.out.lt i e.symm).1; omega
      have hz3 := k3'.size
      have K3 := Hid_mk k3'
      clear o3 k3 k3'
      go_wp2_with fail
      refine (lay_any w.heap.size w3 _ _ (pl.sum bs).2 s2 O3.out hz3 (by simp [part_len]; omega)).mono ?_
      rintro e w4 ⟨v4, rfl, o4, k4⟩
      have hfin : NewBs w (sealed bs) (.returned v4) w4 := by
        refine ⟨v4, rfl, ?_, K3.out.trans k4 fun i hi e => by have := (O3.out.lt i e.symm).1; omega⟩
        have e : sealed bs = [] ++ bs ++ part (pl.sum bs).1 ++ part (pl.sum bs).2 := by unfold sealed tail; simp
        rw [e]; exact o4
      have HF := Hid_mk hfin
      clear o4 k4 hfin
      go_wp2
      go_ret
      exact HF.out

end Go.Proofs.Ytbhhmbbldbgdnaa.seal
