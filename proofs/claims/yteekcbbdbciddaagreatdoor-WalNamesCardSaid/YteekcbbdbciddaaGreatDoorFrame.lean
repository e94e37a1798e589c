/- frame.Frame. -/
import Derived.Test.YteekcbbdbciddaaGreatDoorLst
import Derived.Test.YteekcbbdbciddaaGreatDoorTurnedPlainM

namespace Go.Proofs.YteekcbbdbciddaaGreatDoor.frm
open Go.RowKit Go.Proofs.YteekcbbdbciddaaGreatDoor.sum Go.Proofs.YteekcbbdbciddaaGreatDoor.kept Go.Proofs.YteekcbbdbciddaaGreatDoor.app Go.Proofs.YteekcbbdbciddaaGreatDoor.writer Go.Proofs.YteekcbbdbciddaaGreatDoor.clone Go.Proofs.YteekcbbdbciddaaGreatDoor.known Go.Proofs.YteekcbbdbciddaaGreatDoor.fl Go.Proofs.YteekcbbdbciddaaGreatDoor.seal Go.Proofs.YteekcbbdbciddaaGreatDoor.unseal
set_option linter.unusedVariables false

/-- a length's four bytes, the lowest first -/
def len4 (n : Nat) : List UInt8 := [n.toUInt8, (n / 256).toUInt8, (n / 65536).toUInt8, (n / 16777216).toUInt8]
theorem len4_len (n : Nat) : (len4 n).length = 4 := rfl
def framed (bs : List UInt8) : List UInt8 := if bs.length ≤ 4194304 then len4 bs.length ++ sealed bs else []
theorem framed_some {bs : List UInt8} (h : bs.length ≤ 4194304) : framed bs = len4 bs.length ++ sealed bs := if_pos h
theorem framed_none {bs : List UInt8} (h : ¬ bs.length ≤ 4194304) : framed bs = [] := if_neg h
theorem framed_len {bs : List UInt8} (h : bs.length ≤ 4194304) : (framed bs).length = bs.length + 10 := by
  rw [framed_some h, List.length_append, len4_len, (turnedPlain.sealed_ok bs).1]; omega

theorem bs_len4 (w : World) (n : Nat) (hn : n ≤ 4194304) : Bs (w.alloc (.cells #[.int .u8 ((n : Int) % 256), .int .u8 ((n : Int) / 256 % 256), .int .u8 ((n : Int) / 65536), .int .u8 ((n : Int) / 16777216)] 5)) (.slice (some ⟨w.heap.size, 0, none⟩) 4 4) (len4 n) := by
  have e1 : (n : Int) % 256 = ((n % 256 : Nat) : Int) := by omega
  have e2 : (n : Int) / 256 % 256 = ((n / 256 % 256 : Nat) : Int) := by omega
  have e3 : (n : Int) / 65536 = ((n / 65536 % 256 : Nat) : Int) := by omega
  have e4 : (n : Int) / 16777216 = ((n / 16777216 % 256 : Nat) : Int) := by omega
  rw [e1, e2, e3, e4]
  refine ⟨_, 4, rfl, Nat.le_refl _, by decide, fun _ => ⟨_, _, rfl, fun k hk => ?_⟩⟩
  rw [len4_len] at hk
  match k, hk with
  | 0, _ => simp [B, len4, u8_toNat]
  | 1, _ => simp [B, len4, u8_toNat]
  | 2, _ => simp [B, len4, u8_toNat]
  | 3, _ => simp [B, len4, u8_toNat]

set_option maxRecDepth 100000 in
set_option maxHeartbeats 1000000 in
theorem frame_any (w : World) (v : Value) (bs : List UInt8) (h : Bs w v bs) :
    Calls Tryz.prog 23 #[v] w (NewBs w (framed bs)) := by
  obtain ⟨i0, hi, hz0, hz1, hz2⟩ := info_parts info5
  have H := Hid_mk h
  obtain ⟨a, cap, rfl, hlc, hm, -⟩ := h
  unfold maxLen at hm
  by_cases hb : bs.length ≤ 4194304
  · rw [framed_some hb]
    have hml : bs.length + 10 ≤ maxLen := by unfold maxLen; omega
    have hbi : ¬ (4194304 : Int) < (bs.length : Int) := by omega
    go_enter Tryz.func23, Tryz.ntmps23
    go_wp2_with (at_make; refine wpList_make_own _ rfl _ _ 34 rfl w.heap.size 5 i0 (.int .u8 0) 1 Tryz.underlying34 hi hz0 hz1 _ _ _ (4 + bs.length + 6) rfl rfl (by omega) ?b1 ?b2 (Nat.le_refl _) ?_)
    case b1 => omega
    case b2 => unfold maxLen; omega
    intro w1 hown1 hgr1
    have k1 : Kp No w w1 := (Kp.refl No w).grown hgr1 fun k hk e => by cases e
    have K1 := Hid_mk k1
    have hz : w.heap.size ≤ w1.heap.size := k1.size
    clear hgr1 k1
    go_wp2_with (at_builtin; (refine wpList_append_bs _ rfl _ _ rfl w.heap.size _ [] rfl (hown1.alloc _) _ (len4 bs.length) rfl (bs_len4 w1 bs.length hb) ?c1 ?c2 ?_))
    case c1 => simp [len4_len]
    case c2 => simp; omega
    intro v2 w2 happ2
    have k2 : Kp No w w2 := (K1.out.alloc _).grown happ2.2.1 fun k hk e => by have := (hown1.lt k e).1; omega
    have hz2' := k2.size
    have K2 := Hid_mk k2
    have O2 := Hid_mk happ2.1
    clear hown1 happ2 k2
    go_wp2_with fail
    with_reducible refine (seal_any w2 _ bs (bs_no H.out K2.out) (by omega)).mono ?_
    rintro e w3 ⟨v3, rfl, o3, k3⟩
    have K3 := Hid_mk (K2.out.trans' k3)
    have O3 := Hid_mk (owns_bs o3)
    have O23 := Hid_mk (owns_kept O2.out k3 fun _ _ => id)
    have hz3 := k3.size
    have hsl := (turnedPlain.sealed_ok bs).1
    have HSl := Hid_mk hsl
    clear o3 k3 hsl
    go_wp2_with (at_builtin; (refine wpList_append_bs _ rfl _ _ rfl w.heap.size _ ([] ++ len4 bs.length) rfl O23.out _ (sealed bs) rfl O3.out ?d1 ?d2 ?_))
    case d1 => rw [HSl.out]; simp [len4_len]; omega
    case d2 => omega
    intro v4 w4 happ
    have hfin : NewBs w (len4 bs.length ++ sealed bs) (.returned v4) w4 := ⟨v4, rfl, happ.1, K3.out.grown happ.2.1 fun k hk e => by have := (O23.out.lt k e).1; omega⟩
    have HF := Hid_mk hfin
    clear happ hfin
    go_wp2
    go_ret
    exact HF.out
  · rw [framed_none hb]
    have hbi : (4194304 : Int) < (bs.length : Int) := by omega
    go_enter Tryz.func23, Tryz.ntmps23
    go_wp2
    go_ret
    exact ⟨_, rfl, World.ownsRow_nil _ _ _ _, Kp.refl _ _⟩

end Go.Proofs.YteekcbbdbciddaaGreatDoor.frm
