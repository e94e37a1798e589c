/- The reference's Frame. -/
import Derived.Test.YtbhhmbbldbgdnaaRefUnseal
import Derived.Test.YtbhhmbbldbgdnaaFrame
namespace Go.Proofs.Ytbhhmbbldbgdnaa.ref
open Go.RowKit Go.Proofs.Ytbhhmbbldbgdnaa.sum Go.Proofs.Ytbhhmbbldbgdnaa.kept Go.Proofs.Ytbhhmbbldbgdnaa.app Go.Proofs.Ytbhhmbbldbgdnaa.writer Go.Proofs.Ytbhhmbbldbgdnaa.clone Go.Proofs.Ytbhhmbbldbgdnaa.known Go.Proofs.Ytbhhmbbldbgdnaa.seal Go.Proofs.Ytbhhmbbldbgdnaa.unseal Go.Proofs.Ytbhhmbbldbgdnaa.turnedPlain Go.Proofs.Ytbhhmbbldbgdnaa.frm
set_option linter.unusedVariables false

/-- four bytes, as laid by the call: a row of one's own -/
theorem own_len4 (w : World) (n : Nat) (hn : n ≤ 4194304) : (w.alloc (.cells #[.int .u8 ((n : Int) % 256), .int .u8 ((n : Int) / 256 % 256), .int .u8 ((n : Int) / 65536), .int .u8 ((n : Int) / 16777216)] 5)).ownsRow w.heap.size 5 1 (.slice (some ⟨w.heap.size, 0, none⟩) 4 4) (len4 n).length ((len4 n).map B) := by
  have e1 : (n : Int) % 256 = ((n % 256 : Nat) : Int) := by omega
  have e2 : (n : Int) / 256 % 256 = ((n / 256 % 256 : Nat) : Int) := by omega
  have e3 : (n : Int) / 65536 = ((n / 65536 % 256 : Nat) : Int) := by omega
  have e4 : (n : Int) / 16777216 = ((n / 16777216 % 256 : Nat) : Int) := by omega
  rw [e1, e2, e3, e4]
  refine ⟨rfl, .inr ⟨w.heap.size, 4, _, rfl, Nat.le_refl _, heap_alloc_new w _, Nat.le_refl _, by decide, rfl, ?_⟩⟩
  simp [len4, B, u8_toNat]

set_option maxRecDepth 100000 in
set_option maxHeartbeats 1000000 in
theorem frame_any (w : World) (v : Value) (bs : List UInt8) (h : Bs w v bs) :
    Calls Try.prog 25 #[v] w (NewBs w (framed bs)) := by
  have H := Hid_mk h
  obtain ⟨a, cap, rfl, hlc, hm, -⟩ := h
  unfold maxLen at hm
  by_cases hb : bs.length ≤ 4194304
  · rw [framed_some hb]
    have hbi : ¬ (4194304 : Int) < (bs.length : Int) := by omega
    have O1 := Hid_mk (own_len4 w bs.length hb)
    have k1 : Kp No w (w.alloc (.cells #[.int .u8 ((bs.length : Int) % 256), .int .u8 ((bs.length : Int) / 256 % 256), .int .u8 ((bs.length : Int) / 65536), .int .u8 ((bs.length : Int) / 16777216)] 5)) := (Kp.refl _ _).alloc _
    have HS := Hid_mk (ref.seal_any _ _ bs (bs_no H.out k1) (by omega))
    have K1 := Hid_mk k1
    clear k1
    go_enter Try.func25, Try.ntmps25
    go_wp2_with fail
    with_reducible refine HS.out.mono ?_
    rintro e w3 ⟨v3, rfl, o3, k3⟩
    have K3 := Hid_mk (K1.out.trans' k3)
    have O3 := Hid_mk (owns_bs o3)
    have O13 := Hid_mk (owns_kept O1.out k3 fun _ _ => id)
    have hz3 : w.heap.size ≤ w3.heap.size := K3.out.size
    have HSl := Hid_mk (turnedPlain.sealed_ok bs).1
    clear o3 k3
    go_wp2_with (at_builtin; (refine wpList_append_bs _ rfl _ _ rfl w.heap.size _ (len4 bs.length) rfl O13.out _ (sealed bs) rfl O3.out ?d1 ?d2 ?_))
    case d1 => rw [HSl.out]; simp [len4_len]; omega
    case d2 => omega
    intro v4 w4 happ
    have hfin : NewBs w (len4 bs.length ++ sealed bs) (.returned v4) w4 := ⟨v4, rfl, happ.1, K3.out.grown happ.2.1 fun k hk e => by have := (O13.out.lt k e).1; omega⟩
    have HF := Hid_mk hfin
    clear happ hfin
    go_wp2
    go_ret
    exact HF.out
  · rw [framed_none hb]
    have hbi : (4194304 : Int) < (bs.length : Int) := by omega
    go_enter Try.func25, Try.ntmps25
    go_wp2
    go_ret
    exact ⟨_, rfl, World.ownsRow_nil _ _ _ _, Kp.refl _ _⟩

end Go.Proofs.Ytbhhmbbldbgdnaa.ref
