/- The reference's Seal. -/
import Derived.Test.YtbhhmbbldbgdnaaRefSum
namespace Go.Proofs.Ytbhhmbbldbgdnaa.ref
open Go.RowKit Go.Proofs.Ytbhhmbbldbgdnaa.sum Go.Proofs.Ytbhhmbbldbgdnaa.kept Go.Proofs.Ytbhhmbbldbgdnaa.app Go.Proofs.Ytbhhmbbldbgdnaa.writer Go.Proofs.Ytbhhmbbldbgdnaa.clone Go.Proofs.Ytbhhmbbldbgdnaa.known Go.Proofs.Ytbhhmbbldbgdnaa.seal Go.Proofs.Ytbhhmbbldbgdnaa.unseal
set_option linter.unusedVariables false

/-- a literal of six bytes, as laid by the call -/
theorem bs_tail (w : World) (s : Nat × Nat) : Bs (w.alloc (.cells #[.int .u8 ((s.1 : Int) % 256), .int .u8 ((s.1 : Int) / 256 % 256), .int .u8 ((s.1 : Int) / 65536 % 256), .int .u8 ((s.2 : Int) % 256), .int .u8 ((s.2 : Int) / 256 % 256), .int .u8 ((s.2 : Int) / 65536 % 256)] 5)) (.slice (some ⟨w.heap.size, 0, none⟩) 6 6) (tail s) := by
  obtain ⟨m, n⟩ := s
  simp only
  have e1 : (m : Int) % 256 = ((m % 256 : Nat) : Int) := by omega
  have e2 : (m : Int) / 256 % 256 = ((m / 256 % 256 : Nat) : Int) := by omega
  have e3 : (m : Int) / 65536 % 256 = ((m / 65536 % 256 : Nat) : Int) := by omega
  have e4 : (n : Int) % 256 = ((n % 256 : Nat) : Int) := by omega
  have e5 : (n : Int) / 256 % 256 = ((n / 256 % 256 : Nat) : Int) := by omega
  have e6 : (n : Int) / 65536 % 256 = ((n / 65536 % 256 : Nat) : Int) := by omega
  rw [e1, e2, e3, e4, e5, e6]
  refine ⟨_, 6, rfl, Nat.le_refl _, by decide, fun _ => ⟨_, _, rfl, fun k hk => ?_⟩⟩
  rw [tail_len] at hk
  rw [show tail (m, n) = [m.toUInt8, (m / 256).toUInt8, (m / 65536).toUInt8, n.toUInt8, (n / 256).toUInt8, (n / 65536).toUInt8] from rfl]
  match k, hk with
  | 0, _ => simp [B, u8_toNat]
  | 1, _ => simp [B, u8_toNat]
  | 2, _ => simp [B, u8_toNat]
  | 3, _ => simp [B, u8_toNat]
  | 4, _ => simp [B, u8_toNat]
  | 5, _ => simp [B, u8_toNat]

set_option maxRecDepth 100000 in
set_option maxHeartbeats 2000000 in
theorem seal_any (w : World) (v : Value) (bs : List UInt8) (h : Bs w v bs) (hl : bs.length + 6 ≤ 140737488355328) :
    Calls Try.prog 41 #[v] w (NewBs w (sealed bs)) := by
  have H := Hid_mk h
  have k0 : Kp No w (w.alloc (.cells #[] 5)) := (Kp.refl _ _).alloc _
  have h0 : (w.alloc (.cells #[] 5)).ownsRow w.heap.size 5 1 (.slice (some ⟨w.heap.size, 0, none⟩) 0 0) 0 [] := World.ownsRow_made w #[] 0 (Nat.le_refl _) (by decide) rfl
  have HX := Hid_mk (bs_no h k0)
  clear h
  go_enter Try.func41, Try.ntmps41
  go_wp2_with fail
  refine (ref.sum_any w v bs H.out).mono ?_
  rintro e w' ⟨rfl, rfl⟩
  go_wp2_with (at_builtin; (refine wpList_append_bs _ rfl _ _ rfl w.heap.size _ [] rfl h0 _ bs rfl HX.out ?c1 ?c2 ?_))
  case c1 => simp; omega
  case c2 => simp
  intro v1 w1 happ
  have ho1 : w1.ownsRow w.heap.size 5 1 v1 bs.length (bs.map B) := by simpa using happ.1
  have HO := Hid_mk ho1
  have HK := Hid_mk (k0.grown happ.2.1 fun k hk e => by simp [Value.ownBlock] at e; omega)
  have hs1 := HK.out.size
  clear happ k0 h0 ho1
  go_wp2_with (at_builtin; (refine wpList_append_bs _ rfl _ _ rfl w.heap.size _ bs rfl (HO.out.alloc _) _ (tail (pl.sum bs)) rfl (bs_tail w1 (pl.sum bs)) ?c1 ?c2 ?_))
  case c1 => rw [tail_len]; exact hl
  case c2 => simp; omega
  intro v2 w2 happ
  have kp : Kp No w w2 := by
    refine (HK.out.alloc _).grown happ.2.1 fun k hk e => ?_
    rcases owns_any HO.out with ⟨rfl, _⟩ | ⟨g, cap, rfl, hg1, hg2⟩
    · simp [Value.ownBlock] at e
    · simp [Value.ownBlock] at e; omega
  have hfin : NewBs w (sealed bs) (.returned v2) w2 := ⟨v2, rfl, happ.1, kp⟩
  have HF := Hid_mk hfin
  obtain ⟨g, cap, rfl, hg1, hg2⟩ := owns_some happ.1 (by rw [List.length_append, tail_len]; omega)
  generalize (bs ++ tail (pl.sum bs)).length = L at *
  clear happ kp hfin
  go_wp2
  go_ret
  exact HF.out

end Go.Proofs.Ytbhhmbbldbgdnaa.ref
