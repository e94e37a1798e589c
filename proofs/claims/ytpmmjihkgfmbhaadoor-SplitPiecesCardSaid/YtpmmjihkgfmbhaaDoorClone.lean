/- bytes.Clone. -/
import Derived.Test.YtpmmjihkgfmbhaaDoorWriter0
namespace Go.Proofs.YtpmmjihkgfmbhaaDoor.clone
open Go.RowKit Go.Proofs.YtpmmjihkgfmbhaaDoor.sum Go.Proofs.YtpmmjihkgfmbhaaDoor.kept Go.Proofs.YtpmmjihkgfmbhaaDoor.app Go.Proofs.YtpmmjihkgfmbhaaDoor.writer
set_option linter.unusedVariables false

/-- A new row of these bytes, in new memory. -/
def NewBs (w : World) (bs : List UInt8) (e : Ending) (w' : World) : Prop :=
  ∃ v', e = .returned v' ∧ w'.ownsRow w.heap.size 5 1 v' bs.length (bs.map B) ∧ Kp No w w'

set_option maxHeartbeats 1000000 in
theorem clone_any (w : World) (v : Value) (bs : List UInt8) (h : Bs w v bs) (hl : bs.length ≤ 140737488355328) :
    Calls Tryd.prog 36 #[v] w (NewBs w bs) := by
  have H := Hid_mk h
  obtain ⟨a, cap, rfl, h1, h2, h3⟩ := h
  cases a with
  | none =>
    have hbs : bs = [] := Decidable.byContradiction fun hne => by obtain ⟨_, _, e, _⟩ := h3 hne; cases e
    subst hbs
    have hq : ∀ w, (binOp .eql 30 (.slice none 0 cap) (.slice none 0 0)).run Tryd.prog w = .ok (.bool true) w := fun w => Lib.run_eql_slice_nil w 30 5 none 0 cap 0 0 Tryd.underlying30
    clear h1 h2 h3
    go_enter Tryd.func36, Tryd.ntmps36
    go_wp2
    go_ret
    exact ⟨_, rfl, World.ownsRow_nil _ _ _ _, Kp.refl _ _⟩
  | some ad =>
    have hq : ∀ w, (binOp .eql 30 (.slice (some ad) bs.length cap) (.slice none 0 0)).run Tryd.prog w = .ok (.bool false) w := fun w => Lib.run_eql_slice_nil w 30 5 (some ad) bs.length cap 0 0 Tryd.underlying30
    have k0 : Kp No w (w.alloc (.cells #[] 5)) := (Kp.refl _ _).alloc _
    have h0 : (w.alloc (.cells #[] 5)).ownsRow w.heap.size 5 1 (.slice (some ⟨w.heap.size, 0, none⟩) 0 0) 0 [] := World.ownsRow_made w #[] 0 (Nat.le_refl _) (by decide) rfl
    have hx := bs_no H.out k0
    have HX := Hid_mk hx
    clear hx h1 h2 h3
    go_enter Tryd.func36, Tryd.ntmps36
    go_wp2_with (at_builtin; (refine wpList_append_bs _ rfl _ _ rfl w.heap.size _ [] rfl h0 _ bs rfl HX.out ?c1 ?c2 ?_))
    case c1 => simpa using hl
    case c2 => simp
    · intro v' w1 happ
      have hfin : NewBs w bs (.returned v') w1 := ⟨v', rfl, by simpa using happ.1, k0.grown happ.2.1 fun k hk e => by simp [Value.ownBlock] at e; omega⟩
      have HF := Hid_mk hfin
      clear h0 k0 happ hfin
      go_wp2
      go_ret
      exact HF.out

end Go.Proofs.YtpmmjihkgfmbhaaDoor.clone
