/- frame.List. -/
import Derived.Test.YteekcbbdbciddaaGreatDoorFirstM
import Derived.Test.YteekcbbdbciddaaGreatDoorGoto

namespace Go.Proofs.YteekcbbdbciddaaGreatDoor.frm
open Go.RowKit Go.Proofs.YteekcbbdbciddaaGreatDoor.sum Go.Proofs.YteekcbbdbciddaaGreatDoor.kept Go.Proofs.YteekcbbdbciddaaGreatDoor.app Go.Proofs.YteekcbbdbciddaaGreatDoor.writer Go.Proofs.YteekcbbdbciddaaGreatDoor.clone Go.Proofs.YteekcbbdbciddaaGreatDoor.known Go.Proofs.YteekcbbdbciddaaGreatDoor.fl Go.Proofs.YteekcbbdbciddaaGreatDoor.seal Go.Proofs.YteekcbbdbciddaaGreatDoor.unseal Go.Proofs.YteekcbbdbciddaaGreatDoor.lst
set_option linter.unusedVariables false

def ListRel (w : World) (bs : List UInt8) (v i : Value) (wr : World) : Prop :=
  ∃ (k : Nat) (qs : Els), i = .int .i64 k ∧ Lo wr w.heap.size v qs ∧ At bs qs.texts k ∧ qs.length ≤ k ∧ Kp No w wr

def ListJ (w : World) (bs : List UInt8) (p : Value) (a : Act) (wr : World) : Prop :=
  ∃ v i u6 u7 u8 u9 u10 u11 u12 u13 u14 u15 u16 u17 u18 u19 u20 u21 u22 u23 u24 u25 u26 u27, a = { tmps := #[p, undef, .slice none 0 0, .int .i64 0, v, i, u6, u7, u8, u9, u10, u11, u12, u13, u14, u15, u16, u17, u18, u19, u20, u21, u22, u23, u24, u25, u26, u27], defers := [] } ∧ ListRel w bs v i wr

/-- what a call leaves that makes a list, and a place -/
def ListPost (w : World) (r : List (List UInt8) × Nat) (e : Ending) (w' : World) : Prop := ∃ v' qs, e = .returned (.tuple #[v', .int .i64 (r.2 : Int)]) ∧ Lo w' w.heap.size v' qs ∧ qs.texts = r.1 ∧ Kp No w w'

set_option maxRecDepth 100000 in
set_option maxHeartbeats 4000000 in
theorem list_any (w : World) (v : Value) (bs : List UInt8) (h : Bs w v bs) (hbl : bs.length ≤ 1000000000000) :
    Calls Tryz.prog 68 #[v] w (ListPost w (listP bs)) := by
  have H := Hid_mk h
  obtain ⟨a, cap, rfl, hlc, hm, -⟩ := h
  unfold maxLen at hm
  go_enter Tryz.func68, Tryz.ntmps68
  go_wp2
  refine scope_once 0 (ListJ w bs (.slice a bs.length cap)) (fun a' _ => bs.length - (intOf (a'.tmps.getD 5 undef)).toNat) rfl ?pass ?first
  case first =>
    intro pass
    have HP := Hid_mk pass
    clear pass
    go_wp2
    apply wp_label
    rename_i hK0
    exact hK0 _ _ (HP.out _ _ ⟨_, _, _, _, _, _, _, _, _, _, _, _, _, _, _, _, _, _, _, _, _, _, _, _, rfl, 0, [], rfl, Lo.nil _ _, At.start _, Nat.le_refl _, Kp.refl _ _⟩)
  case pass =>
    rintro a' wr ⟨v, i, u6, u7, u8, u9, u10, u11, u12, u13, u14, u15, u16, u17, u18, u19, u20, u21, u22, u23, u24, u25, u26, u27, rfl, k, qs, rfl, hlo, hat, hql, hkp⟩
    have hkb := hat.1
    obtain ⟨b', c', hsl, hbd⟩ := slice_from H.out k hkb
    have hf := first_any wr _ _ (hbd wr hkp)
    have HF := Hid_mk hf
    have HLo := Hid_mk hlo
    have HAt := Hid_mk hat
    have HKp := Hid_mk hkp
    have hws := hkp.size
    have hki : (k : Int) ≤ (bs.length : Int) := by omega
    clear hf hbd hlo hat hkp
    cases hfp : firstP (bs.drop k) with
    | none =>
      have HFp := Hid_mk hfp
      rw [hfp] at HF
      clear hfp
      go_wp2_with fail
      with_reducible refine HF.out.mono ?_
      rintro e w1 ⟨hk1, rfl⟩
      have hfin : ListPost w (listP bs) (.returned (.tuple #[v, .int .i64 k])) w1 := ⟨v, qs, by rw [HAt.out.done HFp.out], HLo.out.no hk1, by rw [HAt.out.done HFp.out], HKp.out.trans' hk1⟩
      have HFin := Hid_mk hfin
      clear hk1 hfin hsl
      go_wp2
      simp only [Exit.jump]
      go_ret2
      exact HFin.out
    | some xs =>
      obtain ⟨hxl, -, hxm⟩ := firstP_len hfp
      rw [List.length_drop] at hxl
      have hnext := HAt.out.next hfp
      have HN := Hid_mk hnext
      rw [hfp] at HF
      clear hfp hnext
      go_wp2_with fail
      with_reducible refine HF.out.mono ?_
      rintro e w1 ⟨hk1, v1, rfl, ho1⟩
      have HL1 := Hid_mk (HLo.out.no hk1)
      have HK1 := Hid_mk (HKp.out.trans' hk1)
      have hz1 := hk1.size
      have ho1' := owns_base ho1 hws
      obtain ⟨a9, c9, rfl⟩ : ∃ a c, v1 = .slice a xs.length c := by
        rcases owns_any ho1 with ⟨rfl, hz⟩ | ⟨g, cap, rfl, -⟩
        · exact ⟨none, 0, by rw [hz]⟩
        · exact ⟨_, _, rfl⟩
      have HO1 := Hid_mk ho1'
      clear hk1 ho1 ho1' hsl
      go_wp2_with (at_builtin; (refine wpList_push _ rfl _ _ rfl w.heap.size _ qs rfl (HL1.out.no ((Kp.refl No w1).alloc _)) ?b1 _ xs (owns_kept HO1.out ((Kp.refl No w1).alloc _) (fun _ _ => id)) w1.heap.size 1 rfl (heap_alloc_new w1 _) ?b2 ?_))
      case b1 => simp; omega
      case b2 => omega
      rintro v2 w2 ⟨hp1, hp2, hp3, g9, cc9, rfl⟩
      have hrel : ListRel w bs (.slice (some ⟨g9, 0, none⟩) (qs.length + 1) cc9) (.int .i64 ((k + (xs.length + 10) : Nat) : Int)) w2 := ⟨_, _, rfl, hp1, by simpa [Els.texts] using HN.out, by simp; omega, (HK1.out.alloc _).trans hp2 fun i hi e => by have := (HLo.out.row.lt i e.symm).1; omega⟩
      have HRel := Hid_mk hrel
      clear hrel hp1 hp2 hp3
      go_wp2
      go_step3
      have e9 : (k : Int) + (4 + (xs.length : Int) + 6) = ((k + (xs.length + 10) : Nat) : Int) := by omega
      rw [e9]
      refine ⟨rfl, ⟨_, _, _, _, _, _, _, _, _, _, _, _, _, _, _, _, _, _, _, _, _, _, _, _, rfl, HRel.out⟩, ?_⟩
      simp [intOf]
      omega

end Go.Proofs.YteekcbbdbciddaaGreatDoor.frm
