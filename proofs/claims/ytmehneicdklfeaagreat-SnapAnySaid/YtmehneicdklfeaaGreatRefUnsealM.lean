/- The reference's Unseal: it answers as the project's. The reference's Frame. A scope in which the run jumps back to one label, walked once; a slice's end. frame.List. The reference's List. The reference's snapshot: what it asks of its disk, and Save. -/
import Derived.Test.YtmehneicdklfeaaGreatFirstM
import Derived.Test.YtmehneicdklfeaaGreatPlainM
import Derived.Test.YtmehneicdklfeaaGreatFsUsedM
import Derived.Test.YtmehneicdklfeaaGreatLstM
import Derived.ScopeJumps
import Derived.WalkMore

namespace Go.Proofs.YtmehneicdklfeaaGreat.ref
open Go.RowKit Go.Proofs.YtmehneicdklfeaaGreat.sum Go.Proofs.YtmehneicdklfeaaGreat.kept Go.Proofs.YtmehneicdklfeaaGreat.app Go.Proofs.YtmehneicdklfeaaGreat.writer Go.Proofs.YtmehneicdklfeaaGreat.clone Go.Proofs.YtmehneicdklfeaaGreat.known Go.Proofs.YtmehneicdklfeaaGreat.seal Go.Proofs.YtmehneicdklfeaaGreat.unseal Go.Proofs.YtmehneicdklfeaaGreat.turnedPlain
set_option linter.unusedVariables false

/-- what is sealed is just what the project unseals -/
theorem seal_iff (bs : List UInt8) (h : 6 ≤ bs.length) : sealed (bs.take (bs.length - 6)) = bs ↔ pl.sum (bs.take (bs.length - 6)) = said (bs.drop (bs.length - 6)) := by
  have hl : (bs.take (bs.length - 6)).length = bs.length - 6 := by rw [List.length_take]; omega
  constructor
  · intro e
    have := (sealed_ok (bs.take (bs.length - 6))).2.2
    rw [e, hl] at this
    exact this.symm
  · intro e
    have h2 := said_tail _ (pl.sum_lt (bs.take (bs.length - 6)))
    rw [e] at h2
    have h3 := said_inj (tail_len _) (by rw [List.length_drop]; omega) h2
    unfold sealed
    rw [e, h3, List.take_append_drop]

theorem str_ne {xs ys : List UInt8} (h : xs ≠ ys) : (⟨xs.toArray⟩ : ByteArray) ≠ ⟨ys.toArray⟩ := by
  intro e
  injection e with e
  exact h (by simpa using e)

set_option maxRecDepth 100000 in
set_option maxHeartbeats 2000000 in
theorem unseal_short (w : World) (v : Value) (bs : List UInt8) (h : Bs w v bs) (hl : bs.length < 6) :
    Calls Tryz.prog 62 #[v] w fun e w' => e = .returned (.tuple #[.slice none 0 0, .int .i64 10]) ∧ w = w' := by
  obtain ⟨a, cap, rfl, hlc, hm, hc⟩ := h
  unfold maxLen at hm
  have hlt : (bs.length : Int) - 6 < 0 := by omega
  generalize bs.length = len at *
  clear hc
  go_enter Tryz.func62, Tryz.ntmps62
  go_wp2
  go_ret2
  exact ⟨rfl, rfl⟩

set_option maxRecDepth 100000 in
set_option maxHeartbeats 4000000 in
theorem unseal_long (w : World) (b o k cap : Nat) (bs : List UInt8) (h : Bs w (.slice (some ⟨b, o, none⟩) (k + 6) cap) bs) (hm : k + 6 ≤ 140737488355328) :
    Calls Tryz.prog 62 #[.slice (some ⟨b, o, none⟩) (k + 6) cap] w fun e w' => if sealed (bs.take k) = bs then Unsealed w (bs.take k) e w' else Broken w 13 e w' := by
  have hl : bs.length = k + 6 := by obtain ⟨_, _, e, _⟩ := h; simp only [Value.slice.injEq] at e; exact e.2.1.symm
  have hcap : k + 6 ≤ cap := by obtain ⟨_, _, e, h1, _⟩ := h; simp only [Value.slice.injEq] at e; rw [hl] at h1; rw [e.2.2]; exact h1
  have hx := bs_take h k (by omega)
  have HX := Hid_mk hx
  have H := Hid_mk h
  have hxl : (bs.take k).length = k := by rw [List.length_take]; omega
  have HXL := Hid_mk hxl
  have hcall : ∀ W, Kp No w W → Calls Tryz.prog 43 #[.slice (some ⟨b, o, none⟩) k cap] W fun e W1 => ∃ v', e = .returned v' ∧ Bs W1 v' (sealed (bs.take k)) ∧ Bs W1 (.slice (some ⟨b, o, none⟩) (k + 6) cap) bs ∧ Kp No w W1 := by
    intro W hW
    refine (ref.seal_any W _ (bs.take k) (bs_no HX.out hW) (by rw [HXL.out]; omega)).mono ?_
    rintro e W1 ⟨v', rfl, ho, hk⟩
    exact ⟨v', rfl, owns_bs ho, bs_no H.out (hW.trans' hk), hW.trans' hk⟩
  have HCall := Hid_mk hcall
  have hconv := conv_bs (bs_no H.out (Kp.refl No w).drew)
  have hneg : ¬ ((k : Int) < 0) := by omega
  clear hcall hx hxl h hl
  by_cases hs : sealed (bs.take k) = bs
  · simp only [hs, if_true]
    rw [hs] at HCall
    have HS := Hid_mk hs
    clear hs
    go_enter Tryz.func62, Tryz.ntmps62
    go_wp2
    go_region_with (go_at_call 43; refine (HCall.out _ (by exact ⟨rfl, rfl, rfl, Nat.le_refl _, fun _ _ _ => rfl⟩)).mono ?_; rintro e w6 ⟨v6, rfl, hb6, hb46, hk6⟩; have hcv6 := conv_bs hb6; have hcv46 := conv_bs hb46; have HK6 := Hid_mk hk6; clear hb6 hb46 hk6)
    all_goals
      clear hconv hcv6 hcv46
      go_wp2_with (at_builtin; (refine wpList_append_bs _ rfl _ _ rfl _ _ [] rfl (World.ownsRow_made _ #[] 0 (Nat.le_refl _) (by decide) rfl) _ (bs.take k) rfl (bs_no HX.out ((HK6.out.trans' (by exact ⟨rfl, rfl, rfl, Nat.le_refl _, fun _ _ _ => rfl⟩)).alloc _)) ?c1 ?c2 ?_))
      case c1 => have := HXL.out; simp; omega
      case c2 => simp
      intro v' w7 happ
      have hfin : Unsealed w (bs.take k) (.returned (.tuple #[v', .int .i64 0])) w7 := by
        have hs6 := HK6.out.size
        refine ⟨((HK6.out.trans' (by exact ⟨rfl, rfl, rfl, Nat.le_refl _, fun _ _ _ => rfl⟩)).alloc _).grown happ.2.1 fun i hi e => ?_, v', rfl, ?_⟩
        · simp [Value.ownBlock] at e; omega
        · exact owns_base (by simpa using happ.1) (by simpa using hs6)
      have HF := Hid_mk hfin
      clear happ hfin
      go_wp2
      go_ret2
      exact HF.out
  · simp only [hs, if_false]
    have hne : (sealed (bs.take k) == bs) = false := by simpa using hs
    clear hs
    go_enter Tryz.func62, Tryz.ntmps62
    go_wp2
    go_region_with (go_at_call 43; refine (HCall.out _ (by exact ⟨rfl, rfl, rfl, Nat.le_refl _, fun _ _ _ => rfl⟩)).mono ?_; rintro e w6 ⟨v6, rfl, hb6, hb46, hk6⟩; have hcv6 := conv_bs hb6; have hcv46 := conv_bs hb46; have HK6 := Hid_mk hk6; clear hb6 hb46 hk6)
    all_goals
      go_wp2
      go_ret2
      exact ⟨HK6.out.trans' ⟨rfl, rfl, rfl, Nat.le_refl _, fun _ _ _ => rfl⟩, rfl⟩

end Go.Proofs.YtmehneicdklfeaaGreat.ref

namespace Go.Proofs.YtmehneicdklfeaaGreat.ref
open Go.RowKit Go.Proofs.YtmehneicdklfeaaGreat.sum Go.Proofs.YtmehneicdklfeaaGreat.kept Go.Proofs.YtmehneicdklfeaaGreat.app Go.Proofs.YtmehneicdklfeaaGreat.writer Go.Proofs.YtmehneicdklfeaaGreat.clone Go.Proofs.YtmehneicdklfeaaGreat.known Go.Proofs.YtmehneicdklfeaaGreat.seal Go.Proofs.YtmehneicdklfeaaGreat.unseal Go.Proofs.YtmehneicdklfeaaGreat.turnedPlain Go.Proofs.YtmehneicdklfeaaGreat.frm
set_option linter.unusedVariables false

/-- four bytes, as laid by the call: a row of one's own -/
theorem own_len4 (w : World) (n : Nat) (hn : n ≤ 4194304) : (w.alloc (.cells #[.int .u8 ((n : Int) % 256), .int .u8 ((n : Int) / 256 % 256), .int .u8 ((n : Int) / 65536), .int .u8 ((n : Int) / 16777216)] 5)).ownsRow w.heap.size 5 1 (.slice (some ⟨w.heap.size, 0, none⟩) 4 4) (len4 n).length ((len4 n).map B) := by
  have e1 : (n : Int) % 256 = ((n % 256 : Nat) : Int) := by omega
  have e2 : (n : Int) / 256 % 256 = ((n / 256 % 256 : Nat) : Int) := by omega
  have e3 : (n : Int) / 65536 = ((n / 65536 % 256 : Nat) : Int) := by omega
  have e4 : (n : Int) / 16777216 = ((n / 16777216 % 256 : Nat) : Int) := by omega
  rw [e1, e2, e3, e4]
  refine ⟨rfl, .inr ⟨w.heap.size, 4, _, rfl, Nat.le_refl _, heap_alloc_new w _, Nat.le_refl _, by decide, rfl, ?_⟩⟩
  simp [len4, B, u8_toNat]

set_option maxRecDepth 100000 in
set_option maxHeartbeats 1000000 in
theorem frame_any (w : World) (v : Value) (bs : List UInt8) (h : Bs w v bs) :
    Calls Tryz.prog 14 #[v] w (NewBs w (framed bs)) := by
  have H := Hid_mk h
  obtain ⟨a, cap, rfl, hlc, hm, -⟩ := h
  unfold maxLen at hm
  by_cases hb : bs.length ≤ 4194304
  · rw [framed_some hb]
    have hbi : ¬ (4194304 : Int) < (bs.length : Int) := by omega
    have O1 := Hid_mk (own_len4 w bs.length hb)
    have k1 : Kp No w (w.alloc (.cells #[.int .u8 ((bs.length : Int) % 256), .int .u8 ((bs.length : Int) / 256 % 256), .int .u8 ((bs.length : Int) / 65536), .int .u8 ((bs.length : Int) / 16777216)] 5)) := (Kp.refl _ _).alloc _
    have HS := Hid_mk (ref.seal_any _ _ bs (bs_no H.out k1) (by omega))
    have K1 := Hid_mk k1
    clear k1
    go_enter Tryz.func14, Tryz.ntmps14
    go_wp2_with fail
    with_reducible refine HS.out.mono ?_
    rintro e w3 ⟨v3, rfl, o3, k3⟩
    have K3 := Hid_mk (K1.out.trans' k3)
    have O3 := Hid_mk (owns_bs o3)
    have O13 := Hid_mk (owns_kept O1.out k3 fun _ _ => id)
    have hz3 : w.heap.size ≤ w3.heap.size := K3.out.size
    have HSl := Hid_mk (turnedPlain.sealed_ok bs).1
    clear o3 k3
    go_wp2_with (at_builtin; (refine wpList_append_bs _ rfl _ _ rfl w.heap.size _ (len4 bs.length) rfl O13.out _ (sealed bs) rfl O3.out ?d1 ?d2 ?_))
    case d1 => rw [HSl.out]; simp [len4_len]; omega
    case d2 => omega
    intro v4 w4 happ
    have hfin : NewBs w (len4 bs.length ++ sealed bs) (.returned v4) w4 := ⟨v4, rfl, happ.1, K3.out.grown happ.2.1 fun k hk e => by have := (O13.out.lt k e).1; omega⟩
    have HF := Hid_mk hfin
    clear happ hfin
    go_wp2
    go_ret
    exact HF.out
  · rw [framed_none hb]
    have hbi : (4194304 : Int) < (bs.length : Int) := by omega
    go_enter Tryz.func14, Tryz.ntmps14
    go_wp2
    go_ret
    exact ⟨_, rfl, World.ownsRow_nil _ _ _ _, Kp.refl _ _⟩

end Go.Proofs.YtmehneicdklfeaaGreat.ref

namespace Go.Proofs.YtmehneicdklfeaaGreat.lst
open Go.RowKit Go.Proofs.YtmehneicdklfeaaGreat.sum Go.Proofs.YtmehneicdklfeaaGreat.kept Go.Proofs.YtmehneicdklfeaaGreat.app Go.Proofs.YtmehneicdklfeaaGreat.writer Go.Proofs.YtmehneicdklfeaaGreat.clone Go.Proofs.YtmehneicdklfeaaGreat.unseal
set_option linter.unusedVariables false

theorem scope_once {P : Program} {a : Act} {w : World} {Q : Exit → Act → World → Prop} {c X : Code} (l : Nat) (J : Act → World → Prop) (μ : Act → World → Nat) (hf : findLabel c l = some (.seq .skip X))
    (pass : ∀ a w, J a w → X.wp P (Exit.jump l (fun a' w' => J a' w' ∧ μ a' w' < μ a w) Q) a w)
    (first : (∀ a w, J a w → X.wp P (Exit.jump l J Q) a w) → c.wp P (Exit.jump l J Q) a w) : (Code.scope c).wp P Q a w := by
  refine wp_scope_jumps l J μ hf (first fun a w hJ => Code.wp_mono ?_ (pass a w hJ)) fun a w hJ => wp_seq (wp_skip (pass a w hJ))
  intro e a w h
  cases e <;> first | exact h | exact ⟨h.1, h.2.1⟩

/-- what stands from a place on -/
theorem slice_from {w : World} {a : Option Addr} {len cap : Nat} {bs : List UInt8} (h : Bs w (.slice a len cap) bs) (k : Nat) (hk : k ≤ bs.length) :
    ∃ b' c', (∀ W, (Instr.sliceAt 29 (.slice a len cap) (some (.int .i64 (k : Int))) none none).run Tryz.prog W = .ok (.slice b' (bs.length - k) c') W) ∧ ∀ w', Kp No w w' → Bs w' (.slice b' (bs.length - k) c') (bs.drop k) := by
  have H := h
  obtain ⟨a, c, e, h1, h2, h3⟩ := h
  simp only [Value.slice.injEq] at e
  obtain ⟨rfl, rfl, rfl⟩ := e
  refine ⟨if cap = k then a else a.map (·.add k), cap - k, fun W => ?_, fun w' hk' => ?_⟩
  · obtain ⟨i0, hi, hz0, hz1, hz2⟩ := info_parts info5
    have hu : Tryz.prog.underlying 29 = some (.slice (Tryz.prog.elem 29)) := by kernel_rfl
    have he : Tryz.prog.elem 29 = 5 := by kernel_rfl
    rw [run_sliceAt_slice W _ _ _ _ _ hu, run_slice_l W _ _ _ _ hu .i64 (k : Int) (by omega) (by omega)]
    simp [he, sizeOf, typeInfo, hi, hz1, sliced, Result.andThen]
  · refine bs_no ?_ hk'
    by_cases hne : bs = []
    · subst hne
      simp only [List.length_nil, Nat.le_zero] at hk
      subst hk
      refine ⟨_, _, rfl, ?_, by omega, fun h => absurd rfl h⟩
      simp
    · obtain ⟨b, o, rfl, hc⟩ := h3 hne
      have := bs_drop H k hk (if cap = k then some ⟨b, o, none⟩ else some ⟨b, o + k, none⟩) (fun h => if_neg (fun e => h e.symm))
      rw [Option.map_some, addr_add]
      exact this

end Go.Proofs.YtmehneicdklfeaaGreat.lst

namespace Go.Proofs.YtmehneicdklfeaaGreat.frm
open Go.RowKit Go.Proofs.YtmehneicdklfeaaGreat.sum Go.Proofs.YtmehneicdklfeaaGreat.kept Go.Proofs.YtmehneicdklfeaaGreat.app Go.Proofs.YtmehneicdklfeaaGreat.writer Go.Proofs.YtmehneicdklfeaaGreat.clone Go.Proofs.YtmehneicdklfeaaGreat.known Go.Proofs.YtmehneicdklfeaaGreat.fl Go.Proofs.YtmehneicdklfeaaGreat.seal Go.Proofs.YtmehneicdklfeaaGreat.unseal Go.Proofs.YtmehneicdklfeaaGreat.lst
set_option linter.unusedVariables false

def ListRel (w : World) (bs : List UInt8) (v i : Value) (wr : World) : Prop :=
  ∃ (k : Nat) (qs : Els), i = .int .i64 k ∧ Lo wr w.heap.size v qs ∧ At bs qs.texts k ∧ qs.length ≤ k ∧ Kp No w wr

def ListJ (w : World) (bs : List UInt8) (p : Value) (a : Act) (wr : World) : Prop :=
  ∃ v i u6 u7 u8 u9 u10 u11 u12 u13 u14 u15 u16 u17 u18 u19 u20 u21 u22 u23 u24 u25 u26 u27, a = { tmps := #[p, undef, .slice none 0 0, .int .i64 0, v, i, u6, u7, u8, u9, u10, u11, u12, u13, u14, u15, u16, u17, u18, u19, u20, u21, u22, u23, u24, u25, u26, u27], defers := [] } ∧ ListRel w bs v i wr

/-- what a call leaves that makes a list, and a place -/
def ListPost (w : World) (r : List (List UInt8) × Nat) (e : Ending) (w' : World) : Prop := ∃ v' qs, e = .returned (.tuple #[v', .int .i64 (r.2 : Int)]) ∧ Lo w' w.heap.size v' qs ∧ qs.texts = r.1 ∧ Kp No w w'

set_option maxRecDepth 100000 in
set_option maxHeartbeats 4000000 in
theorem list_any (w : World) (v : Value) (bs : List UInt8) (h : Bs w v bs) (hbl : bs.length ≤ 1000000000000) :
    Calls Tryz.prog 28 #[v] w (ListPost w (listP bs)) := by
  have H := Hid_mk h
  obtain ⟨a, cap, rfl, hlc, hm, -⟩ := h
  unfold maxLen at hm
  go_enter Tryz.func28, Tryz.ntmps28
  go_wp2
  refine scope_once 0 (ListJ w bs (.slice a bs.length cap)) (fun a' _ => bs.length - (intOf (a'.tmps.getD 5 undef)).toNat) rfl ?pass ?first
  case first =>
    intro pass
    have HP := Hid_mk pass
    clear pass
    go_wp2
    apply wp_label
    rename_i hK0
    exact hK0 _ _ (HP.out _ _ ⟨_, _, _, _, _, _, _, _, _, _, _, _, _, _, _, _, _, _, _, _, _, _, _, _, rfl, 0, [], rfl, Lo.nil _ _, At.start _, Nat.le_refl _, Kp.refl _ _⟩)
  case pass =>
    rintro a' wr ⟨v, i, u6, u7, u8, u9, u10, u11, u12, u13, u14, u15, u16, u17, u18, u19, u20, u21, u22, u23, u24, u25, u26, u27, rfl, k, qs, rfl, hlo, hat, hql, hkp⟩
    have hkb := hat.1
    obtain ⟨b', c', hsl, hbd⟩ := slice_from H.out k hkb
    have hf := first_any wr _ _ (hbd wr hkp)
    have HF := Hid_mk hf
    have HLo := Hid_mk hlo
    have HAt := Hid_mk hat
    have HKp := Hid_mk hkp
    have hws := hkp.size
    have hki : (k : Int) ≤ (bs.length : Int) := by omega
    clear hf hbd hlo hat hkp
    cases hfp : firstP (bs.drop k) with
    | none =>
      have HFp := Hid_mk hfp
      rw [hfp] at HF
      clear hfp
      go_wp2_with fail
      with_reducible refine HF.out.mono ?_
      rintro e w1 ⟨hk1, rfl⟩
      have hfin : ListPost w (listP bs) (.returned (.tuple #[v, .int .i64 k])) w1 := ⟨v, qs, by rw [HAt.out.done HFp.out], HLo.out.no hk1, by rw [HAt.out.done HFp.out], HKp.out.trans' hk1⟩
      have HFin := Hid_mk hfin
      clear hk1 hfin hsl
      go_wp2
      simp only [Exit.jump]
      go_ret2
      exact HFin.out
    | some xs =>
      obtain ⟨hxl, -, hxm⟩ := firstP_len hfp
      rw [List.length_drop] at hxl
      have hnext := HAt.out.next hfp
      have HN := Hid_mk hnext
      rw [hfp] at HF
      clear hfp hnext
      go_wp2_with fail
      with_reducible refine HF.out.mono ?_
      rintro e w1 ⟨hk1, v1, rfl, ho1⟩
      have HL1 := Hid_mk (HLo.out.no hk1)
      have HK1 := Hid_mk (HKp.out.trans' hk1)
      have hz1 := hk1.size
      have ho1' := owns_base ho1 hws
      obtain ⟨a9, c9, rfl⟩ : ∃ a c, v1 = .slice a xs.length c := by
        rcases owns_any ho1 with ⟨rfl, hz⟩ | ⟨g, cap, rfl, -⟩
        · exact ⟨none, 0, by rw [hz]⟩
        · exact ⟨_, _, rfl⟩
      have HO1 := Hid_mk ho1'
      clear hk1 ho1 ho1' hsl
      go_wp2_with (at_builtin; (refine wpList_push _ rfl _ _ rfl w.heap.size _ qs rfl (HL1.out.no ((Kp.refl No w1).alloc _)) ?b1 _ xs (owns_kept HO1.out ((Kp.refl No w1).alloc _) (fun _ _ => id)) w1.heap.size 1 rfl (heap_alloc_new w1 _) ?b2 ?_))
      case b1 => simp; omega
      case b2 => omega
      rintro v2 w2 ⟨hp1, hp2, hp3, g9, cc9, rfl⟩
      have hrel : ListRel w bs (.slice (some ⟨g9, 0, none⟩) (qs.length + 1) cc9) (.int .i64 ((k + (xs.length + 10) : Nat) : Int)) w2 := ⟨_, _, rfl, hp1, by simpa [Els.texts] using HN.out, by simp; omega, (HK1.out.alloc _).trans hp2 fun i hi e => by have := (HLo.out.row.lt i e.symm).1; omega⟩
      have HRel := Hid_mk hrel
      clear hrel hp1 hp2 hp3
      go_wp2
      go_step3
      have e9 : (k : Int) + (4 + (xs.length : Int) + 6) = ((k + (xs.length + 10) : Nat) : Int) := by omega
      rw [e9]
      refine ⟨rfl, ⟨_, _, _, _, _, _, _, _, _, _, _, _, _, _, _, _, _, _, _, _, _, _, _, _, rfl, HRel.out⟩, ?_⟩
      simp [intOf]
      omega

end Go.Proofs.YtmehneicdklfeaaGreat.frm

namespace Go.Proofs.YtmehneicdklfeaaGreat.ref
open Go.RowKit Go.Proofs.YtmehneicdklfeaaGreat.sum Go.Proofs.YtmehneicdklfeaaGreat.kept Go.Proofs.YtmehneicdklfeaaGreat.app Go.Proofs.YtmehneicdklfeaaGreat.writer Go.Proofs.YtmehneicdklfeaaGreat.clone Go.Proofs.YtmehneicdklfeaaGreat.known Go.Proofs.YtmehneicdklfeaaGreat.seal Go.Proofs.YtmehneicdklfeaaGreat.unseal Go.Proofs.YtmehneicdklfeaaGreat.turnedPlain Go.Proofs.YtmehneicdklfeaaGreat.frm Go.Proofs.YtmehneicdklfeaaGreat.lst
set_option linter.unusedVariables false

theorem slice_mid {w : World} {b o len cap : Nat} {bs : List UInt8} (h : Bs w (.slice (some ⟨b, o, none⟩) len cap) bs) (k n : Nat) (hk : k + 10 + n ≤ bs.length) (X Y : Int) (hX : X = ((k + 4 : Nat) : Int)) (hY : Y = ((k + 10 + n : Nat) : Int)) :
    (∀ W, (Instr.sliceAt 29 (.slice (some ⟨b, o, none⟩) len cap) (some (.int .i64 X)) (some (.int .i64 Y)) none).run Tryz.prog W = .ok (.slice (some ⟨b, o + (k + 4), none⟩) (n + 6) (cap - (k + 4))) W) ∧
      ∀ w', Kp No w w' → Bs w' (.slice (some ⟨b, o + (k + 4), none⟩) (n + 6) (cap - (k + 4))) (((bs.drop k).drop 4).take (n + 6)) := by
  have H := h
  obtain ⟨a, c, e, h1, h2, h3⟩ := h
  simp only [Value.slice.injEq] at e
  obtain ⟨rfl, rfl, rfl⟩ := e
  subst hX hY
  refine ⟨fun W => ?_, fun w' hk' => ?_⟩
  · obtain ⟨i0, hi, hz0, hz1, hz2⟩ := info_parts info5
    have hu : Tryz.prog.underlying 29 = some (.slice (Tryz.prog.elem 29)) := by kernel_rfl
    have he : Tryz.prog.elem 29 = 5 := by kernel_rfl
    rw [run_sliceAt_slice W _ _ _ _ _ hu, run_slice_lh W _ _ _ _ hu .i64 .i64 ((k + 4 : Nat) : Int) ((k + 10 + n : Nat) : Int) (by omega) (by omega) (by omega)]
    have e1 : k + 10 + n - (k + 4) = n + 6 := by omega
    simp only [Int.toNat_natCast, sliced, e1, if_neg (show ¬ cap = k + 4 by omega)]
    simp [he, sizeOf, typeInfo, hi, hz1, Result.andThen, addr_add]
  · refine bs_no ?_ hk'
    have h5 := bs_drop H (k + 4) (by omega) (some ⟨b, o + (k + 4), none⟩) (fun _ => rfl)
    have h6 := bs_take h5 (n + 6) (by omega)
    rw [List.drop_drop]
    exact h6

/-- what the reference asks of what stands at a place is what package frame asks -/
theorem firstP_ref {t : List UInt8} (h4 : 4 ≤ t.length) (h1 : num4 t ≤ 4194304) (h2 : num4 t + 10 ≤ t.length) :
    firstP t = if sealed (((t.drop 4).take (num4 t + 6)).take (num4 t)) = (t.drop 4).take (num4 t + 6) then some (((t.drop 4).take (num4 t + 6)).take (num4 t)) else none := by
  have hl : ((t.drop 4).take (num4 t + 6)).length = num4 t + 6 := by rw [List.length_take, List.length_drop]; omega
  have hs := seal_iff ((t.drop 4).take (num4 t + 6)) (by omega)
  rw [hl, show num4 t + 6 - 6 = num4 t by omega] at hs
  unfold firstP
  by_cases hc : pl.sum (((t.drop 4).take (num4 t + 6)).take (num4 t)) = said (((t.drop 4).take (num4 t + 6)).drop (num4 t))
  · rw [if_pos ⟨h4, h1, h2, hc⟩, if_pos (hs.2 hc)]
  · rw [if_neg (fun h => hc h.2.2.2), if_neg (fun h => hc (hs.1 h))]

set_option maxRecDepth 100000 in
set_option maxHeartbeats 8000000 in
theorem list_any (w : World) (v : Value) (bs : List UInt8) (h : Bs w v bs) (hbl : bs.length ≤ 1000000000000) :
    Calls Tryz.prog 32 #[v] w (ListPost w (listP bs)) := by
  have H := Hid_mk h
  obtain ⟨a, cap, rfl, hlc, hm, hcell⟩ := h
  have HCell := Hid_mk hcell
  unfold maxLen at hm
  clear hcell
  go_enter Tryz.func32, Tryz.ntmps32
  go_wp2
  go_loopw [4, 5] (fun v i wr => ListRel w bs v i wr) (fun _ i _ => bs.length - (intOf i).toNat)
  case atStart => exact ⟨0, [], rfl, Lo.nil _ _, At.start _, Nat.le_refl _, Kp.refl _ _⟩
  case round =>
    obtain ⟨k, qs, rfl, hlo, hat, hql, hkp⟩ := hrel
    have hkb := hat.1
    have HLo := Hid_mk hlo
    have HAt := Hid_mk hat
    have HKp := Hid_mk hkp
    have hws := hkp.size
    have hki : (k : Int) ≤ (bs.length : Int) := by omega
    clear hlo hat hkp
    by_cases h4 : k + 4 ≤ bs.length
    · have h4i : (4 : Int) ≤ (bs.length : Int) - (k : Int) := by omega
      obtain ⟨b, o, rfl, hcell⟩ := HCell.out (by intro e; rw [e] at h4; simp at h4)
      have c0 := HKp.out.cell' (hcell k (by omega)) id
      have c1 := HKp.out.cell' (hcell (k + 1) (by omega)) id
      have c2 := HKp.out.cell' (hcell (k + 2) (by omega)) id
      have c3 := HKp.out.cell' (hcell (k + 3) (by omega)) id
      have hnum : num4 (bs.drop k) = (bs.getD k 0).toNat + 256 * (bs.getD (k + 1) 0).toNat + 65536 * (bs.getD (k + 2) 0).toNat + 16777216 * (bs.getD (k + 3) 0).toNat := by
        unfold num4 num3
        simp [List.getD]
      unfold B at c0 c1 c2 c3
      obtain ⟨n, hn⟩ : ∃ n, num4 (bs.drop k) = n := ⟨_, rfl⟩
      have HN := Hid_mk hn
      rw [hn] at hnum
      have x0 : (bs.getD k 0).toNat < 256 := UInt8.toNat_lt _
      have x1 : (bs.getD (k + 1) 0).toNat < 256 := UInt8.toNat_lt _
      have x2 : (bs.getD (k + 2) 0).toNat < 256 := UInt8.toNat_lt _
      have x3 : (bs.getD (k + 3) 0).toNat < 256 := UInt8.toNat_lt _
      generalize (bs.getD k 0).toNat = p at *
      generalize (bs.getD (k + 1) 0).toNat = q at *
      generalize (bs.getD (k + 2) 0).toNat = r at *
      generalize (bs.getD (k + 3) 0).toNat = s at *
      have l0 : (k : Int) < (bs.length : Int) := by omega
      have l1 : (k : Int) + 1 < (bs.length : Int) := by omega
      have l2 : (k : Int) + 2 < (bs.length : Int) := by omega
      have l3 : (k : Int) + 3 < (bs.length : Int) := by omega
      have z0 : (0 : Int) ≤ (k : Int) := Int.natCast_nonneg _
      have z1 : (0 : Int) ≤ (k : Int) + 1 := by omega
      have z2 : (0 : Int) ≤ (k : Int) + 2 := by omega
      have z3 : (0 : Int) ≤ (k : Int) + 3 := by omega
      have t1 : ((k : Int) + 1).toNat = k + 1 := by omega
      have t2 : ((k : Int) + 2).toNat = k + 2 := by omega
      have t3 : ((k : Int) + 3).toNat = k + 3 := by omega
      have w1 : IntKind.i64.wrap ((k : Int) + 1) = (k : Int) + 1 := IntWalk.i64_in _ (by omega)
      have w2 : IntKind.i64.wrap ((k : Int) + 2) = (k : Int) + 2 := IntWalk.i64_in _ (by omega)
      have w3 : IntKind.i64.wrap ((k : Int) + 3) = (k : Int) + 3 := IntWalk.i64_in _ (by omega)
      have HNum := Hid_mk hnum
      have HSum := Hid_mk (show (p : Int) + (q : Int) * 256 + (r : Int) * 65536 + (s : Int) * 16777216 = (n : Int) by omega)
      clear hnum hn hcell
      by_cases hbig : n ≤ 4194304 ∧ k + 10 + n ≤ bs.length
      · obtain ⟨hbig, hlen⟩ := hbig
        have hbigi : ¬ (4194304 : Int) < (n : Int) := by omega
        have hleni : ¬ (bs.length : Int) - (k : Int) - 10 < (n : Int) := by omega
        have hmid := slice_mid H.out k n hlen ((k : Int) + 4) ((k : Int) + 10 + (n : Int)) (by omega) (by omega)
        have hsl := hmid.1
        have hun := fun W (hk : Kp No w W) => unseal_long W b (o + (k + 4)) n (cap - (k + 4)) _ (hmid.2 W hk) (by omega)
        have hfp := firstP_ref (t := bs.drop k) (by rw [List.length_drop]; omega) (by rw [HN.out]; exact hbig) (by rw [HN.out, List.length_drop]; omega)
        rw [HN.out] at hfp
        obtain ⟨xs, hxs⟩ : ∃ xs, ((bs.drop k).drop 4).take (n + 6) = xs := ⟨_, rfl⟩
        have hxl : xs.length = n + 6 := by rw [← hxs, List.length_take, List.length_drop, List.length_drop]; omega
        have hyl : (xs.take n).length = n := by rw [List.length_take, hxl]; omega
        rw [hxs] at hun hfp
        have HYl := Hid_mk hyl
        clear hmid hxs hxl hyl
        by_cases hs : sealed (xs.take n) = xs
        · rw [if_pos hs] at hfp
          simp only [if_pos hs] at hun
          have HUn := Hid_mk hun
          have hnext := HAt.out.next hfp
          rw [HYl.out] at hnext
          have HNx := Hid_mk hnext
          clear hs hun hfp hnext
          generalize xs.take n = ys at *
          go_wp2
          go_quiet (fail)
          rw [HSum.out]
          clear w1 w2 w3 t1 t2 t3 c0 c1 c2 c3
          go_wp2_with fail
          have hkq := HKp.out.drewN nq
          have HKq := Hid_mk hkq
          have HLq := Hid_mk (HLo.out.no ((Kp.refl No wr).drewN nq))
          with_reducible refine (HUn.out _ hkq).mono ?_
          clear hkq
          rintro e w5 ⟨hk5, v5, rfl, ho5⟩
          have HL5 := Hid_mk (HLq.out.no hk5)
          have HK5 := Hid_mk (HKq.out.trans' hk5)
          have hz5 := HK5.out.size
          have ho5' := owns_base ho5 (show w.heap.size ≤ _ from HKq.out.size)
          obtain ⟨a9, c9, rfl⟩ : ∃ a c, v5 = .slice a ys.length c := by
            rcases owns_any ho5 with ⟨rfl, hz⟩ | ⟨g, cap, rfl, -⟩
            · exact ⟨none, 0, by rw [hz]⟩
            · exact ⟨_, _, rfl⟩
          have HO5 := Hid_mk ho5'
          rw [HYl.out]
          clear hk5 ho5 ho5'
          go_wp2_with (at_builtin; (refine wpList_push _ rfl _ _ rfl w.heap.size _ qs rfl (HL5.out.no ((Kp.refl No w5).alloc _)) ?b1 _ ys (owns_kept (HYl.out ▸ HO5.out) ((Kp.refl No w5).alloc _) (fun _ _ => id)) w5.heap.size 1 rfl (heap_alloc_new w5 _) ?b2 ?_))
          case b1 => simp; omega
          case b2 => omega
          rintro v2 w6 ⟨hp1, hp2, hp3, g9, cc9, rfl⟩
          have hrel : ListRel w bs (.slice (some ⟨g9, 0, none⟩) (qs.length + 1) cc9) (.int .i64 ((k + (n + 10) : Nat) : Int)) w6 := ⟨_, _, rfl, hp1, by simpa [Els.texts] using HNx.out, by simp; omega, (HK5.out.alloc _).trans hp2 fun i hi e => by have := (HLo.out.row.lt i e.symm).1; omega⟩
          have HRel := Hid_mk hrel
          clear hrel hp1 hp2 hp3
          go_wp2
          have e9 : (k : Int) + 10 + (n : Int) = ((k + (n + 10) : Nat) : Int) := by omega
          rw [e9]
          go_roundw
          case rel => exact HRel.out
          case measure => simp [intOf]; omega
        · rw [if_neg hs] at hfp
          simp only [if_neg hs] at hun
          have HUn := Hid_mk hun
          have HDone := Hid_mk (HAt.out.done hfp)
          clear hun hs hfp
          go_wp2
          go_quiet (fail)
          rw [HSum.out]
          clear w1 w2 w3 t1 t2 t3 c0 c1 c2 c3
          go_wp2_with fail
          have hkq := HKp.out.drewN nq
          have HKq := Hid_mk hkq
          have HLq := Hid_mk (HLo.out.no ((Kp.refl No wr).drewN nq))
          with_reducible refine (HUn.out _ hkq).mono ?_
          clear hkq
          rintro e w5 ⟨hk5, rfl⟩
          have hfin : ListPost w (listP bs) (.returned (.tuple #[_, .int .i64 k])) w5 := ⟨_, qs, by rw [HDone.out], HLq.out.no hk5, by rw [HDone.out], HKq.out.trans' hk5⟩
          have HFin := Hid_mk hfin
          clear hk5 hfin
          go_wp2
          go_ret2
          exact HFin.out
      · have hfp : firstP (bs.drop k) = none := by
          unfold firstP
          rw [if_neg]
          rintro ⟨-, h1, h2, -⟩
          rw [HN.out] at h1 h2
          rw [List.length_drop] at h2
          omega
        have HDone := Hid_mk (HAt.out.done hfp)
        clear hfp
        by_cases hb2 : n ≤ 4194304
        all_goals first
          | (have hbigi : ¬ (4194304 : Int) < (n : Int) := by omega
             have hleni : (bs.length : Int) - (k : Int) - 10 < (n : Int) := by omega
             clear hb2 hbig)
          | (have hbigi : (4194304 : Int) < (n : Int) := by omega
             clear hb2 hbig)
        all_goals
          go_wp2
          go_quiet (fail)
          rw [HSum.out]
          clear w1 w2 w3 t1 t2 t3 c0 c1 c2 c3
          have hfin : ListPost w (listP bs) (.returned (.tuple #[_, .int .i64 k])) (wr.drewN nq) := ⟨_, qs, by rw [HDone.out], HLo.out.no ((Kp.refl No wr).drewN nq), by rw [HDone.out], HKp.out.drewN nq⟩
          have HFin := Hid_mk hfin
          clear hfin
          go_wp2
          go_ret2
          exact HFin.out
    · have h4i : ¬ (4 : Int) ≤ (bs.length : Int) - (k : Int) := by omega
      have hfp : firstP (bs.drop k) = none := by unfold firstP; rw [if_neg (by rw [List.length_drop]; omega)]
      have hfin : ListPost w (listP bs) (.returned (.tuple #[_, .int .i64 k])) wr := ⟨_, qs, by rw [HAt.out.done hfp], HLo.out, by rw [HAt.out.done hfp], HKp.out⟩
      have HFin := Hid_mk hfin
      clear hfin hfp
      go_wp2
      go_ret2
      exact HFin.out

end Go.Proofs.YtmehneicdklfeaaGreat.ref

namespace Go.Proofs.YtmehneicdklfeaaGreat.snp
open Go.RowKit Go.Maps Go.Proofs.YtmehneicdklfeaaGreat.sum Go.Proofs.YtmehneicdklfeaaGreat.kept Go.Proofs.YtmehneicdklfeaaGreat.app Go.Proofs.YtmehneicdklfeaaGreat.writer Go.Proofs.YtmehneicdklfeaaGreat.clone Go.Proofs.YtmehneicdklfeaaGreat.fs Go.Proofs.YtmehneicdklfeaaGreat.fsDo Go.Proofs.YtmehneicdklfeaaGreat.unseal Go.Proofs.YtmehneicdklfeaaGreat.dsk Go.Proofs.YtmehneicdklfeaaGreat.r2 Go.Proofs.YtmehneicdklfeaaGreat.pair Go.Proofs.YtmehneicdklfeaaGreat.frm
set_option linter.unusedVariables false

/-- the reference's disk at block r, with the state d -/
def Rz (w : World) (ρ : Nat → Role) (r : Nat) (d : DSt) : Prop := ∃ x vs vn vw ls ln ps, RS w ρ r x vs vn vw ls ln ps ∧ RD d x ls ln ps
def Hi (w : World) (ρ : Nat → Role) : Prop := ∀ k, w.heap.size ≤ k → ρ k = .other

section
variable {w w' : World} {ρ : Nat → Role} {r M : Nat} {d : DSt}
theorem Rz.no (h : Rz w ρ r d) (hk : Kp No w w') : Rz w' ρ r d := by
  obtain ⟨x, vs, vn, vw, ls, ln, ps, h3, h4⟩ := h
  exact ⟨x, vs, vn, vw, ls, ln, ps, h3.no hk, h4⟩
theorem Rz.lt (h : Rz w ρ r d) : r < w.heap.size := by
  obtain ⟨x, vs, vn, vw, ls, ln, ps, h3, h4⟩ := h
  exact h3.at_.lt
theorem Hi.up {S : Nat → Prop} (h : Hi w ρ) (hk : Kp S w w') : Hi w' ρ := fun k hk2 => h k (Nat.le_trans hk.size hk2)

theorem Rz.read (h : Rz w ρ r d) (hok : OkN M d) (hM : M ≤ 1000) (n : ByteArray) (hn : n.size ≤ maxLen) :
    Calls Tryz.prog 31 #[.pointer (some ⟨r, 0, none⟩), .string n] w fun e w' => ∃ v, e = .returned (.tuple #[v, .bool (hereB d n)]) ∧ Bs w v (readD d n) ∧ (readD d n).length ≤ 10000000000 ∧ w = w' := by
  obtain ⟨x, vs, vn, vw, ls, ln, ps, h3, h4⟩ := h
  obtain ⟨b1, b2, b3, -⟩ := h4.bounds hok.1 hM
  refine (refread_any w r x vs vn vw ln n h3.at_ h3.fn b1 (by omega) hn).mono ?_
  rintro e w' ⟨v, he, hb, hw⟩
  rw [← h4.down, h4.now] at he hb
  refine ⟨v, he, hb, ?_, hw⟩
  unfold readD
  split
  · exact Nat.zero_le _
  · have h9 : (old d.now (nm n)).length ≤ used d.now := get_len (rising_all hok.1.rising d.cs) (nm n)
    rw [← h4.now] at h9 ⊢
    omega

theorem Rz.remove (h : Rz w ρ r d) (hok : OkN M d) (hM : M ≤ 1000) (hi : Hi w ρ) (n : ByteArray) (hn : n.size ≤ maxLen) {e1 : Int} (he : (rmR d n).1 = e1) :
    Calls Tryz.prog 30 #[.pointer (some ⟨r, 0, none⟩), .string n] w fun e w' => e = .returned (.int .i64 e1) ∧ Kp (fun k => k = r) w w' ∧ Hid (Rz w' ρ r (rmR d n).2) := by
  obtain ⟨x, vs, vn, vw, ls, ln, ps, h3, h4⟩ := h
  subst he
  exact (refremove_any w ρ r d x vs vn vw ls ln ps M h3 h4 hok.1 hM hi n hn).mono fun _ _ ⟨h1, h2, h3⟩ => ⟨h1, h2, Hid_mk h3⟩
theorem Rz.sync (h : Rz w ρ r d) (hok : OkN M d) (hM : M ≤ 1000) (hi : Hi w ρ) {e1 : Int} (he : (syR d).1 = e1) :
    Calls Tryz.prog 19 #[.pointer (some ⟨r, 0, none⟩)] w fun e w' => e = .returned (.int .i64 e1) ∧ Kp (fun k => k = r) w w' ∧ Hid (Rz w' ρ r (syR d).2) := by
  obtain ⟨x, vs, vn, vw, ls, ln, ps, h3, h4⟩ := h
  subst he
  exact (refsync_any w ρ r d x vs vn vw ls ln ps M h3 h4 hok.1 hM hi).mono fun _ _ ⟨h1, h2, h3⟩ => ⟨h1, h2, Hid_mk h3⟩
theorem Rz.rename (h : Rz w ρ r d) (hok : OkN M d) (hM : M ≤ 1000) (hi : Hi w ρ) (n to : ByteArray) (hn : n.size ≤ maxLen) (hto : to.size ≤ maxLen) {e1 : Int} (he : (reR d n to).1 = e1) :
    Calls Tryz.prog 36 #[.pointer (some ⟨r, 0, none⟩), .string n, .string to] w fun e w' => e = .returned (.int .i64 e1) ∧ Kp (fun k => k = r) w w' ∧ Hid (Rz w' ρ r (reR d n to).2) := by
  obtain ⟨x, vs, vn, vw, ls, ln, ps, h3, h4⟩ := h
  subst he
  exact (refrename_any w ρ r d x vs vn vw ls ln ps M h3 h4 hok.1 hM hi n to hn hto).mono fun _ _ ⟨h1, h2, h3⟩ => ⟨h1, h2, Hid_mk h3⟩
theorem Rz.append (h : Rz w ρ r d) (hok : OkN M d) (hM : M ≤ 1000) (hi : Hi w ρ) (n : ByteArray) (vb : Value) (bs : List UInt8) (hn : n.size ≤ maxLen) (hb : Bs w vb bs) (ha : bs ≠ [] → Aw w ρ r vb) (hbl : bs.length ≤ 1000000000000000) {e1 : Int} (he : (appR d n bs).1 = e1) :
    Calls Tryz.prog 17 #[.pointer (some ⟨r, 0, none⟩), .string n, vb] w fun e w' => e = .returned (.int .i64 e1) ∧ Kp (fun k => k = r) w w' ∧ Hid (Rz w' ρ r (appR d n bs).2) := by
  obtain ⟨x, vs, vn, vw, ls, ln, ps, h3, h4⟩ := h
  subst he
  exact (refappend_any w ρ r d x vs vn vw ls ln ps M h3 h4 hok.1 hM hi n vb bs hn hb ha hbl).mono fun _ _ ⟨h1, h2, h3⟩ => ⟨h1, h2, Hid_mk h3⟩

/-- is the file there? -/
theorem refhere_any (h : Rz w ρ r d) (hok : OkN M d) (hM : M ≤ 1000) (n : ByteArray) (hn : n.size ≤ maxLen) :
    Calls Tryz.prog 29 #[.pointer (some ⟨r, 0, none⟩), .string n] w fun e w' => e = .returned (.bool (hereB d n)) ∧ w = w' := by
  have HR := Hid_mk (h.read hok hM n hn)
  clear h hok
  go_enter Tryz.func29, Tryz.ntmps29
  go_wp2_with fail
  with_reducible refine HR.out.mono ?_
  rintro e w1 ⟨v, rfl, -, -, rfl⟩
  go_wp2
  go_ret
  exact ⟨rfl, rfl⟩

/-- a new row of bytes lies apart from the reference -/
theorem aw_new (h : Rz w ρ r d) (hi : Hi w ρ) {v : Value} {bs : List UInt8} (hk : Kp No w w') (ho : w'.ownsRow w.heap.size 5 1 v bs.length (bs.map B)) : Aw w' ρ r v := fun x o m c e => by
  rcases owns_any ho with ⟨rfl, -⟩ | ⟨g, cap, rfl, hg⟩
  · cases e
  · cases e
    have := h.lt
    exact ⟨hi _ hg.1, by omega, hg.2.1⟩
end

theorem framed_small (bs : List UInt8) : (framed bs).length ≤ 4194314 := by
  by_cases h : bs.length ≤ 4194304
  · rw [framed_len h]; omega
  · rw [framed_none h]; exact Nat.zero_le _

end Go.Proofs.YtmehneicdklfeaaGreat.snp
