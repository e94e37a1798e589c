/- The statement 'tailracelaw8.ClassNamed' is true: for every argument the law returns true, and the arguments read behind the call as they read before, where the law's own table reads as the program's text lays it; the card ties that. -/
import Derived.Test.YtpfpnlhihnfahaaDoorBaseM
import Derived.Test.YtpfpnlhihnfahaaDoorClassNamedWalk
import Derived.Test.YtpfpnlhihnfahaaDoorTxRowM
import Derived.Test.YtpfpnlhihnfahaaDoorCards
import Derived.Test.YtpfpnlhihnfahaaDoorTie
import Derived.LaidMore
import Derived.Stop.Joined
import Derived.HandedShaped
import Derived.ChangeMaps5
import Derived.Deep.DeepHandedRow

namespace Go.Proofs.YtpfpnlhihnfahaaDoor.classNamed
open Go.ChangeMaps (open_string shut_string)
open Go.ChangeShapes Go.WideShapes Go.ChangeAt Go.RowKit Go.Proofs.YtpfpnlhihnfahaaDoor.sum Go.Proofs.YtpfpnlhihnfahaaDoor.kept Go.Proofs.YtpfpnlhihnfahaaDoor.row Go.Proofs.YtpfpnlhihnfahaaDoor.cls Go.Proofs.YtpfpnlhihnfahaaDoor.str Go.Proofs.YtpfpnlhihnfahaaDoor.cuRow
set_option linter.unusedVariables false

theorem gNames : Tryd.prog.globalNamed "tailrace/tailracelaw8.names" = some 1 := by kernel_rfl
theorem tNames : (Tryd.prog.globals[1]?).map (·.type) = some 57 := by kernel_rfl

/-- What the condition gives the walk: the thirteen texts' cells. -/
theorem of_names {W : World} (h : laidMetH Tryd.prog [("tailrace/tailracelaw8.names", Rows.laid_tailrace_tailracelaw8_names)] W) : Nq W := by
  rw [MakeChecks.laidMetH_plain _ _ _ (by kernel_rfl)] at h
  obtain ⟨ps, ⟨g0, t0, cs0, f0, p0, q0, hg0, ht0, hv0, hd0, _, _⟩, _, _⟩ := h
  obtain rfl := Option.some.inj (gNames.symm.trans hg0)
  obtain rfl := Option.some.inj (tNames.symm.trans ht0)
  obtain ⟨xs, m1, rfl, hx1, hlen, hn3, hel⟩ := DataW.trod_array Tryd.underlying57 hd0
  rw [cellsStr] at hel
  simp only [Prod.mk.injEq, DataW.agg.injEq] at hx1
  match xs, hn3, hx1, hel with
  | [x0, x1, x2, x3, x4, x5, x6, x7, x8, x9, x10, x11, x12], _, hx1, hel =>
    simp only [List.map_cons, List.map_nil] at hx1
    obtain ⟨hxl, -⟩ := hx1
    unfold Rows.laid_tailrace_tailracelaw8_names at hxl
    simp only [DataW.agg.injEq, List.cons.injEq, and_true] at hxl
    obtain ⟨e0, e1, e2, e3, e4, e5, e6, e7, e8, e9, e10, e11, e12⟩ := hxl
    have c := fun K u (hu : cs0.toList[K]? = some u) => (World.var?_cell hg0 hv0 K).trans (by rw [← Array.getElem?_toList, hu])
    intro K hK
    match K, hK with
    | 0, _ => exact c 0 _ (one_text (s0 := st (nmL 0)) (hel 0 (by decide)) e0.symm rfl)
    | 1, _ => exact c 1 _ (one_text (s0 := st (nmL 1)) (hel 1 (by decide)) e1.symm rfl)
    | 2, _ => exact c 2 _ (one_text (s0 := st (nmL 2)) (hel 2 (by decide)) e2.symm rfl)
    | 3, _ => exact c 3 _ (one_text (s0 := st (nmL 3)) (hel 3 (by decide)) e3.symm rfl)
    | 4, _ => exact c 4 _ (one_text (s0 := st (nmL 4)) (hel 4 (by decide)) e4.symm rfl)
    | 5, _ => exact c 5 _ (one_text (s0 := st (nmL 5)) (hel 5 (by decide)) e5.symm rfl)
    | 6, _ => exact c 6 _ (one_text (s0 := st (nmL 6)) (hel 6 (by decide)) e6.symm rfl)
    | 7, _ => exact c 7 _ (one_text (s0 := st (nmL 7)) (hel 7 (by decide)) e7.symm rfl)
    | 8, _ => exact c 8 _ (one_text (s0 := st (nmL 8)) (hel 8 (by decide)) e8.symm rfl)
    | 9, _ => exact c 9 _ (one_text (s0 := st (nmL 9)) (hel 9 (by decide)) e9.symm rfl)
    | 10, _ => exact c 10 _ (one_text (s0 := st (nmL 10)) (hel 10 (by decide)) e10.symm rfl)
    | 11, _ => exact c 11 _ (one_text (s0 := st (nmL 11)) (hel 11 (by decide)) e11.symm rfl)
    | 12, _ => exact c 12 _ (one_text (s0 := st (nmL 12)) (hel 12 (by decide)) e12.symm rfl)

set_option maxRecDepth 100000 in
theorem contract (H : Type) (enc : TypeId × Value → H) (W : World) (base : Nat) (args : Array Value) (ds gs : List (DataW H)) (before : List MemPlace)
    (hval : ∀ (j : Nat) t v, Tryd.f5.params[j]? = some t → args[j]? = some v → Value.okWide Tryd.prog W .any base t v)
    (hW : DataW.Whole enc Tryd.prog Tryd.f5.params.toList Rows.classNamedSpec.vars false W args.toList ds gs before) (hL : laidMetH Tryd.prog Rows.classNamedRow.laid W) (hsh : W.ShapedOpen Tryd.prog) :
    Calls Tryd.prog 5 args W fun e W' => ∃ v, e = .returned v ∧ Rows.classNamedSpec.post enc Tryd.prog Tryd.f5 false true false false W args v W' := by
  have hW' := hW
  obtain ⟨p, q, hA0, hV, rfl, hfz, hnd⟩ := hW
  have hA : DataW.TrodAll enc Tryd.prog W 0 (fun _ => true) true Tryd.f5.params.toList args.toList ds p := hA0
  rw [Tryd.params5] at hA hval
  obtain ⟨v0, vs0, d0, ds0, p0, q0, hargs, rfl, rfl, h0, r0⟩ := trodAll_cons hA
  obtain ⟨v1, vs1, d1, ds1, p1, q1, rfl, rfl, rfl, h1, r1⟩ := trodAll_cons r0
  obtain ⟨rfl, rfl, rfl⟩ := trodAll_nil r1
  obtain rfl : args = #[v0, v1] := by cases args; simp_all
  obtain ⟨rfl, rfl⟩ := trodVars_none hV
  obtain ⟨s0, rfl, rfl, rfl, w0⟩ := open_string Tryd.underlying9 (hval 0 9 v0 rfl rfl) h0
  obtain ⟨a1, rfl, rfl, rfl, w1⟩ := open_int Tryd.underlying3 (hval 1 3 v1 rfl rfl) h1
  have hb1 : -9223372036854775808 ≤ a1 ∧ a1 ≤ 9223372036854775807 := by simpa [Lit.wf, IntKind.min, IntKind.max, IntKind.signed, IntKind.bits] using w1
  have hwalk := classNamed_any W s0 a1 (of_names hL) (Tryd.laysM145.s1_3 W hsh) hb1
  clear hA0
  refine hwalk.mono fun e W' ⟨he, hk⟩ => ?_
  have bel := hk.below
  subst he
  exact ⟨_, rfl, _, _, _, [], _, [], hW', trodAll_mk1 (shut_bool Tryd.underlying4 _), (trodAll_cons_mk (shut_string Tryd.underlying9 w0) (trodAll_cons_mk (shut_int Tryd.underlying3 w1) trodAll_mk0)), rfl, bel.frame _, fun h => by cases h⟩

theorem laid_met (os : Os) : laidMet Tryd.prog Rows.classNamedRow.laid ((World.doorLaid Tryd.prog 400 os).forCall (fun _ _ => 0) ⟨#[], #[.string ⟨#[]⟩, .int .i64 0], []⟩).memory :=
  laidMet_of_run' 8 (by kernel_rfl) (by kernel_rfl)
theorem reads (os : Os) {H : Type} (enc : TypeId × Value → H) : ∃ places, DataW.whole enc Tryd.prog ((World.doorLaid Tryd.prog 400 os).forCall (fun _ _ => 0) ⟨#[], #[.string ⟨#[]⟩, .int .i64 0], []⟩).memory Tryd.f5.params.toList Rows.classNamedSpec.vars false #[Value.string ⟨#[]⟩, Value.int .i64 0].toList 8 = some ([.lit (.string []), .lit (.int .i64 0)], [], places) :=
  ⟨[], by kernel_rfl⟩

set_option maxRecDepth 100000 in
theorem lifted (os : Os) (started : os.Started) (H : Type) (enc : TypeId × Value → H) (F : Stop.Interp) :
    ReturnsInHanded {} Tryd.checked os 5 .any ((OpenSpec.ofChange Rows.classNamedSpec).preRow enc Tryd.prog Tryd.f5 Rows.classNamedRow.domain false Rows.classNamedRow.laid) (((OpenSpec.ofChange Rows.classNamedSpec).at F).post enc Tryd.prog Tryd.f5 false true false false) := by
  obtain ⟨places, hx⟩ := reads os enc
  refine returnsInHanded_of_row (C := Tryd.checked) (s := OpenSpec.ofChange Rows.classNamedSpec) own started (by kernel_rfl) Tryd.func5
    (witness_row_at (enc := enc) (C := Tryd.checked) false (World.doorLaid Tryd.prog 400 os) #[.string ⟨#[]⟩, .int .i64 0] rfl (by kernel_rfl) (by kernel_rfl) (by kernel_rfl)
      (OpenSpec.preRow_of_cond 8 hx (by kernel_rfl) (fun k hk => by cases hk) (by kernel_rfl) (laid_met os))) ?_
  intro W base args ds gs before hval hW _ _ _ hL hsh _
  exact contract H enc W base args ds gs before hval hW hL hsh

theorem over : Rows.ClassNamedSaid :=
  OpenClaim.holds_of_cond 5 Tryd.f5 rfl rfl rfl rfl rfl rfl rfl ⟨rfl, rfl, rfl, rfl, rfl⟩ rfl rfl rfl rfl rfl (by kernel_rfl) Tryd.func5 (by kernel_rfl)
    (of_decide_eq_true (by kernel_rfl)) (by unfold Func.isWrapper; first | (rw [if_pos (by decide +kernel)]; kernel_rfl) | (rw [if_neg (by decide +kernel)]; exact ⟨rfl, rfl⟩))
    (fun os started H enc _ F => by rw [OpenClaim.pre_eq_preRow]; exact lifted os started H enc F)

theorem proved : Rows.ClassNamedCardSaid :=
  Claim7.holds_tied_plain_at .later [] [.data] true Rows.classNamedCard.stood.harness false
    over (fun _ h => by cases h) (by kernel_rfl) (fun _ h => by cases h) classNamed_row_tie rfl ⟨rfl, rfl⟩ (by kernel_rfl) rfl
    (fun f fn hf hfn => by
      obtain rfl : f = 5 := Option.some.inj ((show Tryd.prog.funcNamed "tailrace/tailracelaw8.ClassNamed" = some 5 by kernel_rfl).symm.trans hf) |>.symm
      obtain rfl : fn = Tryd.f5 := (Option.some.inj (Tryd.func5.symm.trans hfn)).symm
      exact ⟨by kernel_rfl, fun j t ht => by
        rw [Tryd.params5] at ht
        have hm : t ∈ [9, 3] := by simpa using Array.mem_of_getElem? ht
        have hall : ([9, 3].all fun u => !Tryd.prog.wantsStandIn u) = true := by kernel_rfl
        exact (show Tryd.prog.wantsStandIn t = false by simpa using List.all_eq_true.1 hall t hm)⟩)
    (by kernel_rfl)

end Go.Proofs.YtpfpnlhihnfahaaDoor.classNamed
