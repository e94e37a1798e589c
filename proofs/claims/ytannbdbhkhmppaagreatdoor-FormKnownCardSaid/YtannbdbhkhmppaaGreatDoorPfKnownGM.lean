/- Chapter 12's examples: what their conversions tell. The law FormKnown: chapter 12's examples. What the rows' listed variables give the walks of chapters 11 and 12. What the rows' laid table of leftShift gives the walks. -/
import Derived.Test.YtannbdbhkhmppaaGreatDoorPfFormatM
import Derived.Test.YtannbdbhkhmppaaGreatDoorPfTellGM
import Derived.Test.YtannbdbhkhmppaaGreatDoorDecShiftM
import Derived.Test.YtannbdbhkhmppaaGreatDoorRows
import Derived.ProofKit
import Derived.OpenShut
import Derived.ChangeSame
import Derived.LaidMore
import Derived.LaidSub
import Derived.Stop.Joined

namespace Go.Proofs.YtannbdbhkhmppaaGreatDoor.pf
open Go.RowKit Go.Lib Go.Proofs.YtannbdbhkhmppaaGreatDoor.sum Go.Proofs.YtannbdbhkhmppaaGreatDoor.kept Go.Proofs.YtannbdbhkhmppaaGreatDoor.app Go.Proofs.YtannbdbhkhmppaaGreatDoor.writer Go.Proofs.YtannbdbhkhmppaaGreatDoor.known Go.Proofs.YtannbdbhkhmppaaGreatDoor.str Go.Proofs.YtannbdbhkhmppaaGreatDoor.fmtf
set_option linter.unusedVariables false

def tlG (c : Cv) (x : Ar) : Td :=
  if c.letter = 103 then ⟨signS c (FloatKind.f64.format.order x.n 0 == some .lt), if x.n = 4591870180066957722 then [48, 46, 49] else [49, 101, 43, 51, 48, 48], true⟩
  else if c.letter = 115 then ⟨[], cutP c.prec x.s, false⟩
  else wholeS c (Lib.trimPrefix [48] [45]) (Lib.hasPrefix [48] [45])
def tabG : List (Cv × Ar) := [(⟨false, false, false, false, 0, 6, 103⟩, ⟨4591870180066957722, [48], true⟩), (⟨false, false, false, false, 0, 6, 103⟩, ⟨9094988921128908188, S300, true⟩), (⟨false, false, false, false, 0, -1, 100⟩, ⟨0, [], false⟩), (⟨false, false, false, false, 0, -1, 115⟩, ⟨0, [], false⟩)]
def oktG (c : Cv) (x : Ar) : Bool := tabG.any fun p => eqCv p.1 c && eqAr p.2 x
theorem oktG_mem {c : Cv} {x : Ar} (h : oktG c x = true) : (c, x) ∈ tabG := by
  unfold oktG at h
  obtain ⟨p, hp, h2⟩ := List.any_eq_true.1 h
  simp only [Bool.and_eq_true] at h2
  obtain ⟨p1, p2⟩ := p
  have e1 := eqCv_eq h2.1
  have e2 := eqAr_eq h2.2
  simp only at e1 e2
  subst e1 e2
  exact hp

def okG (tl : Cv → Ar → Td) : Nat → List UInt8 → List Ar → List UInt8 → Bool
  | 0, _, _, _ => false
  | f + 1, l, ars, bs => decide (l.length ≤ 140737488355327) && decide (bs.length ≤ 257) && decide ((txS (l.length + 1) l bs).2.2.length ≤ 257) && (!(txS (l.length + 1) l bs).1 ||
      (lookS (fgS (txS (l.length + 1) l bs).2.1 cv0).2 != 42 && (lookS (cnD (fgS (txS (l.length + 1) l bs).2.1 cv0).2 ars).2.1 != 46 || lookS ((cnD (fgS (txS (l.length + 1) l bs).2.1 cv0).2 ars).2.1.drop 1) != 42) &&
      (match cvS cnD (txS (l.length + 1) l bs).2.1 ars with
       | none => true
       | some (c, l2, ars2) => oktG c (ars2.headD noAr) && okG tl f l2 ars2.tail (putS (txS (l.length + 1) l bs).2.2 c (tl c (ars2.headD noAr))))))
theorem okG_ok (tl : Cv → Ar → Td) : ∀ (f : Nat) (l : List UInt8) (ars : List Ar) (bs : List UInt8), okG tl f l ars bs = true → okS cnD (fun l => lookS l ≠ 42) tl (fun c x => oktG c x = true) f l ars bs
  | 0, _, _, _, h => by cases h
  | f + 1, l, ars, bs, h => by
    rw [okG] at h
    simp only [Bool.and_eq_true, decide_eq_true_eq, Bool.or_eq_true, Bool.not_eq_true', bne_iff_ne, ne_eq] at h
    obtain ⟨⟨⟨h1, h2⟩, h3⟩, h4⟩ := h
    refine ⟨h1, h2, h3, fun hx => ?_⟩
    rcases h4 with h4 | h4
    · rw [hx] at h4; cases h4
    · obtain ⟨⟨h5, h6⟩, h7⟩ := h4
      refine ⟨h5, fun e => ?_, ?_⟩
      · rcases h6 with h6 | h6
        · exact absurd e h6
        · exact h6
      · cases hc : cvS cnD (txS (l.length + 1) l bs).2.1 ars with
        | none => trivial
        | some y =>
          obtain ⟨c, l2, ars2⟩ := y
          rw [hc] at h7
          simp only [Bool.and_eq_true] at h7
          exact ⟨h7.1, okG_ok tl f _ _ _ h7.2⟩

theorem tlG_ok (w : World) (h : Ld w) (hL : Lcs w) : TlC tlG (fun c x => oktG c x = true) w := by
  intro c x hb
  have hm := oktG_mem hb
  clear hb
  simp only [tabG, List.mem_cons, Prod.mk.injEq, List.mem_nil_iff, or_false] at hm
  rcases hm with ⟨rfl, rfl⟩ | ⟨rfl, rfl⟩ | ⟨rfl, rfl⟩ | ⟨rfl, rfl⟩
  · exact ⟨by decide +kernel, fun W hk => tell_g W false false false false 0 6 ⟨4591870180066957722, [48], true⟩ [48] (by decide) (fun W' hk' => dg01 W') (by kernel_rfl) (by decide) (by decide) 4591870180066957722 [48, 46, 49] rfl (fun W' => abs_any W' _ _ (by decide +kernel)) (fun W' hk' => ffg01 W' ((h.no hk).no hk'))⟩
  · exact ⟨by decide +kernel, fun W hk => tell_g W false false false false 0 6 ⟨9094988921128908188, S300, true⟩ S300 len300 (fun W' hk' => dg300 W' ((h.no hk).no hk') ((hL.no hk).no hk')) (by kernel_rfl) (by decide) (by decide) 9094988921128908188 [49, 101, 43, 51, 48, 48] rfl (fun W' => abs_any W' _ _ (by decide +kernel)) (fun W' hk' => ffg300 W' ((h.no hk).no hk'))⟩
  · exact ⟨by decide +kernel, fun W hk => tell_d W false false false false 0 (-1) ⟨0, [], false⟩ [48] (by decide) (fun W' hk' => dg_z W') (by kernel_rfl) (by decide) (by decide)⟩
  · exact ⟨by decide +kernel, fun W hk => tell_s W false false false false 0 (-1) ⟨0, [], false⟩ (by decide) (by decide) (by decide)⟩

theorem g_fmt (W : World) (h : Ld W) (hL : Lcs W) (l : List UInt8) (A : Value) (ars : List Ar) (R : Option (List UInt8)) (hA : ArgsAt W A ars) (hk : okG tlG 5 l ars [] = true) (hR : fmS cnD tlG 5 l ars [] = R) :
    Calls Tryz.prog 4 #[.string (st l), A] W fun e w' => e = .returned (.tuple #[.string (st (resS R).1), .int .i64 (resS R).2]) ∧ Kp No W w' := by
  have hF := format_any W l A ars hA cnD _ cnt_digits tlG _ (tlG_ok W h hL) 5 (okG_ok tlG 5 l ars [] hk)
  rw [hR] at hF
  exact hF

theorem q_ok : okG tlG 5 [37, 113] [] [] = true := by kernel_rfl
theorem q_is : fmS cnD tlG 5 [37, 113] [] [] = none := by kernel_rfl
theorem p_ok : okG tlG 5 [37] [] [] = true := by kernel_rfl
theorem p_is : fmS cnD tlG 5 [37] [] [] = none := by kernel_rfl
theorem n_ok : okG tlG 5 [37, 57, 57, 57, 100] [⟨4607182418800017408, [], true⟩] [] = true := by kernel_rfl
theorem n_is : fmS cnD tlG 5 [37, 57, 57, 57, 100] [⟨4607182418800017408, [], true⟩] [] = none := by kernel_rfl
theorem g_ok : okG tlG 5 [37, 46, 54, 103] [⟨4591870180066957722, [48], true⟩] [] = true := by kernel_rfl
theorem g_is : fmS cnD tlG 5 [37, 46, 54, 103] [⟨4591870180066957722, [48], true⟩] [] = some [48, 46, 49] := by kernel_rfl
theorem e_ok : okG tlG 5 [37, 46, 54, 103] [⟨9094988921128908188, S300, true⟩] [] = true := by kernel_rfl
theorem e_is : fmS cnD tlG 5 [37, 46, 54, 103] [⟨9094988921128908188, S300, true⟩] [] = some [49, 101, 43, 51, 48, 48] := by kernel_rfl
theorem d_ok : okG tlG 5 [37, 100, 32, 37, 115] [⟨0, [], false⟩] [] = true := by kernel_rfl
theorem d_is : fmS cnD tlG 5 [37, 100, 32, 37, 115] [⟨0, [], false⟩] [] = some [48, 32] := by kernel_rfl

theorem fm_q (W : World) (h : Ld W) (hL : Lcs W) : Calls Tryz.prog 4 #[.string ⟨#[37, 113]⟩, .slice none 0 0] W fun e w' => e = .returned (.tuple #[.string ⟨#[]⟩, .int .i64 46]) ∧ Kp No W w' :=
  g_fmt W h hL [37, 113] _ [] none ⟨none, 0, rfl, by decide, by decide, fun k hk => absurd hk (Nat.not_lt_zero _)⟩ q_ok q_is
theorem fm_p (W : World) (h : Ld W) (hL : Lcs W) : Calls Tryz.prog 4 #[.string ⟨#[37]⟩, .slice none 0 0] W fun e w' => e = .returned (.tuple #[.string ⟨#[]⟩, .int .i64 46]) ∧ Kp No W w' :=
  g_fmt W h hL [37] _ [] none ⟨none, 0, rfl, by decide, by decide, fun k hk => absurd hk (Nat.not_lt_zero _)⟩ p_ok p_is
theorem fm_n (W : World) (h : Ld W) (hL : Lcs W) (A : Value) (hA : ArgsAt W A [⟨4607182418800017408, [], true⟩]) : Calls Tryz.prog 4 #[.string ⟨#[37, 57, 57, 57, 100]⟩, A] W fun e w' => e = .returned (.tuple #[.string ⟨#[]⟩, .int .i64 46]) ∧ Kp No W w' :=
  g_fmt W h hL [37, 57, 57, 57, 100] A _ none hA n_ok n_is
theorem fm_d (W : World) (h : Ld W) (hL : Lcs W) (A : Value) (hA : ArgsAt W A [⟨0, [], false⟩]) : Calls Tryz.prog 4 #[.string ⟨#[37, 100, 32, 37, 115]⟩, A] W fun e w' => e = .returned (.tuple #[.string ⟨#[48, 32]⟩, .int .i64 0]) ∧ Kp No W w' :=
  g_fmt W h hL [37, 100, 32, 37, 115] A _ (some [48, 32]) hA d_ok d_is
theorem nm_01 (W : World) (h : Ld W) (hL : Lcs W) : Calls Tryz.prog 6 #[.float .f64 4591870180066957722, .string ⟨#[37, 46, 54, 103]⟩] W fun e w' => e = .returned (.tuple #[.string ⟨#[48, 46, 49]⟩, .int .i64 0]) ∧ Kp No W w' :=
  number_format W 4591870180066957722 (.string ⟨#[37, 46, 54, 103]⟩) [48] [48, 46, 49] (by kernel_rfl) (by kernel_rfl) (dg01 W) fun W' A hk hA => g_fmt W' (h.no hk) (hL.no hk) [37, 46, 54, 103] A _ (some [48, 46, 49]) hA g_ok g_is
theorem nm_3 (W : World) (h : Ld W) : Calls Tryz.prog 6 #[.float .f64 4613937818241073152, .string ⟨#[37, 46, 54, 103]⟩] W fun e w' => e = .returned (.tuple #[.string ⟨#[51]⟩, .int .i64 0]) ∧ Kp No W w' :=
  number_digits W 4613937818241073152 (.string ⟨#[37, 46, 54, 103]⟩) [51] (by kernel_rfl) (dg3 W h)
theorem nm_300 (W : World) (h : Ld W) (hL : Lcs W) : Calls Tryz.prog 6 #[.float .f64 9094988921128908188, .string ⟨#[37, 46, 54, 103]⟩] W fun e w' => e = .returned (.tuple #[.string ⟨#[49, 101, 43, 51, 48, 48]⟩, .int .i64 0]) ∧ Kp No W w' :=
  number_format W 9094988921128908188 (.string ⟨#[37, 46, 54, 103]⟩) S300 [49, 101, 43, 51, 48, 48] (by kernel_rfl) (by kernel_rfl) (dg300 W h hL) fun W' A hk hA => g_fmt W' (h.no hk) (hL.no hk) [37, 46, 54, 103] A _ (some [49, 101, 43, 51, 48, 48]) hA e_ok e_is

end Go.Proofs.YtannbdbhkhmppaaGreatDoor.pf

namespace Go.Proofs.YtannbdbhkhmppaaGreatDoor.pf
open Go.RowKit Go.Lib Go.Proofs.YtannbdbhkhmppaaGreatDoor.sum Go.Proofs.YtannbdbhkhmppaaGreatDoor.kept Go.Proofs.YtannbdbhkhmppaaGreatDoor.app Go.Proofs.YtannbdbhkhmppaaGreatDoor.writer Go.Proofs.YtannbdbhkhmppaaGreatDoor.known Go.Proofs.YtannbdbhkhmppaaGreatDoor.str Go.Proofs.YtannbdbhkhmppaaGreatDoor.fmtf
set_option linter.unusedVariables false

theorem one_arg (w : World) (x : Ar) : ∀ W4, w.alloc (.cells #[.float .f64 x.n, .string (st x.s), .bool x.num] 27) = W4 → ArgsAt W4 (.slice (some ⟨w.heap.size, 0, none⟩) 1 1) [x] := by
  intro W4 hW4
  refine ⟨_, 1, rfl, Nat.le_refl _, by decide, fun k hk => ⟨_, 0, rfl, ?_⟩⟩
  have hk : k < 1 := hk
  obtain rfl : k = 0 := by omega
  rw [← hW4]
  exact ⟨by rw [World.cell?_alloc_mark]; rfl, by rw [World.cell?_alloc_mark]; rfl, by rw [World.cell?_alloc_mark]; rfl⟩

set_option maxRecDepth 100000 in
set_option maxHeartbeats 4000000 in
theorem formKnown_any (w : World) (h : Ld w) (hl : Lcs w) : Calls Tryz.prog 3 #[] w fun e w' => e = .returned (.bool true) ∧ Kp No w w' := by
  have HN := Hid_mk fun W b => n_any W b
  have HQ := Hid_mk (fm_q w h hl)
  have HP := Hid_mk fun W (hk : Kp No w W) => fm_p W (h.no hk) (hl.no hk)
  have HNn := Hid_mk fun W (hk : Kp No w W) A hA => fm_n W (h.no hk) (hl.no hk) A hA
  have HD := Hid_mk fun W (hk : Kp No w W) A hA => fm_d W (h.no hk) (hl.no hk) A hA
  have H01 := Hid_mk fun W (hk : Kp No w W) => nm_01 W (h.no hk) (hl.no hk)
  have H3 := Hid_mk fun W (hk : Kp No w W) => nm_3 W (h.no hk)
  have H300 := Hid_mk fun W (hk : Kp No w W) => nm_300 W (h.no hk) (hl.no hk)
  have HKn := Hid_mk fun W (hk : Kp No w W) => known12_any W (h.no hk)
  clear h hl
  go_enter Tryz.func3, Tryz.ntmps3
  go_wp2_with fail
  with_reducible refine HQ.out.mono ?_
  rintro e w1 ⟨rfl, hk1⟩
  have HK := Hid_mk hk1
  clear hk1
  go_wp2_with fail
  with_reducible refine (HP.out _ HK.out).mono ?_
  rintro e w2 ⟨rfl, hk1⟩
  have HK := Hid_mk (HK.out.trans' hk1)
  clear hk1
  go_wp2_with fail
  with_reducible refine (HN.out _ _).mono ?_
  rintro e w3 ⟨rfl, hk1⟩
  have HK := Hid_mk (HK.out.trans' hk1)
  clear hk1
  go_wp2_with fail
  obtain ⟨W4, hW4, hk4, hz4⟩ := named_alloc w3 (.cells #[.float .f64 4607182418800017408, .string ⟨#[]⟩, .bool true] 27)
  have hargs := one_arg w3 ⟨4607182418800017408, [], true⟩ W4 hW4
  rw [hW4]
  have HK := Hid_mk (HK.out.trans' hk4)
  have HC := Hid_mk (HNn.out W4 HK.out _ hargs)
  clear hargs hW4 hk4 hz4
  with_reducible refine HC.out.mono ?_
  rintro e w5 ⟨rfl, hk1⟩
  have HK := Hid_mk (HK.out.trans' hk1)
  clear hk1 HC
  go_wp2_with fail
  with_reducible refine (H01.out _ HK.out).mono ?_
  rintro e w6 ⟨rfl, hk1⟩
  have HK := Hid_mk (HK.out.trans' hk1)
  clear hk1
  go_wp2_with fail
  with_reducible refine (H3.out _ HK.out).mono ?_
  rintro e w7 ⟨rfl, hk1⟩
  have HK := Hid_mk (HK.out.trans' hk1)
  clear hk1
  go_wp2_with fail
  with_reducible refine (H300.out _ HK.out).mono ?_
  rintro e w8 ⟨rfl, hk1⟩
  have HK := Hid_mk (HK.out.trans' hk1)
  clear hk1
  go_wp2_with fail
  obtain ⟨W9, hW9, hk9, hz9⟩ := named_alloc w8 (.cells #[.float .f64 0, .string ⟨#[]⟩, .bool false] 27)
  have hargs := one_arg w8 ⟨0, [], false⟩ W9 hW9
  rw [hW9]
  have HK := Hid_mk (HK.out.trans' hk9)
  have HC := Hid_mk (HD.out W9 HK.out _ hargs)
  clear hargs hW9 hk9 hz9
  with_reducible refine HC.out.mono ?_
  rintro e w10 ⟨rfl, hk1⟩
  have HK := Hid_mk (HK.out.trans' hk1)
  clear hk1 HC
  go_wp2_with fail
  with_reducible refine (HKn.out _ HK.out).mono ?_
  rintro e w11 ⟨rfl, hk1⟩
  have HK := Hid_mk (HK.out.trans' hk1)
  clear hk1
  go_wp2
  go_ret
  exact ⟨rfl, HK.out⟩

end Go.Proofs.YtannbdbhkhmppaaGreatDoor.pf

namespace Go.Proofs.YtannbdbhkhmppaaGreatDoor.pf
open Go.ChangeShapes Go.WideShapes Go.ChangeAt Go.RowKit Go.Lib Go.Proofs.YtannbdbhkhmppaaGreatDoor.sum Go.Proofs.YtannbdbhkhmppaaGreatDoor.kept Go.Proofs.YtannbdbhkhmppaaGreatDoor.fmtf
set_option linter.unusedVariables false

def dbZ : List Int := [0, 1, 56, 2, 57, 49, 28, 3, 61, 58, 42, 50, 38, 29, 17, 4, 62, 47, 59, 36, 45, 43, 51, 22, 53, 39, 33, 30, 24, 18, 12, 5, 63, 55, 48, 27, 60, 41, 37, 16, 46, 35, 44, 21, 52, 32, 23, 11, 54, 26, 40, 15, 34, 20, 31, 10, 25, 14, 19, 9, 13, 8, 7, 6]
def p10Z : List Int := [1, 10, 100, 1000, 10000, 100000, 1000000, 10000000, 100000000, 1000000000, 10000000000, 100000000000, 1000000000000, 10000000000000, 100000000000000, 1000000000000000, 10000000000000000, 100000000000000000, 1000000000000000000, 10000000000000000000]
theorem tab_cell {W : World} (name : String) (dat : DataW Unit) (g : Nat) (T E : TypeId) (k : IntKind) (N : Nat) (zs : List Int) (hdat : dat = .agg (zs.map fun n => .lit (.int k n))) (hN : zs.length = N) (hg0 : Tryz.prog.globalNamed name = some g) (ht0 : (Tryz.prog.globals[g]?).map (·.type) = some T)
    (hT : Tryz.prog.underlying T = some (.array N E)) (hE : Tryz.prog.underlying E = some (.int k)) (hc : Tryz.prog.cellsOf E = 1) (h : laidMet Tryz.prog [(name, dat)] W) (r : Nat) (hr : r < N) : W.cell? ⟨g, r, none⟩ = some (.int k (zs.getD r 0)) := by
  obtain ⟨ps, ⟨g1, t1, cs, fuel, p, q, hg, ht, hv, hd, _, _⟩, _, _⟩ := h
  obtain rfl := Option.some.inj (hg0.symm.trans hg)
  obtain rfl := Option.some.inj (ht0.symm.trans ht)
  rw [hdat] at hd
  obtain ⟨xs, m, _, ex, _, hl, hel⟩ := DataW.trod_array hT hd
  have hEl := hel r hr
  rw [hc, Nat.mul_one, List.getElem?_eq_getElem (by omega)] at hEl
  obtain ⟨z, e1, e2, _⟩ := DataW.trod_int hE hEl
  have e3 : (xs.map (·.1)) = zs.map fun n => .lit (.int k n) := (DataW.agg.inj (Prod.mk.inj ex).1).symm
  have e4 : (xs.map (·.1))[r]? = (zs.map fun n => (DataW.lit (.int k n) : DataW Unit))[r]? := by rw [e3]
  rw [List.getElem?_map, List.getElem?_map, List.getElem?_eq_getElem (by omega : r < xs.length), List.getElem?_eq_getElem (by omega : r < zs.length), e2] at e4
  have hz : z = zs.getD r 0 := by
    simp only [Option.map_some, Option.some.injEq, DataW.lit.injEq, Lit.int.injEq, true_and] at e4
    rw [e4, List.getD, List.getElem?_eq_getElem (by omega : r < zs.length)]; rfl
  rw [World.var?_cell hg hv r, ← hz]
  have : cs.toList[r]? = some (.int k z) := by
    have h0 : ((cs.toList.drop r).take 1)[0]? = some (.int k z) := by rw [e1]; rfl
    simpa using h0
  simpa using this
theorem pow_cell {W : World} (h : laidMet Tryz.prog [("internal/strconv.pow10Tab", Pinned.pow10Tab)] W) (hN : Pinned.pow10Rows.length = 696) (r : Nat) (hr : r < 696) :
    W.cell? ⟨7, r * 2, none⟩ = some (.int .u64 ((Pinned.pow10Rows.getD r (0, 0)).1 : Int)) ∧ W.cell? ⟨7, r * 2 + 1, none⟩ = some (.int .u64 ((Pinned.pow10Rows.getD r (0, 0)).2 : Int)) := by
  have hc2 : Tryz.prog.cellsOf 163 = 2 := by kernel_rfl
  have hc : Tryz.prog.cellsOf 77 = 1 := by kernel_rfl
  obtain ⟨ps, ⟨g1, t1, cs, fuel, p, q, hg, ht, hv, hd, _, _⟩, _, _⟩ := h
  obtain rfl := Option.some.inj ((show Tryz.prog.globalNamed "internal/strconv.pow10Tab" = some 7 by kernel_rfl).symm.trans hg)
  obtain rfl := Option.some.inj ((show (Tryz.prog.globals[7]?).map (·.type) = some 164 by kernel_rfl).symm.trans ht)
  unfold Pinned.pow10Tab at hd
  obtain ⟨xs, m, _, ex, _, hl, hel⟩ := DataW.trod_array Tryz.underlying164 hd
  have hEl := hel r hr
  rw [hc2, List.getElem?_eq_getElem (by omega)] at hEl
  obtain ⟨y0, y1, m2, ey, hcl, hf0, hf1⟩ := trod_struct2 Tryz.underlying163 hEl
  have hr2 : r < Pinned.pow10Rows.length := by omega
  have e3 : (xs.map (·.1)) = Pinned.pow10Rows.map fun x => .agg [.lit (.int .u64 x.1), .lit (.int .u64 x.2)] := (DataW.agg.inj (Prod.mk.inj ex).1).symm
  have e4 : (xs.map (·.1))[r]? = (Pinned.pow10Rows.map fun x => (DataW.agg [.lit (.int .u64 x.1), .lit (.int .u64 x.2)] : DataW Unit))[r]? := by rw [e3]
  rw [List.getElem?_map, List.getElem?_map, List.getElem?_eq_getElem (by omega : r < xs.length), List.getElem?_eq_getElem hr2] at e4
  have e5 : (xs[r]'(by omega)).1 = .agg [.lit (.int .u64 (Pinned.pow10Rows[r].1 : Int)), .lit (.int .u64 (Pinned.pow10Rows[r].2 : Int))] := by simpa using e4
  rw [ey] at e5
  have e6 : [y0.1, y1.1] = [.lit (.int .u64 (Pinned.pow10Rows[r].1 : Int)), .lit (.int .u64 (Pinned.pow10Rows[r].2 : Int))] := DataW.agg.inj e5
  simp only [List.cons.injEq, and_true] at e6
  have hx : Pinned.pow10Rows.getD r (0, 0) = Pinned.pow10Rows[r] := by rw [List.getD, List.getElem?_eq_getElem hr2]; rfl
  rw [hx]
  obtain ⟨a, f1, f2, _⟩ := DataW.trod_int Tryz.underlying77 hf0
  obtain ⟨b, g1, g2, _⟩ := DataW.trod_int Tryz.underlying77 hf1
  have ha : a = (Pinned.pow10Rows[r].1 : Int) := by have := e6.1; rw [f2] at this; simpa using this
  have hb : b = (Pinned.pow10Rows[r].2 : Int) := by have := e6.2; rw [g2] at this; simpa using this
  rw [← ha, ← hb, World.var?_cell hg hv (r * 2), World.var?_cell hg hv (r * 2 + 1)]
  simp only [hc] at f1 g1
  have h0 := congrArg (fun l => l[0]?) f1
  have h1 := congrArg (fun l => l[0]?) g1
  simp at h0 h1
  exact ⟨by simpa using h0, by simpa using h1⟩
theorem flag_cell {W : World} (name : String) (g : Nat) (T : TypeId) (hg0 : Tryz.prog.globalNamed name = some g) (ht0 : (Tryz.prog.globals[g]?).map (·.type) = some T) (hT : Tryz.prog.underlying T = some .bool) (h : laidMet Tryz.prog [(name, .lit (.bool true))] W) : W.cell? ⟨g, 0, none⟩ = some (.bool true) := by
  obtain ⟨ps, ⟨g1, t1, cs, fuel, p, q, hg, ht, hv, hd, _, _⟩, _, _⟩ := h
  obtain rfl := Option.some.inj (hg0.symm.trans hg)
  obtain rfl := Option.some.inj (ht0.symm.trans ht)
  obtain ⟨b, e1, e2⟩ := DataW.trod_bool hT hd
  have hb : b = true := by
    have := (Prod.mk.inj e2).1
    simpa using this.symm
  rw [World.var?_cell hg hv 0]
  rw [hb] at e1
  have : cs.toList[0]? = some (.bool true) := by rw [e1]; rfl
  simpa using this
theorem pow_len : Pinned.pow10Rows.length = 696 := by kernel_rfl
theorem pow_bd : (Pinned.pow10Rows.all fun x => decide (x.1 < 18446744073709551616) && decide (x.2 < 18446744073709551616)) = true := by kernel_rfl
theorem p10_is : ((List.range 19).all fun n => decide (p10Z.getD n 0 = ((10 ^ n : Nat) : Int))) = true := by kernel_rfl
theorem ld_of {W : World} (h1 : laidMet Tryz.prog [("internal/strconv.optimize", .lit (.bool true))] W) (h2 : laidMet Tryz.prog [("internal/strconv.uint64pow10", .agg (p10Z.map fun n => .lit (.int .u64 n)))] W) (h3 : laidMet Tryz.prog [("internal/strconv.pow10Tab", Pinned.pow10Tab)] W) (h4 : laidMet Tryz.prog [("math/bits.deBruijn64tab", .agg (dbZ.map fun n => .lit (.int .u8 n)))] W) : Ld W := by
  have db := tab_cell "math/bits.deBruijn64tab" _ 10 171 5 .u8 64 dbZ rfl (by kernel_rfl) (by kernel_rfl) (by kernel_rfl) Tryz.underlying171 Tryz.underlying5 (by kernel_rfl) h4
  refine ⟨flag_cell _ _ 4 (by kernel_rfl) (by kernel_rfl) Tryz.underlying4 h1, fun n hn => ?_, fun p hp1 hp2 => ?_, db 15 (by omega), db 7 (by omega)⟩
  · have := tab_cell "internal/strconv.uint64pow10" _ 4 131 77 .u64 20 p10Z rfl (by kernel_rfl) (by kernel_rfl) (by kernel_rfl) Tryz.underlying131 Tryz.underlying77 (by kernel_rfl) h2 n (by omega)
    have e := of_decide_eq_true (List.all_eq_true.1 p10_is n (List.mem_range.2 (by omega)))
    rw [e] at this
    exact this
  · obtain ⟨r, hr⟩ : ∃ r : Nat, p + 348 = (r : Int) := ⟨(p + 348).toNat, by omega⟩
    have hr2 : r < 696 := by omega
    have hc := pow_cell h3 pow_len r hr2
    have hm : Pinned.pow10Rows.getD r (0, 0) ∈ Pinned.pow10Rows := by
      have hl : r < Pinned.pow10Rows.length := by rw [pow_len]; exact hr2
      rw [List.getD, List.getElem?_eq_getElem hl]
      exact List.getElem_mem hl
    have hb := List.all_eq_true.1 pow_bd _ hm
    simp only [Bool.and_eq_true, decide_eq_true_eq] at hb
    unfold Pw T10
    rw [hr, Int.toNat_natCast]
    exact ⟨hc, hb⟩

end Go.Proofs.YtannbdbhkhmppaaGreatDoor.pf

namespace Go.Proofs.YtannbdbhkhmppaaGreatDoor.rd
open Go.ChangeShapes Go.WideShapes Go.ChangeAt Go.RowKit Go.Lib Go.Proofs.YtannbdbhkhmppaaGreatDoor.sum Go.Proofs.YtannbdbhkhmppaaGreatDoor.kept Go.Proofs.YtannbdbhkhmppaaGreatDoor.str Go.Proofs.YtannbdbhkhmppaaGreatDoor.pf Go.Proofs.YtannbdbhkhmppaaGreatDoor.fmtf
set_option linter.unusedVariables false

theorem cheat_len : Pinned.cheatRows.length = 61 := by kernel_rfl
theorem cheat_ok : ((List.range 60).all fun k => cheatB (k + 1) (Pinned.cheatRows.getD (k + 1) (0, [])).1 (Pinned.cheatRows.getD (k + 1) (0, [])).2 && decide ((Pinned.cheatRows.getD (k + 1) (0, [])).2.length ≤ 1000) && decide ((Pinned.cheatRows.getD (k + 1) (0, [])).1 ≤ 100)) = true := by kernel_rfl
/-- what is laid of a table that is a slice: where its row lies -/
theorem lc_of {W : World} (h : laidMet Tryz.prog [("internal/strconv.leftcheats", Pinned.leftcheats)] W) : Lcs W := by
  have hc2 : Tryz.prog.cellsOf 168 = 2 := by kernel_rfl
  have hci : Tryz.prog.cellsOf 3 = 1 := by kernel_rfl
  have hcs : Tryz.prog.cellsOf 9 = 1 := by kernel_rfl
  obtain ⟨ps, ⟨g1, t1, cs, fuel, p, q, hg, ht, hv, hd, _, _⟩, _, _⟩ := h
  obtain rfl := Option.some.inj ((show Tryz.prog.globalNamed "internal/strconv.leftcheats" = some 8 by kernel_rfl).symm.trans hg)
  obtain rfl := Option.some.inj ((show (Tryz.prog.globals[8]?).map (·.type) = some 169 by kernel_rfl).symm.trans ht)
  unfold Pinned.leftcheats at hd
  rcases DataW.trod_slice Tryz.underlying169 hd with ⟨_, hx⟩ | ⟨a, len, cap, elems, rest, n', _, hcs2, hx, -, hl, hm, hlen, hel, -, -⟩
  · simp at hx
  · have e3 : elems.map (·.1) = Pinned.cheatRows.map fun x => .agg [.lit (.int .i64 x.1), .lit (.string x.2)] := by
      have := (Prod.mk.inj hx).1
      simp only [DataW.slice.injEq] at this
      exact this.1.symm
    have hlen61 : len = 61 := by
      have := congrArg List.length e3
      simpa [hlen, cheat_len] using this
    rw [hc2] at hel
    obtain ⟨b, o, spot⟩ := a
    have hone : ∀ k, k < 61 → ∃ z s, W.cell? ((⟨b, o, spot⟩ : Addr).add (k * 2)) = some (.int .i64 z) ∧ W.cell? (((⟨b, o, spot⟩ : Addr).add (k * 2)).add 1) = some (.string s) ∧ z = ((Pinned.cheatRows.getD k (0, [])).1 : Int) ∧ s = st (Pinned.cheatRows.getD k (0, [])).2 := by
      intro k hk
      have he := hel k (by omega)
      rw [List.getElem?_eq_getElem (by omega)] at he
      obtain ⟨cs', h1, h3⟩ := Option.bind_eq_some_iff.1 he
      obtain ⟨y0, y1, m2, ey, hcl, hf0, hf1⟩ := trod_struct2 Tryz.underlying168 h3
      obtain ⟨z, f1, f2, _⟩ := DataW.trod_int Tryz.underlying3 hf0
      obtain ⟨s, g1, g2, _⟩ := DataW.trod_string Tryz.underlying9 hf1
      have hr2 : k < Pinned.cheatRows.length := by rw [cheat_len]; exact hk
      have e4 : (elems.map (·.1))[k]? = (Pinned.cheatRows.map fun x => (DataW.agg [.lit (.int .i64 x.1), .lit (.string x.2)] : DataW Unit))[k]? := by rw [e3]
      rw [List.getElem?_map, List.getElem?_map, List.getElem?_eq_getElem (by omega : k < elems.length), List.getElem?_eq_getElem hr2] at e4
      have e5 : (elems[k]'(by omega)).1 = .agg [.lit (.int .i64 (Pinned.cheatRows[k].1 : Int)), .lit (.string Pinned.cheatRows[k].2)] := by simpa using e4
      rw [ey] at e5
      have e6 : [y0.1, y1.1] = [.lit (.int .i64 (Pinned.cheatRows[k].1 : Int)), .lit (.string Pinned.cheatRows[k].2)] := DataW.agg.inj e5
      simp only [List.cons.injEq, and_true] at e6
      have hx2 : Pinned.cheatRows.getD k (0, []) = Pinned.cheatRows[k] := by rw [List.getD, List.getElem?_eq_getElem hr2]; rfl
      have hat := (World.cells?_some h1).2.2
      have hl2 := (World.cells?_some h1).2.1
      simp only [hci, hcs] at f1 g1
      have q0 := hat 0 (by omega)
      have q1 := hat 1 (by omega)
      have h0 := congrArg (fun l => l[0]?) f1
      have h1' := congrArg (fun l => l[0]?) g1
      simp at h0 h1'
      refine ⟨z, s, ?_, ?_, ?_, ?_⟩
      · have : ((⟨b, o, spot⟩ : Addr).add (k * 2)).add 0 = (⟨b, o, spot⟩ : Addr).add (k * 2) := by unfold Addr.add; split <;> simp_all
        rw [this] at q0
        rw [q0]; simpa using h0
      · rw [q1]; simpa using h1'
      · have := e6.1; rw [f2] at this; rw [hx2]; simpa using this
      · have := e6.2
        rw [g2] at this
        rw [hx2]
        apply ByteArray.ext
        rw [← Array.toList_inj]
        simpa [st] using this
    have hspot : spot = none := by
      obtain ⟨z, s, h1, _⟩ := hone 0 (by omega)
      simpa [Addr.add] using World.cell?_spot h1
    subst hspot
    intro k hk1 hk2
    obtain ⟨z, s, h1, h2, h3, h4⟩ := hone k (by omega)
    rw [kept.addr_add] at h1 h2
    rw [kept.addr_add] at h2
    have hok := List.all_eq_true.1 cheat_ok (k - 1) (List.mem_range.2 (by omega))
    rw [show k - 1 + 1 = k by omega] at hok
    simp only [Bool.and_eq_true, decide_eq_true_eq] at hok
    refine ⟨(Pinned.cheatRows.getD k (0, [])).1, (Pinned.cheatRows.getD k (0, [])).2, ⟨b, o, len, cap, ?_, by omega, hl, by omega, by rw [h1, h3], by rw [h2, h4]⟩, cheat_of hok.1.1, hok.1.2, hok.2⟩
    rw [World.var?_cell hg hv 0, show cs[0]? = cs.toList[0]? by simp, hcs2]
    rfl

end Go.Proofs.YtannbdbhkhmppaaGreatDoor.rd
