/- The law's known: three texts parsed. -/
import Derived.Test.YtdognehkbahmdaaEreParse
import Derived.Test.YtdognehkbahmdaaRefSame
import Derived.Test.YtdognehkbahmdaaRefOne
namespace Go.Proofs.Ytdognehkbahmdaa.ere
open Go.RowKit Go.Proofs.Ytdognehkbahmdaa.sum Go.Proofs.Ytdognehkbahmdaa.kept Go.Proofs.Ytdognehkbahmdaa.pop Go.Proofs.Ytdognehkbahmdaa.cls Go.Proofs.Ytdognehkbahmdaa.tre Go.Proofs.Ytdognehkbahmdaa.str
set_option linter.unusedVariables false

/-- a text without a brace, one without a bracket -/
theorem sign_plain {w0 : World} {q : Nat} {l : List UInt8} (hl : l.length < 4294967281) (h : ∀ k, k < l.length → atB l k ≠ 123) : SignC w0 q l := by
  intro w k o T t v hR hk hv hT hTq hs
  refine sign_any hR hl hk T t v hv hT hTq ?_
  have hn := h k hk
  unfold seesB at hs
  simp only [Bool.and_eq_true, List.contains_cons, List.contains_nil, Bool.or_false, Bool.or_eq_true, beq_iff_eq] at hs
  rcases hs.2 with e | e | e | e
  · exact .inl e
  · exact .inr (.inl e)
  · exact .inr (.inr e)
  · exact absurd e hn
theorem brkt_plain {w0 : World} {q : Nat} {l : List UInt8} {bk : Nat → Option ((Nat → Bool) × Nat)} (h : ∀ k, k < l.length → atB l k ≠ 91) : BrktC w0 q l bk := fun _ k _ _ hk h91 => absurd h91 (h k hk)
theorem no_byte {l : List UInt8} {c : Nat} (h : l.all (fun b => b.toNat != c) = true) : ∀ k, k < l.length → atB l k ≠ c := fun k hk e => by
  have := List.all_eq_true.1 h l[k] (List.getElem_mem hk)
  unfold atB at e
  rw [List.getD_eq_getElem?_getD, List.getElem?_eq_getElem hk] at e
  simp at this e
  exact this e
abbrev All : Nat → Prop := fun _ => True
/-- Parse of a text of known bytes -/
theorem parse_l (w : World) (l : List UInt8) (s : ByteArray) (hs : s = st l) (x : Tr × Nat × Nat) (hx : parseS l (fun _ => none) (8 * l.length + 8) = x) (hl : l.length < 1000000000) (h1 : l.all (fun b => b.toNat != 123) = true) (h2 : l.all (fun b => b.toNat != 91) = true) :
    Calls Try.prog 10 #[.string s] w fun e w' => ∃ k f a n c, e = .returned (.tuple #[.agg (cellsR k f a n c), .int .i64 (x.2.1 : Int), .int .i64 (x.2.2 : Int)]) ∧ ReV All w' x.1 (.agg (cellsR k f a n c)) ∧ Kp No w w' := by
  subst hs
  have h := parse_any w l (fun _ => none) hl (fun q => brkt_plain (no_byte h2)) (fun q => sign_plain (by omega) (no_byte h1))
  rw [hx] at h
  refine h.mono ?_
  rintro e w' ⟨v, rfl, hv, hk⟩
  obtain ⟨⟨K, F, L⟩, y⟩ := x
  obtain ⟨a, c, rfl, h1, h2, h3⟩ := hv
  exact ⟨K, F, a, _, c, rfl, ReV.wider (fun _ _ _ => trivial) _ _ ⟨a, c, rfl, h1, h2, h3⟩, hk⟩
theorem p_abs : parseS [97, 98, 42] (fun _ => none) (8 * [97, 98, 42].length + 8) = (kid2 2 (setT (ofL [97])) (kid1 4 (setT (ofL [98]))), 0, 0) := by kernel_rfl
theorem p_bar : parseS [97, 124, 98] (fun _ => none) (8 * [97, 124, 98].length + 8) = (kid2 3 (setT (ofL [97])) (setT (ofL [98])), 0, 0) := by kernel_rfl
theorem p_bars : parseS [97, 124, 124, 98] (fun _ => none) (8 * [97, 124, 124, 98].length + 8) = (leafT 0, 2, 24) := by kernel_rfl
theorem s_abs : sameS (kid2 2 (setT (ofL [97])) (kid1 4 (setT (ofL [98])))) (kid2 2 (oneT 97) (kid1 4 (oneT 98))) = true := by kernel_rfl
theorem s_bar : sameS (kid2 3 (setT (ofL [97])) (setT (ofL [98]))) (kid2 3 (oneT 97) (oneT 98)) = true := by kernel_rfl
theorem one_val (w : World) (b : Nat) (hb : b < 256) : Calls Try.prog 11 #[.int .u8 (b : Int)] w fun e w' => e = .returned (.agg (cellsR 1 (oneS b) none 0 0)) ∧ ReV All w' (oneT b) (.agg (cellsR 1 (oneS b) none 0 0)) ∧ Kp No w w' := by
  refine (tre.one_any w b hb).mono ?_
  rintro e w' ⟨rfl, hk⟩
  exact ⟨rfl, leaf_val All w' 1 (oneS b) 0 (by decide) none, hk⟩
theorem same_v (w : World) (t t' : Tr) (v v' : Value) (h : ReV All w t v) (h' : ReV All w t' v') (hs : sameS t t' = true) : Calls Try.prog 13 #[v, v'] w fun e w' => e = .returned (.bool true) ∧ Kp No w w' := by
  have := same_any t.size t (Nat.le_refl _) t' w v v' h h'
  rw [hs] at this
  exact this
theorem rat_new (w : World) (k : Int) (f : Nat → Bool) (a : Option Addr) (n c : Nat) (ty : TypeId) : RAt (w.alloc (.cells (cellsR k f a n c) ty)) w.heap.size (.int .i64 k) (.int .u64 (wd f 0 64 : Nat)) (.int .u64 (wd f 64 64 : Nat)) (.int .u64 (wd f 128 64 : Nat)) (.int .u64 (wd f 192 64 : Nat)) (.slice a n c) := RAt.new _ _ _ _ _ _ _ _

set_option maxRecDepth 100000 in
set_option maxHeartbeats 8000000 in
theorem known9_any (w : World) : Calls Try.prog 12 #[] w fun e w' => e = .returned (.bool true) ∧ Kp No w w' := by
  have HP1 := Hid_mk fun W => parse_l W [97, 98, 42] ⟨#[97, 98, 42]⟩ rfl _ p_abs (by decide) (by decide) (by decide)
  have HP2 := Hid_mk fun W => parse_l W [97, 124, 98] ⟨#[97, 124, 98]⟩ rfl _ p_bar (by decide) (by decide) (by decide)
  have HP3 := Hid_mk fun W => parse_l W [97, 124, 124, 98] ⟨#[97, 124, 124, 98]⟩ rfl _ p_bars (by decide) (by decide) (by decide)
  have HO1 := Hid_mk (show ∀ W, Calls Try.prog 11 #[.int .u8 97] W fun e w' => e = .returned (.agg (cellsR 1 (oneS 97) none 0 0)) ∧ ReV All w' (oneT 97) (.agg (cellsR 1 (oneS 97) none 0 0)) ∧ Kp No W w' from fun W => one_val W 97 (by decide))
  have HO2 := Hid_mk (show ∀ W, Calls Try.prog 11 #[.int .u8 98] W fun e w' => e = .returned (.agg (cellsR 1 (oneS 98) none 0 0)) ∧ ReV All w' (oneT 98) (.agg (cellsR 1 (oneS 98) none 0 0)) ∧ Kp No W w' from fun W => one_val W 98 (by decide))
  unfold cellsR at HP1 HP2 HP3 HO1 HO2
  go_enter Try.func12, Try.ntmps12
  go_wp2_with fail
  with_reducible refine (HP1.out _).mono ?_
  rintro e v1 ⟨xk, xf, xa, xn, xc, rfl, hv, hk⟩
  have HV1 := Hid_mk hv
  have HKv1 := Hid_mk hk
  clear hv hk HP1
  go_upto_region 2 with fail
  obtain ⟨b1, hb1⟩ : ∃ b, v1.heap.size = b := ⟨_, rfl⟩
  rw [hb1]
  refine wp_name (fun W => Kp No v1 W ∧ RAt W b1 (.int .i64 xk) (.int .u64 (wd xf 0 64 : Nat)) (.int .u64 (wd xf 64 64 : Nat)) (.int .u64 (wd xf 128 64 : Nat)) (.int .u64 (wd xf 192 64 : Nat)) (.slice xa xn xc)) ⟨(Kp.refl No v1).alloc _, by rw [← hb1]; exact RAt.new _ _ _ _ _ _ _ _⟩ ?_
  clear hb1
  rintro W1 ⟨hk, hr⟩
  have HR1_1 := Hid_mk hr
  have HT1 := Hid_mk (ReV.no hk _ _ HV1.out)
  have HK1 := Hid_mk (HKv1.out.trans' hk)
  clear hk hr
  go_wp2_with fail
  with_reducible refine (HP2.out _).mono ?_
  rintro e v2 ⟨yk, yf, ya, yn, yc, rfl, hv, hk⟩
  have HV2 := Hid_mk hv
  have HKv2 := Hid_mk hk
  clear hv hk HP2
  go_upto_region 3 with fail
  obtain ⟨b2, hb2⟩ : ∃ b, v2.heap.size = b := ⟨_, rfl⟩
  rw [hb2]
  refine wp_name (fun W => Kp No v2 W ∧ RAt W b2 (.int .i64 yk) (.int .u64 (wd yf 0 64 : Nat)) (.int .u64 (wd yf 64 64 : Nat)) (.int .u64 (wd yf 128 64 : Nat)) (.int .u64 (wd yf 192 64 : Nat)) (.slice ya yn yc)) ⟨(Kp.refl No v2).alloc _, by rw [← hb2]; exact RAt.new _ _ _ _ _ _ _ _⟩ ?_
  clear hb2
  rintro W2 ⟨hk, hr⟩
  have HR2_2 := Hid_mk hr
  have HT2 := Hid_mk (ReV.no hk _ _ HV2.out)
  have HS2 := Hid_mk (HKv2.out.trans' hk)
  have HK2 := Hid_mk (HK1.out.trans' HS2.out)
  have HR1_2 := Hid_mk (HR1_1.out.kept HS2.out id)
  clear hk hr
  go_wp2_with fail
  with_reducible refine (HP3.out _).mono ?_
  rintro e v3 ⟨zk, zf, za, zn, zc, rfl, hv, hk⟩
  have HV3 := Hid_mk hv
  have HKv3 := Hid_mk hk
  clear hv hk HP3
  go_upto_region 4 with fail
  obtain ⟨b3, hb3⟩ : ∃ b, v3.heap.size = b := ⟨_, rfl⟩
  rw [hb3]
  refine wp_name (fun W => Kp No v3 W ∧ RAt W b3 (.int .i64 zk) (.int .u64 (wd zf 0 64 : Nat)) (.int .u64 (wd zf 64 64 : Nat)) (.int .u64 (wd zf 128 64 : Nat)) (.int .u64 (wd zf 192 64 : Nat)) (.slice za zn zc)) ⟨(Kp.refl No v3).alloc _, by rw [← hb3]; exact RAt.new _ _ _ _ _ _ _ _⟩ ?_
  clear hb3
  rintro W3 ⟨hk, hr⟩
  have HR3_3 := Hid_mk hr
  have HT3 := Hid_mk (ReV.no hk _ _ HV3.out)
  have HS3 := Hid_mk (HKv3.out.trans' hk)
  have HK3 := Hid_mk (HK2.out.trans' HS3.out)
  have HR1_3 := Hid_mk (HR1_2.out.kept HS3.out id)
  have HR2_3 := Hid_mk (HR2_2.out.kept HS3.out id)
  clear hk hr
  go_wp2_with fail
  with_reducible refine (HO1.out _).mono ?_
  rintro e v4 ⟨rfl, hv, hk⟩
  have HV4 := Hid_mk hv
  have HKv4 := Hid_mk hk
  clear hv hk HO1
  go_upto_region 5 with fail
  obtain ⟨b4, hb4⟩ : ∃ b, v4.heap.size = b := ⟨_, rfl⟩
  rw [hb4]
  refine wp_name (fun W => Kp No v4 W ∧ RAt W b4 (.int .i64 1) (.int .u64 (wd (oneS 97) 0 64 : Nat)) (.int .u64 (wd (oneS 97) 64 64 : Nat)) (.int .u64 (wd (oneS 97) 128 64 : Nat)) (.int .u64 (wd (oneS 97) 192 64 : Nat)) (.slice none 0 0)) ⟨(Kp.refl No v4).alloc _, by rw [← hb4]; exact RAt.new _ _ _ _ _ _ _ _⟩ ?_
  clear hb4
  rintro W4 ⟨hk, hr⟩
  have HR4_4 := Hid_mk hr
  have HT4 := Hid_mk (ReV.no hk _ _ HV4.out)
  have HS4 := Hid_mk (HKv4.out.trans' hk)
  have HK4 := Hid_mk (HK3.out.trans' HS4.out)
  have HR1_4 := Hid_mk (HR1_3.out.kept HS4.out id)
  have HR2_4 := Hid_mk (HR2_3.out.kept HS4.out id)
  have HR3_4 := Hid_mk (HR3_3.out.kept HS4.out id)
  clear hk hr
  go_wp2_with fail
  with_reducible refine (HO2.out _).mono ?_
  rintro e v5 ⟨rfl, hv, hk⟩
  have HV5 := Hid_mk hv
  have HKv5 := Hid_mk hk
  clear hv hk HO2
  go_upto_region 6 with fail
  obtain ⟨b5, hb5⟩ : ∃ b, v5.heap.size = b := ⟨_, rfl⟩
  rw [hb5]
  refine wp_name (fun W => Kp No v5 W ∧ RAt W b5 (.int .i64 1) (.int .u64 (wd (oneS 98) 0 64 : Nat)) (.int .u64 (wd (oneS 98) 64 64 : Nat)) (.int .u64 (wd (oneS 98) 128 64 : Nat)) (.int .u64 (wd (oneS 98) 192 64 : Nat)) (.slice none 0 0)) ⟨(Kp.refl No v5).alloc _, by rw [← hb5]; exact RAt.new _ _ _ _ _ _ _ _⟩ ?_
  clear hb5
  rintro W5 ⟨hk, hr⟩
  have HR5_5 := Hid_mk hr
  have HT5 := Hid_mk (ReV.no hk _ _ HV5.out)
  have HS5 := Hid_mk (HKv5.out.trans' hk)
  have HK5 := Hid_mk (HK4.out.trans' HS5.out)
  have HR1_5 := Hid_mk (HR1_4.out.kept HS5.out id)
  have HR2_5 := Hid_mk (HR2_4.out.kept HS5.out id)
  have HR3_5 := Hid_mk (HR3_4.out.kept HS5.out id)
  have HR4_5 := Hid_mk (HR4_4.out.kept HS5.out id)
  clear hk hr
  have ho97 : ∀ W, ReV All W (oneT 97) (.agg (cellsR 1 (oneS 97) none 0 0)) := fun W => leaf_val All W 1 (oneS 97) 0 (by decide) none
  have ho98 : ∀ W, ReV All W (oneT 98) (.agg (cellsR 1 (oneS 98) none 0 0)) := fun W => leaf_val All W 1 (oneS 98) 0 (by decide) none
  have hA5 := ReV.no (HS2.out.trans' (HS3.out.trans' (HS4.out.trans' HS5.out))) _ _ HT1.out
  have hB5 := ReV.no (HS3.out.trans' (HS4.out.trans' HS5.out)) _ _ HT2.out
  have m1 := made1 (ho98 W5) trivial 4 nul 27
  have m2 := made2 (ho97 _) m1 trivial 2 nul 27
  have hka := ((Kp.refl No W5).alloc (.cells (cellsR 1 (oneS 98) none 0 0) 27)).alloc (.cells (cellsR 1 (oneS 97) none 0 0 ++ cellsR 4 nul (some ⟨W5.heap.size, 0, none⟩) 1 1) 27)
  have sm1 := same_v _ _ _ _ _ (ReV.no hka _ _ hA5) m2 s_abs
  have HKa := Hid_mk hka
  have HB5 := Hid_mk hB5
  have HO97 := Hid_mk ho97
  have HO98 := Hid_mk ho98
  unfold cellsR at sm1 HKa
  simp only [wd_nul, Int.natCast_zero, World.size_alloc, List.append_toArray, List.cons_append, List.nil_append] at sm1 HKa
  have HSm1 := Hid_mk sm1
  clear ho97 ho98 hA5 hB5 m1 m2 hka sm1
  obtain ⟨x0, x1, x2, x3, x4, x5, -⟩ := HR1_5.out
  obtain ⟨y0, y1, y2, y3, y4, y5, -⟩ := HR4_5.out
  obtain ⟨z0, z1, z2, z3, z4, z5, -⟩ := HR5_5.out
  go_wp2_with fail
  with_reducible refine HSm1.out.mono ?_
  rintro e V6 ⟨rfl, hk6⟩
  have HK6 := Hid_mk (HKa.out.trans' hk6)
  clear hk6 HSm1 HKa x0 x1 x2 x3 x4 x5 y0 y1 y2 y3 y4 y5 z0 z1 z2 z3 z4 z5
  have hr2 := HR2_5.out.kept HK6.out id
  have hr4 := HR4_5.out.kept HK6.out id
  have hr5 := HR5_5.out.kept HK6.out id
  have m3 := made2 (HO97.out V6) (HO98.out V6) trivial 3 nul 27
  have hkb := (Kp.refl No V6).alloc (.cells (cellsR 1 (oneS 97) none 0 0 ++ cellsR 1 (oneS 98) none 0 0) 27)
  have sm2 := same_v _ _ _ _ _ (ReV.no hkb _ _ (ReV.no HK6.out _ _ HB5.out)) m3 s_bar
  have HKb := Hid_mk hkb
  unfold cellsR at sm2 HKb
  simp only [wd_nul, Int.natCast_zero, World.size_alloc, List.append_toArray, List.cons_append, List.nil_append] at sm2 HKb
  have HSm2 := Hid_mk sm2
  clear m3 hkb sm2
  obtain ⟨x0, x1, x2, x3, x4, x5, -⟩ := hr2
  obtain ⟨y0, y1, y2, y3, y4, y5, -⟩ := hr4
  obtain ⟨z0, z1, z2, z3, z4, z5, -⟩ := hr5
  go_wp2_with fail
  with_reducible refine HSm2.out.mono ?_
  rintro e V7 ⟨rfl, hk7⟩
  have HK7 := Hid_mk (HK5.out.trans' (HK6.out.trans' (HKb.out.trans' hk7)))
  clear hk7 HSm2 HKb x0 x1 x2 x3 x4 x5 y0 y1 y2 y3 y4 y5 z0 z1 z2 z3 z4 z5
  go_wp2
  go_ret
  exact ⟨rfl, HK7.out⟩

end Go.Proofs.Ytdognehkbahmdaa.ere
