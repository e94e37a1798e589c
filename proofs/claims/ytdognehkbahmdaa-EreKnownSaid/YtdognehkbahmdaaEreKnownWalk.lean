/- The walk of the statement tailracelaw9.EreKnown. -/
import Derived.Test.YtdognehkbahmdaaEreKnown0
import Derived.Test.YtdognehkbahmdaaEreBrace
import Derived.Test.YtdognehkbahmdaaEreBrkt
import Derived.Test.YtdognehkbahmdaaErePrint1
namespace Go.Proofs.Ytdognehkbahmdaa.ere
open Go.RowKit Go.Proofs.Ytdognehkbahmdaa.sum Go.Proofs.Ytdognehkbahmdaa.kept Go.Proofs.Ytdognehkbahmdaa.pop Go.Proofs.Ytdognehkbahmdaa.cls Go.Proofs.Ytdognehkbahmdaa.tre Go.Proofs.Ytdognehkbahmdaa.str
set_option linter.unusedVariables false

/-- Parse of a text of known bytes without a backslash -/
theorem parse_g (w : World) (l : List UInt8) (s : ByteArray) (hs : s = st l) (x : Tr × Nat × Nat) (hm : Mx w) (hx : parseS l (bkS l) (8 * l.length + 8) = x) (hl : l.length < 1000000000) (h92 : l.all (fun b => b.toNat != 92) = true) :
    Calls Try.prog 10 #[.string s] w fun e w' => ∃ k f a n c, e = .returned (.tuple #[.agg (cellsR k f a n c), .int .i64 (x.2.1 : Int), .int .i64 (x.2.2 : Int)]) ∧ ReV All w' x.1 (.agg (cellsR k f a n c)) ∧ Kp No w w' := by
  subst hs
  have h := parse_any w l (bkS l) hl (fun q => brkt_any (by omega) (no_byte h92) hm) (fun q => sign_all (by omega))
  rw [hx] at h
  refine h.mono ?_
  rintro e w' ⟨v, rfl, hv, hk⟩
  obtain ⟨⟨K, F, L⟩, y⟩ := x
  obtain ⟨a, c, rfl, h1, h2, h3⟩ := hv
  exact ⟨K, F, a, _, c, rfl, ReV.wider (fun _ _ _ => trivial) _ _ ⟨a, c, rfl, h1, h2, h3⟩, hk⟩
theorem kind_of {T : Nat → Prop} {w : World} {K : Int} {F : Nat → Bool} {L : List Tr} {k : Int} {f : Nat → Bool} {a : Option Addr} {n c : Nat} (h : ReV T w (.mk K F L) (.agg (cellsR k f a n c))) : k = K := by
  obtain ⟨a', c', e, -⟩ := h
  injection e with e
  simp at e
  exact e.1
theorem kp_1 : parseS [42, 97] (bkS [42, 97]) (8 * [42, 97].length + 8) = (leafT 0, 0, 24) := by kernel_rfl
theorem kp_2 : parseS [40, 97] (bkS [40, 97]) (8 * [40, 97].length + 8) = (leafT 0, 2, 24) := by kernel_rfl
theorem kp_3 : parseS [91, 122, 45, 97, 93] (bkS [91, 122, 45, 97, 93]) (8 * [91, 122, 45, 97, 93].length + 8) = (leafT 0, 0, 24) := by kernel_rfl
theorem kp_4 : parseS [97, 123, 51, 44, 50, 125] (bkS [97, 123, 51, 44, 50, 125]) (8 * [97, 123, 51, 44, 50, 125].length + 8) = (leafT 0, 1, 24) := by kernel_rfl
theorem kp_5 : parseS [97, 123, 48, 125] (bkS [97, 123, 48, 125]) (8 * [97, 123, 48, 125].length + 8) = (leafT 0, 0, 0) := by kernel_rfl
theorem kp_6 : parseS [97, 123, 50, 125] (bkS [97, 123, 50, 125]) (8 * [97, 123, 50, 125].length + 8) = (kid2 2 (setT (ofL [97])) (setT (ofL [97])), 0, 0) := by kernel_rfl
theorem s_two : sameS (kid2 2 (setT (ofL [97])) (setT (ofL [97]))) (kid2 2 (oneT 97) (oneT 97)) = true := by kernel_rfl
theorem q_one : quoteS [97] = [92, 49, 52, 49] := by kernel_rfl

set_option maxRecDepth 100000 in
set_option maxHeartbeats 16000000 in
theorem ereknown_any (w : World) (hm : Mx w) : Calls Try.prog 3 #[] w fun e w' => e = .returned (.bool true) ∧ Kp No w w' := by
  have HP1 := Hid_mk fun W (hW : Mx W) => parse_g W [42, 97] ⟨#[42, 97]⟩ rfl _ hW kp_1 (by decide) (by decide)
  have HP2 := Hid_mk fun W (hW : Mx W) => parse_g W [40, 97] ⟨#[40, 97]⟩ rfl _ hW kp_2 (by decide) (by decide)
  have HP3 := Hid_mk fun W (hW : Mx W) => parse_g W [91, 122, 45, 97, 93] ⟨#[91, 122, 45, 97, 93]⟩ rfl _ hW kp_3 (by decide) (by decide)
  have HP4 := Hid_mk fun W (hW : Mx W) => parse_g W [97, 123, 51, 44, 50, 125] ⟨#[97, 123, 51, 44, 50, 125]⟩ rfl _ hW kp_4 (by decide) (by decide)
  have HP5 := Hid_mk fun W (hW : Mx W) => parse_g W [97, 123, 48, 125] ⟨#[97, 123, 48, 125]⟩ rfl _ hW kp_5 (by decide) (by decide)
  have HP6 := Hid_mk fun W (hW : Mx W) => parse_g W [97, 123, 50, 125] ⟨#[97, 123, 50, 125]⟩ rfl _ hW kp_6 (by decide) (by decide)
  have HO1 := Hid_mk (show ∀ W, Calls Try.prog 11 #[.int .u8 97] W fun e w' => e = .returned (.agg (cellsR 1 (oneS 97) none 0 0)) ∧ ReV All w' (oneT 97) (.agg (cellsR 1 (oneS 97) none 0 0)) ∧ Kp No W w' from fun W => one_val W 97 (by decide))
  have HKn := Hid_mk fun W => known9_any W
  have HQu := Hid_mk (show ∀ W, Calls Try.prog 14 #[.string ⟨#[97]⟩] W fun e w' => e = .returned (.string ⟨#[92, 49, 52, 49]⟩) ∧ Kp No W w' from fun W => by have h := quote_any W [97] (by decide); rw [q_one] at h; exact h)
  have HPr := Hid_mk fun W => print_first W
  unfold cellsR at HP1 HP2 HP3 HP4 HP5 HP6 HO1
  have HM0 := Hid_mk hm
  have HK0 := Hid_mk (Kp.refl No w)
  clear hm
  go_enter Try.func3, Try.ntmps3
  go_wp2_with fail
  with_reducible refine (HP1.out _ HM0.out).mono ?_
  rintro e v1 ⟨xk, xf, xa, xn, xc, rfl, hv, hk⟩
  have HV := Hid_mk hv
  have HKv := Hid_mk hk
  clear hv hk HP1
  go_upto_region 2 with fail
  obtain ⟨b1, hb⟩ : ∃ b, v1.heap.size = b := ⟨_, rfl⟩
  rw [hb]
  refine wp_name (fun W => Kp No v1 W ∧ RAt W b1 (.int .i64 xk) (.int .u64 (wd xf 0 64 : Nat)) (.int .u64 (wd xf 64 64 : Nat)) (.int .u64 (wd xf 128 64 : Nat)) (.int .u64 (wd xf 192 64 : Nat)) (.slice xa xn xc)) ⟨(Kp.refl No v1).alloc _, by rw [← hb]; exact RAt.new _ _ _ _ _ _ _ _⟩ ?_
  clear hb
  rintro W1 ⟨hk, hr⟩
  have HS1 := Hid_mk (HKv.out.trans' hk)
  have HK1 := Hid_mk (HK0.out.trans' HS1.out)
  have HM1 := Hid_mk (HM0.out.no HS1.out)
  clear hr
  clear hk HV HKv
  go_wp2_with fail
  with_reducible refine (HP2.out _ HM1.out).mono ?_
  rintro e v2 ⟨xk, xf, xa, xn, xc, rfl, hv, hk⟩
  have HV := Hid_mk hv
  have HKv := Hid_mk hk
  clear hv hk HP2
  go_upto_region 3 with fail
  obtain ⟨b2, hb⟩ : ∃ b, v2.heap.size = b := ⟨_, rfl⟩
  rw [hb]
  refine wp_name (fun W => Kp No v2 W ∧ RAt W b2 (.int .i64 xk) (.int .u64 (wd xf 0 64 : Nat)) (.int .u64 (wd xf 64 64 : Nat)) (.int .u64 (wd xf 128 64 : Nat)) (.int .u64 (wd xf 192 64 : Nat)) (.slice xa xn xc)) ⟨(Kp.refl No v2).alloc _, by rw [← hb]; exact RAt.new _ _ _ _ _ _ _ _⟩ ?_
  clear hb
  rintro W2 ⟨hk, hr⟩
  have HS2 := Hid_mk (HKv.out.trans' hk)
  have HK2 := Hid_mk (HK1.out.trans' HS2.out)
  have HM2 := Hid_mk (HM1.out.no HS2.out)
  clear hr
  clear hk HV HKv
  go_wp2_with fail
  with_reducible refine (HP3.out _ HM2.out).mono ?_
  rintro e v3 ⟨xk, xf, xa, xn, xc, rfl, hv, hk⟩
  have HV := Hid_mk hv
  have HKv := Hid_mk hk
  clear hv hk HP3
  go_upto_region 4 with fail
  obtain ⟨b3, hb⟩ : ∃ b, v3.heap.size = b := ⟨_, rfl⟩
  rw [hb]
  refine wp_name (fun W => Kp No v3 W ∧ RAt W b3 (.int .i64 xk) (.int .u64 (wd xf 0 64 : Nat)) (.int .u64 (wd xf 64 64 : Nat)) (.int .u64 (wd xf 128 64 : Nat)) (.int .u64 (wd xf 192 64 : Nat)) (.slice xa xn xc)) ⟨(Kp.refl No v3).alloc _, by rw [← hb]; exact RAt.new _ _ _ _ _ _ _ _⟩ ?_
  clear hb
  rintro W3 ⟨hk, hr⟩
  have HS3 := Hid_mk (HKv.out.trans' hk)
  have HK3 := Hid_mk (HK2.out.trans' HS3.out)
  have HM3 := Hid_mk (HM2.out.no HS3.out)
  clear hr
  clear hk HV HKv
  go_wp2_with fail
  with_reducible refine (HP4.out _ HM3.out).mono ?_
  rintro e v4 ⟨xk, xf, xa, xn, xc, rfl, hv, hk⟩
  have HV := Hid_mk hv
  have HKv := Hid_mk hk
  clear hv hk HP4
  go_upto_region 5 with fail
  obtain ⟨b4, hb⟩ : ∃ b, v4.heap.size = b := ⟨_, rfl⟩
  rw [hb]
  refine wp_name (fun W => Kp No v4 W ∧ RAt W b4 (.int .i64 xk) (.int .u64 (wd xf 0 64 : Nat)) (.int .u64 (wd xf 64 64 : Nat)) (.int .u64 (wd xf 128 64 : Nat)) (.int .u64 (wd xf 192 64 : Nat)) (.slice xa xn xc)) ⟨(Kp.refl No v4).alloc _, by rw [← hb]; exact RAt.new _ _ _ _ _ _ _ _⟩ ?_
  clear hb
  rintro W4 ⟨hk, hr⟩
  have HS4 := Hid_mk (HKv.out.trans' hk)
  have HK4 := Hid_mk (HK3.out.trans' HS4.out)
  have HM4 := Hid_mk (HM3.out.no HS4.out)
  clear hr
  clear hk HV HKv
  go_wp2_with fail
  with_reducible refine (HP5.out _ HM4.out).mono ?_
  rintro e v5 ⟨xk, xf, xa, xn, xc, rfl, hv, hk⟩
  have HV := Hid_mk hv
  have HKv := Hid_mk hk
  clear hv hk HP5
  go_upto_region 6 with fail
  obtain ⟨b5, hb⟩ : ∃ b, v5.heap.size = b := ⟨_, rfl⟩
  rw [hb]
  refine wp_name (fun W => Kp No v5 W ∧ RAt W b5 (.int .i64 xk) (.int .u64 (wd xf 0 64 : Nat)) (.int .u64 (wd xf 64 64 : Nat)) (.int .u64 (wd xf 128 64 : Nat)) (.int .u64 (wd xf 192 64 : Nat)) (.slice xa xn xc)) ⟨(Kp.refl No v5).alloc _, by rw [← hb]; exact RAt.new _ _ _ _ _ _ _ _⟩ ?_
  clear hb
  rintro W5 ⟨hk, hr⟩
  have HS5 := Hid_mk (HKv.out.trans' hk)
  have HK5 := Hid_mk (HK4.out.trans' HS5.out)
  have HM5 := Hid_mk (HM4.out.no HS5.out)
  obtain rfl : xk = 0 := kind_of HV.out
  obtain ⟨c0, -⟩ := hr
  have HR5 := Hid_mk c0
  clear c0
  clear hk HV HKv
  go_wp2_with fail
  with_reducible refine (HP6.out _ HM5.out).mono ?_
  rintro e v6 ⟨xk, xf, xa, xn, xc, rfl, hv, hk⟩
  have HV := Hid_mk hv
  have HKv := Hid_mk hk
  clear hv hk HP6
  go_upto_region 7 with fail
  obtain ⟨b6, hb⟩ : ∃ b, v6.heap.size = b := ⟨_, rfl⟩
  rw [hb]
  refine wp_name (fun W => Kp No v6 W ∧ RAt W b6 (.int .i64 xk) (.int .u64 (wd xf 0 64 : Nat)) (.int .u64 (wd xf 64 64 : Nat)) (.int .u64 (wd xf 128 64 : Nat)) (.int .u64 (wd xf 192 64 : Nat)) (.slice xa xn xc)) ⟨(Kp.refl No v6).alloc _, by rw [← hb]; exact RAt.new _ _ _ _ _ _ _ _⟩ ?_
  clear hb
  rintro W6 ⟨hk, hr⟩
  have HS6 := Hid_mk (HKv.out.trans' hk)
  have HK6 := Hid_mk (HK5.out.trans' HS6.out)
  have HM6 := Hid_mk (HM5.out.no HS6.out)
  have HR5' := Hid_mk (HS6.out.cell' HR5.out id)
  have HT6 := Hid_mk (ReV.no hk _ _ HV.out)
  have HR6 := Hid_mk hr
  clear hr
  clear hk HV HKv
  go_wp2_with fail
  with_reducible refine (HO1.out _).mono ?_
  rintro e v7 ⟨rfl, hv, hk⟩
  have HV := Hid_mk hv
  have HKv := Hid_mk hk
  clear hv hk HO1
  go_upto_region 8 with fail
  obtain ⟨b7, hb⟩ : ∃ b, v7.heap.size = b := ⟨_, rfl⟩
  rw [hb]
  refine wp_name (fun W => Kp No v7 W ∧ RAt W b7 (.int .i64 1) (.int .u64 (wd (oneS 97) 0 64 : Nat)) (.int .u64 (wd (oneS 97) 64 64 : Nat)) (.int .u64 (wd (oneS 97) 128 64 : Nat)) (.int .u64 (wd (oneS 97) 192 64 : Nat)) (.slice none 0 0)) ⟨(Kp.refl No v7).alloc _, by rw [← hb]; exact RAt.new _ _ _ _ _ _ _ _⟩ ?_
  clear hb
  rintro W7 ⟨hk, hr⟩
  have HR7 := Hid_mk hr
  have HS7 := Hid_mk (HKv.out.trans' hk)
  have HK7 := Hid_mk (HK6.out.trans' HS7.out)
  clear hk hr HV HKv
  go_wp2_with fail
  with_reducible refine (HKn.out _).mono ?_
  rintro e W8 ⟨rfl, hk8⟩
  have HK8 := Hid_mk (HK7.out.trans' hk8)
  have hR5 := (HS7.out.trans' hk8).cell' HR5'.out id
  have HR6b := Hid_mk (HR6.out.kept (HS7.out.trans' hk8) id)
  have HR7b := Hid_mk (HR7.out.kept hk8 id)
  have hT8 := ReV.no (HS7.out.trans' hk8) _ _ HT6.out
  have ho97 : ∀ W, ReV All W (oneT 97) (.agg (cellsR 1 (oneS 97) none 0 0)) := fun W => leaf_val All W 1 (oneS 97) 0 (by decide) none
  have m2 := made2 (ho97 W8) (ho97 W8) trivial 2 nul 27
  have hka := (Kp.refl No W8).alloc (.cells (cellsR 1 (oneS 97) none 0 0 ++ cellsR 1 (oneS 97) none 0 0) 27)
  have sm := same_v _ _ _ _ _ (ReV.no hka _ _ hT8) m2 s_two
  have HKa := Hid_mk (HK8.out.trans' hka)
  unfold cellsR at sm HKa
  simp only [wd_nul, Int.natCast_zero, World.size_alloc, List.append_toArray, List.cons_append, List.nil_append] at sm HKa
  have HSm := Hid_mk sm
  obtain ⟨x0, x1, x2, x3, x4, x5, -⟩ := HR6b.out
  obtain ⟨y0, y1, y2, y3, y4, y5, -⟩ := HR7b.out
  clear hk8 hT8 ho97 m2 hka sm
  go_wp2_with fail
  with_reducible refine HSm.out.mono ?_
  rintro e W9 ⟨rfl, hk9⟩
  have HK9 := Hid_mk (HKa.out.trans' hk9)
  clear hk9 HSm HKa x0 x1 x2 x3 x4 x5 y0 y1 y2 y3 y4 y5 hR5
  go_wp2_with fail
  with_reducible refine (HQu.out _).mono ?_
  rintro e Wa ⟨rfl, hka⟩
  have HKb := Hid_mk (HK9.out.trans' hka)
  clear hka
  go_wp2_with fail
  with_reducible refine (HPr.out _).mono ?_
  rintro e Wb ⟨rfl, hkb⟩
  have HKc := Hid_mk (HKb.out.trans' hkb)
  clear hkb
  go_wp2
  go_ret
  exact ⟨rfl, HKc.out⟩

end Go.Proofs.Ytdognehkbahmdaa.ere
