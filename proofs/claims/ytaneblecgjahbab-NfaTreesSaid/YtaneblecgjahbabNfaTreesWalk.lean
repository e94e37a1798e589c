/- The walk of the statement tailracelaw10.NfaTrees. -/
import Derived.Test.YtaneblecgjahbabNfaBackM
import Derived.Test.YtaneblecgjahbabTreeRe
import Derived.Test.YtaneblecgjahbabEreCount2M
import Derived.Test.YtaneblecgjahbabRefRightM

namespace Go.Proofs.Ytaneblecgjahbab.nfa
open Go.RowKit Go.Proofs.Ytaneblecgjahbab.sum Go.Proofs.Ytaneblecgjahbab.kept Go.Proofs.Ytaneblecgjahbab.pop Go.Proofs.Ytaneblecgjahbab.cls Go.Proofs.Ytaneblecgjahbab.tre Go.Proofs.Ytaneblecgjahbab.ere Go.Proofs.Ytaneblecgjahbab.str Go.Proofs.Ytaneblecgjahbab.turned Go.Proofs.Ytaneblecgjahbab.treeArg
set_option linter.unusedVariables false

/-- another kind is written into a tree -/
theorem re_kind {T : Nat → Prop} {w : World} {k k' : Int} {f g : Nat → Bool} {l : List Tr} {a : Option Addr} {n c : Nat} (h : ReV T w (.mk k g l) (.agg (cellsR k f a n c))) : ReV T w (.mk k' g l) (.agg (cellsR k' f a n c)) := by
  obtain ⟨a2, c2, e, h1, h2, h3⟩ := h
  refine ⟨a2, c2, ?_, h1, h2, h3⟩
  unfold cellsR at e ⊢
  simp only [Value.agg.injEq, Array.mk.injEq, List.cons.injEq, and_true, Value.int.injEq, true_and] at e ⊢
  exact e
theorem set_kind {w : World} {q : Nat} {x0 x1 x2 x3 x4 x5 : Value} (h : RAt w q x0 x1 x2 x3 x4 x5) (y : Value) : RAt (w.setCell ⟨q, 0, none⟩ y) q y x1 x2 x3 x4 x5 := by
  obtain ⟨c0, c1, c2, c3, c4, c5, cw⟩ := h
  refine ⟨World.cell?_setCell_same _ _ _ (by exact c0), ?_, ?_, ?_, ?_, ?_, fun i => by simp only [World.frozen?_setCell]; exact cw i⟩ <;> (rw [World.cell?_setCell_other _ _ _ _ (by intro e; cases e)]; assumption)

set_option maxRecDepth 100000 in
set_option maxHeartbeats 8000000 in
theorem trees_walk (x : Int) (t : TT) (w : World) (k n : Int) (a : Option Addr) (len c : Nat) (ht : AtT w t (.agg #[.int .i64 k, .int .i64 n, .slice a len c])) :
    Calls Try.prog 3 #[.agg #[.int .i64 k, .int .i64 n, .slice a len c], .int .i64 x] w fun e w' => e = .returned (.bool true) ∧ Kp No w w' := by
  obtain ⟨z, hz⟩ : ∃ z, w.heap.size = z := ⟨_, rfl⟩
  have HZ := Hid_mk hz
  have HT := Hid_mk ht
  clear hz ht
  go_enter Try.func3, Try.ntmps3
  go_upto_region 1 with fail
  rw [HZ.out]
  refine wp_name (fun V => Kp No w V ∧ V.heap.size = z + 1 ∧ V.cell? ⟨z, 0, none⟩ = some (.int .i64 k) ∧ V.cell? ⟨z, 1, none⟩ = some (.int .i64 n) ∧ V.cell? ⟨z, 2, none⟩ = some (.slice a len c)) ?_ ?_
  · have hz := HZ.out
    refine ⟨(Kp.refl No w).alloc _, by simp [hz], ?_, ?_, ?_⟩ <;> (rw [← hz]; simp)
  rintro W1 ⟨hk1, hz1, t0, t1, t2⟩
  have hc1 : Calls Try.prog 9 #[.agg #[.int .i64 k, .int .i64 n, .slice a len c], .int .i64 3] W1 (MkPost W1 3) := re_any 3 (by decide) t W1 k n a len c (AtT.no hk1 _ _ HT.out)
  have HC1 := Hid_mk hc1
  have HK1 := Hid_mk hk1
  have HZ1 := Hid_mk hz1
  clear hc1 hk1 hz1
  go_wp2_with fail
  with_reducible refine HC1.out.mono ?_
  rintro e w2 ⟨vk, vf, va, vn, vc, tr, rfl, hv2, hk2, hs2⟩
  obtain ⟨g, l, rfl, -⟩ := val_is hv2
  have HV2 := Hid_mk hv2
  have HK2 := Hid_mk hk2
  have HS2 := Hid_mk hs2
  obtain ⟨q, hq⟩ : ∃ q, w2.heap.size = q := ⟨_, rfl⟩
  have HQ := Hid_mk hq
  clear t0 t1 t2 hv2 hk2 hs2 hq HC1
  unfold cellsR
  go_upto_region 2 with fail
  rw [HQ.out]
  refine wp_name (fun V => Kp No W1 V ∧ RAt V q (.int .i64 vk) (.int .u64 (wd vf 0 64 : Nat)) (.int .u64 (wd vf 64 64 : Nat)) (.int .u64 (wd vf 128 64 : Nat)) (.int .u64 (wd vf 192 64 : Nat)) (.slice va vn vc) ∧ ReV (fun i => i ≠ q) V (.mk vk g l) (.agg (cellsR vk vf va vn vc))) ?_ ?_
  · have hq := HQ.out
    refine ⟨HK2.out.alloc _, by rw [← hq]; exact RAt.new _ _ _ _ _ _ _ _, ReV.no ((Kp.refl No w2).alloc _) _ _ (ReV.wider (T' := fun i => i ≠ q) (fun i hi hl => by show i ≠ q; omega) _ _ HV2.out)⟩
  rintro W3 ⟨hk3, hr3, hv3⟩
  have HLo := Hid_mk (show w.heap.size ≤ q by have h1 := HK1.out.size; have h2 := HK2.out.size; have h3 := HQ.out; omega)
  have HK3 := Hid_mk (HK1.out.trans' hk3)
  have HR3 := Hid_mk hr3
  have HV3 := Hid_mk hv3
  obtain ⟨p, hp⟩ : ∃ p, x % 11 = p := ⟨_, rfl⟩
  have hp0 : 0 ≤ p := by omega
  have hp1 : p < 11 := by omega
  have hpk := pick_any x 11 (by decide) (by decide) W3
  rw [hp] at hpk
  have HPk := Hid_mk hpk
  obtain ⟨c0, c1, c2, c3, c4, c5, cw⟩ := hr3
  clear hk3 hv3 hpk hp HK2 HV2
  go_wp2_with fail
  with_reducible refine HPk.out.mono ?_
  rintro e w4 ⟨rfl, rfl⟩
  go_upto_region 3 with fail
  refine wp_name (fun V => V = W3.setCell ⟨q, 0, none⟩ (.int .i64 (p - 1))) rfl ?_
  rintro W4 rfl
  have hkz : Kp (fun i => i = q) W3 (W3.setCell ⟨q, 0, none⟩ (.int .i64 (p - 1))) := (Kp.refl (fun i => i = q) W3).setCell (p := ⟨q, 0, none⟩) (fun _ => rfl) _
  have hk4 : Kp No w (W3.setCell ⟨q, 0, none⟩ (.int .i64 (p - 1))) := HK3.out.trans hkz (fun i hi e => by have e : i = q := e; have := HLo.out; omega)
  have hr4 := set_kind HR3.out (.int .i64 (p - 1))
  have hv4 : ReV (fun i => i ≠ q) (W3.setCell ⟨q, 0, none⟩ (.int .i64 (p - 1))) (.mk (p - 1) g l) (.agg (cellsR (p - 1) vf va vn vc)) := re_kind (ReV.kept hkz (fun i hi _ => hi) _ _ HV3.out)
  obtain ⟨W5, hW5⟩ : ∃ W5, W3.setCell ⟨q, 0, none⟩ (.int .i64 (p - 1)) = W5 := ⟨_, rfl⟩
  rw [hW5] at hk4 hr4 hv4 ⊢
  have hss : setsS (.mk (p - 1) g l) ≤ 4611686018427387904 := by
    have h1 := HS2.out.1
    have h2 : setsS (.mk (p - 1) g l) = setsS (.mk vk g l) := by cases l <;> rfl
    omega
  obtain ⟨tr, htr⟩ : ∃ tr, Tr.mk (p - 1) g l = tr := ⟨_, rfl⟩
  rw [htr] at hv4 hss
  have hcm := compile_any W5 tr (p - 1) vf va vn vc hv4
  have hrt : ∀ V, Kp No W5 V → Calls Try.prog 12 #[.agg #[.int .i64 (p - 1), .int .u64 (wd vf 0 64 : Nat), .int .u64 (wd vf 64 64 : Nat), .int .u64 (wd vf 128 64 : Nat), .int .u64 (wd vf 192 64 : Nat), .slice va vn vc]] V fun e w' => e = .returned (.bool (rightS tr)) ∧ Kp No V w' := fun V hk => right_any V _ tr (ReV.no hk _ _ hv4) hss
  have HCm := Hid_mk hcm
  have HRt := Hid_mk hrt
  have HR4 := Hid_mk hr4
  have HK4 := Hid_mk hk4
  have HKn := Hid_mk fun W => known10_any W
  clear c0 c1 c2 c3 c4 c5 cw HR3 HV3 hkz hk4 hv4 hcm hrt hW5 hss htr
  obtain ⟨c0, c1, c2, c3, c4, c5, cw⟩ := hr4
  go_wp2_with fail
  with_reducible refine HCm.out.mono ?_
  rintro e w6 ⟨hk6, hor⟩
  have HK6 := Hid_mk hk6
  obtain ⟨d0, d1, d2, d3, d4, d5, dw⟩ := HR4.out.kept hk6 id
  clear c0 c1 c2 c3 c4 c5 cw hk6
  rcases hor with ⟨hR, mb, rfl, -, -⟩ | ⟨hR, rfl⟩
  · rw [hR] at HRt
    clear hR
    go_wp2_with fail
    with_reducible refine (HRt.out _ HK6.out).mono ?_
    rintro e w7 ⟨rfl, hk7⟩
    have HK7 := Hid_mk hk7
    clear hk7 d0 d1 d2 d3 d4 d5 dw
    go_wp2_with fail
    with_reducible refine (HKn.out _).mono ?_
    rintro e w8 ⟨rfl, hk8⟩
    have HK8 := Hid_mk hk8
    clear hk8
    go_wp2
    go_ret
    exact ⟨rfl, ((HK4.out.trans' HK6.out).trans' HK7.out).trans' HK8.out⟩
  · rw [hR] at HRt
    clear hR
    go_wp2_with fail
    with_reducible refine (HRt.out _ HK6.out).mono ?_
    rintro e w7 ⟨rfl, hk7⟩
    have HK7 := Hid_mk hk7
    clear hk7 d0 d1 d2 d3 d4 d5 dw
    go_wp2_with fail
    with_reducible refine (HKn.out _).mono ?_
    rintro e w8 ⟨rfl, hk8⟩
    have HK8 := Hid_mk hk8
    clear hk8
    go_wp2
    go_ret
    exact ⟨rfl, ((HK4.out.trans' HK6.out).trans' HK7.out).trans' HK8.out⟩

end Go.Proofs.Ytaneblecgjahbab.nfa
