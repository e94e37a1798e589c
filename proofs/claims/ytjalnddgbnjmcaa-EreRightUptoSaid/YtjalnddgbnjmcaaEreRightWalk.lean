/- EreRight's walk: a raw tree, made in either way, is asked of by both. -/
import Derived.Test.YtjalnddgbnjmcaaTreeRe
import Derived.Test.YtjalnddgbnjmcaaEreCount2M
import Derived.Test.YtjalnddgbnjmcaaRefSameM
import Derived.Deep.RegionHeld3

namespace Go.Proofs.Ytjalnddgbnjmcaa.ere
open Go.RowKit Go.Proofs.Ytjalnddgbnjmcaa.sum Go.Proofs.Ytjalnddgbnjmcaa.kept Go.Proofs.Ytjalnddgbnjmcaa.pop Go.Proofs.Ytjalnddgbnjmcaa.cls Go.Proofs.Ytjalnddgbnjmcaa.tre Go.Proofs.Ytjalnddgbnjmcaa.str Go.Proofs.Ytjalnddgbnjmcaa.turned Go.Proofs.Ytjalnddgbnjmcaa.treeArg
set_option linter.unusedVariables false

set_option maxRecDepth 100000 in
set_option maxHeartbeats 8000000 in
theorem right_walk (b : Bool) (t : TT) (w : World) (k n : Int) (a : Option Addr) (len c : Nat) (ht : AtT w t (.agg #[.int .i64 k, .int .i64 n, .slice a len c])) (hnd : t.nodes ≤ 1048576) :
    Calls Try.prog 9 #[.agg #[.int .i64 k, .int .i64 n, .slice a len c], .bool b] w fun e w' => e = .returned (.bool true) ∧ Kp No w w' := by
  obtain ⟨z, hz⟩ : ∃ z, w.heap.size = z := ⟨_, rfl⟩
  have HZ := Hid_mk hz
  have HT := Hid_mk ht
  have HNd := Hid_mk hnd
  clear hz ht hnd
  go_enter Try.func9, Try.ntmps9
  go_upto_region 1 with fail
  rw [HZ.out]
  refine wp_name (fun V => Kp No w V ∧ V.heap.size = z + 1 ∧ V.cell? ⟨z, 0, none⟩ = some (.int .i64 k) ∧ V.cell? ⟨z, 1, none⟩ = some (.int .i64 n) ∧ V.cell? ⟨z, 2, none⟩ = some (.slice a len c)) ?_ ?_
  · have hz := HZ.out
    refine ⟨(Kp.refl No w).alloc _, by simp [hz], ?_, ?_, ?_⟩ <;> (rw [← hz]; simp)
  rintro W1 ⟨hk1, hz1, t0, t1, t2⟩
  have hc1 : Calls Try.prog 27 #[.agg #[.int .i64 k, .int .i64 n, .slice a len c], .int .i64 4] W1 (TwPost W1 t) := twisted_any 4 (by decide) t W1 k n a len c (AtT.no hk1 _ _ HT.out) HNd.out
  have HC1 := Hid_mk hc1
  have HK1 := Hid_mk hk1
  have HZ1 := Hid_mk hz1
  have HT0 := Hid_mk t0
  have HT1 := Hid_mk t1
  have HT2 := Hid_mk t2
  clear hc1 hk1 hz1
  go_wp2_with fail
  with_reducible refine HC1.out.mono ?_
  rintro e w2 ⟨vk, vf, va, vn, vc, tr, rfl, hv2, hk2, hs2⟩
  have HV2 := Hid_mk hv2
  have HK2 := Hid_mk hk2
  have HS2 := Hid_mk hs2
  obtain ⟨q, hq⟩ : ∃ q, w2.heap.size = q := ⟨_, rfl⟩
  have HQ := Hid_mk hq
  clear t0 t1 t2 hv2 hk2 hs2 hq
  unfold cellsR
  go_upto_region 2 with fail
  rw [HQ.out]
  refine wp_name (fun V => Kp No W1 V ∧ RAt V q (.int .i64 vk) (.int .u64 (wd vf 0 64 : Nat)) (.int .u64 (wd vf 64 64 : Nat)) (.int .u64 (wd vf 128 64 : Nat)) (.int .u64 (wd vf 192 64 : Nat)) (.slice va vn vc) ∧ ReV (fun i => i ≠ q) V tr (.agg (cellsR vk vf va vn vc))) ?_ ?_
  · have hq := HQ.out
    refine ⟨HK2.out.alloc _, by rw [← hq]; exact RAt.new _ _ _ _ _ _ _ _, ReV.no ((Kp.refl No w2).alloc _) _ _ (ReV.wider (T' := fun i => i ≠ q) (fun i hi hl => by show i ≠ q; omega) _ _ HV2.out)⟩
  rintro W3 ⟨hk3, hr3, hv3⟩
  have hs3 : setsS tr ≤ 1048576 := Nat.le_trans HS2.out HNd.out
  have HK3 := Hid_mk (HK1.out.trans' hk3)
  have HR3 := Hid_mk hr3
  have HV3 := Hid_mk hv3
  have HS3 := Hid_mk hs3
  have HKt := Hid_mk (fun V (h : Kp No W1 V) => AtT.no (HK1.out.trans' h) _ _ HT.out)
  have hw1 : z < W1.heap.size := by have := HZ1.out; omega
  have T0 := Hid_mk (hk3.cell' HT0.out id)
  have T1 := Hid_mk (hk3.cell' HT1.out id)
  have T2 := Hid_mk (hk3.cell' HT2.out id)
  have HA3 := Hid_mk (AtT.no (HK1.out.trans' hk3) _ _ HT.out)
  have HLo := Hid_mk (show w.heap.size ≤ q by have h1 := HK1.out.size; have h2 := HK2.out.size; have h3 := HQ.out; omega)
  clear hk3 hr3 hv3 hs3 hw1 HKt HK2 HV2 HS2
  cases b with
  | false =>
    go_upto_region 4 with fail
    have hKn := fun V (hk : Kp No W3 V) => known9_any V
    have hRt := fun V (hk : Kp No W3 V) => pright_any V _ tr (ReV.no hk _ _ HV3.out)
    have hRr := fun V (hk : Kp No W3 V) => right_any V _ tr (ReV.no hk _ _ HV3.out) (by have := HS3.out; omega)
    have hSt := fun V (hk : Kp No W3 V) => psets_any V _ tr (ReV.no hk _ _ HV3.out)
    have hSr := fun V (hk : Kp No W3 V) => setsR_any V _ tr (ReV.no hk _ _ HV3.out) (by have := HS3.out; omega)
    have hSk : ∀ V, Kp No W3 V → (fun V : World => V.cell? ⟨q, 0, none⟩ = some (.int .i64 vk) ∧ V.cell? ⟨q, 1, none⟩ = some (.int .u64 (wd vf 0 64 : Nat)) ∧ V.cell? ⟨q, 2, none⟩ = some (.int .u64 (wd vf 64 64 : Nat)) ∧ V.cell? ⟨q, 3, none⟩ = some (.int .u64 (wd vf 128 64 : Nat)) ∧ V.cell? ⟨q, 4, none⟩ = some (.int .u64 (wd vf 192 64 : Nat)) ∧ V.cell? ⟨q, 5, none⟩ = some (.slice va vn vc)) V := fun V hk => by
      obtain ⟨d0, d1, d2, d3, d4, d5, -⟩ := HR3.out.kept hk id
      exact ⟨d0, d1, d2, d3, d4, d5⟩
    have HSk := Hid_mk hSk
    generalize rightS tr = B at hRt hRr
    generalize ((if rightS tr = true then setsS tr else 0 : Nat) : Int) = X at hSt hSr
    unfold cellsR at hRt hRr hSt hSr
    have HKn := Hid_mk hKn
    have HRt := Hid_mk hRt
    have HRr := Hid_mk hRr
    have HSt := Hid_mk hSt
    have HSr := Hid_mk hSr
    have HC := Hid_mk (Kp.refl No W3).drew
    have hS := HSk.out _ HC.out
    have hbb : (B == B) = true := by simp
    have hxx : (X == X) = true := by simp
    clear hKn hRt hRr hSt hSr hSk
    go_region_held3 (fun V : World => V.cell? ⟨q, 0, none⟩ = some (.int .i64 vk) ∧ V.cell? ⟨q, 1, none⟩ = some (.int .u64 (wd vf 0 64 : Nat)) ∧ V.cell? ⟨q, 2, none⟩ = some (.int .u64 (wd vf 64 64 : Nat)) ∧ V.cell? ⟨q, 3, none⟩ = some (.int .u64 (wd vf 128 64 : Nat)) ∧ V.cell? ⟨q, 4, none⟩ = some (.int .u64 (wd vf 192 64 : Nat)) ∧ V.cell? ⟨q, 5, none⟩ = some (.slice va vn vc))
      (first | exact hS | (dsimp only; exact hS))
      (first
        | (go_at_call 25; with_reducible refine (HKn.out _ HC.out).mono ?_; rintro e w9 ⟨rfl, hk9⟩; replace HC := Hid_mk (HC.out.trans' hk9); replace hS := HSk.out _ HC.out; clear hk9)
        | (go_at_call 28; with_reducible refine (HRt.out _ HC.out).mono ?_; rintro e w9 ⟨rfl, hk9⟩; replace HC := Hid_mk (HC.out.trans' hk9); replace hS := HSk.out _ HC.out; clear hk9)
        | (go_at_call 18; with_reducible refine (HRr.out _ HC.out).mono ?_; rintro e w9 ⟨rfl, hk9⟩; replace HC := Hid_mk (HC.out.trans' hk9); replace hS := HSk.out _ HC.out; clear hk9)
        | (go_at_call 29; with_reducible refine (HSt.out _ HC.out).mono ?_; rintro e w9 ⟨rfl, hk9⟩; replace HC := Hid_mk (HC.out.trans' hk9); replace hS := HSk.out _ HC.out; clear hk9)
        | (go_at_call 30; with_reducible refine (HSr.out _ HC.out).mono ?_; rintro e w9 ⟨rfl, hk9⟩; replace HC := Hid_mk (HC.out.trans' hk9); replace hS := HSk.out _ HC.out; clear hk9))
    all_goals
      go_wp2
      go_ret
      exact ⟨by first | rfl | simp, HK3.out.trans' HC.out⟩
  | true =>
    have hc3 : Calls Try.prog 16 #[.agg #[.int .i64 k, .int .i64 n, .slice a len c], .int .i64 4] W3 (MkPost W3 (2 ^ 4)) := re_any 4 (by decide) t W3 k n a len c HA3.out HNd.out
    have HC3 := Hid_mk hc3
    clear hc3
    have t0 := T0.out
    have t1 := T1.out
    have t2 := T2.out
    go_wp2_with fail
    with_reducible refine HC3.out.mono ?_
    rintro e w4 ⟨uk, uf, ua, un, uc, ur, rfl, hv4, hk4, hs4⟩
    have hlt3 := HR3.out.lt
    have hr4 := HR3.out.kept hk4 id
    have hkz : Kp (fun i => i = q) w4 (ere.putT w4 q (.int .i64 uk) (.int .u64 (wd uf 0 64 : Nat)) (.int .u64 (wd uf 64 64 : Nat)) (.int .u64 (wd uf 128 64 : Nat)) (.int .u64 (wd uf 192 64 : Nat)) (.slice ua un uc)) := kp_putT (q := q) (Kp.refl (fun i => i = q) w4) (fun _ => rfl) _ _ _ _ _ _
    have hr5 := hr4.put (.int .i64 uk) (.int .u64 (wd uf 0 64 : Nat)) (.int .u64 (wd uf 64 64 : Nat)) (.int .u64 (wd uf 128 64 : Nat)) (.int .u64 (wd uf 192 64 : Nat)) (.slice ua un uc)
    have hv5 : ReV (fun i => i ≠ q) (ere.putT w4 q (.int .i64 uk) (.int .u64 (wd uf 0 64 : Nat)) (.int .u64 (wd uf 64 64 : Nat)) (.int .u64 (wd uf 128 64 : Nat)) (.int .u64 (wd uf 192 64 : Nat)) (.slice ua un uc)) ur (.agg (cellsR uk uf ua un uc)) := ReV.kept hkz (fun i hi _ => hi) _ _ (ReV.wider (T' := fun i => i ≠ q) (fun i hi hl => by have hi : W3.heap.size ≤ i := hi; show i ≠ q; omega) _ _ hv4)
    have hk5 := (HK3.out.trans' hk4).trans hkz (fun i hi e => by have e : i = q := e; have := HLo.out; omega)
    have HR5 := Hid_mk hr5
    have HV5 := Hid_mk hv5
    have HK5 := Hid_mk hk5
    have HS5 := Hid_mk (show setsS ur ≤ 1048576 from Nat.le_trans hs4 (by decide))
    obtain ⟨c0, c1, c2, c3, c4, c5, cw⟩ := hr4
    clear t0 t1 t2 hv4 hk4 hs4 hkz hr5 hv5 hk5 hlt3
    unfold cellsR
    go_upto_region 4 with fail
    refine wp_name (fun V => V = ere.putT w4 q (.int .i64 uk) (.int .u64 (wd uf 0 64 : Nat)) (.int .u64 (wd uf 64 64 : Nat)) (.int .u64 (wd uf 128 64 : Nat)) (.int .u64 (wd uf 192 64 : Nat)) (.slice ua un uc)) rfl ?_
    rintro W5 hW5
    rw [← hW5] at HR5 HV5 HK5
    clear c0 c1 c2 c3 c4 c5 cw hW5
    have hKn := fun V (hk : Kp No W5 V) => known9_any V
    have hRt := fun V (hk : Kp No W5 V) => pright_any V _ ur (ReV.no hk _ _ HV5.out)
    have hRr := fun V (hk : Kp No W5 V) => right_any V _ ur (ReV.no hk _ _ HV5.out) (by have := HS5.out; omega)
    have hSt := fun V (hk : Kp No W5 V) => psets_any V _ ur (ReV.no hk _ _ HV5.out)
    have hSr := fun V (hk : Kp No W5 V) => setsR_any V _ ur (ReV.no hk _ _ HV5.out) (by have := HS5.out; omega)
    have hSk : ∀ V, Kp No W5 V → (fun V : World => V.cell? ⟨q, 0, none⟩ = some (.int .i64 uk) ∧ V.cell? ⟨q, 1, none⟩ = some (.int .u64 (wd uf 0 64 : Nat)) ∧ V.cell? ⟨q, 2, none⟩ = some (.int .u64 (wd uf 64 64 : Nat)) ∧ V.cell? ⟨q, 3, none⟩ = some (.int .u64 (wd uf 128 64 : Nat)) ∧ V.cell? ⟨q, 4, none⟩ = some (.int .u64 (wd uf 192 64 : Nat)) ∧ V.cell? ⟨q, 5, none⟩ = some (.slice ua un uc)) V := fun V hk => by
      obtain ⟨d0, d1, d2, d3, d4, d5, -⟩ := HR5.out.kept hk id
      exact ⟨d0, d1, d2, d3, d4, d5⟩
    have HSk := Hid_mk hSk
    generalize rightS ur = B at hRt hRr
    generalize ((if rightS ur = true then setsS ur else 0 : Nat) : Int) = X at hSt hSr
    unfold cellsR at hRt hRr hSt hSr
    have HKn := Hid_mk hKn
    have HRt := Hid_mk hRt
    have HRr := Hid_mk hRr
    have HSt := Hid_mk hSt
    have HSr := Hid_mk hSr
    have HC := Hid_mk (Kp.refl No W5).drew
    have hS := HSk.out _ HC.out
    have hbb : (B == B) = true := by simp
    have hxx : (X == X) = true := by simp
    clear hKn hRt hRr hSt hSr hSk
    go_region_held3 (fun V : World => V.cell? ⟨q, 0, none⟩ = some (.int .i64 uk) ∧ V.cell? ⟨q, 1, none⟩ = some (.int .u64 (wd uf 0 64 : Nat)) ∧ V.cell? ⟨q, 2, none⟩ = some (.int .u64 (wd uf 64 64 : Nat)) ∧ V.cell? ⟨q, 3, none⟩ = some (.int .u64 (wd uf 128 64 : Nat)) ∧ V.cell? ⟨q, 4, none⟩ = some (.int .u64 (wd uf 192 64 : Nat)) ∧ V.cell? ⟨q, 5, none⟩ = some (.slice ua un uc))
      (first | exact hS | (dsimp only; exact hS))
      (first
        | (go_at_call 25; with_reducible refine (HKn.out _ HC.out).mono ?_; rintro e w9 ⟨rfl, hk9⟩; replace HC := Hid_mk (HC.out.trans' hk9); replace hS := HSk.out _ HC.out; clear hk9)
        | (go_at_call 28; with_reducible refine (HRt.out _ HC.out).mono ?_; rintro e w9 ⟨rfl, hk9⟩; replace HC := Hid_mk (HC.out.trans' hk9); replace hS := HSk.out _ HC.out; clear hk9)
        | (go_at_call 18; with_reducible refine (HRr.out _ HC.out).mono ?_; rintro e w9 ⟨rfl, hk9⟩; replace HC := Hid_mk (HC.out.trans' hk9); replace hS := HSk.out _ HC.out; clear hk9)
        | (go_at_call 29; with_reducible refine (HSt.out _ HC.out).mono ?_; rintro e w9 ⟨rfl, hk9⟩; replace HC := Hid_mk (HC.out.trans' hk9); replace hS := HSk.out _ HC.out; clear hk9)
        | (go_at_call 30; with_reducible refine (HSr.out _ HC.out).mono ?_; rintro e w9 ⟨rfl, hk9⟩; replace HC := Hid_mk (HC.out.trans' hk9); replace hS := HSk.out _ HC.out; clear hk9))
    all_goals
      go_wp2
      go_ret
      exact ⟨by first | rfl | simp, HK5.out.trans' HC.out⟩

end Go.Proofs.Ytjalnddgbnjmcaa.ere
