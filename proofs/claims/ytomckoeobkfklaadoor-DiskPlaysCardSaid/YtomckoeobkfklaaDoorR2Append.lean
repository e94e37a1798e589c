/- The reference's Disk: Append. -/
import Derived.Test.YtomckoeobkfklaaDoorR2Calls
namespace Go.Proofs.YtomckoeobkfklaaDoor.r2
open Go.RowKit Go.Maps Go.Proofs.YtomckoeobkfklaaDoor.sum Go.Proofs.YtomckoeobkfklaaDoor.kept Go.Proofs.YtomckoeobkfklaaDoor.app Go.Proofs.YtomckoeobkfklaaDoor.writer Go.Proofs.YtomckoeobkfklaaDoor.clone Go.Proofs.YtomckoeobkfklaaDoor.fs Go.Proofs.YtomckoeobkfklaaDoor.fsDo Go.Proofs.YtomckoeobkfklaaDoor.unseal Go.Proofs.YtomckoeobkfklaaDoor.dsk
set_option linter.unusedVariables false

set_option maxRecDepth 100000 in
set_option maxHeartbeats 4000000 in
theorem refappend_any (w : World) (ρ : Nat → Role) (r : Nat) (d : DSt) (x : RSt) (vs vn vw : Value) (ls ln : List Fv) (ps : List (Change × Value)) (M : Nat) (h : RS w ρ r x vs vn vw ls ln ps) (hd : RD d x ls ln ps) (hok : DOk M d) (hM : M ≤ 1000) (hi : ∀ k, w.heap.size ≤ k → ρ k = .other)
    (n : ByteArray) (vb : Value) (bs : List UInt8) (hn : n.size ≤ maxLen) (hb : Bs w vb bs) (ha : bs ≠ [] → Aw w ρ r vb) (hbl : bs.length ≤ 140737488355328) : Calls Tryd.prog 26 #[.pointer (some ⟨r, 0, none⟩), .string n, vb] w (RPost w ρ r (appR d n bs).2 (.int .i64 (appR d n bs).1)) := by
  have HCt := Hid_mk (counted_any w ρ r d x vs vn vw ls ln ps h hd)
  obtain ⟨b1, b2, b3, b4, -⟩ := hd.bounds hok hM
  have hpg := place_get hd n
  have hroom := hd.room
  have hsp : (cntX x).space = d.room := by rw [hd.room]; unfold cntX; split <;> (try split) <;> rfl
  have hr0 := hok.room0
  have hr1 := hok.room1
  have hlen : d.now.length = ln.length := by rw [← hd.now, files_len]
  have hup := hd.up
  have hnow := hd.now
  have HB := Hid_mk hb
  have HA := Hid_mk ha
  obtain ⟨ab, cb, rfl, -⟩ := id hb
  have HD := Hid_mk hd
  have HOk := Hid_mk hok
  have HI := Hid_mk hi
  clear h hd hok hi b1 hb ha
  cases hs : stopB d with
  | true =>
    rw [hs] at HCt
    have e : appR d n bs = (3, stopD d) := by unfold appR; rw [if_pos hs]
    rw [e]
    clear e hpg hup
    go_enter Tryd.func26, Tryd.ntmps26
    go_wp2_with fail
    with_reducible refine HCt.out.mono ?_
    rintro e w1 ⟨rfl, hR, hk⟩
    have HF : Hid (RPost w ρ r (stopD d) (.int .i64 3) (.returned (.int .i64 3)) w1) := Hid_mk ⟨rfl, hk, _, _, _, _, _, _, _, hR, HD.out.counted⟩
    clear hR hk
    go_wp2
    go_ret
    exact HF.out
  | false =>
    rw [hs] at HCt
    have hdn := hup hs
    cases hnb : nameB n with
    | false =>
      have e : appR d n bs = (1, stopD d) := by unfold appR; rw [hs, hnb]; rfl
      rw [e]
      clear e hpg hup
      go_enter Tryd.func26, Tryd.ntmps26
      go_wp2_with fail
      with_reducible refine HCt.out.mono ?_
      rintro e w1 ⟨rfl, hR, hkp⟩
      have HNm := Hid_mk (refname_any w1 n hn)
      rw [hnb] at HNm
      have HF : Hid (RPost w ρ r (stopD d) (.int .i64 1) (.returned (.int .i64 1)) w1) := Hid_mk ⟨rfl, hkp, _, _, _, _, _, _, _, hR, HD.out.counted⟩
      clear hR hkp HCt
      go_wp2_with (first | (go_at_call 45; with_reducible refine HNm.out.mono ?_; rintro e w' ⟨rfl, rfl⟩))
      go_ret
      exact HF.out
    | true =>
      have hns : n.size ≤ 16 := by simp [nameB] at hnb; exact hnb.2
      obtain ⟨K, hK⟩ : ∃ K, K = place ln n := ⟨_, rfl⟩
      have hK0 : -1 ≤ K ∧ (K < 0 ↔ (get d.now (nm n)).isSome = false) ∧ K ≤ (ln.length : Int) := by
        rcases hpg with ⟨k, hk, he, hp, hg⟩ | ⟨hp, hg⟩
        · rw [hK, hp, hg]; refine ⟨by omega, ⟨fun h => absurd h (by omega), fun h => by cases h⟩, by omega⟩
        · rw [hK, hp, hg]; exact ⟨by omega, ⟨fun _ => rfl, fun _ => by omega⟩, by omega⟩
      obtain ⟨hK1, hK2, hK3⟩ := hK0
      have HK2 := Hid_mk hK2
      clear hpg hK2
      go_enter Tryd.func26, Tryd.ntmps26
      go_wp2_with fail
      with_reducible refine HCt.out.mono ?_
      rintro e w1 ⟨rfl, hR, hkp⟩
      have HNm := Hid_mk (refname_any w1 n hn)
      rw [hnb] at HNm
      go_wp2_with fail
      with_reducible refine HNm.out.mono ?_
      rintro e w' ⟨rfl, rfl⟩
      have c0 := hR.at_.c0
      rw [hsp] at c0
      have c2 := hR.at_.c2
      have hu := refused_any w1 r (cntX x) vs vn vw ln hR.at_ hR.fn (by omega) (by omega)
      rw [hdn, if_neg (by simp), hnow] at hu
      have hfd := find_any w1 vn ln n hR.fn (by omega) hn
      rw [← hK] at hfd
      have hdrw : ∀ N, RS (w1.drewN N) ρ r (cntX x) vs vn vw ls ln ps := fun N => hR.no ((Kp.refl No w1).drewN N)
      have hu2 : ∀ N, Calls Tryd.prog 30 #[.pointer (some ⟨r, 0, none⟩)] (w1.drewN N) fun e W1 => e = .returned (.int .i64 (used d.now : Int)) ∧ ∃ m, W1 = w1.drewN m := fun N => by
        have hu := refused_any (w1.drewN N) r (cntX x) vs vn vw ln (hdrw N).at_ (hdrw N).fn (by omega) (by omega)
        rw [hdn, if_neg (by simp), hnow] at hu
        exact hu.mono fun _ _ ⟨he, hw⟩ => ⟨he, N, hw.symm⟩
      have hfd2 : ∀ N, Calls Tryd.prog 42 #[vn, .string n] (w1.drewN N) fun e W1 => e = .returned (.int .i64 K) ∧ ∃ m, W1 = w1.drewN m := fun N => by
        have := find_any (w1.drewN N) vn ln n (hdrw N).fn (by omega) hn
        rw [← hK] at this
        exact this.mono fun _ _ ⟨he, hw⟩ => ⟨he, N, hw.symm⟩
      have HU := Hid_mk hu2
      have HFd := Hid_mk hfd2
      obtain ⟨a, cap, rfl, -⟩ := hR.fn.1.opened
      have HRt := Hid_mk hR
      have HK := Hid_mk hkp
      have hub : (used d.now : Int) ≤ 10000000000 := by rw [← hnow]; omega
      obtain ⟨U, hU⟩ : ∃ U, used d.now = U := ⟨_, rfl⟩
      obtain ⟨R, hRm⟩ : ∃ R, d.room = R := ⟨_, rfl⟩
      rw [hU] at hub HU
      rw [hRm] at c0 hr0 hr1
      have HUe := Hid_mk hU
      have HRe := Hid_mk hRm
      have HSp := Hid_mk hsp
      have HKe := Hid_mk hK
      have HLe := Hid_mk hlen
      clear hR hkp HCt HNm hu hfd hdrw hu2 hfd2 hU hRm hK hsp hroom hup hdn hnow hlen
      have h0 : (0 : Int) ≤ (bs.length : Int) := by omega
      by_cases hA1 : R < (bs.length : Int)
      · have e : appR d n bs = (2, stopD d) := by unfold appR; rw [hs, hnb, HUe.out, HRe.out, if_neg (by simp), if_neg (by simp), if_pos (by omega)]
        have HE := Hid_mk e
        clear e
        go_wp2
        go_quiet (fail)
        go_wp2
        go_ret
        rw [HE.out]
        exact ⟨rfl, HK.out.drewN _, _, _, _, _, _, _, _, HRt.out.no ((Kp.refl No w1).drewN _), HD.out.counted⟩
      · have hwr : IntKind.i64.wrap (R - (bs.length : Int)) = R - (bs.length : Int) := wrapU _ (by omega)
        have hd1 : decide (R < (bs.length : Int)) = false := by simpa using hA1
        by_cases hA2 : R - (bs.length : Int) < (U : Int)
        · have e : appR d n bs = (2, stopD d) := by unfold appR; rw [hs, hnb, HUe.out, HRe.out, if_neg (by simp), if_neg (by simp), if_pos (by omega)]
          have HE := Hid_mk e
          have hd2 : decide (R - (bs.length : Int) < (U : Int)) = true := by simpa using hA2
          clear e
          go_wp2
          go_quiet (first | (go_at_call 30; exact HU.out _) | (go_at_call 42; exact HFd.out _))
          go_wp2
          go_ret
          rw [HE.out]
          exact ⟨rfl, HK.out.drewN _, _, _, _, _, _, _, _, HRt.out.no ((Kp.refl No w1).drewN _), HD.out.counted⟩
        · have hd2 : decide (R - (bs.length : Int) < (U : Int)) = false := by simp; omega
          by_cases hB : K < 0 ∧ 64 ≤ (ln.length : Int)
          · have e : appR d n bs = (2, stopD d) := by unfold appR; rw [hs, hnb, HUe.out, HRe.out, if_neg (by simp), if_neg (by simp), if_neg (by omega), if_pos ⟨HK2.out.1 hB.1, by have := HLe.out; omega⟩]
            have HE := Hid_mk e
            obtain ⟨hB1, hB2⟩ := hB
            have hd3 : decide (K < 0) = true := by simpa using hB1
            have hd4 : decide (64 ≤ (ln.length : Int)) = true := by simp; omega
            clear e
            go_wp2
            go_quiet (first | (go_at_call 30; exact HU.out _) | (go_at_call 42; exact HFd.out _))
            go_wp2
            go_ret
            rw [HE.out]
            exact ⟨rfl, HK.out.drewN _, _, _, _, _, _, _, _, HRt.out.no ((Kp.refl No w1).drewN _), HD.out.counted⟩
          · have e : appR d n bs = (0, pushD d (appC n bs)) := by unfold appR; rw [hs, hnb, HUe.out, HRe.out, if_neg (by simp), if_neg (by simp), if_neg (by omega), if_neg (fun h => hB ⟨HK2.out.2 h.1, by have := HLe.out; omega⟩)]
            have HE := Hid_mk e
            have HB1 : Hid (¬ (K < 0 ∧ 64 ≤ (ln.length : Int))) := Hid_mk hB
            have hbl2 : bs.length ≤ 8388608 := by omega
            clear e hB
            by_cases hk : K < 0
            · have hl : ¬ 64 ≤ (ln.length : Int) := fun h => HB1.out ⟨hk, h⟩
              have hd3 : decide (K < 0) = true := by simpa using hk
              have hd4 : decide (64 ≤ (ln.length : Int)) = false := by simp; omega
              go_wp2
              go_quiet (first | (go_at_call 30; exact HU.out _) | (go_at_call 42; exact HFd.out _))
              have hRq := HRt.out.no ((Kp.refl No w1).drewN nq)
              have HRq := Hid_mk hRq
              have hkq := HK.out.drewN nq
              have HBq := Hid_mk (bs_keptE HB.out hkq (fun hne x o m c e => (HA.out hne x o m c e).2.1))
              have HKq := Hid_mk hkq
              have hzq := hkq.size
              have hrlt := hRq.at_.lt
              clear hRq hkq HK HRt HU HFd
              obtain ⟨wq, hwq⟩ : ∃ wq, w1.drewN nq = wq := ⟨_, rfl⟩
              rw [hwq] at HRq HBq HKq hzq hrlt ⊢
              clear hwq
              go_wp2_with (at_builtin; (refine wpList_append_bs _ rfl _ _ rfl wq.heap.size _ [] rfl (World.ownsRow_made wq #[] 0 (Nat.le_refl _) (by decide) rfl) _ bs rfl (bs_no HBq.out ((Kp.refl No wq).alloc _)) (show ([] : List UInt8).length + _ ≤ _ by simp; omega) (by simp) ?_))
              rintro v2 W2 happ
              obtain ⟨g2, cap2, rfl, ho2⟩ := app_new happ
              have k2 : Kp No wq W2 := ((Kp.refl No wq).alloc _).grown happ.2.1 (fun i hi e => by simp [Value.ownBlock] at e; omega)
              have hz2 := k2.size
              have hg2 := World.ownsRow.lt ho2 g2 rfl
              have hdo := pushed_any (HRq.out.no k2) HD.out HOk.out hM (fun k hk => HI.out k (by omega)) (appC n bs) (.slice (some ⟨g2, 0, none⟩) bs.length cap2) ⟨by show (0 : Nat) < 4; omega, fun e => by cases e⟩ hn (by show (0 : Nat) ≤ _; exact Nat.zero_le _) (owns_bs ho2) (fun _ x o m c e => by cases e; exact ⟨HI.out _ (by omega), by omega, hg2.2⟩) (by show bs.length ≤ _; omega)
              have HDo : Hid (Calls Tryd.prog 44 #[.pointer (some ⟨r, 0, none⟩), .agg #[.int .i64 0, .string n, .string ⟨#[]⟩, .slice (some ⟨g2, 0, none⟩) bs.length cap2, .int .i64 0]] W2 (RPost W2 ρ r (pushD d (appC n bs)) (.int .i64 0))) := Hid_mk hdo
              have HK := Hid_mk (HKq.out.trans' (k2.to (S := fun k => k = r)))
              clear hdo happ ho2 k2 HRq HBq
              go_wp2_with (first | (go_at_call 44; with_reducible refine HDo.out.mono ?_; rintro e w2 hpost; have hpd := RPost.done hpost HK.out; have he2 := RPost.is hpd; subst he2; have HP := Hid_mk hpd; clear hpd hpost))
              go_ret
              rw [HE.out]
              exact HP.out

            · have hd3 : decide (K < 0) = false := by simp; omega
              go_wp2
              go_quiet (first | (go_at_call 30; exact HU.out _) | (go_at_call 42; exact HFd.out _))
              have hRq := HRt.out.no ((Kp.refl No w1).drewN nq)
              have HRq := Hid_mk hRq
              have hkq := HK.out.drewN nq
              have HBq := Hid_mk (bs_keptE HB.out hkq (fun hne x o m c e => (HA.out hne x o m c e).2.1))
              have HKq := Hid_mk hkq
              have hzq := hkq.size
              have hrlt := hRq.at_.lt
              clear hRq hkq HK HRt HU HFd
              obtain ⟨wq, hwq⟩ : ∃ wq, w1.drewN nq = wq := ⟨_, rfl⟩
              rw [hwq] at HRq HBq HKq hzq hrlt ⊢
              clear hwq
              go_wp2_with (at_builtin; (refine wpList_append_bs _ rfl _ _ rfl wq.heap.size _ [] rfl (World.ownsRow_made wq #[] 0 (Nat.le_refl _) (by decide) rfl) _ bs rfl (bs_no HBq.out ((Kp.refl No wq).alloc _)) (show ([] : List UInt8).length + _ ≤ _ by simp; omega) (by simp) ?_))
              rintro v2 W2 happ
              obtain ⟨g2, cap2, rfl, ho2⟩ := app_new happ
              have k2 : Kp No wq W2 := ((Kp.refl No wq).alloc _).grown happ.2.1 (fun i hi e => by simp [Value.ownBlock] at e; omega)
              have hz2 := k2.size
              have hg2 := World.ownsRow.lt ho2 g2 rfl
              have hdo := pushed_any (HRq.out.no k2) HD.out HOk.out hM (fun k hk => HI.out k (by omega)) (appC n bs) (.slice (some ⟨g2, 0, none⟩) bs.length cap2) ⟨by show (0 : Nat) < 4; omega, fun e => by cases e⟩ hn (by show (0 : Nat) ≤ _; exact Nat.zero_le _) (owns_bs ho2) (fun _ x o m c e => by cases e; exact ⟨HI.out _ (by omega), by omega, hg2.2⟩) (by show bs.length ≤ _; omega)
              have HDo : Hid (Calls Tryd.prog 44 #[.pointer (some ⟨r, 0, none⟩), .agg #[.int .i64 0, .string n, .string ⟨#[]⟩, .slice (some ⟨g2, 0, none⟩) bs.length cap2, .int .i64 0]] W2 (RPost W2 ρ r (pushD d (appC n bs)) (.int .i64 0))) := Hid_mk hdo
              have HK := Hid_mk (HKq.out.trans' (k2.to (S := fun k => k = r)))
              clear hdo happ ho2 k2 HRq HBq
              go_wp2_with (first | (go_at_call 44; with_reducible refine HDo.out.mono ?_; rintro e w2 hpost; have hpd := RPost.done hpost HK.out; have he2 := RPost.is hpd; subst he2; have HP := Hid_mk hpd; clear hpd hpost))
              go_ret
              rw [HE.out]
              exact HP.out


end Go.Proofs.YtomckoeobkfklaaDoor.r2
