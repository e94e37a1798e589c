/- The project's Save, where it asks its disk as chapter 6 tells it: Names, Remove, Append, Sync, Rename, Sync. The project's Open, where it asks its disk as chapter 6 tells it. So many bytes of 0, as make makes them. SnapKnown: the law's walk. -/
import Derived.Test.YtmehneicdklfeaaSnapCutsM
import Derived.Test.YtmehneicdklfeaaSealM
import Derived.Test.YtmehneicdklfeaaSnapKnown0M
import Derived.Test.YtmehneicdklfeaaBaseM
import Derived.Test.YtmehneicdklfeaaFsDoM

namespace Go.Proofs.Ytmehneicdklfeaa.snp
open Go.RowKit Go.Maps Go.Proofs.Ytmehneicdklfeaa.sum Go.Proofs.Ytmehneicdklfeaa.kept Go.Proofs.Ytmehneicdklfeaa.app Go.Proofs.Ytmehneicdklfeaa.writer Go.Proofs.Ytmehneicdklfeaa.clone Go.Proofs.Ytmehneicdklfeaa.fs Go.Proofs.Ytmehneicdklfeaa.fsDo Go.Proofs.Ytmehneicdklfeaa.unseal Go.Proofs.Ytmehneicdklfeaa.dsk Go.Proofs.Ytmehneicdklfeaa.r2 Go.Proofs.Ytmehneicdklfeaa.pair Go.Proofs.Ytmehneicdklfeaa.frm
set_option linter.unusedVariables false

section
variable {w w' : World} {base p M : Nat} {ρ : Nat → Role} {d : DSt}
theorem st_num {f : FuncId} {args : Array Value} {d' : DSt} {n e1 : Int} (h : Calls Try.prog f args w (StPost base p ρ d' w (.int .i64 n))) (he : n = e1) :
    Calls Try.prog f args w fun e w' => e = .returned (.int .i64 e1) ∧ Hid (∃ ρ', Dk w' base p ρ' d' ∧ Fr ρ w ρ' w') := by
  subst he
  exact h.mono fun _ _ ⟨h1, h2⟩ => ⟨h1, Hid_mk h2⟩
theorem new_other (h : Dk w base p ρ d) {v : Value} {bs : List UInt8} (ho : w'.ownsRow w.heap.size 5 1 v bs.length (bs.map B)) : ∀ x o m c, v = .slice (some ⟨x, o, none⟩) m c → ρ x = .other := fun x o m c e => by
  rcases owns_any ho with ⟨rfl, -⟩ | ⟨g, cap, rfl, hg⟩
  · cases e
  · cases e
    exact h.hi hg.1
theorem pread_any (h : Dk w base p ρ d) (hok : OkN M d) (hM : M ≤ 1000) (n : ByteArray) (hn : n.size ≤ maxLen) :
    Calls Try.prog 15 #[.pointer (some ⟨p, 0, none⟩), .string n] w fun e w' => ∃ v, e = .returned (.tuple #[v, .bool (hereB d n)]) ∧ w'.ownsRow w.heap.size 5 1 v (readD d n).length ((readD d n).map B) ∧ (readD d n).length ≤ 10000000000 ∧ Kp No w w' := by
  have q2 := hok.1.small
  have q4 := used_all hok.1.rising d.cs
  have h8 : used d.now = used (all d.syn d.cs) := rfl
  have hu : used d.now ≤ 10000000000 := by omega
  cases hd : d.down with
  | true =>
    refine (read_down w base p ρ d n h hd).mono ?_
    rintro e w' ⟨he, rfl⟩
    have e1 : hereB d n = false := by unfold hereB; rw [hd]; rfl
    have e2 : readD d n = [] := by unfold readD; rw [if_pos hd]
    rw [e1, e2]
    exact ⟨_, he, World.ownsRow_nil _ _ _ _, Nat.zero_le _, Kp.refl _ _⟩
  | false =>
    obtain ⟨s, nn, vp, ps, hh⟩ := h
    refine (dsk.read_any w base p ρ d d.now s nn vp ps n hh hd hn (by omega)).mono ?_
    rintro e w' ⟨v, he, ho, hk⟩
    have e1 : hereB d n = (fs.get d.now (nm n)).isSome := by unfold hereB; rw [hd]; rfl
    have e2 : readD d n = old d.now (nm n) := by unfold readD; rw [if_neg (by rw [hd]; simp)]
    rw [e1, e2]
    have h9 : (old d.now (nm n)).length ≤ used d.now := get_len (rising_all hok.1.rising d.cs) (nm n)
    exact ⟨v, he, ho, by omega, hk⟩
end

set_option maxRecDepth 100000 in
set_option maxHeartbeats 4000000 in
theorem save_any : SaveC := by
  intro w base p M ρ d v bs h hok hM hb hvo hbl
  have HB := Hid_mk hb
  have HA := Hid_mk hvo
  have HZ := Hid_mk h
  have HOk := Hid_mk hok
  have HH := Hid_mk (has_any w base p M ρ d h hok (by omega))
  obtain ⟨a, cap, rfl, hlc, hm, -⟩ := hb
  unfold maxLen at hm
  clear h hok hvo
  by_cases hl : 4194304 < bs.length
  · have hli : (4194304 : Int) < (bs.length : Int) := by omega
    have HF : Hid (StPost base p ρ (savD d bs).2 w (.int .i64 (savD d bs).1) (.returned (.int .i64 12)) w) := Hid_mk (by rw [savD_no hl]; exact ⟨rfl, ρ, HZ.out, Fr.refl _ _⟩)
    go_enter Try.func8, Try.ntmps8
    go_wp2
    go_ret
    exact HF.out
  · have hli : ¬ (4194304 : Int) < (bs.length : Int) := by omega
    have hEq := savD_eq (d := d) (bs := bs) (by omega)
    obtain ⟨X, hX⟩ : ∃ X, X = savD d bs := ⟨_, rfl⟩
    rw [← hX] at hEq ⊢
    clear hX
    cases hh : hereB d newN with
    | false =>
      rw [hh] at HH
      have hc : clrD d = (0, d) := by unfold clrD; rw [hh]; rfl
      have hs : X = savT d bs := by rw [hEq, hc]; rfl
      have HX := Hid_mk hs
      clear hs hc hh hEq hl
      go_enter Try.func8, Try.ntmps8
      go_wp2_with fail
      with_reducible refine HH.out.mono ?_
      rintro e w1 ⟨rfl, k1⟩
      have HZ1 := Hid_mk (HZ.out.no k1)
      have HB1 := Hid_mk (bs_no HB.out k1)
      have HKp := Hid_mk (Fr.of_no (ρ := ρ) k1)
      have HOk1 : Hid (OkN (M + 1) d) := Hid_mk (OkN.more HOk.out (by omega))
      clear k1
      obtain ⟨e2, he2⟩ : ∃ e2, (appR d newN (framed bs)).1 = e2 := ⟨_, rfl⟩
      have HFr := Hid_mk (frm.frame_any w1 (.slice a bs.length cap) bs HB1.out)
      go_wp2_with fail
      with_reducible refine HFr.out.mono ?_
      rintro e wf ⟨vf, rfl, of, kf⟩
      have HAp := Hid_mk (st_num (papp_any (HZ1.out.no kf) HOk1.out.1 (by omega) newN vf (framed bs) (by decide) (owns_bs of) (fun _ => new_other HZ1.out of) (Nat.le_trans (framed_small bs) (by decide))) he2)
      have HKf := Hid_mk (HKp.out.trans (Fr.of_no kf))
      clear of kf HFr
      go_wp2_with fail
      with_reducible refine HAp.out.mono ?_
      rintro e w3 ⟨rfl, H3⟩
      obtain ⟨ρ3, hz3, hf3⟩ := H3.out
      have HZ3 := Hid_mk hz3
      have HK3 := Hid_mk (HKf.out.trans hf3)
      clear hz3 hf3 H3 HAp HKf
      by_cases h2 : e2 = 0
      · subst h2
        have hs2 : X = seqD (syR (appR d newN (framed bs)).2) fun d => seqD (reR d newN snapN) fun d => syR d := HX.out.trans (seqD_ok _ he2)
        clear HX
        have HX := Hid_mk hs2
        have HOk3 := Hid_mk (appR_ok HOk1.out newN (framed bs))
        obtain ⟨d3, hd3⟩ : ∃ d3, d3 = (appR d newN (framed bs)).2 := ⟨_, rfl⟩
        rw [← hd3] at HOk3 HZ3 HX
        clear hd3 he2 hs2
        obtain ⟨e3, he3⟩ : ∃ e3, (syR d3).1 = e3 := ⟨_, rfl⟩
        have HSy := Hid_mk (st_num (psync_any HZ3.out HOk3.out.1 (by omega)) he3)
        go_wp2_with fail
        with_reducible refine HSy.out.mono ?_
        rintro e w4 ⟨rfl, H4⟩
        obtain ⟨ρ4, hz4, hf4⟩ := H4.out
        have HZ4 := Hid_mk hz4
        have HK4 := Hid_mk (HK3.out.trans hf4)
        clear hz4 hf4 H4 HSy HK3 HZ3
        by_cases h3 : e3 = 0
        · subst h3
          have hs2 := HX.out.trans (seqD_ok _ he3)
          clear HX
          have HX := Hid_mk hs2
          clear hs2
          have HOk4 := Hid_mk (syR_ok HOk3.out)
          obtain ⟨d4, hd4⟩ : ∃ d4, d4 = (syR d3).2 := ⟨_, rfl⟩
          rw [← hd4] at HOk4 HZ4 HX
          clear hd4 he3 HOk3
          obtain ⟨e4, he4⟩ : ∃ e4, (reR d4 newN snapN).1 = e4 := ⟨_, rfl⟩
          have HRe := Hid_mk (st_num (prename_any HZ4.out HOk4.out.1 (by omega) newN snapN (by decide) (by decide)) he4)
          go_wp2_with fail
          with_reducible refine HRe.out.mono ?_
          rintro e w5 ⟨rfl, H5⟩
          obtain ⟨ρ5, hz5, hf5⟩ := H5.out
          have HZ5 := Hid_mk hz5
          have HK5 := Hid_mk (HK4.out.trans hf5)
          clear hz5 hf5 H5 HRe HK4 HZ4
          by_cases h4 : e4 = 0
          · subst h4
            have hs2 := HX.out.trans (seqD_ok _ he4)
            clear HX
            have HX := Hid_mk hs2
            clear hs2
            have HOk5 := Hid_mk (reR_ok HOk4.out newN snapN (by decide))
            obtain ⟨d5, hd5⟩ : ∃ d5, d5 = (reR d4 newN snapN).2 := ⟨_, rfl⟩
            rw [← hd5] at HOk5 HZ5 HX
            clear hd5 he4 HOk4
            have HSz := Hid_mk (st_num (psync_any HZ5.out HOk5.out.1 (by omega)) rfl)
            go_wp2_with fail
            with_reducible refine HSz.out.mono ?_
            rintro e w6 ⟨rfl, H6⟩
            obtain ⟨ρ6, hz6, hf6⟩ := H6.out
            have HF : Hid (StPost base p ρ X.2 w (.int .i64 X.1) (.returned (.int .i64 (syR d5).1)) w6) := Hid_mk (by rw [HX.out]; exact ⟨rfl, ρ6, hz6, HK5.out.trans hf6⟩)
            clear hz6 hf6 H6 HSz HK5 HZ5
            go_wp2
            go_ret
            exact HF.out
          · have hs2 := HX.out.trans (seqD_no _ (by rw [he4]; exact h4))
            have HF : Hid (StPost base p ρ X.2 w (.int .i64 X.1) (.returned (.int .i64 e4)) w5) := Hid_mk (by rw [hs2]; exact ⟨by rw [he4], ρ5, HZ5.out, HK5.out⟩)
            clear he4 hs2
            go_wp2
            go_ret
            exact HF.out
        · have hs2 := HX.out.trans (seqD_no _ (by rw [he3]; exact h3))
          have HF : Hid (StPost base p ρ X.2 w (.int .i64 X.1) (.returned (.int .i64 e3)) w4) := Hid_mk (by rw [hs2]; exact ⟨by rw [he3], ρ4, HZ4.out, HK4.out⟩)
          clear he3 hs2
          go_wp2
          go_ret
          exact HF.out
      · have hs2 : X = appR d newN (framed bs) := HX.out.trans (seqD_no _ (by rw [he2]; exact h2))
        have HF : Hid (StPost base p ρ X.2 w (.int .i64 X.1) (.returned (.int .i64 e2)) w3) := Hid_mk (by rw [hs2]; exact ⟨by rw [he2], ρ3, HZ3.out, HK3.out⟩)
        clear he2 hs2
        go_wp2
        go_ret
        exact HF.out
    | true =>
      rw [hh] at HH
      have hc : clrD d = rmR d newN := by unfold clrD; rw [hh]; rfl
      rw [hc] at hEq
      have HEq := Hid_mk hEq
      clear hc hh hl hEq
      go_enter Try.func8, Try.ntmps8
      go_wp2_with fail
      with_reducible refine HH.out.mono ?_
      rintro e w1 ⟨rfl, k1⟩
      have HZ1 := Hid_mk (HZ.out.no k1)
      have HB1 := Hid_mk (bs_no HB.out k1)
      have HK1 := Hid_mk (Fr.of_no (ρ := ρ) k1)
      have hz1 := k1.size
      clear k1
      obtain ⟨e1, he1⟩ : ∃ e1, (rmR d newN).1 = e1 := ⟨_, rfl⟩
      have HRm := Hid_mk (st_num (premove_any HZ1.out HOk.out.1 (by omega) newN (by decide)) he1)
      go_wp2_with fail
      with_reducible refine HRm.out.mono ?_
      rintro e w2 ⟨rfl, H2⟩
      obtain ⟨ρ2, hz2, hf2⟩ := H2.out
      have HZ2 := Hid_mk hz2
      by_cases h1 : e1 = 0
      · have hs : X = savT (rmR d newN).2 bs := by rw [HEq.out, seqD_ok _ (he1.trans h1)]
        have HX := Hid_mk hs
        clear hs HRm HEq
        subst h1
        have HOk1 := Hid_mk (rmR_ok HOk.out newN (by decide))
        have HB2 : Hid (Bs w2 (.slice a bs.length cap) bs) := Hid_mk (bs_keptE HB1.out hf2.1 fun hne x o n c e h => h (HA.out hne x o n c e))
        have HKp := Hid_mk (HK1.out.trans hf2)
        clear hz2 hf2 H2
        obtain ⟨d2, hd2⟩ : ∃ d2, d2 = (rmR d newN).2 := ⟨_, rfl⟩
        rw [← hd2] at HOk1 HZ2 HX
        clear hd2 he1
        obtain ⟨e2, he2⟩ : ∃ e2, (appR d2 newN (framed bs)).1 = e2 := ⟨_, rfl⟩
        have HFr := Hid_mk (frm.frame_any w2 (.slice a bs.length cap) bs HB2.out)
        go_wp2_with fail
        with_reducible refine HFr.out.mono ?_
        rintro e wf ⟨vf, rfl, of, kf⟩
        have HAp := Hid_mk (st_num (papp_any (HZ2.out.no kf) HOk1.out.1 (by omega) newN vf (framed bs) (by decide) (owns_bs of) (fun _ => new_other HZ2.out of) (Nat.le_trans (framed_small bs) (by decide))) he2)
        have HKf := Hid_mk (HKp.out.trans (Fr.of_no kf))
        clear of kf HFr
        go_wp2_with fail
        with_reducible refine HAp.out.mono ?_
        rintro e w3 ⟨rfl, H3⟩
        obtain ⟨ρ3, hz3, hf3⟩ := H3.out
        have HZ3 := Hid_mk hz3
        have HK3 := Hid_mk (HKf.out.trans hf3)
        clear hz3 hf3 H3 HAp HKf
        by_cases h2 : e2 = 0
        · subst h2
          have hs2 : X = seqD (syR (appR d2 newN (framed bs)).2) fun d => seqD (reR d newN snapN) fun d => syR d := HX.out.trans (seqD_ok _ he2)
          clear HX
          have HX := Hid_mk hs2
          have HOk3 := Hid_mk (appR_ok HOk1.out newN (framed bs))
          obtain ⟨d3, hd3⟩ : ∃ d3, d3 = (appR d2 newN (framed bs)).2 := ⟨_, rfl⟩
          rw [← hd3] at HOk3 HZ3 HX
          clear hd3 he2 hs2
          obtain ⟨e3, he3⟩ : ∃ e3, (syR d3).1 = e3 := ⟨_, rfl⟩
          have HSy := Hid_mk (st_num (psync_any HZ3.out HOk3.out.1 (by omega)) he3)
          go_wp2_with fail
          with_reducible refine HSy.out.mono ?_
          rintro e w4 ⟨rfl, H4⟩
          obtain ⟨ρ4, hz4, hf4⟩ := H4.out
          have HZ4 := Hid_mk hz4
          have HK4 := Hid_mk (HK3.out.trans hf4)
          clear hz4 hf4 H4 HSy HK3 HZ3
          by_cases h3 : e3 = 0
          · subst h3
            have hs2 := HX.out.trans (seqD_ok _ he3)
            clear HX
            have HX := Hid_mk hs2
            clear hs2
            have HOk4 := Hid_mk (syR_ok HOk3.out)
            obtain ⟨d4, hd4⟩ : ∃ d4, d4 = (syR d3).2 := ⟨_, rfl⟩
            rw [← hd4] at HOk4 HZ4 HX
            clear hd4 he3 HOk3
            obtain ⟨e4, he4⟩ : ∃ e4, (reR d4 newN snapN).1 = e4 := ⟨_, rfl⟩
            have HRe := Hid_mk (st_num (prename_any HZ4.out HOk4.out.1 (by omega) newN snapN (by decide) (by decide)) he4)
            go_wp2_with fail
            with_reducible refine HRe.out.mono ?_
            rintro e w5 ⟨rfl, H5⟩
            obtain ⟨ρ5, hz5, hf5⟩ := H5.out
            have HZ5 := Hid_mk hz5
            have HK5 := Hid_mk (HK4.out.trans hf5)
            clear hz5 hf5 H5 HRe HK4 HZ4
            by_cases h4 : e4 = 0
            · subst h4
              have hs2 := HX.out.trans (seqD_ok _ he4)
              clear HX
              have HX := Hid_mk hs2
              clear hs2
              have HOk5 := Hid_mk (reR_ok HOk4.out newN snapN (by decide))
              obtain ⟨d5, hd5⟩ : ∃ d5, d5 = (reR d4 newN snapN).2 := ⟨_, rfl⟩
              rw [← hd5] at HOk5 HZ5 HX
              clear hd5 he4 HOk4
              have HSz := Hid_mk (st_num (psync_any HZ5.out HOk5.out.1 (by omega)) rfl)
              go_wp2_with fail
              with_reducible refine HSz.out.mono ?_
              rintro e w6 ⟨rfl, H6⟩
              obtain ⟨ρ6, hz6, hf6⟩ := H6.out
              have HF : Hid (StPost base p ρ X.2 w (.int .i64 X.1) (.returned (.int .i64 (syR d5).1)) w6) := Hid_mk (by rw [HX.out]; exact ⟨rfl, ρ6, hz6, HK5.out.trans hf6⟩)
              clear hz6 hf6 H6 HSz HK5 HZ5
              go_wp2
              go_ret
              exact HF.out
            · have hs2 := HX.out.trans (seqD_no _ (by rw [he4]; exact h4))
              have HF : Hid (StPost base p ρ X.2 w (.int .i64 X.1) (.returned (.int .i64 e4)) w5) := Hid_mk (by rw [hs2]; exact ⟨by rw [he4], ρ5, HZ5.out, HK5.out⟩)
              clear he4 hs2
              go_wp2
              go_ret
              exact HF.out
          · have hs2 := HX.out.trans (seqD_no _ (by rw [he3]; exact h3))
            have HF : Hid (StPost base p ρ X.2 w (.int .i64 X.1) (.returned (.int .i64 e3)) w4) := Hid_mk (by rw [hs2]; exact ⟨by rw [he3], ρ4, HZ4.out, HK4.out⟩)
            clear he3 hs2
            go_wp2
            go_ret
            exact HF.out
        · have hs2 : X = appR d2 newN (framed bs) := HX.out.trans (seqD_no _ (by rw [he2]; exact h2))
          have HF : Hid (StPost base p ρ X.2 w (.int .i64 X.1) (.returned (.int .i64 e2)) w3) := Hid_mk (by rw [hs2]; exact ⟨by rw [he2], ρ3, HZ3.out, HK3.out⟩)
          clear he2 hs2
          go_wp2
          go_ret
          exact HF.out
      · have hs : X = rmR d newN := by rw [HEq.out, seqD_no _ (by rw [he1]; exact h1)]
        have HF : Hid (StPost base p ρ X.2 w (.int .i64 X.1) (.returned (.int .i64 e1)) w2) := Hid_mk (by rw [hs]; exact ⟨by rw [he1], ρ2, hz2, HK1.out.trans hf2⟩)
        clear hs hz2 hf2 H2 HRm HZ2 HEq he1
        go_wp2
        go_ret
        exact HF.out

end Go.Proofs.Ytmehneicdklfeaa.snp

namespace Go.Proofs.Ytmehneicdklfeaa.snp
open Go.RowKit Go.Maps Go.Proofs.Ytmehneicdklfeaa.sum Go.Proofs.Ytmehneicdklfeaa.kept Go.Proofs.Ytmehneicdklfeaa.app Go.Proofs.Ytmehneicdklfeaa.writer Go.Proofs.Ytmehneicdklfeaa.clone Go.Proofs.Ytmehneicdklfeaa.fs Go.Proofs.Ytmehneicdklfeaa.fsDo Go.Proofs.Ytmehneicdklfeaa.unseal Go.Proofs.Ytmehneicdklfeaa.dsk Go.Proofs.Ytmehneicdklfeaa.r2 Go.Proofs.Ytmehneicdklfeaa.pair Go.Proofs.Ytmehneicdklfeaa.frm Go.Proofs.Ytmehneicdklfeaa.lst
set_option linter.unusedVariables false

def OpPost (w : World) (base p : Nat) (ρ : Nat → Role) (x : Int × Option (List UInt8)) (D : DSt) (e : Ending) (w' : World) : Prop :=
  ∃ v ρ', e = .returned (.tuple #[v, .bool x.2.isSome, .int .i64 x.1]) ∧ Dk w' base p ρ' D ∧ Fr ρ w ρ' w' ∧ Bs w' v (x.2.getD []) ∧ (x.2.getD [] ≠ [] → ∀ x o m c, v = .slice (some ⟨x, o, none⟩) m c → w.heap.size ≤ x ∧ ρ' x = .other)

set_option maxRecDepth 100000 in
set_option maxHeartbeats 2000000 in
theorem drop_any (w : World) (base p M : Nat) (ρ : Nat → Role) (d : DSt) (h : Dk w base p ρ d) (hok : OkN M d) (hM : M ≤ 900) :
    Calls Try.prog 14 #[.pointer (some ⟨p, 0, none⟩)] w (StPost base p ρ (seqD (rmR d newN) fun d => syR d).2 w (.int .i64 (seqD (rmR d newN) fun d => syR d).1)) := by
  obtain ⟨q, hq⟩ : ∃ q, q = seqD (rmR d newN) fun d => syR d := ⟨_, rfl⟩
  rw [← hq]
  have HQ := Hid_mk hq
  obtain ⟨e1, he1⟩ : ∃ e1, (rmR d newN).1 = e1 := ⟨_, rfl⟩
  have HRm := Hid_mk (st_num (premove_any h hok.1 (by omega) newN (by decide)) he1)
  have HOk := Hid_mk (rmR_ok hok newN (by decide))
  clear hq h hok
  go_enter Try.func14, Try.ntmps14
  go_wp2_with fail
  with_reducible refine HRm.out.mono ?_
  rintro e w2 ⟨rfl, H2⟩
  obtain ⟨ρ2, hz2, hf2⟩ := H2.out
  by_cases h1 : e1 = 0
  · have hQ2 := HQ.out.trans (seqD_ok _ (he1.trans h1))
    subst h1
    have HQ2 := Hid_mk hQ2
    have HSy := Hid_mk (psync_any hz2 HOk.out.1 (by omega))
    have HK2 := Hid_mk hf2
    clear hQ2 hz2 hf2 H2 HRm he1
    go_wp2_with fail
    with_reducible refine HSy.out.mono ?_
    rintro e w3 ⟨rfl, ρ3, hz3, hf3⟩
    have HF : Hid (StPost base p ρ q.2 w (.int .i64 q.1) (.returned (.int .i64 (syR (rmR d newN).2).1)) w3) := Hid_mk (by rw [HQ2.out]; exact ⟨rfl, ρ3, hz3, HK2.out.trans hf3⟩)
    clear hz3 hf3 HSy
    go_wp2
    go_ret
    exact HF.out
  · have hQ2 := HQ.out.trans (seqD_no _ (by rw [he1]; exact h1))
    have HF : Hid (StPost base p ρ q.2 w (.int .i64 q.1) (.returned (.int .i64 e1)) w2) := Hid_mk (by rw [hQ2]; exact ⟨by rw [he1], ρ2, hz2, hf2⟩)
    clear hQ2 hz2 hf2 H2 HRm he1
    go_wp2
    go_ret
    exact HF.out

set_option maxRecDepth 100000 in
set_option maxHeartbeats 4000000 in
theorem open_any : OpenC := by
  intro w base p M ρ d h hok hM
  show Calls Try.prog 6 #[.pointer (some ⟨p, 0, none⟩)] w (OpPost w base p ρ (opnA d) (opnD d).2)
  have HZ := Hid_mk h
  have HOk := Hid_mk hok
  have HH := Hid_mk (has_any w base p M ρ d h hok (by omega))
  obtain ⟨X, hX⟩ : ∃ X, X = opnA d := ⟨_, rfl⟩
  obtain ⟨D, hD⟩ : ∃ D, D = (opnD d).2 := ⟨_, rfl⟩
  rw [← hX, ← hD]
  unfold opnA at hX
  clear h hok
  cases hh : hereB d newN with
  | false =>
    rw [hh] at HH
    have ho : opnD d = (0, d) := by unfold opnD; rw [hh]; rfl
    rw [ho] at hX hD
    have HX : Hid (X = (0, gotD d)) := Hid_mk hX
    have HD : Hid (D = d) := Hid_mk hD
    clear ho hX hD hh
    go_enter Try.func6, Try.ntmps6
    go_wp2_with fail
    with_reducible refine HH.out.mono ?_
    rintro e w1 ⟨rfl, k1⟩
    have HZ1 := Hid_mk (HZ.out.no k1)
    have HKp := Hid_mk (Fr.of_no (ρ := ρ) k1)
    have hz1 := k1.size
    clear k1
    have HRd := Hid_mk (pread_any HZ1.out HOk.out (by omega) snapN (by decide))
    go_wp2_with fail
    with_reducible refine HRd.out.mono ?_
    rintro e wr ⟨v, rfl, ho, hbl, kr⟩
    have HZr := Hid_mk (HZ1.out.no kr)
    have HKr := Hid_mk (HKp.out.trans (Fr.of_no kr))
    have hb := owns_bs ho
    have hszr := kr.size
    have hX3 := HX.out
    unfold gotD at hX3
    obtain ⟨bs, hbs⟩ : ∃ bs, bs = readD d snapN := ⟨_, rfl⟩
    rw [← hbs] at hb hbl hX3
    have HX3 := Hid_mk hX3
    have HLi := Hid_mk (frm.list_any wr v bs hb (by omega))
    clear hbs HRd HX hX3 ho kr
    obtain ⟨a, cap, rfl, hlc, hm, -⟩ := hb
    go_wp2_with fail
    with_reducible refine HLi.out.mono ?_
    rintro e w5 ⟨vl, qs, rfl, lo, tx, kl⟩
    have HZ5 := Hid_mk (HZr.out.no kl)
    have HK5 := Hid_mk (HKr.out.trans (Fr.of_no kl))
    have hX4 := HX3.out
    have hlen : (listP bs).1.length = qs.length := by rw [← tx, texts_length]
    unfold gotL at hX4
    rw [hlen] at hX4
    obtain ⟨n, hn⟩ : ∃ n, n = (listP bs).2 := ⟨_, rfl⟩
    rw [← hn] at hX4 ⊢
    have hls := lo.ls
    have HLo := Hid_mk lo
    obtain ⟨⟨al, cl, rfl, hl1, hl2, hl3⟩, hl4⟩ := hls
    clear HLi HX3 kl lo hn
    by_cases h1 : qs.length = 1
    · obtain ⟨q, rfl⟩ := List.length_eq_one_iff.1 h1
      obtain ⟨bl, ol, rfl, hcl⟩ := hl3 (by simp)
      have hc0 : w5.cell? ⟨bl, ol, none⟩ = some q.1 := hcl 0 (by simp)
      have hbq := hl4 q (by simp)
      have hnq : q.2 ≠ [] → ∀ x o m c, q.1 = .slice (some ⟨x, o, none⟩) m c → w.heap.size ≤ x ∧ ρ x = .other := fun _ x o m c e => by
        have ho := HLo.out.each q (by simp)
        rcases owns_any ho with ⟨e2, -⟩ | ⟨g, cp, e2, hg⟩
        · rw [e2] at e; cases e
        · rw [e2] at e; cases e; have := hg.1; exact ⟨by omega, HZr.out.hi hg.1⟩
      rw [← tx] at hX4
      have htx : (Els.texts [q]).headD [] = q.2 := rfl
      rw [htx] at hX4
      clear hcl hl3 hl4 tx hlen h1 htx HLo
      by_cases h2 : n = bs.length
      · have hX5 : X = (0, some q.2) := by rw [hX4, if_pos ⟨rfl, h2⟩]
        have h2i : (n : Int) = (bs.length : Int) := by omega
        have HF : Hid (OpPost w base p ρ X D (.returned (.tuple #[q.1, .bool true, .int .i64 0])) w5) := Hid_mk (by rw [hX5, HD.out]; exact ⟨q.1, _, rfl, HZ5.out, HK5.out, hbq, hnq⟩)
        clear hX4 hX5 hbq hnq
        simp only [List.length_cons, List.length_nil] at hl1 ⊢
        go_wp2
        refine bodyPost_ret (results_tmp3 rfl _ _ _) rfl ?_
        exact HF.out
      · have hX5 : X = (0, none) := by rw [hX4, if_neg (fun h => h2 h.2)]
        have h2i : ¬ (n : Int) = (bs.length : Int) := by omega
        have HF : Hid (OpPost w base p ρ X D (.returned (.tuple #[.slice none 0 0, .bool false, .int .i64 0])) w5) := Hid_mk (by rw [hX5, HD.out]; exact ⟨_, _, rfl, HZ5.out, HK5.out, nil_bs _, fun h => absurd rfl h⟩)
        clear hX4 hX5 hbq hnq
        simp only [List.length_cons, List.length_nil] at hl1 ⊢
        go_wp2
        refine bodyPost_ret (results_tmp3 rfl _ _ _) rfl ?_
        exact HF.out
    · have hX5 : X = (0, none) := by rw [hX4, if_neg (fun h => h1 h.1)]
      have h1i : ¬ (qs.length : Int) = 1 := by omega
      have HF : Hid (OpPost w base p ρ X D (.returned (.tuple #[.slice none 0 0, .bool false, .int .i64 0])) w5) := Hid_mk (by rw [hX5, HD.out]; exact ⟨_, _, rfl, HZ5.out, HK5.out, nil_bs _, fun h => absurd rfl h⟩)
      clear hX4 hX5 hl3 hl4 tx hlen HLo
      go_wp2
      refine bodyPost_ret (results_tmp3 rfl _ _ _) rfl ?_
      exact HF.out
  | true =>
    rw [hh] at HH
    have ho : opnD d = seqD (rmR d newN) fun d => syR d := by unfold opnD; rw [hh]; rfl
    have hok2 := opnD_ok HOk.out
    rw [ho] at hX hD hok2
    have HDr0 := Hid_mk fun W (HW : Dk W base p ρ d) => drop_any W base p M ρ d HW HOk.out hM
    obtain ⟨q, hq⟩ : ∃ q, q = seqD (rmR d newN) fun d => syR d := ⟨_, rfl⟩
    rw [← hq] at hX hD hok2 HDr0
    obtain ⟨e2, d3⟩ := q
    have HX : Hid (X = if e2 = 0 then (0, gotD d3) else (e2, none)) := Hid_mk hX
    have HD : Hid (D = d3) := Hid_mk hD
    have HOk3 := Hid_mk hok2
    clear ho hX hD hh hq hok2
    go_enter Try.func6, Try.ntmps6
    go_wp2_with fail
    with_reducible refine HH.out.mono ?_
    rintro e w1 ⟨rfl, k1⟩
    have HZ1 := Hid_mk (HZ.out.no k1)
    have HK1 := Hid_mk (Fr.of_no (ρ := ρ) k1)
    have hz1 := k1.size
    clear k1
    have HDr := Hid_mk (st_num (HDr0.out w1 HZ1.out) rfl)
    go_wp2_with fail
    with_reducible refine HDr.out.mono ?_
    rintro e w3 ⟨rfl, H3⟩
    obtain ⟨ρ3, hz3, hf3⟩ := H3.out
    have HZ3 := Hid_mk hz3
    have HK3 := Hid_mk (HK1.out.trans hf3)
    have hzz3 := hf3.1.size
    clear hz3 hf3 H3 HDr
    have hX2 := HX.out
    by_cases h2 : e2 = 0
    · subst h2
      have hXg : X = (0, gotD d3) := by rw [hX2, if_pos rfl]
      clear HX hX2
      have HX := Hid_mk hXg
      clear hXg
      have HRd := Hid_mk (pread_any HZ3.out HOk3.out (by omega) snapN (by decide))
      go_wp2_with fail
      with_reducible refine HRd.out.mono ?_
      rintro e wr ⟨v, rfl, ho, hbl, kr⟩
      have HZr := Hid_mk (HZ3.out.no kr)
      have HKr := Hid_mk (HK3.out.trans (Fr.of_no kr))
      have hb := owns_bs ho
      have hszr := kr.size
      have hX3 := HX.out
      unfold gotD at hX3
      obtain ⟨bs, hbs⟩ : ∃ bs, bs = readD d3 snapN := ⟨_, rfl⟩
      rw [← hbs] at hb hbl hX3
      have HX3 := Hid_mk hX3
      have HLi := Hid_mk (frm.list_any wr v bs hb (by omega))
      clear hbs HRd HX hX3 ho kr
      obtain ⟨a, cap, rfl, hlc, hm, -⟩ := hb
      go_wp2_with fail
      with_reducible refine HLi.out.mono ?_
      rintro e w5 ⟨vl, qs, rfl, lo, tx, kl⟩
      have HZ5 := Hid_mk (HZr.out.no kl)
      have HK5 := Hid_mk (HKr.out.trans (Fr.of_no kl))
      have hX4 := HX3.out
      have hlen : (listP bs).1.length = qs.length := by rw [← tx, texts_length]
      unfold gotL at hX4
      rw [hlen] at hX4
      obtain ⟨n, hn⟩ : ∃ n, n = (listP bs).2 := ⟨_, rfl⟩
      rw [← hn] at hX4 ⊢
      have hls := lo.ls
      have HLo := Hid_mk lo
      obtain ⟨⟨al, cl, rfl, hl1, hl2, hl3⟩, hl4⟩ := hls
      clear HLi HX3 kl lo hn
      by_cases h1 : qs.length = 1
      · obtain ⟨q, rfl⟩ := List.length_eq_one_iff.1 h1
        obtain ⟨bl, ol, rfl, hcl⟩ := hl3 (by simp)
        have hc0 : w5.cell? ⟨bl, ol, none⟩ = some q.1 := hcl 0 (by simp)
        have hbq := hl4 q (by simp)
        have hnq : q.2 ≠ [] → ∀ x o m c, q.1 = .slice (some ⟨x, o, none⟩) m c → w.heap.size ≤ x ∧ ρ3 x = .other := fun _ x o m c e => by
          have ho := HLo.out.each q (by simp)
          rcases owns_any ho with ⟨e2, -⟩ | ⟨g, cp, e2, hg⟩
          · rw [e2] at e; cases e
          · rw [e2] at e; cases e; have := hg.1; exact ⟨by omega, HZr.out.hi hg.1⟩
        rw [← tx] at hX4
        have htx : (Els.texts [q]).headD [] = q.2 := rfl
        rw [htx] at hX4
        clear hcl hl3 hl4 tx hlen h1 htx HLo
        by_cases h2 : n = bs.length
        · have hX5 : X = (0, some q.2) := by rw [hX4, if_pos ⟨rfl, h2⟩]
          have h2i : (n : Int) = (bs.length : Int) := by omega
          have HF : Hid (OpPost w base p ρ X D (.returned (.tuple #[q.1, .bool true, .int .i64 0])) w5) := Hid_mk (by rw [hX5, HD.out]; exact ⟨q.1, _, rfl, HZ5.out, HK5.out, hbq, hnq⟩)
          clear hX4 hX5 hbq hnq
          simp only [List.length_cons, List.length_nil] at hl1 ⊢
          go_wp2
          refine bodyPost_ret (results_tmp3 rfl _ _ _) rfl ?_
          exact HF.out
        · have hX5 : X = (0, none) := by rw [hX4, if_neg (fun h => h2 h.2)]
          have h2i : ¬ (n : Int) = (bs.length : Int) := by omega
          have HF : Hid (OpPost w base p ρ X D (.returned (.tuple #[.slice none 0 0, .bool false, .int .i64 0])) w5) := Hid_mk (by rw [hX5, HD.out]; exact ⟨_, _, rfl, HZ5.out, HK5.out, nil_bs _, fun h => absurd rfl h⟩)
          clear hX4 hX5 hbq hnq
          simp only [List.length_cons, List.length_nil] at hl1 ⊢
          go_wp2
          refine bodyPost_ret (results_tmp3 rfl _ _ _) rfl ?_
          exact HF.out
      · have hX5 : X = (0, none) := by rw [hX4, if_neg (fun h => h1 h.1)]
        have h1i : ¬ (qs.length : Int) = 1 := by omega
        have HF : Hid (OpPost w base p ρ X D (.returned (.tuple #[.slice none 0 0, .bool false, .int .i64 0])) w5) := Hid_mk (by rw [hX5, HD.out]; exact ⟨_, _, rfl, HZ5.out, HK5.out, nil_bs _, fun h => absurd rfl h⟩)
        clear hX4 hX5 hl3 hl4 tx hlen HLo
        go_wp2
        refine bodyPost_ret (results_tmp3 rfl _ _ _) rfl ?_
        exact HF.out
    · have hX3 : X = (e2, none) := by rw [hX2, if_neg h2]
      have HF : Hid (OpPost w base p ρ X D (.returned (.tuple #[.slice none 0 0, .bool false, .int .i64 e2])) w3) := Hid_mk (by rw [hX3, HD.out]; exact ⟨_, ρ3, rfl, HZ3.out, HK3.out, nil_bs _, fun h => absurd rfl h⟩)
      clear hX2 hX3
      go_wp2
      refine bodyPost_ret (results_tmp3 rfl _ _ _) rfl ?_
      exact HF.out

end Go.Proofs.Ytmehneicdklfeaa.snp

namespace Go.Proofs.Ytmehneicdklfeaa.mkz
open Go.RowKit Go.Proofs.Ytmehneicdklfeaa.sum Go.Proofs.Ytmehneicdklfeaa.kept Go.Proofs.Ytmehneicdklfeaa.app Go.Proofs.Ytmehneicdklfeaa.writer Go.Proofs.Ytmehneicdklfeaa.clone Go.Proofs.Ytmehneicdklfeaa.unseal
set_option linter.unusedVariables false

/-- so many bytes of 0, as made by the call -/
theorem make_zeros (w : World) (n : Nat) (N : Int) (hN : N = (n : Int)) (hn : n ≤ 1000000000) :
    ∃ w', (Instr.makeSlice 26 (.int .i64 N) (.int .i64 N)).run Try.prog w = .ok (.slice (some ⟨w.heap.size, 0, none⟩) n n) w' ∧ (∃ zs : List UInt8, zs.length = n ∧ Bs w' (.slice (some ⟨w.heap.size, 0, none⟩) n n) zs) ∧ Kp No w w' := by
  subst hN
  obtain ⟨i0, hi, hz0, hz1, hz2⟩ := info_parts info5
  obtain ⟨w', hr, ho, hg⟩ := run_make_full (P := Try.prog) w w.heap.size 26 5 i0 (.int .u8 0) 1 Try.underlying26 hi hz0 hz1 .i64 .i64 n (by rw [hz2]; omega) (by unfold maxLen; omega) (Nat.le_refl _)
  refine ⟨w', hr, ⟨List.replicate n 0, List.length_replicate, ?_⟩, (Kp.refl No w).grown hg fun k hk e => by cases e⟩
  have hl : (List.replicate n (0 : UInt8)).length = n := List.length_replicate
  have := owns_bs (w := w') (base := w.heap.size) (v := .slice (some ⟨w.heap.size, 0, none⟩) n n) (bs := List.replicate n 0) (by
    rw [hl]
    have e : (madeCells (Value.int .u8 0).cells (n * 1)).toList = (List.replicate n (0 : UInt8)).map B := by
      apply List.ext_getElem
      · simp [madeCells]
      · intro i h1 h2
        simp [madeCells, Value.cells, B, Nat.mod_one]
    rw [← e]; exact ho)
  exact this

end Go.Proofs.Ytmehneicdklfeaa.mkz

namespace Go.Proofs.Ytmehneicdklfeaa.snp
open Go.RowKit Go.Maps Go.Proofs.Ytmehneicdklfeaa.sum Go.Proofs.Ytmehneicdklfeaa.kept Go.Proofs.Ytmehneicdklfeaa.app Go.Proofs.Ytmehneicdklfeaa.writer Go.Proofs.Ytmehneicdklfeaa.clone Go.Proofs.Ytmehneicdklfeaa.known Go.Proofs.Ytmehneicdklfeaa.fs Go.Proofs.Ytmehneicdklfeaa.fsDo Go.Proofs.Ytmehneicdklfeaa.unseal Go.Proofs.Ytmehneicdklfeaa.dsk Go.Proofs.Ytmehneicdklfeaa.r2 Go.Proofs.Ytmehneicdklfeaa.pair Go.Proofs.Ytmehneicdklfeaa.frm Go.Proofs.Ytmehneicdklfeaa.mkz
set_option linter.unusedVariables false

set_option maxRecDepth 100000 in
theorem open_nil (w : World) : Calls Try.prog 6 #[.pointer none] w fun e w' => e = .returned (.tuple #[.slice none 0 0, .bool false, .int .i64 1]) ∧ w = w' := by
  go_enter Try.func6, Try.ntmps6
  go_wp2
  refine bodyPost_ret (results_tmp3 rfl _ _ _) rfl ?_
  exact ⟨rfl, rfl⟩
set_option maxRecDepth 100000 in
theorem save_nil (w : World) (v : Value) : Calls Try.prog 8 #[.pointer none, v] w fun e w' => e = .returned (.int .i64 1) ∧ w = w' := by
  go_enter Try.func8, Try.ntmps8
  go_wp2
  go_ret
  exact ⟨rfl, rfl⟩
set_option maxRecDepth 100000 in
theorem save_long (w : World) (p : Nat) (a : Option Addr) (n cap : Nat) (h : 4194304 < n) : Calls Try.prog 8 #[.pointer (some ⟨p, 0, none⟩), .slice a n cap] w fun e w' => e = .returned (.int .i64 12) ∧ w = w' := by
  have hli : (4194304 : Int) < (n : Int) := by omega
  go_enter Try.func8, Try.ntmps8
  go_wp2
  go_ret
  exact ⟨rfl, rfl⟩

set_option maxRecDepth 100000 in
set_option maxHeartbeats 4000000 in
theorem snapKnown_any (w : World) : Calls Try.prog 3 #[] w fun e w' => e = .returned (.bool true) ∧ Kp No w w' := by
  have HN := Hid_mk (new_any w 8388608 (by omega) (by omega))
  go_enter Try.func3, Try.ntmps3
  go_wp2_with fail
  with_reducible refine HN.out.mono ?_
  rintro e w1 ⟨p, ρ1, rfl, hd1, hk1, hp⟩
  have HD1 : Hid (Dk w1 w.heap.size p ρ1 (stS none (-1))) := Hid_mk hd1
  have HK1 := Hid_mk hk1
  clear HN hd1 hk1
  have HOp := Hid_mk (open_to open_any HD1.out ok_new (by omega) (fun x e => by cases e) (opn_base none (-1)))
  go_wp2_with fail
  with_reducible refine HOp.out.mono ?_
  rintro e w2 ⟨va, ρ2, rfl, hba, hxa, H2⟩
  obtain ⟨ok2, h2, f2⟩ := H2.out
  have HK2 := Hid_mk (HD1.out.out (Nat.le_refl _) HK1.out f2)
  have HD2 := Hid_mk h2
  have HO2 := Hid_mk ok2
  clear H2 HOp h2 f2 hba hxa ok2
  go_wp2_with fail
  with_reducible refine (open_nil w2).mono ?_
  rintro e w3 ⟨rfl, rfl⟩
  go_wp2_with fail
  with_reducible refine (known_any save_any open_any w2).mono ?_
  rintro e w3 ⟨rfl, hk3⟩
  have HK3 := Hid_mk (HK2.out.trans' hk3)
  have HD3 := Hid_mk (HD2.out.no hk3)
  clear hk3
  go_wp2_with fail
  with_reducible refine (save_nil w3 (.slice none 0 0)).mono ?_
  rintro e w4 ⟨rfl, rfl⟩
  go_wp2_with fail
  obtain ⟨w4, hr4, ⟨zs, hzl, hb4⟩, hk4⟩ := make_zeros w3 4194305 4194305 rfl (by omega)
  have HK4 := Hid_mk (HK3.out.trans' hk4)
  have HD4 := Hid_mk (HD3.out.no hk4)
  clear hb4 hk4 hzl
  rw [hr4]
  go_wp2_with fail
  with_reducible refine (save_long w4 p _ 4194305 4194305 (by omega)).mono ?_
  rintro e w5 ⟨rfl, rfl⟩
  have HS := Hid_mk (save_to save_any (.slice none 0 0) [] HD4.out HO2.out (by omega) (nil_bs _) (fun h => absurd rfl h) (by decide) (sav_free none (fun x e => by cases e) [] (by decide)))
  clear hr4
  go_wp2_with fail
  with_reducible refine HS.out.mono ?_
  rintro e w6 ⟨rfl, H6⟩
  obtain ⟨ok6, ρ6, h6, f6⟩ := H6.out
  have HK6 := Hid_mk (HD4.out.out (Nat.le_refl _) HK4.out f6)
  clear H6 HS h6 f6 ok6
  go_wp2
  go_ret
  exact ⟨rfl, HK6.out⟩

end Go.Proofs.Ytmehneicdklfeaa.snp
