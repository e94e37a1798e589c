/- The reference's SaveSnap. The reference's OpenSnap. Save and Open of both disks, side by side: out of the project's contracts. The laws' first lines: chapter 6's example, and a crash. The names of rising files are what their sorting gives. No program is named here. -/
import Derived.Test.YtmehneicdklfeaaGreatRefUnsealM
import Derived.Test.YtmehneicdklfeaaGreatFirstM
import Derived.Test.YtmehneicdklfeaaGreatFsMemM
import Derived.Test.YtmehneicdklfeaaGreatDiskNewM
import Derived.Lib.SlBytesConst
import Derived.Test.YtmehneicdklfeaaGreatBaseM
import Derived.Sort.KeysCollected

namespace Go.Proofs.YtmehneicdklfeaaGreat.snp
open Go.RowKit Go.Maps Go.Proofs.YtmehneicdklfeaaGreat.sum Go.Proofs.YtmehneicdklfeaaGreat.kept Go.Proofs.YtmehneicdklfeaaGreat.app Go.Proofs.YtmehneicdklfeaaGreat.writer Go.Proofs.YtmehneicdklfeaaGreat.clone Go.Proofs.YtmehneicdklfeaaGreat.fs Go.Proofs.YtmehneicdklfeaaGreat.fsDo Go.Proofs.YtmehneicdklfeaaGreat.unseal Go.Proofs.YtmehneicdklfeaaGreat.dsk Go.Proofs.YtmehneicdklfeaaGreat.r2 Go.Proofs.YtmehneicdklfeaaGreat.pair Go.Proofs.YtmehneicdklfeaaGreat.frm
set_option linter.unusedVariables false

/-- Save behind the test of snap.new -/
def savT (d : DSt) (bs : List UInt8) : Int × DSt := seqD (appR d newN (framed bs)) fun d => seqD (syR d) fun d => seqD (reR d newN snapN) fun d => syR d
theorem savD_eq {d : DSt} {bs : List UInt8} (h : bs.length ≤ 4194304) : savD d bs = seqD (clrD d) fun d => savT d bs := if_neg (by omega)
theorem savD_no {d : DSt} {bs : List UInt8} (h : 4194304 < bs.length) : savD d bs = (12, d) := if_pos h

def SvPost (w : World) (ρ : Nat → Role) (r : Nat) (x : Int × DSt) (e : Ending) (w' : World) : Prop := e = .returned (.int .i64 x.1) ∧ Kp (fun k => k = r) w w' ∧ Hid (Rz w' ρ r x.2)

set_option maxRecDepth 100000 in
set_option maxHeartbeats 4000000 in
theorem refsave_any (w : World) (ρ : Nat → Role) (r M : Nat) (d : DSt) (h : Rz w ρ r d) (hok : OkN M d) (hM : M + 5 ≤ 1000) (hi : Hi w ρ) (v : Value) (bs : List UInt8) (hb : Bs w v bs) (ha : bs ≠ [] → Aw w ρ r v) :
    Calls Tryz.prog 12 #[.pointer (some ⟨r, 0, none⟩), v] w (SvPost w ρ r (savD d bs)) := by
  have HB := Hid_mk hb
  have HA := Hid_mk ha
  have HI := Hid_mk hi
  have HZ := Hid_mk h
  have HOk := Hid_mk hok
  have HH := Hid_mk (refhere_any h hok (by omega) newN (by decide))
  obtain ⟨a, cap, rfl, hlc, hm, -⟩ := hb
  unfold maxLen at hm
  clear h hok hi ha
  by_cases hl : 4194304 < bs.length
  · have hli : (4194304 : Int) < (bs.length : Int) := by omega
    have HF : Hid (SvPost w ρ r (savD d bs) (.returned (.int .i64 12)) w) := Hid_mk (by rw [savD_no hl]; exact ⟨rfl, Kp.refl _ _, HZ⟩)
    go_enter Tryz.func12, Tryz.ntmps12
    go_wp2
    go_ret
    exact HF.out
  · have hli : ¬ (4194304 : Int) < (bs.length : Int) := by omega
    have hEq := savD_eq (d := d) (bs := bs) (by omega)
    obtain ⟨X, hX⟩ : ∃ X, X = savD d bs := ⟨_, rfl⟩
    rw [← hX] at hEq ⊢
    clear hX
    cases hh : hereB d newN with
    | false =>
      rw [hh] at HH
      have hc : clrD d = (0, d) := by unfold clrD; rw [hh]; rfl
      have hs : X = savT d bs := by rw [hEq, hc]; rfl
      have HX := Hid_mk hs
      clear hs hc hh hEq hl
      go_enter Tryz.func12, Tryz.ntmps12
      go_wp2_with fail
      with_reducible refine HH.out.mono ?_
      rintro e w1 ⟨rfl, rfl⟩
      have HKp : Hid (Kp (fun k => k = r) w w) := Hid_mk (Kp.refl _ _)
      have HOk1 : Hid (OkN (M + 1) d) := Hid_mk (OkN.more HOk.out (by omega))
      obtain ⟨e2, he2⟩ : ∃ e2, (appR d newN (framed bs)).1 = e2 := ⟨_, rfl⟩
      have HFr := Hid_mk (ref.frame_any w (.slice a bs.length cap) bs HB.out)
      go_wp2_with fail
      with_reducible refine HFr.out.mono ?_
      rintro e wf ⟨vf, rfl, of, kf⟩
      have HAp := Hid_mk ((HZ.out.no kf).append HOk1.out (by omega) (HI.out.up kf) newN vf (framed bs) (by decide) (owns_bs of) (fun _ => aw_new HZ.out HI.out kf of) (Nat.le_trans (framed_small bs) (by decide)) he2)
      have HIf := Hid_mk (HI.out.up kf)
      have HKf := Hid_mk (HKp.out.trans' (kf.mono fun k _ (x : No k) => x.elim))
      clear of kf HFr
      go_wp2_with fail
      with_reducible refine HAp.out.mono ?_
      rintro e w3 ⟨rfl, k3, HZ3⟩
      have HK3 := Hid_mk (HKf.out.trans' k3)
      have HI3 := Hid_mk (HIf.out.up k3)
      clear k3 HAp HKf HIf
      by_cases h2 : e2 = 0
      · subst h2
        have hs2 : X = seqD (syR (appR d newN (framed bs)).2) fun d => seqD (reR d newN snapN) fun d => syR d := HX.out.trans (seqD_ok _ he2)
        clear HX
        have HX := Hid_mk hs2
        have HOk3 := Hid_mk (appR_ok HOk1.out newN (framed bs))
        obtain ⟨d3, hd3⟩ : ∃ d3, d3 = (appR d newN (framed bs)).2 := ⟨_, rfl⟩
        rw [← hd3] at HOk3 HZ3 HX
        clear hd3 he2 hs2
        obtain ⟨e3, he3⟩ : ∃ e3, (syR d3).1 = e3 := ⟨_, rfl⟩
        have HSy := Hid_mk (HZ3.out.sync HOk3.out (by omega) HI3.out he3)
        go_wp2_with fail
        with_reducible refine HSy.out.mono ?_
        rintro e w4 ⟨rfl, k4, HZ4⟩
        have HK4 := Hid_mk (HK3.out.trans' k4)
        have HI4 := Hid_mk (HI3.out.up k4)
        clear k4 HSy HK3 HI3 HZ3
        by_cases h3 : e3 = 0
        · subst h3
          have hs2 := HX.out.trans (seqD_ok _ he3)
          clear HX
          have HX := Hid_mk hs2
          clear hs2
          have HOk4 := Hid_mk (syR_ok HOk3.out)
          obtain ⟨d4, hd4⟩ : ∃ d4, d4 = (syR d3).2 := ⟨_, rfl⟩
          rw [← hd4] at HOk4 HZ4 HX
          clear hd4 he3 HOk3
          obtain ⟨e4, he4⟩ : ∃ e4, (reR d4 newN snapN).1 = e4 := ⟨_, rfl⟩
          have HRe := Hid_mk (HZ4.out.rename HOk4.out (by omega) HI4.out newN snapN (by decide) (by decide) he4)
          go_wp2_with fail
          with_reducible refine HRe.out.mono ?_
          rintro e w5 ⟨rfl, k5, HZ5⟩
          have HK5 := Hid_mk (HK4.out.trans' k5)
          have HI5 := Hid_mk (HI4.out.up k5)
          clear k5 HRe HK4 HI4 HZ4
          by_cases h4 : e4 = 0
          · subst h4
            have hs2 := HX.out.trans (seqD_ok _ he4)
            clear HX
            have HX := Hid_mk hs2
            clear hs2
            have HOk5 := Hid_mk (reR_ok HOk4.out newN snapN (by decide))
            obtain ⟨d5, hd5⟩ : ∃ d5, d5 = (reR d4 newN snapN).2 := ⟨_, rfl⟩
            rw [← hd5] at HOk5 HZ5 HX
            clear hd5 he4 HOk4
            have HSz := Hid_mk (HZ5.out.sync HOk5.out (by omega) HI5.out rfl)
            go_wp2_with fail
            with_reducible refine HSz.out.mono ?_
            rintro e w6 ⟨rfl, k6, HZ6⟩
            have HF : Hid (SvPost w ρ r X (.returned (.int .i64 (syR d5).1)) w6) := Hid_mk (by rw [HX.out]; exact ⟨rfl, HK5.out.trans' k6, HZ6⟩)
            clear k6 HSz HK5 HI5 HZ5
            go_wp2
            go_ret
            exact HF.out
          · have hs2 := HX.out.trans (seqD_no _ (by rw [he4]; exact h4))
            have HF : Hid (SvPost w ρ r X (.returned (.int .i64 e4)) w5) := Hid_mk (by rw [hs2]; exact ⟨by rw [he4], HK5.out, HZ5⟩)
            clear he4
            go_wp2
            go_ret
            exact HF.out
        · have hs2 := HX.out.trans (seqD_no _ (by rw [he3]; exact h3))
          have HF : Hid (SvPost w ρ r X (.returned (.int .i64 e3)) w4) := Hid_mk (by rw [hs2]; exact ⟨by rw [he3], HK4.out, HZ4⟩)
          clear he3
          go_wp2
          go_ret
          exact HF.out
      · have hs2 : X = appR d newN (framed bs) := HX.out.trans (seqD_no _ (by rw [he2]; exact h2))
        have HF : Hid (SvPost w ρ r X (.returned (.int .i64 e2)) w3) := Hid_mk (by rw [hs2]; exact ⟨by rw [he2], HK3.out, HZ3⟩)
        clear he2 hs2
        go_wp2
        go_ret
        exact HF.out
    | true =>
      rw [hh] at HH
      have hc : clrD d = rmR d newN := by unfold clrD; rw [hh]; rfl
      rw [hc] at hEq
      have HEq := Hid_mk hEq
      clear hc hh hl hEq
      go_enter Tryz.func12, Tryz.ntmps12
      go_wp2_with fail
      with_reducible refine HH.out.mono ?_
      rintro e w1 ⟨rfl, rfl⟩
      obtain ⟨e1, he1⟩ : ∃ e1, (rmR d newN).1 = e1 := ⟨_, rfl⟩
      have HRm := Hid_mk (HZ.out.remove HOk.out (by omega) HI.out newN (by decide) he1)
      go_wp2_with fail
      with_reducible refine HRm.out.mono ?_
      rintro e w2 ⟨rfl, k2, HZ2⟩
      by_cases h1 : e1 = 0
      · have hs : X = savT (rmR d newN).2 bs := by rw [HEq.out, seqD_ok _ (he1.trans h1)]
        have HX := Hid_mk hs
        clear hs HRm HEq
        subst h1
        have HOk1 := Hid_mk (rmR_ok HOk.out newN (by decide))
        have HB2 : Hid (Bs w2 (.slice a bs.length cap) bs) := Hid_mk (bs_keptE HB.out k2 fun hne x o n c e => (HA.out hne x o n c e).2.1)
        have HI2 : Hid (Hi w2 ρ) := Hid_mk (HI.out.up k2)
        have HKp := Hid_mk k2
        clear k2
        obtain ⟨d2, hd2⟩ : ∃ d2, d2 = (rmR d newN).2 := ⟨_, rfl⟩
        rw [← hd2] at HOk1 HZ2 HX
        clear hd2 he1
        obtain ⟨e2, he2⟩ : ∃ e2, (appR d2 newN (framed bs)).1 = e2 := ⟨_, rfl⟩
        have HFr := Hid_mk (ref.frame_any w2 (.slice a bs.length cap) bs HB2.out)
        go_wp2_with fail
        with_reducible refine HFr.out.mono ?_
        rintro e wf ⟨vf, rfl, of, kf⟩
        have HAp := Hid_mk ((HZ2.out.no kf).append HOk1.out (by omega) (HI2.out.up kf) newN vf (framed bs) (by decide) (owns_bs of) (fun _ => aw_new HZ2.out HI2.out kf of) (Nat.le_trans (framed_small bs) (by decide)) he2)
        have HIf := Hid_mk (HI2.out.up kf)
        have HKf := Hid_mk (HKp.out.trans' (kf.mono fun k _ (x : No k) => x.elim))
        clear of kf HFr
        go_wp2_with fail
        with_reducible refine HAp.out.mono ?_
        rintro e w3 ⟨rfl, k3, HZ3⟩
        have HK3 := Hid_mk (HKf.out.trans' k3)
        have HI3 := Hid_mk (HIf.out.up k3)
        clear k3 HAp HKf HIf
        by_cases h2 : e2 = 0
        · subst h2
          have hs2 : X = seqD (syR (appR d2 newN (framed bs)).2) fun d => seqD (reR d newN snapN) fun d => syR d := HX.out.trans (seqD_ok _ he2)
          clear HX
          have HX := Hid_mk hs2
          have HOk3 := Hid_mk (appR_ok HOk1.out newN (framed bs))
          obtain ⟨d3, hd3⟩ : ∃ d3, d3 = (appR d2 newN (framed bs)).2 := ⟨_, rfl⟩
          rw [← hd3] at HOk3 HZ3 HX
          clear hd3 he2 hs2
          obtain ⟨e3, he3⟩ : ∃ e3, (syR d3).1 = e3 := ⟨_, rfl⟩
          have HSy := Hid_mk (HZ3.out.sync HOk3.out (by omega) HI3.out he3)
          go_wp2_with fail
          with_reducible refine HSy.out.mono ?_
          rintro e w4 ⟨rfl, k4, HZ4⟩
          have HK4 := Hid_mk (HK3.out.trans' k4)
          have HI4 := Hid_mk (HI3.out.up k4)
          clear k4 HSy HK3 HI3 HZ3
          by_cases h3 : e3 = 0
          · subst h3
            have hs2 := HX.out.trans (seqD_ok _ he3)
            clear HX
            have HX := Hid_mk hs2
            clear hs2
            have HOk4 := Hid_mk (syR_ok HOk3.out)
            obtain ⟨d4, hd4⟩ : ∃ d4, d4 = (syR d3).2 := ⟨_, rfl⟩
            rw [← hd4] at HOk4 HZ4 HX
            clear hd4 he3 HOk3
            obtain ⟨e4, he4⟩ : ∃ e4, (reR d4 newN snapN).1 = e4 := ⟨_, rfl⟩
            have HRe := Hid_mk (HZ4.out.rename HOk4.out (by omega) HI4.out newN snapN (by decide) (by decide) he4)
            go_wp2_with fail
            with_reducible refine HRe.out.mono ?_
            rintro e w5 ⟨rfl, k5, HZ5⟩
            have HK5 := Hid_mk (HK4.out.trans' k5)
            have HI5 := Hid_mk (HI4.out.up k5)
            clear k5 HRe HK4 HI4 HZ4
            by_cases h4 : e4 = 0
            · subst h4
              have hs2 := HX.out.trans (seqD_ok _ he4)
              clear HX
              have HX := Hid_mk hs2
              clear hs2
              have HOk5 := Hid_mk (reR_ok HOk4.out newN snapN (by decide))
              obtain ⟨d5, hd5⟩ : ∃ d5, d5 = (reR d4 newN snapN).2 := ⟨_, rfl⟩
              rw [← hd5] at HOk5 HZ5 HX
              clear hd5 he4 HOk4
              have HSz := Hid_mk (HZ5.out.sync HOk5.out (by omega) HI5.out rfl)
              go_wp2_with fail
              with_reducible refine HSz.out.mono ?_
              rintro e w6 ⟨rfl, k6, HZ6⟩
              have HF : Hid (SvPost w ρ r X (.returned (.int .i64 (syR d5).1)) w6) := Hid_mk (by rw [HX.out]; exact ⟨rfl, HK5.out.trans' k6, HZ6⟩)
              clear k6 HSz HK5 HI5 HZ5
              go_wp2
              go_ret
              exact HF.out
            · have hs2 := HX.out.trans (seqD_no _ (by rw [he4]; exact h4))
              have HF : Hid (SvPost w ρ r X (.returned (.int .i64 e4)) w5) := Hid_mk (by rw [hs2]; exact ⟨by rw [he4], HK5.out, HZ5⟩)
              clear he4
              go_wp2
              go_ret
              exact HF.out
          · have hs2 := HX.out.trans (seqD_no _ (by rw [he3]; exact h3))
            have HF : Hid (SvPost w ρ r X (.returned (.int .i64 e3)) w4) := Hid_mk (by rw [hs2]; exact ⟨by rw [he3], HK4.out, HZ4⟩)
            clear he3
            go_wp2
            go_ret
            exact HF.out
        · have hs2 : X = appR d2 newN (framed bs) := HX.out.trans (seqD_no _ (by rw [he2]; exact h2))
          have HF : Hid (SvPost w ρ r X (.returned (.int .i64 e2)) w3) := Hid_mk (by rw [hs2]; exact ⟨by rw [he2], HK3.out, HZ3⟩)
          clear he2 hs2
          go_wp2
          go_ret
          exact HF.out
      · have hs : X = rmR d newN := by rw [HEq.out, seqD_no _ (by rw [he1]; exact h1)]
        have HF : Hid (SvPost w ρ r X (.returned (.int .i64 e1)) w2) := Hid_mk (by rw [hs]; exact ⟨by rw [he1], k2, HZ2⟩)
        clear hs k2 HRm HZ2 HEq he1
        go_wp2
        go_ret
        exact HF.out

end Go.Proofs.YtmehneicdklfeaaGreat.snp

namespace Go.Proofs.YtmehneicdklfeaaGreat.snp
open Go.RowKit Go.Maps Go.Proofs.YtmehneicdklfeaaGreat.sum Go.Proofs.YtmehneicdklfeaaGreat.kept Go.Proofs.YtmehneicdklfeaaGreat.app Go.Proofs.YtmehneicdklfeaaGreat.writer Go.Proofs.YtmehneicdklfeaaGreat.clone Go.Proofs.YtmehneicdklfeaaGreat.fs Go.Proofs.YtmehneicdklfeaaGreat.fsDo Go.Proofs.YtmehneicdklfeaaGreat.unseal Go.Proofs.YtmehneicdklfeaaGreat.dsk Go.Proofs.YtmehneicdklfeaaGreat.r2 Go.Proofs.YtmehneicdklfeaaGreat.pair Go.Proofs.YtmehneicdklfeaaGreat.frm Go.Proofs.YtmehneicdklfeaaGreat.lst
set_option linter.unusedVariables false

theorem nil_bs (w : World) : Bs w (.slice none 0 0) [] := ⟨none, 0, rfl, Nat.le_refl _, Nat.zero_le _, fun h => absurd rfl h⟩

def OnPost (w : World) (ρ : Nat → Role) (r : Nat) (x : Int × Option (List UInt8)) (d : DSt) (e : Ending) (w' : World) : Prop := (∃ v, e = .returned (.tuple #[v, .bool x.2.isSome, .int .i64 x.1]) ∧ Bs w' v (x.2.getD [])) ∧ Kp (fun k => k = r) w w' ∧ Hid (Rz w' ρ r d)

set_option maxRecDepth 100000 in
set_option maxHeartbeats 4000000 in
theorem refopen_any (w : World) (ρ : Nat → Role) (r M : Nat) (d : DSt) (h : Rz w ρ r d) (hok : OkN M d) (hM : M + 5 ≤ 1000) (hi : Hi w ρ) :
    Calls Tryz.prog 10 #[.pointer (some ⟨r, 0, none⟩)] w (OnPost w ρ r (opnA d) (opnD d).2) := by
  have HI := Hid_mk hi
  have HZ := Hid_mk h
  have HOk := Hid_mk hok
  have HH := Hid_mk (refhere_any h hok (by omega) newN (by decide))
  obtain ⟨X, hX⟩ : ∃ X, X = opnA d := ⟨_, rfl⟩
  obtain ⟨D, hD⟩ : ∃ D, D = (opnD d).2 := ⟨_, rfl⟩
  rw [← hX, ← hD]
  unfold opnA at hX
  clear h hok hi
  cases hh : hereB d newN with
  | false =>
    rw [hh] at HH
    have ho : opnD d = (0, d) := by unfold opnD; rw [hh]; rfl
    rw [ho] at hX hD
    have HX : Hid (X = (0, gotD d)) := Hid_mk hX
    have HD : Hid (D = d) := Hid_mk hD
    have HKp : Hid (Kp (fun k => k = r) w w) := Hid_mk (Kp.refl _ _)
    clear ho hX hD hh
    go_enter Tryz.func10, Tryz.ntmps10
    go_wp2_with fail
    with_reducible refine HH.out.mono ?_
    rintro e w1 ⟨rfl, rfl⟩
    have HRd := Hid_mk (HZ.out.read HOk.out (by omega) snapN (by decide))
    go_wp2_with fail
    with_reducible refine HRd.out.mono ?_
    rintro e wr ⟨v, rfl, hb, hbl, rfl⟩
    have hX3 := HX.out
    unfold gotD at hX3
    obtain ⟨bs, hbs⟩ : ∃ bs, bs = readD d snapN := ⟨_, rfl⟩
    rw [← hbs] at hb hbl hX3
    have HX3 := Hid_mk hX3
    have HLi := Hid_mk (ref.list_any w v bs hb (by omega))
    clear hbs HRd HX hX3
    obtain ⟨a, cap, rfl, hlc, hm, -⟩ := hb
    go_wp2_with fail
    with_reducible refine HLi.out.mono ?_
    rintro e w5 ⟨vl, qs, rfl, lo, tx, kl⟩
    have HZ5 := Hid_mk (HZ.out.no kl)
    have HK5 := Hid_mk (HKp.out.trans' (kl.mono fun k _ (x : No k) => x.elim))
    have hX4 := HX3.out
    have hlen : (listP bs).1.length = qs.length := by rw [← tx, texts_length]
    unfold gotL at hX4
    rw [hlen] at hX4
    obtain ⟨n, hn⟩ : ∃ n, n = (listP bs).2 := ⟨_, rfl⟩
    rw [← hn] at hX4 ⊢
    have hls := lo.ls
    obtain ⟨⟨al, cl, rfl, hl1, hl2, hl3⟩, hl4⟩ := hls
    clear HLi HX3 kl lo hn
    by_cases h1 : qs.length = 1
    · obtain ⟨q, rfl⟩ := List.length_eq_one_iff.1 h1
      obtain ⟨bl, ol, rfl, hcl⟩ := hl3 (by simp)
      have hc0 : w5.cell? ⟨bl, ol, none⟩ = some q.1 := hcl 0 (by simp)
      have hbq := hl4 q (by simp)
      rw [← tx] at hX4
      have htx : (Els.texts [q]).headD [] = q.2 := rfl
      rw [htx] at hX4
      clear hcl hl3 hl4 tx hlen h1 htx
      by_cases h2 : n = bs.length
      · have hX5 : X = (0, some q.2) := by rw [hX4, if_pos ⟨rfl, h2⟩]
        have h2i : (n : Int) = (bs.length : Int) := by omega
        have HF : Hid (OnPost w ρ r X D (.returned (.tuple #[q.1, .bool true, .int .i64 0])) w5) := Hid_mk (by rw [hX5, HD.out]; exact ⟨⟨_, rfl, hbq⟩, HK5.out, HZ5⟩)
        clear hX4 hX5 hbq
        simp only [List.length_cons, List.length_nil] at hl1 ⊢
        go_wp2
        refine bodyPost_ret (results_tmp3 rfl _ _ _) rfl ?_
        exact HF.out
      · have hX5 : X = (0, none) := by rw [hX4, if_neg (fun h => h2 h.2)]
        have h2i : ¬ (n : Int) = (bs.length : Int) := by omega
        have HF : Hid (OnPost w ρ r X D (.returned (.tuple #[.slice none 0 0, .bool false, .int .i64 0])) w5) := Hid_mk (by rw [hX5, HD.out]; exact ⟨⟨_, rfl, nil_bs _⟩, HK5.out, HZ5⟩)
        clear hX4 hX5 hbq
        simp only [List.length_cons, List.length_nil] at hl1 ⊢
        go_wp2
        refine bodyPost_ret (results_tmp3 rfl _ _ _) rfl ?_
        exact HF.out
    · have hX5 : X = (0, none) := by rw [hX4, if_neg (fun h => h1 h.1)]
      have h1i : ¬ (qs.length : Int) = 1 := by omega
      have HF : Hid (OnPost w ρ r X D (.returned (.tuple #[.slice none 0 0, .bool false, .int .i64 0])) w5) := Hid_mk (by rw [hX5, HD.out]; exact ⟨⟨_, rfl, nil_bs _⟩, HK5.out, HZ5⟩)
      clear hX4 hX5 hl3 hl4 tx hlen
      go_wp2
      refine bodyPost_ret (results_tmp3 rfl _ _ _) rfl ?_
      exact HF.out
  | true =>
    rw [hh] at HH
    have ho : opnD d = seqD (rmR d newN) fun d => syR d := by unfold opnD; rw [hh]; rfl
    rw [ho] at hX hD
    have HX := Hid_mk hX
    have HD := Hid_mk hD
    clear ho hX hD hh
    go_enter Tryz.func10, Tryz.ntmps10
    go_wp2_with fail
    with_reducible refine HH.out.mono ?_
    rintro e w1 ⟨rfl, rfl⟩
    obtain ⟨e1, he1⟩ : ∃ e1, (rmR d newN).1 = e1 := ⟨_, rfl⟩
    have HRm := Hid_mk (HZ.out.remove HOk.out (by omega) HI.out newN (by decide) he1)
    go_wp2_with fail
    with_reducible refine HRm.out.mono ?_
    rintro e w2 ⟨rfl, k2, HZ2⟩
    by_cases h1 : e1 = 0
    · have hX2 := HX.out
      have hD2 := HD.out
      rw [seqD_ok _ (he1.trans h1)] at hX2 hD2
      have HX2 := Hid_mk hX2
      have HD2 := Hid_mk hD2
      subst h1
      have HOk2 := Hid_mk (rmR_ok HOk.out newN (by decide))
      have HI2 := Hid_mk (HI.out.up k2)
      have HK2 := Hid_mk k2
      clear k2 HX HD hX2 hD2 HRm HZ HI HOk
      obtain ⟨d2, hd2⟩ : ∃ d2, d2 = (rmR d newN).2 := ⟨_, rfl⟩
      rw [← hd2] at HOk2 HZ2 HX2 HD2
      clear hd2 he1
      obtain ⟨e2, he2⟩ : ∃ e2, (syR d2).1 = e2 := ⟨_, rfl⟩
      have HSy := Hid_mk (HZ2.out.sync HOk2.out (by omega) HI2.out he2)
      go_wp2_with fail
      with_reducible refine HSy.out.mono ?_
      rintro e w3 ⟨rfl, k3, HZ3⟩
      have HK3 := Hid_mk (HK2.out.trans' k3)
      have HOk3 := Hid_mk (syR_ok HOk2.out)
      clear k3 HSy HK2 HZ2
      have hX2 := HX2.out
      rw [he2] at hX2
      have HD := HD2
      obtain ⟨d3, hd3⟩ : ∃ d3, d3 = (syR d2).2 := ⟨_, rfl⟩
      rw [← hd3] at HOk3 HZ3 HD hX2
      clear hd3 he2 HX2 HD2 HOk2
      by_cases h2 : e2 = 0
      · subst h2
        have HX : Hid (X = (0, gotD d3)) := Hid_mk hX2
        clear hX2
        have HRd := Hid_mk (HZ3.out.read HOk3.out (by omega) snapN (by decide))
        go_wp2_with fail
        with_reducible refine HRd.out.mono ?_
        rintro e wr ⟨v, rfl, hb, hbl, rfl⟩
        have hX3 := HX.out
        unfold gotD at hX3
        obtain ⟨bs, hbs⟩ : ∃ bs, bs = readD d3 snapN := ⟨_, rfl⟩
        rw [← hbs] at hb hbl hX3
        have HX3 := Hid_mk hX3
        have HLi := Hid_mk (ref.list_any w3 v bs hb (by omega))
        clear hbs HRd HX hX3
        obtain ⟨a, cap, rfl, hlc, hm, -⟩ := hb
        go_wp2_with fail
        with_reducible refine HLi.out.mono ?_
        rintro e w5 ⟨vl, qs, rfl, lo, tx, kl⟩
        have HZ5 := Hid_mk (HZ3.out.no kl)
        have HK5 := Hid_mk (HK3.out.trans' (kl.mono fun k _ (x : No k) => x.elim))
        have hX4 := HX3.out
        have hlen : (listP bs).1.length = qs.length := by rw [← tx, texts_length]
        unfold gotL at hX4
        rw [hlen] at hX4
        obtain ⟨n, hn⟩ : ∃ n, n = (listP bs).2 := ⟨_, rfl⟩
        rw [← hn] at hX4 ⊢
        have hls := lo.ls
        obtain ⟨⟨al, cl, rfl, hl1, hl2, hl3⟩, hl4⟩ := hls
        clear HLi HX3 kl lo hn
        by_cases h1 : qs.length = 1
        · obtain ⟨q, rfl⟩ := List.length_eq_one_iff.1 h1
          obtain ⟨bl, ol, rfl, hcl⟩ := hl3 (by simp)
          have hc0 : w5.cell? ⟨bl, ol, none⟩ = some q.1 := hcl 0 (by simp)
          have hbq := hl4 q (by simp)
          rw [← tx] at hX4
          have htx : (Els.texts [q]).headD [] = q.2 := rfl
          rw [htx] at hX4
          clear hcl hl3 hl4 tx hlen h1 htx
          by_cases h2 : n = bs.length
          · have hX5 : X = (0, some q.2) := by rw [hX4, if_pos ⟨rfl, h2⟩]
            have h2i : (n : Int) = (bs.length : Int) := by omega
            have HF : Hid (OnPost w ρ r X D (.returned (.tuple #[q.1, .bool true, .int .i64 0])) w5) := Hid_mk (by rw [hX5, HD.out]; exact ⟨⟨_, rfl, hbq⟩, HK5.out, HZ5⟩)
            clear hX4 hX5 hbq
            simp only [List.length_cons, List.length_nil] at hl1 ⊢
            go_wp2
            refine bodyPost_ret (results_tmp3 rfl _ _ _) rfl ?_
            exact HF.out
          · have hX5 : X = (0, none) := by rw [hX4, if_neg (fun h => h2 h.2)]
            have h2i : ¬ (n : Int) = (bs.length : Int) := by omega
            have HF : Hid (OnPost w ρ r X D (.returned (.tuple #[.slice none 0 0, .bool false, .int .i64 0])) w5) := Hid_mk (by rw [hX5, HD.out]; exact ⟨⟨_, rfl, nil_bs _⟩, HK5.out, HZ5⟩)
            clear hX4 hX5 hbq
            simp only [List.length_cons, List.length_nil] at hl1 ⊢
            go_wp2
            refine bodyPost_ret (results_tmp3 rfl _ _ _) rfl ?_
            exact HF.out
        · have hX5 : X = (0, none) := by rw [hX4, if_neg (fun h => h1 h.1)]
          have h1i : ¬ (qs.length : Int) = 1 := by omega
          have HF : Hid (OnPost w ρ r X D (.returned (.tuple #[.slice none 0 0, .bool false, .int .i64 0])) w5) := Hid_mk (by rw [hX5, HD.out]; exact ⟨⟨_, rfl, nil_bs _⟩, HK5.out, HZ5⟩)
          clear hX4 hX5 hl3 hl4 tx hlen
          go_wp2
          refine bodyPost_ret (results_tmp3 rfl _ _ _) rfl ?_
          exact HF.out
      · have hX3 : X = (e2, none) := by rw [hX2, if_neg h2]
        have HF : Hid (OnPost w ρ r X D (.returned (.tuple #[.slice none 0 0, .bool false, .int .i64 e2])) w3) := Hid_mk (by rw [hX3, HD.out]; exact ⟨⟨_, rfl, nil_bs _⟩, HK3.out, HZ3⟩)
        clear hX2 hX3
        go_wp2
        refine bodyPost_ret (results_tmp3 rfl _ _ _) rfl ?_
        exact HF.out
    · have hX2 := HX.out
      have hD2 := HD.out
      rw [seqD_no _ (by rw [he1]; exact h1), he1, if_neg h1] at hX2
      rw [seqD_no _ (by rw [he1]; exact h1)] at hD2
      have HF : Hid (OnPost w ρ r X D (.returned (.tuple #[.slice none 0 0, .bool false, .int .i64 e1])) w2) := Hid_mk (by rw [hX2, hD2]; exact ⟨⟨_, rfl, nil_bs _⟩, k2, HZ2⟩)
      clear hX2 hD2 k2 HRm HZ2 HX HD he1
      go_wp2
      refine bodyPost_ret (results_tmp3 rfl _ _ _) rfl ?_
      exact HF.out

end Go.Proofs.YtmehneicdklfeaaGreat.snp

namespace Go.Proofs.YtmehneicdklfeaaGreat.snp
open Go.RowKit Go.Maps Go.Proofs.YtmehneicdklfeaaGreat.sum Go.Proofs.YtmehneicdklfeaaGreat.kept Go.Proofs.YtmehneicdklfeaaGreat.app Go.Proofs.YtmehneicdklfeaaGreat.writer Go.Proofs.YtmehneicdklfeaaGreat.clone Go.Proofs.YtmehneicdklfeaaGreat.fs Go.Proofs.YtmehneicdklfeaaGreat.fsDo Go.Proofs.YtmehneicdklfeaaGreat.unseal Go.Proofs.YtmehneicdklfeaaGreat.dsk Go.Proofs.YtmehneicdklfeaaGreat.r2 Go.Proofs.YtmehneicdklfeaaGreat.pair Go.Proofs.YtmehneicdklfeaaGreat.frm
set_option linter.unusedVariables false

/-- what is asked of the project's Save -/
def SaveC : Prop := ∀ (w : World) (base p M : Nat) (ρ : Nat → Role) (d : DSt) (v : Value) (bs : List UInt8), Dk w base p ρ d → OkN M d → M ≤ 900 → Bs w v bs → (bs ≠ [] → ∀ x o m c, v = .slice (some ⟨x, o, none⟩) m c → ρ x = .other) → bs.length ≤ 140737488355328 →
  Calls Tryz.prog 11 #[.pointer (some ⟨p, 0, none⟩), v] w (StPost base p ρ (savD d bs).2 w (.int .i64 (savD d bs).1))
/-- and of its Open -/
def OpenC : Prop := ∀ (w : World) (base p M : Nat) (ρ : Nat → Role) (d : DSt), Dk w base p ρ d → OkN M d → M ≤ 900 →
  Calls Tryz.prog 9 #[.pointer (some ⟨p, 0, none⟩)] w fun e w' => ∃ v ρ', e = .returned (.tuple #[v, .bool (opnA d).2.isSome, .int .i64 (opnA d).1]) ∧ Dk w' base p ρ' (opnD d).2 ∧ Fr ρ w ρ' w' ∧ Bs w' v ((opnA d).2.getD []) ∧ ((opnA d).2.getD [] ≠ [] → ∀ x o m c, v = .slice (some ⟨x, o, none⟩) m c → w.heap.size ≤ x ∧ ρ' x = .other)

section
variable {w w1 : World} {base p r M : Nat} {ρ : Nat → Role} {d : DSt}

theorem Both.opn1 (hO : OpenC) (h : Both w base p ρ d r M) (hM : M ≤ 900) :
    Calls Tryz.prog 9 #[.pointer (some ⟨p, 0, none⟩)] w fun e w1 => ∃ v, e = .returned (.tuple #[v, .bool (opnA d).2.isSome, .int .i64 (opnA d).1]) ∧ Bs w1 v ((opnA d).2.getD []) ∧ ((opnA d).2.getD [] ≠ [] → ∀ x o m c, v = .slice (some ⟨x, o, none⟩) m c → x ≠ r) ∧
      Kp (fun k => base ≤ k ∧ k ≠ r) w w1 ∧ Hid (Mid w base p ρ d (opnD d).2 r w1) := by
  have hlt := h.lt
  refine (hO w base p M ρ d h.dk h.ok hM).mono ?_
  rintro e w1 ⟨v, ρ0, he, hd0, hf0, hb, hx⟩
  obtain ⟨-, hm⟩ := h.left (show StPost base p ρ (opnD d).2 w _ e w1 from ⟨he, ρ0, hd0, hf0⟩)
  obtain ⟨ρ1, hd1, hk1, hr1⟩ := hm
  exact ⟨v, he, hb, fun hne x o m c ev => by have := (hx hne x o m c ev).1; omega, hk1, Hid_mk ⟨ρ1, hd1, hk1, hr1⟩⟩

theorem Mid.opn2 (h : Mid w base p ρ d (opnD d).2 r w1) (hbr : base ≤ r) (hok : OkN M d) (hM : M ≤ 900) :
    Calls Tryz.prog 10 #[.pointer (some ⟨r, 0, none⟩)] w1 fun e w2 => ∃ v, e = .returned (.tuple #[v, .bool (opnA d).2.isSome, .int .i64 (opnA d).1]) ∧ Bs w2 v ((opnA d).2.getD []) ∧
      Kp (fun k => base ≤ k) w w2 ∧ Kp (fun k => k = r) w1 w2 ∧ Hid (∃ ρ2, Both w2 base p ρ2 (opnD d).2 r (M + 2)) := by
  obtain ⟨ρ1, hd1, hk1, x, vs, vn, vw, ls, ln, ps, h3, h4⟩ := h
  refine (refopen_any w1 ρ1 r M d ⟨x, vs, vn, vw, ls, ln, ps, h3, h4⟩ hok (by omega) (fun k hk => hd1.hi hk)).mono ?_
  rintro e w2 ⟨⟨v, he, hb⟩, hk2, hz⟩
  obtain ⟨x2, vs2, vn2, vw2, ls2, ln2, ps2, h5, h6⟩ := hz.out
  exact ⟨v, he, hb, (hk1.mono fun k _ hk => hk.1).trans' (hk2.mono fun k _ hk => by rw [hk]; exact hbr), hk2, Hid_mk ⟨ρ1, Dk.beside hd1 hk2 h3.r0, opnD_ok hok, x2, vs2, vn2, vw2, ls2, ln2, ps2, h5, h6⟩⟩

/-- the reference's Save, as a call of its disk -/
theorem refsave_post (w : World) (ρ : Nat → Role) (r M : Nat) (d : DSt) (h : Rz w ρ r d) (hok : OkN M d) (hM : M ≤ 900) (hi : ∀ k, w.heap.size ≤ k → ρ k = .other) (v : Value) (bs : List UInt8) (hb : Bs w v bs) (ha : bs ≠ [] → Aw w ρ r v) :
    Calls Tryz.prog 12 #[.pointer (some ⟨r, 0, none⟩), v] w (RPost w ρ r (savD d bs).2 (.int .i64 (savD d bs).1)) := by
  refine (refsave_any w ρ r M d h hok (by omega) hi v bs hb ha).mono ?_
  rintro e w' ⟨he, hk, hz⟩
  exact ⟨he, hk, hz.out⟩
end

end Go.Proofs.YtmehneicdklfeaaGreat.snp

namespace Go.Proofs.YtmehneicdklfeaaGreat.snp
open Go.RowKit Go.Maps Go.Proofs.YtmehneicdklfeaaGreat.sum Go.Proofs.YtmehneicdklfeaaGreat.kept Go.Proofs.YtmehneicdklfeaaGreat.app Go.Proofs.YtmehneicdklfeaaGreat.writer Go.Proofs.YtmehneicdklfeaaGreat.clone Go.Proofs.YtmehneicdklfeaaGreat.known Go.Proofs.YtmehneicdklfeaaGreat.fs Go.Proofs.YtmehneicdklfeaaGreat.fsDo Go.Proofs.YtmehneicdklfeaaGreat.unseal Go.Proofs.YtmehneicdklfeaaGreat.dsk Go.Proofs.YtmehneicdklfeaaGreat.r2 Go.Proofs.YtmehneicdklfeaaGreat.pair Go.Proofs.YtmehneicdklfeaaGreat.frm
set_option linter.unusedVariables false

theorem ok_new : OkN 0 (stS none (-1)) := ⟨new_ok 8388608 (by omega) (by omega), (fun e he => by cases he), (fun c hc => by cases hc)⟩

section
variable {w : World} {base p M : Nat} {ρ : Nat → Role} {d : DSt}
theorem save_to (hS : SaveC) {n : Int} {d' : DSt} (v : Value) (bs : List UInt8) (h : Dk w base p ρ d) (hok : OkN M d) (hM : M ≤ 900) (hb : Bs w v bs) (hvo : bs ≠ [] → ∀ x o m c, v = .slice (some ⟨x, o, none⟩) m c → ρ x = .other) (hbl : bs.length ≤ 140737488355328) (he : savD d bs = (n, d')) :
    Calls Tryz.prog 11 #[.pointer (some ⟨p, 0, none⟩), v] w fun e w' => e = .returned (.int .i64 n) ∧ Hid (OkN (M + 5) d' ∧ ∃ ρ', Dk w' base p ρ' d' ∧ Fr ρ w ρ' w') := by
  have h1 := hS w base p M ρ d v bs h hok hM hb hvo hbl
  have h2 := savD_ok hok bs
  rw [he] at h1 h2
  exact h1.mono fun _ _ ⟨e1, e2⟩ => ⟨e1, Hid_mk ⟨h2, e2⟩⟩
theorem open_to (hO : OpenC) {L : Option (List UInt8)} {f : Int} (h : Dk w base p ρ d) (hok : OkN M d) (hM : M ≤ 900) (hL : ∀ x, L = some x → x.length ≤ 300) (he : opnD d = (0, stS L f)) :
    Calls Tryz.prog 9 #[.pointer (some ⟨p, 0, none⟩)] w fun e w' => ∃ v ρ', e = .returned (.tuple #[v, .bool L.isSome, .int .i64 0]) ∧ Bs w' v (L.getD []) ∧ (L.getD [] ≠ [] → ∀ x o m c, v = .slice (some ⟨x, o, none⟩) m c → w.heap.size ≤ x ∧ ρ' x = .other) ∧ Hid (OkN (M + 2) (stS L f) ∧ Dk w' base p ρ' (stS L f) ∧ Fr ρ w ρ' w') := by
  have h1 := hO w base p M ρ d h hok hM
  have h2 := opnD_ok hok
  rw [opnA_st hL he, he] at h1
  rw [he] at h2
  refine h1.mono ?_
  rintro e w' ⟨v, ρ', e1, e2, e5, e3, e4⟩
  exact ⟨v, ρ', e1, e3, e4, Hid_mk ⟨h2, e2, e5⟩⟩
end

set_option maxRecDepth 100000 in
set_option maxHeartbeats 4000000 in
theorem known_any (hS : SaveC) (hO : OpenC) (w : World) : Calls Tryz.prog 6 #[] w fun e w' => e = .returned (.bool true) ∧ Kp No w w' := by
  have kc := fun (w : World) (C : Array Value) (n c : Nat) => Lib.run_convert_bytes_const (P := Tryz.prog) w 29 5 C n c Tryz.underlying29 Tryz.underlying5
  have HN := Hid_mk (new_any w 8388608 (by omega) (by omega))
  have HS := Hid_mk hS
  have HO := Hid_mk hO
  clear hS hO
  go_enter Tryz.func6, Tryz.ntmps6
  go_wp2_with fail
  with_reducible refine HN.out.mono ?_
  rintro e w1 ⟨p, ρ1, rfl, hd1, hk1, hp⟩
  have HD1 : Hid (Dk w1 w.heap.size p ρ1 (stS none (-1))) := Hid_mk hd1
  have HK1 := Hid_mk hk1
  clear HN hd1 hk1
  have HL1 := Hid_mk (bs_lit w1 [97, 98] (2, 3) (by decide))
  have kk1 : Kp No w1 (w1.alloc (.cells #[.int .u8 97, .int .u8 98] 5 (2, 3))) := (Kp.refl _ _).alloc _
  have HA := Hid_mk (save_to HS.out (.slice (some ⟨w1.heap.size, 0, none⟩) 2 2) [97, 98] (HD1.out.no kk1) ok_new (by omega) HL1.out (fun _ x o m c e => by cases e; exact HD1.out.hi (Nat.le_refl _)) (by decide) (sav_free none (fun x e => by cases e) [97, 98] (by decide)))
  go_wp2_with fail
  with_reducible refine HA.out.mono ?_
  rintro e w2 ⟨rfl, H2⟩
  obtain ⟨ok2, ρ2, h2, f2⟩ := H2.out
  have HK2 := Hid_mk ((HD1.out.no kk1).out (Nat.le_refl _) (HK1.out.trans' kk1) f2)
  have HD2 := Hid_mk h2
  clear H2 HA HL1 kk1 h2 f2
  have HOp := Hid_mk (open_to HO.out HD2.out ok2 (by omega) (fun x e => by cases e; decide) (opn_base (some [97, 98]) (-1)))
  go_wp2_with fail
  with_reducible refine HOp.out.mono ?_
  rintro e w3 ⟨va, ρ3, rfl, hba, hxa, H3⟩
  obtain ⟨ok3, h3, f3⟩ := H3.out
  have HK3 := Hid_mk (HD2.out.out (Nat.le_refl _) HK2.out f3)
  have HD3 := Hid_mk h3
  clear H3 HOp h3 f3
  have HFu := Hid_mk (pfuse_any HD3.out 2)
  go_wp2_with fail
  with_reducible refine HFu.out.mono ?_
  rintro e w4 ⟨rfl, ρ4, h4, f4⟩
  have HD4 : Hid (Dk w4 w.heap.size p ρ4 (stS (some [97, 98]) 2)) := Hid_mk h4
  have ok4 : OkN (0 + 5 + 2 + 1) (stS (some [97, 98]) 2) := fuR_ok ok3 2 (by omega)
  have HK4 := Hid_mk (HD3.out.out (Nat.le_refl _) HK3.out f4)
  have HF4 := Hid_mk f4
  clear h4 f4 HFu
  have HL4 := Hid_mk (bs_lit w4 [99, 100] (2, 3) (by decide))
  have kk4 : Kp No w4 (w4.alloc (.cells #[.int .u8 99, .int .u8 100] 5 (2, 3))) := (Kp.refl _ _).alloc _
  have HB := Hid_mk (save_to HS.out (.slice (some ⟨w4.heap.size, 0, none⟩) 2 2) [99, 100] (HD4.out.no kk4) ok4 (by omega) HL4.out (fun _ x o m c e => by cases e; exact HD4.out.hi (Nat.le_refl _)) (by decide) (sav_two (some [97, 98]) (fun x e => by cases e; decide) [99, 100] (by decide)))
  go_wp2_with fail
  with_reducible refine HB.out.mono ?_
  rintro e w5 ⟨rfl, H5⟩
  obtain ⟨ok5, ρ5, h5, f5⟩ := H5.out
  have HK5 := Hid_mk ((HD4.out.no kk4).out (Nat.le_refl _) (HK4.out.trans' kk4) f5)
  have HF5 := Hid_mk ((HF4.out.trans (Fr.of_no kk4)).trans f5)
  have HD5 := Hid_mk h5
  clear H5 HB HL4 kk4 h5 f5 HF4
  have HCr := Hid_mk (crash_any w5 w.heap.size p _ ρ5 _ 1 0 HD5.out ok5.1 (by omega))
  have ok6 := crR_ok ok5 (by omega) 1 0
  go_wp2_with fail
  with_reducible refine HCr.out.mono ?_
  rintro e w6 ⟨rfl, ρ6, h6, f6⟩
  have HK6 := Hid_mk (HD5.out.out (Nat.le_refl _) HK5.out f6)
  have HF6 := Hid_mk (HF5.out.trans f6)
  have HD6 := Hid_mk h6
  clear HCr h6 f6 HF5
  have HOp := Hid_mk (open_to HO.out HD6.out ok6 (by omega) (fun x e => by cases e; decide) (two_opn (some [97, 98]) (framed [99, 100]) 1 0))
  go_wp2_with fail
  with_reducible refine HOp.out.mono ?_
  rintro e w7 ⟨vb, ρ7, rfl, hbb, hxb, H7⟩
  obtain ⟨ok7, h7, f7⟩ := H7.out
  have HK7 := Hid_mk (HD6.out.out (Nat.le_refl _) HK6.out f7)
  have f37 := HF6.out.trans f7
  have hba7 : Bs w7 va [97, 98] := bs_keptE hba f37.1 fun hne x o m c e h => h (hxa hne x o m c e).2
  have ca := conv_bs hba7
  have cb := conv_bs hbb
  obtain ⟨aa, na, ea, -⟩ := id hba7
  obtain ⟨ab, nb, eb, -⟩ := id hbb
  have ea2 : va = .slice aa 2 na := ea
  have eb2 : vb = .slice ab 2 nb := eb
  clear ea eb
  subst ea2 eb2
  clear H7 HOp h7 f7 hba hxa hbb hxb hba7 HF6 f37 ok2 ok3 ok4 ok5 ok6 ok7
  simp only [Option.getD] at cb
  go_wp2
  go_ret
  exact ⟨rfl, HK7.out⟩

end Go.Proofs.YtmehneicdklfeaaGreat.snp

namespace Go.Proofs.YtmehneicdklfeaaGreat.fs
open Go.WideShapes Go.RowKit Go.Maps Go.Sort

theorem before_lt : ∀ {a b : List UInt8}, bytesBefore a b = true → a < b
  | [], [], h => by simp [bytesBefore] at h
  | [], _ :: _, _ => by simp
  | _ :: _, [], h => by simp [bytesBefore] at h
  | x :: r, y :: s, h => by
    simp only [bytesBefore, Bool.or_eq_true, Bool.and_eq_true, decide_eq_true_eq, beq_iff_eq] at h
    rcases h with h | ⟨rfl, h⟩
    · exact List.cons_lt_cons_iff.2 (.inl h)
    · exact List.cons_lt_cons_iff.2 (.inr ⟨rfl, before_lt h⟩)

def namesOf (es : Files) : List Name := es.map (·.1)
theorem names_sorted {es : Files} (h : Rising es) {ss : List (List UInt8)} (hp : ss.Perm (namesOf es)) : (ss.mergeSort fun x y => decide (x ≤ y)) = namesOf es := by
  have tr : ∀ a b c : List UInt8, decide (a ≤ b) = true → decide (b ≤ c) = true → decide (a ≤ c) = true := fun a b c h1 h2 => by
    simp only [decide_eq_true_eq] at *
    exact List.le_trans h1 h2
  have to : ∀ a b : List UInt8, (decide (a ≤ b) || decide (b ≤ a)) = true := fun a b => by
    simp only [Bool.or_eq_true, decide_eq_true_eq]
    exact List.le_total a b
  have hs : (namesOf es).Pairwise fun a b => decide (a ≤ b) = true := by
    refine List.pairwise_map.2 (h.imp fun {p q} hb => ?_)
    simp only [decide_eq_true_eq]
    exact List.le_of_lt (before_lt hb)
  refine List.Perm.eq_of_pairwise (le := fun a b => decide (a ≤ b) = true) (fun a b _ _ h1 h2 => ?_) (List.pairwise_mergeSort tr to ss) hs ((List.mergeSort_perm ss _).trans hp)
  simp only [decide_eq_true_eq] at h1 h2
  exact List.le_antisymm h1 h2

end Go.Proofs.YtmehneicdklfeaaGreat.fs
