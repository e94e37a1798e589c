/- The reference's Disk: Crash, its walk. Both disks side by side: each call of the project's answers as the plain words say, and stays in bounds. -/
import Derived.Test.YtmehneicdklfeaaGreatR2CallsM

namespace Go.Proofs.YtmehneicdklfeaaGreat.r2
open Go.RowKit Go.Maps Go.Proofs.YtmehneicdklfeaaGreat.sum Go.Proofs.YtmehneicdklfeaaGreat.kept Go.Proofs.YtmehneicdklfeaaGreat.app Go.Proofs.YtmehneicdklfeaaGreat.writer Go.Proofs.YtmehneicdklfeaaGreat.clone Go.Proofs.YtmehneicdklfeaaGreat.fs Go.Proofs.YtmehneicdklfeaaGreat.fsDo Go.Proofs.YtmehneicdklfeaaGreat.unseal Go.Proofs.YtmehneicdklfeaaGreat.dsk
set_option linter.unusedVariables false

set_option maxRecDepth 100000 in
set_option maxHeartbeats 4000000 in
theorem refcrash_any (w : World) (ρ : Nat → Role) (r : Nat) (d : DSt) (x : RSt) (vs vn vw : Value) (ls ln : List Fv) (ps : List (Change × Value)) (M : Nat) (h : RS w ρ r x vs vn vw ls ln ps) (hd : RD d x ls ln ps) (hok : DOk M d) (hM : M ≤ 1000) (hi : ∀ k, w.heap.size ≤ k → ρ k = .other)
    (keep torn : Int) : Calls Tryz.prog 23 #[.pointer (some ⟨r, 0, none⟩), .int .i64 keep, .int .i64 torn] w (RPost w ρ r (crashD d keep torn) (.int .i64 (crashK d keep : Int))) := by
  obtain ⟨b1, b2, b3, b4, b5, b6, b7, b8⟩ := hd.bounds hok hM
  obtain ⟨hk, hke⟩ := crashK_le d keep
  have hpl : ps.length = d.cs.length := by rw [← hd.cs, List.length_map]
  have hF : crashF d keep torn = match d.cs[crashK d keep]? with
    | some c => tearF (all d.syn (d.cs.take (crashK d keep))) c torn
    | none => all d.syn (d.cs.take (crashK d keep)) := rfl
  have HFk := Hid_mk hF
  clear hF
  obtain ⟨k, hkk⟩ : ∃ k, crashK d keep = k := ⟨_, rfl⟩
  rw [hkk] at hk hke HFk ⊢
  rw [← hpl] at hke hk
  have HI := Hid_mk (into_any keep ((ps.length : Int) + 1) (by omega) (by omega))
  rw [hke] at HI
  have c1 := h.at_.c1
  have c3 := h.at_.c3
  obtain ⟨asv, csv, rfl⟩ : ∃ a c, vs = .slice a ls.length c := by
    obtain ⟨a, c, e, -⟩ := h.fs.1.opened
    exact ⟨a, c, e⟩
  obtain ⟨aw, cw, rfl, hcw⟩ : ∃ a c, vw = .slice a ps.length c ∧ (ps ≠ [] → ∃ g, a = some ⟨g, 0, none⟩) := by
    rcases owns_any h.fw.1 with ⟨rfl, h0⟩ | ⟨g, cap, rfl, -⟩
    · exact ⟨none, 0, by rw [h0], fun hne => absurd (List.eq_nil_of_length_eq_zero h0) hne⟩
    · exact ⟨_, _, rfl, fun _ => ⟨g, rfl⟩⟩
  have HCw := Hid_mk hcw
  have HR := Hid_mk h
  have HD := Hid_mk hd
  have HOk := Hid_mk hok
  have HHi := Hid_mk hi
  have HPl := Hid_mk hpl
  have HKe := Hid_mk hkk
  have hrlt := h.at_.lt
  have hk0 : (0 : Int) ≤ (k : Int) := by omega
  clear b1 b5 h hd hok hi hcw hpl hkk hke
  go_enter Tryz.func23, Tryz.ntmps23
  go_wp2_with fail
  with_reducible refine (HI.out _).mono ?_
  rintro e w' ⟨rfl, rfl⟩
  go_wp2
  go_loopw [8, 9] (fun t i wr => CrRel w ρ r d k t i wr) (fun _ i _ => k - (intOf i).toNat)
  case atStart => exact ⟨0, ls, rfl, Nat.zero_le _, ⟨_, _, _, rfl⟩, HR.out.fs, HD.out.syn, Kp.refl _ _, HR.out.sa, HR.out.bs⟩
  case round =>
    obtain ⟨j, lj, rfl, hj, ⟨at_, nt, ct, rfl⟩, hfl, hfe, hkp, haw, hab⟩ := hrel
    have hRw := HR.out.no hkp
    have d3 := hRw.at_.c3
    have hsz := hkp.size
    have HFl := Hid_mk hfl
    have HFe := Hid_mk hfe
    have HK := Hid_mk hkp
    have HAw := Hid_mk haw
    have HAb := Hid_mk hab
    have HRw := Hid_mk hRw
    have tb := take_bounds HOk.out hM j
    have hll : lj.length ≤ 1000 := by rw [← files_len, hfe]; exact tb.2.1
    have hlu : used (files lj) ≤ 10000000000 := by rw [hfe]; exact tb.2.2
    have HRi : Hid (Rising (files lj)) := Hid_mk (by rw [hfe]; exact tb.1)
    have hj0 : (0 : Int) ≤ (j : Int) := by omega
    clear hfl hfe hkp haw hab hRw tb
    by_cases hlt : j < k
    · have hjk : (j : Int) < (k : Int) := by omega
      have hjp : j < ps.length := by omega
      have hjl : (j : Int) < (ps.length : Int) := by omega
      obtain ⟨g, rfl⟩ := HCw.out (by intro e; rw [e] at hjp; simp at hjp)
      obtain ⟨k0, k1, k2, k3, k4⟩ := op_cells HRw.out.fw.1 j hjp
      have hst := take_step HOk.out hM (j := j) (by rw [← HPl.out]; exact hjp)
      obtain ⟨q, hq⟩ : ∃ q, q = ps[j] := ⟨_, rfl⟩
      have hqc : q.1 = d.cs[j]'(by rw [← HPl.out]; exact hjp) := by
        have : (ps.map (·.1))[j]'(by simpa using hjp) = d.cs[j]'(by rw [← HPl.out]; exact hjp) := by simp only [HD.out.cs]
        rw [← this, List.getElem_map, hq]
      rw [← hqc] at hst
      rw [← hq] at k0 k1 k2 k3 k4
      have hqm : q ∈ ps := hq ▸ List.getElem_mem hjp
      have hqb := HRw.out.fw.2 q hqm
      have hnames := HOk.out.names q.1 (by rw [hqc]; exact List.getElem_mem _)
      obtain ⟨c, vb⟩ := q
      simp only at k0 k1 k2 k3 k4 hst hqb hnames
      obtain ⟨avb, cvb, rfl, -⟩ := id hqb
      have hdo := done_any wr (.slice at_ nt ct) (.slice avb c.bytes.length cvb) lj c HFl.out HRi.out (by omega) (by rw [HFe.out]; exact hst.1) hnames.1 hnames.2 hqb (by omega) (by have := hst.2.2; omega)
      unfold chg at hdo
      have HDo := Hid_mk hdo
      have HSt := Hid_mk hst.2.1
      have HLt := Hid_mk hlt
      clear hdo hst hqb hqm hq hqc hnames hjp hlt
      go_wp2_with fail
      with_reducible refine HDo.out.mono ?_
      rintro e w1 ⟨v1, l1, rfl, hf1, he1, hk1, hnw⟩
      have haw := newly_aw (r := r) hnw hf1 (fun i hi2 => HHi.out i (by omega)) (by omega) hk1.size (fun q hq hne => (HAb.out q hq hne).up hk1.size fun _ _ e => e)
      have HN : Hid (∀ i, i = (.int .i64 ((j : Int) + 1) : Value) → CrRel w ρ r d k v1 i w1) := Hid_mk fun i hi2 => ⟨j + 1, l1, by rw [hi2]; push_cast; rfl, HLt.out, (by obtain ⟨a, c, e, -⟩ := hf1.1.opened; exact ⟨_, _, _, e⟩), hf1, by rw [he1, HFe.out]; exact HSt.out.symm, HK.out.trans' hk1, haw.1, haw.2⟩
      obtain ⟨a1, c1', e1, -⟩ := hf1.1.opened
      subst e1
      clear hf1 he1 hk1 hnw haw
      go_wp2
      go_roundw
      case rel => exact HN.out _ rfl
      case measure => have := HLt.out; simp only [intOf]; omega
    · have hjk : ¬ (j : Int) < (k : Int) := by omega
      obtain rfl : j = k := by omega
      clear hlt
      have fin : ∀ (wT : World) (vT : Value) (lT : List Fv), Kp No wr wT → Fl wT vT lT → Aw wT ρ r vT → (∀ q ∈ lT, q.2.2 ≠ [] → Aw wT ρ r q.2.1) → files lT = crashF d keep torn → RPost w ρ r (crashD d keep torn) (.int .i64 (j : Int)) (.returned (.int .i64 (j : Int))) (finW wT r vT)   := fun wT vT lT hk hf ha hb he => by
        have hr := HRw.out.no hk
        have := crash_fin hr HD.out hf ha hb he
        exact ⟨rfl, ((HK.out.trans' hk).to).trans' this.1, this.2⟩
      have HFin := Hid_mk fin
      clear fin
      have HFc := HRw.out.at_.fin (.slice at_ nt ct)
      obtain ⟨⟨u1, g1⟩, f1, ⟨u2, g2⟩, f2, ⟨u3, g3⟩, f3, ⟨u4, g4⟩, f4, ⟨u6, g6⟩, f6⟩ := HFc
      by_cases hend : j < ps.length
      · have hjl : (j : Int) < (ps.length : Int) := by omega
        obtain ⟨g, rfl⟩ := HCw.out (by intro e; rw [e] at hend; simp at hend)
        obtain ⟨k0, k1, k2, k3, k4⟩ := op_cells HRw.out.fw.1 j hend
        have hst := take_step HOk.out hM (j := j) (by rw [← HPl.out]; exact hend)
        obtain ⟨q, hq⟩ : ∃ q, q = ps[j] := ⟨_, rfl⟩
        have hqc : d.cs[j]? = some q.1 := by
          rw [← HD.out.cs, List.getElem?_map, List.getElem?_eq_getElem hend, ← hq]
          rfl
        have hqc2 : q.1 = d.cs[j]'(by rw [← HPl.out]; exact hend) := by
          have := List.getElem?_eq_getElem (l := d.cs) (i := j) (by rw [← HPl.out]; exact hend)
          rw [hqc] at this
          exact Option.some.inj this
        rw [← hqc2] at hst
        rw [← hq] at k0 k1 k2 k3 k4
        have hqm : q ∈ ps := hq ▸ List.getElem_mem hend
        have hqb := HRw.out.fw.2 q hqm
        have hqa := HRw.out.bw q hqm
        have hnames := HOk.out.names q.1 (by rw [hqc2]; exact List.getElem_mem _)
        have hplain := HOk.out.plain q.1 (by rw [hqc2]; exact List.getElem_mem _)
        have hcf := HFk.out
        rw [hqc] at hcf
        obtain ⟨c, vb⟩ := q
        simp only at k0 k1 k2 k3 k4 hst hqb hqa hnames hplain hcf
        rw [← HFe.out] at hcf
        obtain ⟨avb, cvb, rfl, -⟩ := id hqb
        have HQb := Hid_mk hqb
        have HQa := Hid_mk hqa
        have HNm := Hid_mk hnames
        have HPn := Hid_mk hplain
        have HCf := Hid_mk hcf
        have HSt := Hid_mk hst
        clear hst hqb hqa hnames hplain hcf hqm hq hqc hqc2 hend
        by_cases hkind : c.kind = 0
        · have hk00 : (c.kind : Int) = 0 := by omega
          by_cases hbe : c.bytes.length = 0
          · have HP := Hid_mk (HFin.out _ _ _ (Kp.refl No wr) HFl.out HAw.out HAb.out (by rw [HCf.out]; unfold tearF tornN; rw [if_pos hbe]; rfl))
            have hbi : ((c.bytes.length : Nat) : Int) = 0 := by omega
            rw [hk00] at k0
            rw [hbe] at k3
            clear HQb HQa
            go_wp2
            go_ret
            exact HP.out
          · have hbi : (0 : Int) < ((c.bytes.length : Nat) : Int) := by omega
            have hlb := HSt.out.2.2
            obtain ⟨htl, hte⟩ := tornN_lt c torn hbe
            have HIt := Hid_mk (into_any torn (c.bytes.length : Int) (by omega) (by omega))
            rw [hte] at HIt
            obtain ⟨T, hT⟩ : ∃ T, tornN c torn = T := ⟨_, rfl⟩
            rw [hT] at htl HIt
            have HTe := Hid_mk hT
            rw [hk00] at k0
            have hT0 : (0 : Int) ≤ (T : Int) := by omega
            clear hte hT
            have hcap : (c.bytes.length : Int) ≤ (cvb : Int) := by
              obtain ⟨_, _, e, h1, -, -⟩ := HQb.out
              simp only [Value.slice.injEq] at e
              omega
            clear g1 f1 g2 f2 g3 f3 g4 f4 g6 f6
            go_wp2_with fail
            with_reducible refine (HIt.out _).mono ?_
            rintro e w' ⟨rfl, rfl⟩
            obtain ⟨W1, hW1⟩ : ∃ W1, wr.alloc (.cells #[.int .i64 0, .string c.name, .string c.to, .slice avb c.bytes.length cvb, .int .i64 (c.size : Int)] 84) = W1 := ⟨_, rfl⟩
            have kW1 : Kp No wr W1 := by rw [← hW1]; exact (Kp.refl No wr).alloc _
            have e0 : W1.cell? ⟨wr.heap.size, 0, none⟩ = some (.int .i64 0) := by rw [← hW1]; simp
            have e1 : W1.cell? ⟨wr.heap.size, 1, none⟩ = some (.string c.name) := by rw [← hW1]; simp
            have e2 : W1.cell? ⟨wr.heap.size, 2, none⟩ = some (.string c.to) := by rw [← hW1]; simp
            have e3 : W1.cell? ⟨wr.heap.size, 3, none⟩ = some (.slice avb c.bytes.length cvb) := by rw [← hW1]; simp
            have e4 : W1.cell? ⟨wr.heap.size, 4, none⟩ = some (.int .i64 (c.size : Int)) := by rw [← hW1]; simp
            have e3f : W1.frozen? ⟨wr.heap.size, 3, none⟩ = false := by rw [← hW1]; simp
            rw [hW1]
            clear hW1
            by_cases hTz : T = 0
            · have hTn : ¬ (0 : Int) < (T : Int) := by omega
              have HFc := ((HRw.out.no kW1).at_).fin (.slice at_ nt ct)
              obtain ⟨⟨u1, g1⟩, f1, ⟨u2, g2⟩, f2, ⟨u3, g3⟩, f3, ⟨u4, g4⟩, f4, ⟨u6, g6⟩, f6⟩ := HFc
              have HP := Hid_mk (HFin.out _ _ _ kW1 (HFl.out.no kW1) (HAw.out.up kW1.size fun _ _ e => e) (fun q hq hne => (HAb.out q hq hne).up kW1.size fun _ _ e => e) (by rw [HCf.out]; unfold tearF; rw [HTe.out, if_pos hTz]))
              clear HQb HQa hTz kW1
              go_wp2
              go_ret
              exact HP.out
            · have hTn : (0 : Int) < (T : Int) := by omega
              have hTc : (T : Int) ≤ (cvb : Int) := by omega
              have hkW : Kp No wr (W1.setCell ⟨wr.heap.size, 3, none⟩ (.slice avb T cvb)) := kW1.setCell (fun h => absurd h (Nat.lt_irrefl _)) _
              have e0' := other_cell (o' := 3) (u := .slice avb T cvb) e0 (by omega)
              have e1' := other_cell (o' := 3) (u := .slice avb T cvb) e1 (by omega)
              have e2' := other_cell (o' := 3) (u := .slice avb T cvb) e2 (by omega)
              have e3' := World.cell?_setCell_same W1 ⟨wr.heap.size, 3, none⟩ (.slice avb T cvb) e3
              have e4' := other_cell (o' := 3) (u := .slice avb T cvb) e4 (by omega)
              obtain ⟨W2, hW2⟩ : ∃ W2, W1.setCell ⟨wr.heap.size, 3, none⟩ (.slice avb T cvb) = W2 := ⟨_, rfl⟩
              rw [hW2] at hkW e0' e1' e2' e3' e4'
              have hbt := bs_take HQb.out T (by omega)
              have hbtl : (c.bytes.take T).length = T := by rw [List.length_take]; omega
              have hdo := done_any W2 (.slice at_ nt ct) (.slice avb T cvb) lj { c with bytes := c.bytes.take T } (HFl.out.no hkW) HRi.out (by omega) ⟨by show c.kind < 4; omega, fun e => by simp only at e; omega⟩ HNm.out.1 HNm.out.2 (bs_no hbt hkW) (by omega) (by show (c.bytes.take T).length ≤ _; omega)
              unfold chg at hdo
              simp only at hdo
              rw [hk00] at hdo
              have HDo := Hid_mk hdo
              have hcF : crashF d keep torn = doit (files lj) { c with bytes := c.bytes.take T } := by rw [HCf.out]; unfold tearF; rw [HTe.out, if_neg hTz]
              have HcF := Hid_mk hcF
              have HkW := Hid_mk hkW
              have hzW := hkW.size
              clear hdo hcF hbt hkW HQb HQa kW1
              go_wp2_with fail
              with_reducible refine HDo.out.mono ?_
              rintro e w3 ⟨v3, l3, rfl, hf3, he3, hk3, hnw⟩
              have haw3 := newly_aw (r := r) hnw hf3 (fun i hi2 => HHi.out i (by omega)) (by omega) hk3.size (fun q hq hne => (HAb.out q hq hne).up (HkW.out.trans' hk3).size fun _ _ e => e)
              have HP := Hid_mk (HFin.out _ _ _ (HkW.out.trans' hk3) hf3 haw3.1 haw3.2 (by rw [he3]; exact HcF.out.symm))
              have HFc := ((HRw.out.no (HkW.out.trans' hk3)).at_).fin v3
              obtain ⟨a3, c3', ev3, -⟩ := hf3.1.opened
              subst ev3
              obtain ⟨⟨u1, g1⟩, f1, ⟨u2, g2⟩, f2, ⟨u3, g3⟩, f3, ⟨u4, g4⟩, f4, ⟨u6, g6⟩, f6⟩ := HFc
              clear hf3 he3 hk3 hnw haw3 HDo e0 e1 e2 e3 e4 e0' e1' e2' e3' e4' e3f
              go_wp2
              go_ret
              exact HP.out

        · have hk00 : ((c.kind : Int) == 0) = false := by simp; omega
          have HP := Hid_mk (HFin.out _ _ _ (Kp.refl No wr) HFl.out HAw.out HAb.out (by rw [HCf.out]; unfold tearF tornN; rw [HPn.out hkind]; rfl))
          have hkd : ¬ (c.kind : Int) = 0 := by omega
          clear HQb HQa
          go_wp2
          go_ret
          exact HP.out
      · have hjl : ¬ (j : Int) < (ps.length : Int) := by omega
        have hnn : d.cs[j]? = none := List.getElem?_eq_none (by rw [← HPl.out]; omega)
        have hcf := HFk.out
        rw [hnn] at hcf
        simp only at hcf
        have HP := Hid_mk (HFin.out _ _ _ (Kp.refl No wr) HFl.out HAw.out HAb.out (by rw [HFe.out]; exact hcf.symm))
        clear hcf hnn hend
        go_wp2
        go_ret
        exact HP.out

end Go.Proofs.YtmehneicdklfeaaGreat.r2

namespace Go.Proofs.YtmehneicdklfeaaGreat.pair
open Go.RowKit Go.Maps Go.Proofs.YtmehneicdklfeaaGreat.sum Go.Proofs.YtmehneicdklfeaaGreat.kept Go.Proofs.YtmehneicdklfeaaGreat.app Go.Proofs.YtmehneicdklfeaaGreat.writer Go.Proofs.YtmehneicdklfeaaGreat.clone Go.Proofs.YtmehneicdklfeaaGreat.fs Go.Proofs.YtmehneicdklfeaaGreat.fsDo Go.Proofs.YtmehneicdklfeaaGreat.unseal Go.Proofs.YtmehneicdklfeaaGreat.dsk Go.Proofs.YtmehneicdklfeaaGreat.r2
set_option linter.unusedVariables false

section
variable {w : World} {base p M : Nat} {ρ : Nat → Role} {d : DSt}

theorem papp_any (h : Dk w base p ρ d) (hok : DOk M d) (hM : M ≤ 1000000) (n : ByteArray) (vb : Value) (bs : List UInt8) (hn : n.size ≤ maxLen) (hb : Bs w vb bs) (hvo : bs ≠ [] → ∀ x o m c, vb = .slice (some ⟨x, o, none⟩) m c → ρ x = .other) (hbl : bs.length ≤ 1000000000000000) :
    Calls Tryz.prog 16 #[.pointer (some ⟨p, 0, none⟩), .string n, vb] w (StPost base p ρ (appR d n bs).2 w (.int .i64 (appR d n bs).1)) := by
  unfold appR
  cases hs : stopB d with
  | true => exact append_down w base p M ρ d n vb h hok hs
  | false =>
    rw [if_neg (by simp)]
    cases hnb : nameB n with
    | false => exact append_bad w base p M ρ d n vb h hok hs hn hnb
    | true =>
      rw [if_neg (by simp)]
      by_cases hr : d.room < (used d.now : Int) + (bs.length : Int)
      · rw [if_pos hr]
        exact append_full w base p M ρ d n vb bs h hok hM hs hnb hb hvo hr hbl
      · rw [if_neg hr]
        cases hg : (get d.now (nm n)).isSome with
        | true =>
          rw [if_neg (by simp)]
          obtain ⟨s, nn, vp, ps, h⟩ := h
          exact append_there w base p M ρ d d.now s nn vp ps n vb bs h hok hM rfl hs hnb hb hvo (by omega) hg
        | false =>
          by_cases hm : 64 ≤ d.now.length
          · rw [if_pos ⟨rfl, hm⟩]
            exact append_many w base p M ρ d n vb bs h hok hM hs hnb hb hvo (by omega) hg hm
          · rw [if_neg (by simp; omega)]
            exact append_anyE w base p M ρ d n vb bs h hok hM hs hnb hb hvo (by omega) (by omega)

theorem prename_any (h : Dk w base p ρ d) (hok : DOk M d) (hM : M ≤ 1000000) (n to : ByteArray) (hn : n.size ≤ maxLen) (hto : to.size ≤ maxLen) :
    Calls Tryz.prog 35 #[.pointer (some ⟨p, 0, none⟩), .string n, .string to] w (StPost base p ρ (reR d n to).2 w (.int .i64 (reR d n to).1)) := by
  unfold reR
  cases hs : stopB d with
  | true => exact rename_down w base p M ρ d n to h hok hs
  | false =>
    rw [if_neg (by simp)]
    cases hnb : nameB to with
    | false => exact rename_bad w base p M ρ d n to h hok hs hto hnb
    | true =>
      rw [if_neg (by simp)]
      cases hg : (get d.now (nm n)).isSome with
      | false => exact rename_none w base p M ρ d n to h hok hs hn hnb hg
      | true => exact rename_any w base p M ρ d n to h hok hM hs hn hnb hg

theorem premove_any (h : Dk w base p ρ d) (hok : DOk M d) (hM : M ≤ 1000000) (n : ByteArray) (hn : n.size ≤ maxLen) :
    Calls Tryz.prog 33 #[.pointer (some ⟨p, 0, none⟩), .string n] w (StPost base p ρ (rmR d n).2 w (.int .i64 (rmR d n).1)) := by
  unfold rmR
  cases hs : stopB d with
  | true => exact remove_down w base p M ρ d n h hok hs
  | false =>
    rw [if_neg (by simp)]
    cases hg : (get d.now (nm n)).isSome with
    | false => exact remove_none w base p M ρ d n h hok hs hn hg
    | true => exact remove_any w base p M ρ d n h hok hM hs hn hg

theorem psync_any (h : Dk w base p ρ d) (hok : DOk M d) (hM : M ≤ 1000000) :
    Calls Tryz.prog 18 #[.pointer (some ⟨p, 0, none⟩)] w (StPost base p ρ (syR d).2 w (.int .i64 (syR d).1)) := by
  unfold syR
  cases hs : stopB d with
  | true => exact sync_down w base p M ρ d h hok hs
  | false => exact sync_any w base p M ρ d h hok hM hs

theorem appR_ok0 (hok : DOk M d) (n : ByteArray) (bs : List UInt8) : DOk (M + 1) (appR d n bs).2 := by
  have h0 : DOk (M + 1) (stopD d) := (stop_ok hok).mono (by omega)
  have hr := hok.room1
  unfold appR
  cases hs : stopB d with
  | true => exact h0
  | false =>
    cases hnb : nameB n with
    | false => exact h0
    | true =>
      rw [if_neg (by simp), if_neg (by simp)]
      split
      · exact h0
      · split
        · exact h0
        · exact append_ok hok hnb (by omega)
theorem trR_ok0 (hok : DOk M d) (hM : M ≤ 1000) (n : ByteArray) (size : Int) (hn : n.size ≤ maxLen) : DOk (M + 1) (trR d n size).2 := by
  have h0 : DOk (M + 1) (stopD d) := (stop_ok hok).mono (by omega)
  have hu : (old d.now (nm n)).length ≤ 10000000000 := by
    have q2 := hok.small
    have q4 := used_all hok.rising d.cs
    have h9 : (old d.now (nm n)).length ≤ used d.now := get_len (rising_all hok.rising d.cs) (nm n)
    have h8 : used d.now = used (all d.syn d.cs) := rfl
    omega
  unfold trR
  split
  · exact h0
  · split
    · exact h0
    · split
      · exact h0
      · split
        · exact h0
        · exact push_ok hok (truncC n size.toNat) ⟨by show (1 : Nat) < 4; omega, fun _ => by show size.toNat ≤ (old d.now (nm n)).length; omega⟩ ⟨hn, by show (0 : Nat) ≤ _; exact Nat.zero_le _⟩ (by show size.toNat ≤ _; omega) (fun _ => rfl) (by show (0 : Nat) ≤ _; omega)
theorem nameB_small {s : ByteArray} (h : nameB s = true) : s.size ≤ maxLen := by
  simp [nameB] at h
  unfold maxLen; omega
theorem reR_ok0 (hok : DOk M d) (n to : ByteArray) (hn : n.size ≤ maxLen) : DOk (M + 1) (reR d n to).2 := by
  have h0 : DOk (M + 1) (stopD d) := (stop_ok hok).mono (by omega)
  unfold reR
  split
  · exact h0
  · split
    · exact h0
    · rename_i h
      split
      · exact h0
      · exact push_ok hok (renC n to) ⟨by show (2 : Nat) < 4; omega, fun e => by cases e⟩ ⟨hn, nameB_small (show nameB to = true by simpa using h)⟩ (by show (0 : Nat) ≤ _; omega) (fun _ => rfl) (by show (0 : Nat) ≤ _; omega)
theorem rmR_ok0 (hok : DOk M d) (n : ByteArray) (hn : n.size ≤ maxLen) : DOk (M + 1) (rmR d n).2 := by
  have h0 : DOk (M + 1) (stopD d) := (stop_ok hok).mono (by omega)
  unfold rmR
  split
  · exact h0
  · split
    · exact h0
    · exact remove_ok hok hn
theorem syR_ok0 (hok : DOk M d) : DOk (M + 1) (syR d).2 := by
  unfold syR
  split
  · exact (stop_ok hok).mono (by omega)
  · exact (sync_ok hok).mono (by omega)
theorem crR_ok0 (hok : DOk M d) (hM : M ≤ 1000000) (keep torn : Int) : DOk (M + 1) (crashD d keep torn) := (crash_ok hok hM keep torn).mono (by omega)
theorem fuR_ok0 (hok : DOk M d) (n : Int) (h1 : n ≤ 9223372036854775807) : DOk (M + 1) { d with fuse := max n (-1) } :=
  ⟨hok.rising, Nat.le_trans hok.few (by omega), Nat.le_trans hok.small (Nat.mul_le_mul_right _ (by omega)), hok.fit, hok.names, hok.sizes, hok.room0, hok.room1, by show -1 ≤ max n (-1); omega, by show max n (-1) ≤ _; omega, hok.plain⟩
theorem roR_ok0 (hok : DOk M d) (n : Int) (h0 : roomB n = true) : DOk (M + 1) { d with room := n } := by
  simp [roomB] at h0
  exact ⟨hok.rising, Nat.le_trans hok.few (by omega), Nat.le_trans hok.small (Nat.mul_le_mul_right _ (by omega)), hok.fit, hok.names, hok.sizes, h0.1, h0.2, hok.fuse0, hok.fuse1, hok.plain⟩
end

/-- no name is longer than sixteen bytes -/
def short1 (c : Change) : Prop := (c.kind = 0 ∨ c.kind = 1 → c.name.size ≤ 16) ∧ (c.kind = 2 → c.to.size ≤ 16)
def NmOk (d : DSt) : Prop := (∀ e ∈ d.syn, e.1.length ≤ 16) ∧ ∀ c ∈ d.cs, short1 c
theorem nm_len (s : ByteArray) : (nm s).length = s.size := rfl
theorem doit_short {es : Files} {c : Change} (h : ∀ e ∈ es, e.1.length ≤ 16) (hc : short1 c) : ∀ e ∈ doit es c, e.1.length ≤ 16 := by
  intro e he
  have hp : ∀ (es' : Files) (n : ByteArray) (bs : List UInt8), (∀ e ∈ es', e.1.length ≤ 16) → n.size ≤ 16 → e ∈ put es' (nm n) bs → e.1.length ≤ 16 := fun es' n bs h1 h2 he => by
    rcases mem_put.1 he with rfl | ⟨h, -⟩
    · rw [nm_len]; exact h2
    · exact h1 _ h
  unfold doit at he
  split at he
  · rename_i h0; exact hp _ _ _ h (hc.1 (.inl h0)) he
  · rename_i h0; exact hp _ _ _ h (hc.1 (.inr h0)) he
  · rename_i h0; exact hp _ _ _ (fun e he => h e (mem_drop.1 he).1) (hc.2 h0) he
  · exact h e (mem_drop.1 he).1
theorem all_short {es : Files} (h : ∀ e ∈ es, e.1.length ≤ 16) (cs : List Change) (hc : ∀ c ∈ cs, short1 c) : ∀ e ∈ all es cs, e.1.length ≤ 16 := by
  induction cs generalizing es with
  | nil => exact h
  | cons c cs ih => rw [all_cons]; exact ih (doit_short h (hc c (by simp))) fun x hx => hc x (by simp [hx])
section
variable {d : DSt} {M : Nat}
theorem NmOk.now (h : NmOk d) : ∀ e ∈ d.now, e.1.length ≤ 16 := all_short h.1 d.cs h.2
theorem NmOk.stop (h : NmOk d) : NmOk (stopD d) := by
  obtain ⟨e1, e2, e3⟩ := stop_same d
  unfold NmOk
  rw [e2, e3]
  exact h
theorem NmOk.push (h : NmOk d) {c : Change} (hc : short1 c) : NmOk (pushD d c) := by
  obtain ⟨e1, e2, e3⟩ := stop_same d
  refine ⟨by unfold pushD; simp only [e2]; exact h.1, fun x hx => ?_⟩
  unfold pushD at hx
  simp only [List.mem_append, List.mem_singleton] at hx
  rcases hx with hx | rfl
  · exact h.2 x hx
  · exact hc
theorem NmOk.has (h : NmOk d) {n : ByteArray} (hg : (get d.now (nm n)).isSome = true) : n.size ≤ 16 := by
  unfold fs.get at hg
  rw [Option.isSome_map, List.find?_isSome] at hg
  obtain ⟨e, he, hn⟩ := hg
  have := h.now e he
  have hn2 : e.1 = nm n := by simpa using hn
  rw [hn2, nm_len] at this
  exact this
theorem NmOk.crash (h : NmOk d) (keep torn : Int) : NmOk (crashD d keep torn) := by
  refine ⟨fun e he => ?_, fun c hc => by cases hc⟩
  have h1 := all_short h.1 (d.cs.take (crashK d keep)) fun c hc => h.2 c (List.mem_of_mem_take hc)
  have he2 : e ∈ crashF d keep torn := he
  unfold crashF at he2
  split at he2
  · rename_i c hc
    have hcm := h.2 c (List.mem_of_getElem? hc)
    unfold tearF at he2
    split at he2
    · exact h1 e he2
    · exact doit_short h1 (c := { c with bytes := c.bytes.take (tornN c torn) }) hcm e he2
  · exact h1 e he2
theorem nameB_16 {s : ByteArray} (h : nameB s = true) : s.size ≤ 16 := by
  simp [nameB] at h
  exact h.2

/-- in bounds, and no name too long -/
def OkN (M : Nat) (d : DSt) : Prop := DOk M d ∧ NmOk d
theorem appR_ok (hok : OkN M d) (n : ByteArray) (bs : List UInt8) : OkN (M + 1) (appR d n bs).2 := by
  refine ⟨appR_ok0 hok.1 n bs, ?_⟩
  have h0 := hok.2.stop
  unfold appR
  cases hs : stopB d with
  | true => exact h0
  | false =>
    cases hnb : nameB n with
    | false => exact h0
    | true =>
      rw [if_neg (by simp), if_neg (by simp)]
      split
      · exact h0
      · split
        · exact h0
        · exact hok.2.push ⟨fun _ => nameB_16 hnb, fun e => by cases e⟩
theorem trR_ok (hok : OkN M d) (hM : M ≤ 1000) (n : ByteArray) (size : Int) (hn : n.size ≤ maxLen) : OkN (M + 1) (trR d n size).2 := by
  refine ⟨trR_ok0 hok.1 hM n size hn, ?_⟩
  have h0 := hok.2.stop
  unfold trR
  split
  · exact h0
  · split
    · exact h0
    · rename_i hg
      split
      · exact h0
      · split
        · exact h0
        · exact hok.2.push ⟨fun _ => hok.2.has (by cases h9 : (fs.get d.now (nm n)).isSome with
          | true => exact h9
          | false => exact absurd h9 hg), fun e => by cases e⟩
theorem reR_ok (hok : OkN M d) (n to : ByteArray) (hn : n.size ≤ maxLen) : OkN (M + 1) (reR d n to).2 := by
  refine ⟨reR_ok0 hok.1 n to hn, ?_⟩
  have h0 := hok.2.stop
  unfold reR
  split
  · exact h0
  · split
    · exact h0
    · rename_i h
      split
      · exact h0
      · exact hok.2.push ⟨(fun e => by rcases e with e | e <;> cases e), fun _ => nameB_16 (show nameB to = true by simpa using h)⟩
theorem rmR_ok (hok : OkN M d) (n : ByteArray) (hn : n.size ≤ maxLen) : OkN (M + 1) (rmR d n).2 := by
  refine ⟨rmR_ok0 hok.1 n hn, ?_⟩
  have h0 := hok.2.stop
  unfold rmR
  split
  · exact h0
  · split
    · exact h0
    · exact hok.2.push ⟨(fun e => by rcases e with e | e <;> cases e), fun e => by cases e⟩
theorem syR_ok (hok : OkN M d) : OkN (M + 1) (syR d).2 := by
  refine ⟨syR_ok0 hok.1, ?_⟩
  unfold syR
  split
  · exact hok.2.stop
  · exact ⟨hok.2.now, fun c hc => by cases hc⟩
theorem crR_ok (hok : OkN M d) (hM : M ≤ 1000000) (keep torn : Int) : OkN (M + 1) (crashD d keep torn) := ⟨crR_ok0 hok.1 hM keep torn, hok.2.crash keep torn⟩
theorem fuR_ok (hok : OkN M d) (n : Int) (h1 : n ≤ 9223372036854775807) : OkN (M + 1) { d with fuse := max n (-1) } := ⟨fuR_ok0 hok.1 n h1, hok.2.1, hok.2.2⟩
theorem roR_ok (hok : OkN M d) (n : Int) (h0 : roomB n = true) : OkN (M + 1) { d with room := n } := ⟨roR_ok0 hok.1 n h0, hok.2.1, hok.2.2⟩
end

/-- both, the same -/
structure Both (w : World) (base p : Nat) (ρ : Nat → Role) (d : DSt) (r M : Nat) : Prop where
  dk : Dk w base p ρ d
  ok : OkN M d
  rs : ∃ x vs vn vw ls ln ps, RS w ρ r x vs vn vw ls ln ps ∧ RD d x ls ln ps

theorem Both.no {w w' : World} {base p : Nat} {ρ : Nat → Role} {d : DSt} {r M : Nat} (h : Both w base p ρ d r M) (hk : Kp No w w') : Both w' base p ρ d r M := by
  obtain ⟨h1, h2, x, vs, vn, vw, ls, ln, ps, h3, h4⟩ := h
  exact ⟨h1.no hk, h2, x, vs, vn, vw, ls, ln, ps, h3.no hk, h4⟩
theorem Both.mono {w : World} {base p : Nat} {ρ : Nat → Role} {d : DSt} {r M N : Nat} (h : Both w base p ρ d r M) (hm : M ≤ N) : Both w base p ρ d r N := ⟨h.dk, ⟨h.ok.1.mono hm, h.ok.2⟩, h.rs⟩
theorem Both.lt {w : World} {base p : Nat} {ρ : Nat → Role} {d : DSt} {r M : Nat} (h : Both w base p ρ d r M) : r < w.heap.size := by
  obtain ⟨h1, h2, x, vs, vn, vw, ls, ln, ps, h3, h4⟩ := h
  exact h3.at_.lt

/-- behind the project's call: the reference stands as it stood -/
def Mid (w : World) (base p : Nat) (ρ : Nat → Role) (d d' : DSt) (r : Nat) (w1 : World) : Prop :=
  ∃ ρ1, Dk w1 base p ρ1 d' ∧ Kp (fun k => base ≤ k ∧ k ≠ r) w w1 ∧ ∃ x vs vn vw ls ln ps, RS w1 ρ1 r x vs vn vw ls ln ps ∧ RD d x ls ln ps

/-- the project's call, beside the reference -/
theorem Both.left {w w1 : World} {base p : Nat} {ρ : Nat → Role} {d d' : DSt} {r M : Nat} {res : Value} {e : Ending} (h : Both w base p ρ d r M) (hp : StPost base p ρ d' w res e w1) : e = .returned res ∧ Mid w base p ρ d d' r w1 := by
  obtain ⟨h1, h2, x, vs, vn, vw, ls, ln, ps, h3, h4⟩ := h
  obtain ⟨he, ρ1, hd1, hfr⟩ := hp
  refine ⟨he, ρ1, hd1, hfr.1.mono fun k _ hk => ⟨?_, fun e => hk (e ▸ h3.r0)⟩, x, vs, vn, vw, ls, ln, ps, h3.fr hfr, h4⟩
  obtain ⟨s, n, vp, pp, h1⟩ := h1
  exact h1.low k hk

/-- the reference's call behind it -/
theorem Mid.call {w w1 : World} {base p : Nat} {ρ : Nat → Role} {d d' : DSt} {r M : Nat} {res : Value} {f : FuncId} {args : Array Value} (h : Mid w base p ρ d d' r w1) (hbr : base ≤ r) (hok : OkN M d')
    (hc : ∀ (ρ1 : Nat → Role) x vs vn vw ls ln ps, RS w1 ρ1 r x vs vn vw ls ln ps → RD d x ls ln ps → (∀ k, w1.heap.size ≤ k → ρ1 k = .other) → (∀ k, k < base → ρ1 k = .other) → Calls Tryz.prog f args w1 (RPost w1 ρ1 r d' res)) :
    Calls Tryz.prog f args w1 fun e w2 => e = .returned res ∧ Kp (fun k => base ≤ k) w w2 ∧ Kp (fun k => k = r) w1 w2 ∧ Hid (∃ ρ2, Both w2 base p ρ2 d' r M) := by
  obtain ⟨ρ1, hd1, hk1, x, vs, vn, vw, ls, ln, ps, h3, h4⟩ := h
  have hlow : ∀ k, k < base → ρ1 k = .other := fun k hk => by
    obtain ⟨s, n, vp, pp, hd⟩ := hd1
    exact Classical.byContradiction fun e => by have := hd.low k e; omega
  refine (hc ρ1 x vs vn vw ls ln ps h3 h4 (fun k hk => hd1.hi hk) hlow).mono ?_
  rintro e w2 ⟨he, hk2, x2, vs2, vn2, vw2, ls2, ln2, ps2, h5, h6⟩
  exact ⟨he, (hk1.mono fun k _ hk => hk.1).trans' (hk2.mono fun k _ hk => by rw [hk]; exact hbr), hk2, Hid_mk ⟨ρ1, Dk.beside hd1 hk2 h3.r0, hok, x2, vs2, vn2, vw2, ls2, ln2, ps2, h5, h6⟩⟩

/-- the project's call -/
theorem Both.call {w : World} {base p : Nat} {ρ : Nat → Role} {d d' : DSt} {r M : Nat} {res : Value} {f : FuncId} {args : Array Value} (h : Both w base p ρ d r M) (hc : Calls Tryz.prog f args w (StPost base p ρ d' w res)) :
    Calls Tryz.prog f args w fun e w1 => e = .returned res ∧ Kp (fun k => base ≤ k ∧ k ≠ r ∧ ρ k ≠ .other) w w1 ∧ Hid (Mid w base p ρ d d' r w1) := by
  refine hc.mono ?_
  intro e w1 hp
  have hm := h.left hp
  obtain ⟨he, ρ1, hd1, hfr⟩ := hp
  obtain ⟨h1, h2, x, vs, vn, vw, ls, ln, ps, h3, h4⟩ := h
  refine ⟨he, hfr.1.mono fun k _ hk => ⟨?_, fun e => hk (e ▸ h3.r0), hk⟩, Hid_mk hm.2⟩
  obtain ⟨s, n, vp, pp, h1⟩ := h1
  exact h1.low k hk

theorem reffu_any (w : World) (ρ : Nat → Role) (r : Nat) (d : DSt) (x : RSt) (vs vn vw : Value) (ls ln : List Fv) (ps : List (Change × Value)) (h : RS w ρ r x vs vn vw ls ln ps) (hd : RD d x ls ln ps) (n : Int) (h1 : n ≤ 9223372036854775807) :
    Calls Tryz.prog 22 #[.pointer (some ⟨r, 0, none⟩), .int .i64 n] w (RPost w ρ r { d with fuse := max n (-1) } (.tuple #[])) := by
  refine (reffuse_any w r x vs vn vw n h.at_).mono ?_
  rintro e w' ⟨he, ha, hk⟩
  refine ⟨he, hk, _, _, _, _, _, _, _, h.own hk ha, hd.room, hd.down, ?_, ?_, ?_, hd.syn, hd.now, hd.cs⟩
  · show max n (-1) = if decide (0 ≤ n) = true then max 0 n else -1
    by_cases h0 : 0 ≤ n
    · simp [h0]; omega
    · simp [h0]; omega
  · show 0 ≤ max 0 n; omega
  · show max 0 n ≤ _; omega

theorem pfuse_any {w : World} {base p : Nat} {ρ : Nat → Role} {d : DSt} (h : Dk w base p ρ d) (n : Int) : Calls Tryz.prog 20 #[.pointer (some ⟨p, 0, none⟩), .int .i64 n] w (StPost base p ρ { d with fuse := max n (-1) } w (.tuple #[])) := by
  refine (fuse_any w base p ρ d n h).mono ?_
  rintro e w' ⟨he, hd, hf⟩
  exact ⟨he, ρ, hd, hf⟩

theorem proom_any {w : World} {base p : Nat} {ρ : Nat → Role} {d : DSt} (h : Dk w base p ρ d) (n : Int) (hn : roomB n = true) : Calls Tryz.prog 24 #[.pointer (some ⟨p, 0, none⟩), .int .i64 n] w (StPost base p ρ { d with room := n } w (.int .i64 0)) := by
  refine (set_room_any w base p ρ d n h hn).mono ?_
  rintro e w' ⟨he, hd, hf⟩
  exact ⟨he, ρ, hd, hf⟩

theorem RAt.set_space {w : World} {r : Nat} {x : RSt} {vs vn vw : Value} (h : RAt w r x vs vn vw) (n : Int) : RAt (w.setCell ⟨r, 0, none⟩ (.int .i64 n)) r { x with space := n } vs vn vw :=
  ⟨World.cell?_setCell_same w _ _ h.c0, other_cell h.c1 (by omega), other_cell h.c2 (by omega), other_cell h.c3 (by omega), other_cell h.c4 (by omega), other_cell h.c5 (by omega), other_cell h.c6 (by omega), dsk.warm_set h.warm, by simpa using h.lt⟩

/-- the room is laid in the reference -/
theorem Mid.room {w w1 : World} {base p : Nat} {ρ : Nat → Role} {d : DSt} {r M : Nat} {n : Int} (h : Mid w base p ρ d { d with room := n } r w1) (hbr : base ≤ r) (hok : OkN M { d with room := n }) :
    (∃ u, w1.cell? ⟨r, 0, none⟩ = some u) ∧ w1.frozen? ⟨r, 0, none⟩ = false ∧ Kp (fun k => base ≤ k) w (w1.setCell ⟨r, 0, none⟩ (.int .i64 n)) ∧ Hid (∃ ρ2, Both (w1.setCell ⟨r, 0, none⟩ (.int .i64 n)) base p ρ2 { d with room := n } r M) := by
  obtain ⟨ρ1, hd1, hk1, x, vs, vn, vw, ls, ln, ps, h3, h4⟩ := h
  refine ⟨⟨_, h3.at_.c0⟩, h3.at_.warm 0, (hk1.mono fun k _ hk => hk.1).trans' ((kp_p w1 r 0 _).mono fun k _ hk => by rw [hk]; exact hbr), Hid_mk ⟨ρ1, Dk.beside hd1 (kp_p w1 r 0 _) h3.r0, hok, _, _, _, _, _, _, _, h3.own (kp_p w1 r 0 _) (RAt.set_space h3.at_ n), rfl, h4.down, h4.fuse, h4.fuse0, h4.fuse1, h4.syn, h4.now, h4.cs⟩⟩

theorem Both.read {w : World} {base p : Nat} {ρ : Nat → Role} {d : DSt} {r M : Nat} (h : Both w base p ρ d r M) (hM : M ≤ 1000) (n : ByteArray) (hn : n.size ≤ maxLen) :
    Calls Tryz.prog 31 #[.pointer (some ⟨r, 0, none⟩), .string n] w fun e w' => ∃ v bs, e = .returned (.tuple #[v, .bool (!d.down && (get d.now (nm n)).isSome)]) ∧ Bs w v bs ∧ bs = (if d.down = true then [] else old d.now (nm n)) ∧ bs.length ≤ 10000000000 ∧ w = w' := by
  obtain ⟨h1, h2, x, vs, vn, vw, ls, ln, ps, h3, h4⟩ := h
  obtain ⟨b1, b2, b3, -⟩ := h4.bounds h2.1 hM
  refine (refread_any w r x vs vn vw ln n h3.at_ h3.fn b1 (by omega) hn).mono ?_
  rintro e w' ⟨v, he, hb, hw⟩
  rw [← h4.down, h4.now] at he hb
  refine ⟨v, _, he, hb, rfl, ?_, hw⟩
  split
  · exact Nat.zero_le _
  · have h9 : (old d.now (nm n)).length ≤ used d.now := get_len (rising_all h2.1.rising d.cs) (nm n)
    rw [← h4.now] at h9 ⊢
    omega

/-- the law's own bytes lie apart from all of the reference -/
def up1 (ρ : Nat → Role) (g : Nat) : Nat → Role := fun k => if k = g then .byt else ρ k
theorem up1_ne {ρ : Nat → Role} {g k : Nat} (h : k ≠ g) : up1 ρ g k = ρ k := if_neg h
theorem up1_at (ρ : Nat → Role) (g : Nat) : up1 ρ g g = .byt := if_pos rfl

def MidA (base p : Nat) (d d' : DSt) (r g : Nat) (w1 : World) : Prop :=
  ∃ ρ1, Dk w1 base p ρ1 d' ∧ ρ1 g = .other ∧ g < w1.heap.size ∧ ∃ x vs vn vw ls ln ps, RS w1 (up1 ρ1 g) r x vs vn vw ls ln ps ∧ RD d x ls ln ps

/-- the law's own bytes are made -/
theorem Both.made {w w1 : World} {base p : Nat} {ρ : Nat → Role} {d : DSt} {r M g : Nat} (h : Both w base p ρ d r M) (hk : Kp No w w1) (hg : w.heap.size ≤ g) (hg2 : g < w1.heap.size) : Dk w1 base p ρ d ∧ ρ g = .other ∧ ∃ x vs vn vw ls ln ps, RS w1 (up1 ρ g) r x vs vn vw ls ln ps ∧ RD d x ls ln ps := by
  obtain ⟨h1, h2, x, vs, vn, vw, ls, ln, ps, h3, h4⟩ := h
  exact ⟨h1.no hk, h1.hi hg, x, vs, vn, vw, ls, ln, ps, h3.kept hk (fun _ _ s => s.elim) (fun k hk e => by rw [up1_ne (by omega)]; exact e), h4⟩

theorem made_call {w1 : World} {base p : Nat} {ρ : Nat → Role} {d d' : DSt} {r g : Nat} {res : Value} {f : FuncId} {args : Array Value} (h : Dk w1 base p ρ d ∧ ρ g = .other ∧ ∃ x vs vn vw ls ln ps, RS w1 (up1 ρ g) r x vs vn vw ls ln ps ∧ RD d x ls ln ps) (hg : g < w1.heap.size) (hc : Calls Tryz.prog f args w1 (StPost base p ρ d' w1 res)) :
    Calls Tryz.prog f args w1 fun e w2 => e = .returned res ∧ Kp (fun k => base ≤ k ∧ k ≠ r ∧ ρ k ≠ .other) w1 w2 ∧ Hid (MidA base p d d' r g w2) := by
  obtain ⟨h1, h2, x, vs, vn, vw, ls, ln, ps, h3, h4⟩ := h
  refine hc.mono ?_
  rintro e w2 ⟨he, ρ1, hd1, hfr⟩
  have hz := hfr.1.size
  have hrr : ρ r = .other := by
    have := h3.r0
    unfold up1 at this
    split at this
    · cases this
    · exact this
  refine ⟨he, hfr.1.mono fun k _ hk => ⟨?_, fun e => hk (e ▸ hrr), hk⟩, Hid_mk ⟨ρ1, hd1, hfr.2 g hg h2, by omega, x, vs, vn, vw, ls, ln, ps, h3.kept hfr.1 (fun k _ hk => ?_) (fun k hk e => ?_), h4⟩⟩
  · obtain ⟨s, n, vp, pp, h1⟩ := h1
    exact h1.low k hk
  · unfold up1
    split
    · intro e; cases e
    · exact hk
  · unfold up1 at e ⊢
    split at e
    · cases e
    · rename_i hne
      rw [if_neg hne]
      exact hfr.2 k hk e

theorem MidA.call {w1 : World} {base p : Nat} {d d' : DSt} {r g : Nat} {res : Value} {f : FuncId} {args : Array Value} (h : MidA base p d d' r g w1)
    (hc : ∀ (ρ1 : Nat → Role) x vs vn vw ls ln ps, RS w1 ρ1 r x vs vn vw ls ln ps → RD d x ls ln ps → (∀ k, w1.heap.size ≤ k → ρ1 k = .other) → (∀ k, k < base → k ≠ g → ρ1 k = .other) → Calls Tryz.prog f args w1 (RPost w1 ρ1 r d' res)) :
    Calls Tryz.prog f args w1 fun e w2 => e = .returned res ∧ Kp (fun k => k = r) w1 w2 ∧ Hid (MidA base p d' d' r g w2) := by
  obtain ⟨ρ1, hd1, hg, hgl, x, vs, vn, vw, ls, ln, ps, h3, h4⟩ := h
  refine (hc (up1 ρ1 g) x vs vn vw ls ln ps h3 h4 (fun k hk => by rw [up1_ne (by omega)]; exact hd1.hi hk) (fun k hk hne => ?_)).mono ?_
  · rw [up1_ne hne]
    obtain ⟨s, n, vp, pp, hd⟩ := hd1
    exact Classical.byContradiction fun e => by have := hd.low k e; omega
  · rintro e w2 ⟨he, hk2, x2, vs2, vn2, vw2, ls2, ln2, ps2, h5, h6⟩
    have hrr : ρ1 r = .other := by
      have := h3.r0
      unfold up1 at this
      split at this
      · cases this
      · exact this
    have hz := hk2.size
    exact ⟨he, hk2, Hid_mk ⟨ρ1, Dk.beside hd1 hk2 hrr, hg, by omega, x2, vs2, vn2, vw2, ls2, ln2, ps2, h5, h6⟩⟩

/-- the law's own bytes turn -/
theorem MidA.set {w1 w2 : World} {base p : Nat} {d d' : DSt} {r g : Nat} (h : MidA base p d d' r g w1) (hk : Kp (fun k => k = g) w1 w2) : MidA base p d d' r g w2 := by
  obtain ⟨ρ1, hd1, hg, hgl, x, vs, vn, vw, ls, ln, ps, h3, h4⟩ := h
  have hz := hk.size
  exact ⟨ρ1, Dk.beside hd1 hk hg, hg, by omega, x, vs, vn, vw, ls, ln, ps, h3.kept hk (fun k _ e => by rw [e, up1_at]; intro e; cases e) (fun _ _ e => e), h4⟩
theorem MidA.both {w1 : World} {base p : Nat} {d : DSt} {r g M : Nat} (h : MidA base p d d r g w1) (hok : OkN M d) : ∃ ρ, Both w1 base p ρ d r M := by
  obtain ⟨ρ1, hd1, hg, hgl, x, vs, vn, vw, ls, ln, ps, h3, h4⟩ := h
  refine ⟨ρ1, hd1, hok, x, vs, vn, vw, ls, ln, ps, h3.kept (Kp.refl No w1) (fun _ _ s => s.elim) (fun k hk e => ?_), h4⟩
  unfold up1 at e
  split at e
  · cases e
  · exact e

end Go.Proofs.YtmehneicdklfeaaGreat.pair
