/- The reference's Disk: Crash, its walk. -/
import Derived.Test.YtomckoeobkfklaaDoorR2Crash
namespace Go.Proofs.YtomckoeobkfklaaDoor.r2
open Go.RowKit Go.Maps Go.Proofs.YtomckoeobkfklaaDoor.sum Go.Proofs.YtomckoeobkfklaaDoor.kept Go.Proofs.YtomckoeobkfklaaDoor.app Go.Proofs.YtomckoeobkfklaaDoor.writer Go.Proofs.YtomckoeobkfklaaDoor.clone Go.Proofs.YtomckoeobkfklaaDoor.fs Go.Proofs.YtomckoeobkfklaaDoor.fsDo Go.Proofs.YtomckoeobkfklaaDoor.unseal Go.Proofs.YtomckoeobkfklaaDoor.dsk
set_option linter.unusedVariables false

set_option maxRecDepth 100000 in
set_option maxHeartbeats 4000000 in
theorem refcrash_any (w : World) (ρ : Nat → Role) (r : Nat) (d : DSt) (x : RSt) (vs vn vw : Value) (ls ln : List Fv) (ps : List (Change × Value)) (M : Nat) (h : RS w ρ r x vs vn vw ls ln ps) (hd : RD d x ls ln ps) (hok : DOk M d) (hM : M ≤ 1000) (hi : ∀ k, w.heap.size ≤ k → ρ k = .other)
    (keep torn : Int) : Calls Tryd.prog 22 #[.pointer (some ⟨r, 0, none⟩), .int .i64 keep, .int .i64 torn] w (RPost w ρ r (crashD d keep torn) (.int .i64 (crashK d keep : Int))) := by
  obtain ⟨b1, b2, b3, b4, b5, b6, b7, b8⟩ := hd.bounds hok hM
  obtain ⟨hk, hke⟩ := crashK_le d keep
  have hpl : ps.length = d.cs.length := by rw [← hd.cs, List.length_map]
  have hF : crashF d keep torn = match d.cs[crashK d keep]? with
    | some c => tearF (all d.syn (d.cs.take (crashK d keep))) c torn
    | none => all d.syn (d.cs.take (crashK d keep)) := rfl
  have HFk := Hid_mk hF
  clear hF
  obtain ⟨k, hkk⟩ : ∃ k, crashK d keep = k := ⟨_, rfl⟩
  rw [hkk] at hk hke HFk ⊢
  rw [← hpl] at hke hk
  have HI := Hid_mk (into_any keep ((ps.length : Int) + 1) (by omega) (by omega))
  rw [hke] at HI
  have c1 := h.at_.c1
  have c3 := h.at_.c3
  obtain ⟨asv, csv, rfl⟩ : ∃ a c, vs = .slice a ls.length c := by
    obtain ⟨a, c, e, -⟩ := h.fs.1.opened
    exact ⟨a, c, e⟩
  obtain ⟨aw, cw, rfl, hcw⟩ : ∃ a c, vw = .slice a ps.length c ∧ (ps ≠ [] → ∃ g, a = some ⟨g, 0, none⟩) := by
    rcases owns_any h.fw.1 with ⟨rfl, h0⟩ | ⟨g, cap, rfl, -⟩
    · exact ⟨none, 0, by rw [h0], fun hne => absurd (List.eq_nil_of_length_eq_zero h0) hne⟩
    · exact ⟨_, _, rfl, fun _ => ⟨g, rfl⟩⟩
  have HCw := Hid_mk hcw
  have HR := Hid_mk h
  have HD := Hid_mk hd
  have HOk := Hid_mk hok
  have HHi := Hid_mk hi
  have HPl := Hid_mk hpl
  have HKe := Hid_mk hkk
  have hrlt := h.at_.lt
  have hk0 : (0 : Int) ≤ (k : Int) := by omega
  clear b1 b5 h hd hok hi hcw hpl hkk hke
  go_enter Tryd.func22, Tryd.ntmps22
  go_wp2_with fail
  with_reducible refine (HI.out _).mono ?_
  rintro e w' ⟨rfl, rfl⟩
  go_wp2
  go_loopw [8, 9] (fun t i wr => CrRel w ρ r d k t i wr) (fun _ i _ => k - (intOf i).toNat)
  case atStart => exact ⟨0, ls, rfl, Nat.zero_le _, ⟨_, _, _, rfl⟩, HR.out.fs, HD.out.syn, Kp.refl _ _, HR.out.sa, HR.out.bs⟩
  case round =>
    obtain ⟨j, lj, rfl, hj, ⟨at_, nt, ct, rfl⟩, hfl, hfe, hkp, haw, hab⟩ := hrel
    have hRw := HR.out.no hkp
    have d3 := hRw.at_.c3
    have hsz := hkp.size
    have HFl := Hid_mk hfl
    have HFe := Hid_mk hfe
    have HK := Hid_mk hkp
    have HAw := Hid_mk haw
    have HAb := Hid_mk hab
    have HRw := Hid_mk hRw
    have tb := take_bounds HOk.out hM j
    have hll : lj.length ≤ 1000 := by rw [← files_len, hfe]; exact tb.2.1
    have hlu : used (files lj) ≤ 10000000000 := by rw [hfe]; exact tb.2.2
    have HRi : Hid (Rising (files lj)) := Hid_mk (by rw [hfe]; exact tb.1)
    have hj0 : (0 : Int) ≤ (j : Int) := by omega
    clear hfl hfe hkp haw hab hRw tb
    by_cases hlt : j < k
    · have hjk : (j : Int) < (k : Int) := by omega
      have hjp : j < ps.length := by omega
      have hjl : (j : Int) < (ps.length : Int) := by omega
      obtain ⟨g, rfl⟩ := HCw.out (by intro e; rw [e] at hjp; simp at hjp)
      obtain ⟨k0, k1, k2, k3, k4⟩ := op_cells HRw.out.fw.1 j hjp
      have hst := take_step HOk.out hM (j := j) (by rw [← HPl.out]; exact hjp)
      obtain ⟨q, hq⟩ : ∃ q, q = ps[j] := ⟨_, rfl⟩
      have hqc : q.1 = d.cs[j]'(by rw [← HPl.out]; exact hjp) := by
        have : (ps.map (·.1))[j]'(by simpa using hjp) = d.cs[j]'(by rw [← HPl.out]; exact hjp) := by simp only [HD.out.cs]
        rw [← this, List.getElem_map, hq]
      rw [← hqc] at hst
      rw [← hq] at k0 k1 k2 k3 k4
      have hqm : q ∈ ps := hq ▸ List.getElem_mem hjp
      have hqb := HRw.out.fw.2 q hqm
      have hnames := HOk.out.names q.1 (by rw [hqc]; exact List.getElem_mem _)
      obtain ⟨c, vb⟩ := q
      simp only at k0 k1 k2 k3 k4 hst hqb hnames
      obtain ⟨avb, cvb, rfl, -⟩ := id hqb
      have hdo := done_any wr (.slice at_ nt ct) (.slice avb c.bytes.length cvb) lj c HFl.out HRi.out (by omega) (by rw [HFe.out]; exact hst.1) hnames.1 hnames.2 hqb (by omega) (by have := hst.2.2; omega)
      unfold chg at hdo
      have HDo := Hid_mk hdo
      have HSt := Hid_mk hst.2.1
      have HLt := Hid_mk hlt
      clear hdo hst hqb hqm hq hqc hnames hjp hlt
      go_wp2_with fail
      with_reducible refine HDo.out.mono ?_
      rintro e w1 ⟨v1, l1, rfl, hf1, he1, hk1, hnw⟩
      have haw := newly_aw (r := r) hnw hf1 (fun i hi2 => HHi.out i (by omega)) (by omega) hk1.size (fun q hq hne => (HAb.out q hq hne).up hk1.size fun _ _ e => e)
      have HN : Hid (∀ i, i = (.int .i64 ((j : Int) + 1) : Value) → CrRel w ρ r d k v1 i w1) := Hid_mk fun i hi2 => ⟨j + 1, l1, by rw [hi2]; push_cast; rfl, HLt.out, (by obtain ⟨a, c, e, -⟩ := hf1.1.opened; exact ⟨_, _, _, e⟩), hf1, by rw [he1, HFe.out]; exact HSt.out.symm, HK.out.trans' hk1, haw.1, haw.2⟩
      obtain ⟨a1, c1', e1, -⟩ := hf1.1.opened
      subst e1
      clear hf1 he1 hk1 hnw haw
      go_wp2
      go_roundw
      case rel => exact HN.out _ rfl
      case measure => have := HLt.out; simp only [intOf]; omega
    · have hjk : ¬ (j : Int) < (k : Int) := by omega
      obtain rfl : j = k := by omega
      clear hlt
      have fin : ∀ (wT : World) (vT : Value) (lT : List Fv), Kp No wr wT → Fl wT vT lT → Aw wT ρ r vT → (∀ q ∈ lT, q.2.2 ≠ [] → Aw wT ρ r q.2.1) → files lT = crashF d keep torn → RPost w ρ r (crashD d keep torn) (.int .i64 (j : Int)) (.returned (.int .i64 (j : Int))) (finW wT r vT)   := fun wT vT lT hk hf ha hb he => by
        have hr := HRw.out.no hk
        have := crash_fin hr HD.out hf ha hb he
        exact ⟨rfl, ((HK.out.trans' hk).to).trans' this.1, this.2⟩
      have HFin := Hid_mk fin
      clear fin
      have HFc := HRw.out.at_.fin (.slice at_ nt ct)
      obtain ⟨⟨u1, g1⟩, f1, ⟨u2, g2⟩, f2, ⟨u3, g3⟩, f3, ⟨u4, g4⟩, f4, ⟨u6, g6⟩, f6⟩ := HFc
      by_cases hend : j < ps.length
      · have hjl : (j : Int) < (ps.length : Int) := by omega
        obtain ⟨g, rfl⟩ := HCw.out (by intro e; rw [e] at hend; simp at hend)
        obtain ⟨k0, k1, k2, k3, k4⟩ := op_cells HRw.out.fw.1 j hend
        have hst := take_step HOk.out hM (j := j) (by rw [← HPl.out]; exact hend)
        obtain ⟨q, hq⟩ : ∃ q, q = ps[j] := ⟨_, rfl⟩
        have hqc : d.cs[j]? = some q.1 := by
          rw [← HD.out.cs, List.getElem?_map, List.getElem?_eq_getElem hend, ← hq]
          rfl
        have hqc2 : q.1 = d.cs[j]'(by rw [← HPl.out]; exact hend) := by
          have := List.getElem?_eq_getElem (l := d.cs) (i := j) (by rw [← HPl.out]; exact hend)
          rw [hqc] at this
          exact Option.some.inj this
        rw [← hqc2] at hst
        rw [← hq] at k0 k1 k2 k3 k4
        have hqm : q ∈ ps := hq ▸ List.getElem_mem hend
        have hqb := HRw.out.fw.2 q hqm
        have hqa := HRw.out.bw q hqm
        have hnames := HOk.out.names q.1 (by rw [hqc2]; exact List.getElem_mem _)
        have hplain := HOk.out.plain q.1 (by rw [hqc2]; exact List.getElem_mem _)
        have hcf := HFk.out
        rw [hqc] at hcf
        obtain ⟨c, vb⟩ := q
        simp only at k0 k1 k2 k3 k4 hst hqb hqa hnames hplain hcf
        rw [← HFe.out] at hcf
        obtain ⟨avb, cvb, rfl, -⟩ := id hqb
        have HQb := Hid_mk hqb
        have HQa := Hid_mk hqa
        have HNm := Hid_mk hnames
        have HPn := Hid_mk hplain
        have HCf := Hid_mk hcf
        have HSt := Hid_mk hst
        clear hst hqb hqa hnames hplain hcf hqm hq hqc hqc2 hend
        by_cases hkind : c.kind = 0
        · have hk00 : (c.kind : Int) = 0 := by omega
          by_cases hbe : c.bytes.length = 0
          · have HP := Hid_mk (HFin.out _ _ _ (Kp.refl No wr) HFl.out HAw.out HAb.out (by rw [HCf.out]; unfold tearF tornN; rw [if_pos hbe]; rfl))
            have hbi : ((c.bytes.length : Nat) : Int) = 0 := by omega
            rw [hk00] at k0
            rw [hbe] at k3
            clear HQb HQa
            go_wp2
            go_ret
            exact HP.out
          · have hbi : (0 : Int) < ((c.bytes.length : Nat) : Int) := by omega
            have hlb := HSt.out.2.2
            obtain ⟨htl, hte⟩ := tornN_lt c torn hbe
            have HIt := Hid_mk (into_any torn (c.bytes.length : Int) (by omega) (by omega))
            rw [hte] at HIt
            obtain ⟨T, hT⟩ : ∃ T, tornN c torn = T := ⟨_, rfl⟩
            rw [hT] at htl HIt
            have HTe := Hid_mk hT
            rw [hk00] at k0
            have hT0 : (0 : Int) ≤ (T : Int) := by omega
            clear hte hT
            have hcap : (c.bytes.length : Int) ≤ (cvb : Int) := by
              obtain ⟨_, _, e, h1, -, -⟩ := HQb.out
              simp only [Value.slice.injEq] at e
              omega
            clear g1 f1 g2 f2 g3 f3 g4 f4 g6 f6
            go_wp2_with fail
            with_reducible refine (HIt.out _).mono ?_
            rintro e w' ⟨rfl, rfl⟩
            obtain ⟨W1, hW1⟩ : ∃ W1, wr.alloc (.cells #[.int .i64 0, .string c.name, .string c.to, .slice avb c.bytes.length cvb, .int .i64 (c.size : Int)] 71) = W1 := ⟨_, rfl⟩
            have kW1 : Kp No wr W1 := by rw [← hW1]; exact (Kp.refl No wr).alloc _
            have e0 : W1.cell? ⟨wr.heap.size, 0, none⟩ = some (.int .i64 0) := by rw [← hW1]; simp
            have e1 : W1.cell? ⟨wr.heap.size, 1, none⟩ = some (.string c.name) := by rw [← hW1]; simp
            have e2 : W1.cell? ⟨wr.heap.size, 2, none⟩ = some (.string c.to) := by rw [← hW1]; simp
            have e3 : W1.cell? ⟨wr.heap.size, 3, none⟩ = some (.slice avb c.bytes.length cvb) := by rw [← hW1]; simp
            have e4 : W1.cell? ⟨wr.heap.size, 4, none⟩ = some (.int .i64 (c.size : Int)) := by rw [← hW1]; simp
            have e3f : W1.frozen? ⟨wr.heap.size, 3, none⟩ = false := by rw [← hW1]; simp
            rw [hW1]
            clear hW1
            by_cases hTz : T = 0
            · have hTn : ¬ (0 : Int) < (T : Int) := by omega
              have HFc := ((HRw.out.no kW1).at_).fin (.slice at_ nt ct)
              obtain ⟨⟨u1, g1⟩, f1, ⟨u2, g2⟩, f2, ⟨u3, g3⟩, f3, ⟨u4, g4⟩, f4, ⟨u6, g6⟩, f6⟩ := HFc
              have HP := Hid_mk (HFin.out _ _ _ kW1 (HFl.out.no kW1) (HAw.out.up kW1.size fun _ _ e => e) (fun q hq hne => (HAb.out q hq hne).up kW1.size fun _ _ e => e) (by rw [HCf.out]; unfold tearF; rw [HTe.out, if_pos hTz]))
              clear HQb HQa hTz kW1
              go_wp2
              go_ret
              exact HP.out
            · have hTn : (0 : Int) < (T : Int) := by omega
              have hTc : (T : Int) ≤ (cvb : Int) := by omega
              have hkW : Kp No wr (W1.setCell ⟨wr.heap.size, 3, none⟩ (.slice avb T cvb)) := kW1.setCell (fun h => absurd h (Nat.lt_irrefl _)) _
              have e0' := other_cell (o' := 3) (u := .slice avb T cvb) e0 (by omega)
              have e1' := other_cell (o' := 3) (u := .slice avb T cvb) e1 (by omega)
              have e2' := other_cell (o' := 3) (u := .slice avb T cvb) e2 (by omega)
              have e3' := World.cell?_setCell_same W1 ⟨wr.heap.size, 3, none⟩ (.slice avb T cvb) e3
              have e4' := other_cell (o' := 3) (u := .slice avb T cvb) e4 (by omega)
              obtain ⟨W2, hW2⟩ : ∃ W2, W1.setCell ⟨wr.heap.size, 3, none⟩ (.slice avb T cvb) = W2 := ⟨_, rfl⟩
              rw [hW2] at hkW e0' e1' e2' e3' e4'
              have hbt := bs_take HQb.out T (by omega)
              have hbtl : (c.bytes.take T).length = T := by rw [List.length_take]; omega
              have hdo := done_any W2 (.slice at_ nt ct) (.slice avb T cvb) lj { c with bytes := c.bytes.take T } (HFl.out.no hkW) HRi.out (by omega) ⟨by show c.kind < 4; omega, fun e => by simp only at e; omega⟩ HNm.out.1 HNm.out.2 (bs_no hbt hkW) (by omega) (by show (c.bytes.take T).length ≤ _; omega)
              unfold chg at hdo
              simp only at hdo
              rw [hk00] at hdo
              have HDo := Hid_mk hdo
              have hcF : crashF d keep torn = doit (files lj) { c with bytes := c.bytes.take T } := by rw [HCf.out]; unfold tearF; rw [HTe.out, if_neg hTz]
              have HcF := Hid_mk hcF
              have HkW := Hid_mk hkW
              have hzW := hkW.size
              clear hdo hcF hbt hkW HQb HQa kW1
              go_wp2_with fail
              with_reducible refine HDo.out.mono ?_
              rintro e w3 ⟨v3, l3, rfl, hf3, he3, hk3, hnw⟩
              have haw3 := newly_aw (r := r) hnw hf3 (fun i hi2 => HHi.out i (by omega)) (by omega) hk3.size (fun q hq hne => (HAb.out q hq hne).up (HkW.out.trans' hk3).size fun _ _ e => e)
              have HP := Hid_mk (HFin.out _ _ _ (HkW.out.trans' hk3) hf3 haw3.1 haw3.2 (by rw [he3]; exact HcF.out.symm))
              have HFc := ((HRw.out.no (HkW.out.trans' hk3)).at_).fin v3
              obtain ⟨a3, c3', ev3, -⟩ := hf3.1.opened
              subst ev3
              obtain ⟨⟨u1, g1⟩, f1, ⟨u2, g2⟩, f2, ⟨u3, g3⟩, f3, ⟨u4, g4⟩, f4, ⟨u6, g6⟩, f6⟩ := HFc
              clear hf3 he3 hk3 hnw haw3 HDo e0 e1 e2 e3 e4 e0' e1' e2' e3' e4' e3f
              go_wp2
              go_ret
              exact HP.out

        · have hk00 : ((c.kind : Int) == 0) = false := by simp; omega
          have HP := Hid_mk (HFin.out _ _ _ (Kp.refl No wr) HFl.out HAw.out HAb.out (by rw [HCf.out]; unfold tearF tornN; rw [HPn.out hkind]; rfl))
          have hkd : ¬ (c.kind : Int) = 0 := by omega
          clear HQb HQa
          go_wp2
          go_ret
          exact HP.out
      · have hjl : ¬ (j : Int) < (ps.length : Int) := by omega
        have hnn : d.cs[j]? = none := List.getElem?_eq_none (by rw [← HPl.out]; omega)
        have hcf := HFk.out
        rw [hnn] at hcf
        simp only at hcf
        have HP := Hid_mk (HFin.out _ _ _ (Kp.refl No wr) HFl.out HAw.out HAb.out (by rw [HFe.out]; exact hcf.symm))
        clear hcf hnn hend
        go_wp2
        go_ret
        exact HP.out

end Go.Proofs.YtomckoeobkfklaaDoor.r2
