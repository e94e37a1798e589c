/- The reference's Splitter: its bytes. SplitPlays: the law's walk, both splitters side by side. A slice of bytes as an argument, where what comes in is of bounded bulk. -/
import Derived.Test.YtpfpnlhihnfahaaDoorSpLayM
import Derived.Test.YtpfpnlhihnfahaaDoorReaderTextM
import Derived.Test.YtpfpnlhihnfahaaDoorSplitTwoM
import Derived.Deep.RegionLaw
import Derived.Deep.CutRange
import Derived.Test.YtpfpnlhihnfahaaDoorBaseM
import Derived.Deep.Slices
import Derived.JoinedCond

namespace Go.Proofs.YtpfpnlhihnfahaaDoor.spl
open Go.RowKit Go.Maps Go.Proofs.YtpfpnlhihnfahaaDoor.sum Go.Proofs.YtpfpnlhihnfahaaDoor.kept Go.Proofs.YtpfpnlhihnfahaaDoor.app Go.Proofs.YtpfpnlhihnfahaaDoor.writer Go.Proofs.YtpfpnlhihnfahaaDoor.clone Go.Proofs.YtpfpnlhihnfahaaDoor.known Go.Proofs.YtpfpnlhihnfahaaDoor.unseal Go.Proofs.YtpfpnlhihnfahaaDoor.snp
set_option linter.unusedVariables false

set_option maxRecDepth 100000 in
set_option maxHeartbeats 16000000 in
theorem rlay_any (T : Nat → Prop) (w : World) (r m : Nat) (s : SpS) (h : Rs T w r m s) (hl : s.held.length + s.rest.length + 40 < 140737488355328) :
    Calls Tryd.prog 19 #[.pointer (some ⟨r, 0, none⟩)] w (NewBs w (laidS s)) := by
  have ht1 := textS_len s.held (by omega)
  have ht2 := textS_len s.rest (by omega)
  have H1 := Hid_mk fun (W : World) => (show Calls Tryd.prog 21 #[.string (tx s.held)] W (NewBs W (textS s.held)) by
    rw [← tx_text]; exact ref.lay_text W (tx s.held) (by rw [tx_size]; omega))
  have H2 := Hid_mk fun (W : World) => (show Calls Tryd.prog 21 #[.string (tx s.rest)] W (NewBs W (textS s.rest)) by
    rw [← tx_text s.rest]; exact ref.lay_text W (tx s.rest) (by rw [tx_size]; omega))
  obtain ⟨vh, vr, hh⟩ := h
  have HH := Hid_mk hh
  have c1 := hh.c1
  have c2 := hh.c2
  have c3 := hh.c3
  have c4 := hh.c4
  obtain ⟨ah, ch, rfl, -⟩ := id hh.held
  obtain ⟨ar, cr, rfl, -⟩ := id hh.rest
  clear hh
  cases ho : s.over <;> cases hwt : s.waits
  all_goals
    rw [ho] at c2
    rw [hwt] at c3
    go_enter Tryd.func19, Tryd.ntmps19
    go_wp2_with fail
    have hfl := flag_eq s ho hwt
    have hfu : (((flagN s).toUInt8).toNat : Int) = (flagN s : Int) := by rw [seal.u8_toNat]; have := flagN_le s; omega
    rw [hfl] at hfu
    simp only [reduceCtorEq, if_true, if_false, Int.zero_add, Int.add_zero] at hfu
    have HFu := Hid_mk hfu
    clear hfl hfu ho hwt c2 c3
    have HL1 := Hid_mk (show (textS s.held).length + ([(flagN s).toUInt8] : List UInt8).length ≤ 140737488355328 by simp; omega)
    have HL2 := Hid_mk (show (textS s.held ++ [(flagN s).toUInt8]).length + (textS s.rest).length ≤ 140737488355328 by simp; omega)
    clear ht1 ht2 hl
    have HS := Hid_mk fun V (hV : Kp No w V) => (⟨hV.cell' c1 id, hV.cell' c4 id, conv_tx (bs_no HH.out.held hV), conv_tx (bs_no HH.out.rest hV)⟩ : V.cell? ⟨r, 1, none⟩ = some (.slice ah s.held.length ch) ∧ V.cell? ⟨r, 4, none⟩ = some (.slice ar s.rest.length cr) ∧ (convert 30 9 (.slice ah s.held.length ch)).run Tryd.prog V = .ok (.string (tx s.held)) V ∧ (convert 30 9 (.slice ar s.rest.length cr)).run Tryd.prog V = .ok (.string (tx s.rest)) V)
    clear c1 c4
    go_region_held3 (fun V => V.cell? ⟨r, 1, none⟩ = some (.slice ah s.held.length ch) ∧ V.cell? ⟨r, 4, none⟩ = some (.slice ar s.rest.length cr) ∧ (convert 30 9 (.slice ah s.held.length ch)).run Tryd.prog V = .ok (.string (tx s.held)) V ∧ (convert 30 9 (.slice ar s.rest.length cr)).run Tryd.prog V = .ok (.string (tx s.rest)) V)
     (with_reducible refine HS.out _ ?_; with_reducible first | exact HK4.out | exact HK3.out | exact HK2.out | exact HK1.out | exact Kp.alloc HK1.out _ | exact Kp.drew (Kp.refl No w) | exact Kp.alloc (Kp.drew (Kp.refl No w)) _ | exact Kp.drew (Kp.alloc (Kp.refl No w) _))
     (first
      | (refine lst.step_append_bs _ (by rfl) _ _ (by rfl) w.heap.size v1 (textS s.held) (by rfl) (owns_kept HO1.out ((Kp.refl No W1).alloc _) (fun _ _ => id)) _ [(flagN s).toUInt8] (by rfl) (bs_lit1 W1 _ _ HFu.out) HL1.out (by have := HK1.out.size; first | (simp; done) | (simp; omega) | omega) ?_
         intro v2 W2 happ
         have HO2 := Hid_mk happ.1
         have HK2 : Hid (Kp No w W2) := Hid_mk ((HK1.out.alloc _).grown happ.2.1 fun k hk e => by have := (HO1.out.lt k e).1; omega)
         clear happ)
      | (refine lst.step_append_bs _ (by rfl) _ _ (by rfl) w.heap.size v1 (textS s.held) (by rfl) HO1.out _ [(flagN s).toUInt8] (by rfl) HF1.out HL1.out (by have := HK1.out.size; first | (simp; done) | (simp; omega) | omega) ?_
         intro v2 W2 happ
         have HO2 := Hid_mk happ.1
         have HK2 : Hid (Kp No w W2) := Hid_mk (HK1.out.grown happ.2.1 fun k hk e => by have := (HO1.out.lt k e).1; omega)
         clear happ)
      | (refine lst.step_append_bs _ (by rfl) _ _ (by rfl) w.heap.size v2 (textS s.held ++ [(flagN s).toUInt8]) (by rfl) HO23.out _ (textS s.rest) (by rfl) (owns_bs HO3.out) HL2.out HK3.out.size ?_
         intro v4 W4 happ
         have HO4 := Hid_mk happ.1
         have HK4 : Hid (Kp No w W4) := Hid_mk (HK3.out.grown happ.2.1 fun k hk e => by have := (HO23.out.lt k e).1; omega)
         clear happ)
      | (go_at_call 21
         first
          | (with_reducible refine (H1.out w.drew).mono ?_
             rintro e W1 ⟨v1, rfl, ho1, hk1⟩
             have HO1 : Hid (W1.ownsRow w.heap.size 5 1 v1 (textS s.held).length ((textS s.held).map B)) := Hid_mk ho1
             have HK1 : Hid (Kp No w W1) := Hid_mk ((Kp.refl No w).drew.trans' hk1)
             clear ho1 hk1)
          | (with_reducible refine (H1.out (w.drew.alloc _)).mono ?_
             rintro e W1 ⟨v1, rfl, ho1, hk1⟩
             have HO1 : Hid (W1.ownsRow w.heap.size 5 1 v1 (textS s.held).length ((textS s.held).map B)) := Hid_mk (owns_base ho1 (by simp))
             have HK1 : Hid (Kp No w W1) := Hid_mk (((Kp.refl No w).drew.alloc _).trans' hk1)
             have HF1 := Hid_mk (bs_no (bs_lit1 w.drew _ _ HFu.out) hk1)
             clear ho1 hk1)
          | (with_reducible refine (H1.out ((w.alloc _).drew)).mono ?_
             rintro e W1 ⟨v1, rfl, ho1, hk1⟩
             have HO1 : Hid (W1.ownsRow w.heap.size 5 1 v1 (textS s.held).length ((textS s.held).map B)) := Hid_mk (owns_base ho1 (by simp))
             have HK1 : Hid (Kp No w W1) := Hid_mk (((Kp.refl No w).alloc _).drew.trans' hk1)
             have HF1 := Hid_mk (bs_no (bs_lit1 w _ _ HFu.out) ((Kp.refl No _).drew.trans' hk1))
             clear ho1 hk1)
          | (with_reducible refine (H2.out W2).mono ?_
             rintro e W3 ⟨v3, rfl, ho3, hk3⟩
             have HO3 := Hid_mk (owns_base ho3 HK2.out.size)
             have HK3 : Hid (Kp No w W3) := Hid_mk (HK2.out.trans' hk3)
             have HO23 := Hid_mk (owns_kept HO2.out hk3 fun _ _ => id)
             clear ho3 hk3)))
    all_goals
      go_wp2
      go_ret
      exact ⟨_, rfl, HO4.out, HK4.out⟩

end Go.Proofs.YtpfpnlhihnfahaaDoor.spl

namespace Go.Proofs.YtpfpnlhihnfahaaDoor.spl
open Go.RowKit Go.Maps Go.Proofs.YtpfpnlhihnfahaaDoor.sum Go.Proofs.YtpfpnlhihnfahaaDoor.kept Go.Proofs.YtpfpnlhihnfahaaDoor.app Go.Proofs.YtpfpnlhihnfahaaDoor.writer Go.Proofs.YtpfpnlhihnfahaaDoor.clone Go.Proofs.YtpfpnlhihnfahaaDoor.known Go.Proofs.YtpfpnlhihnfahaaDoor.unseal Go.Proofs.YtpfpnlhihnfahaaDoor.snp
set_option linter.unusedVariables false

/-- behind what is done to a step's bytes -/
def CutA (wr : World) (ρ : Nat → Bool) (r q : Nat) (what : Int) (rs : ByteArray) (near : Bool) (wc : World) : Prop :=
  ∃ (a : Option Addr) (c : Nat) (bb : List UInt8), XS wc q what (.slice a bb.length c) bb rs near ∧ Kp No wr wc ∧ bb.length ≤ 1048576 ∧
    (bb ≠ [] → ∀ x o n c', (Value.slice a bb.length c) = .slice (some ⟨x, o, none⟩) n c' → Oth ρ r x ∧ x < wc.heap.size ∧ x ≠ q)
/-- behind a step -/
def CutB (w : World) (p r m k : Nat) (wc : World) : Prop :=
  ∃ (ρ : Nat → Bool) (t : SpS), Tw w wc w.heap.size p r ρ m t t ∧ OkS m t ∧ t.rest.length ≤ (k + 1) * 1048577
theorem le_step {a b k : Nat} (h : a ≤ k * 1048577) (hb : b ≤ a + 1048577) : b ≤ (k + 1) * 1048577 := by
  rw [Nat.succ_mul]; omega

set_option maxRecDepth 100000 in
set_option maxHeartbeats 16000000 in
theorem splitPlays_any (w : World) (most : Int) (vl : Value) (l : List SR7) (hl : Sts7 w vl l) (hq : Sq w) :
    Calls Tryd.prog 3 #[.int .i64 most, vl] w fun e w' => e = .returned (.bool true) ∧ Kp No w w' := by
  obtain ⟨m, hm⟩ : ∃ m : Nat, 1 + most % 12 = (m : Int) := ⟨(1 + most % 12).toNat, by have := Int.emod_nonneg most (show (12 : Int) ≠ 0 by omega); omega⟩
  have hm1 : 1 ≤ m := by have := Int.emod_nonneg most (show (12 : Int) ≠ 0 by omega); omega
  have hm2 : m ≤ 12 := by have := Int.emod_lt_of_pos most (show (0 : Int) < 12 by omega); omega
  have hwm : IntKind.i64.wrap (1 + most % 12) = (m : Int) := by rw [hm]; exact IntWalk.i64_in _ (by omega)
  have HPk := Hid_mk (turned.pick_any most 12 (by omega) (by omega) w)
  have HP9 := Hid_mk fun z W => turned.pick_any z 9 (by omega) (by omega) W
  have HN := Hid_mk (spnew_ok w m hm1 (by omega))
  have HQ := Hid_mk hq
  obtain ⟨⟨al, cl, rfl, l1, l2, l3⟩, hls⟩ := hl
  unfold maxLen at l2
  have HL3 := Hid_mk l3
  have HLs := Hid_mk hls
  clear hq hls l3
  go_enter Tryd.func3, Tryd.ntmps3
  go_wp2_with fail
  with_reducible refine HPk.out.mono ?_
  rintro e w' ⟨rfl, rfl⟩
  go_wp2_with fail
  with_reducible refine HN.out.mono ?_
  rintro e w1 ⟨p, ρ1, rfl, hs1, hk1⟩
  have HS1 := Hid_mk hs1
  have HK1 := Hid_mk hk1
  have HKn := Hid_mk (splitknown_any splitC w1)
  clear hs1 hk1 HPk HN hwm hm
  go_wp2_with fail
  with_reducible refine HKn.out.mono ?_
  rintro e w2 ⟨rfl, hk2⟩
  have hs2 := PSp.kept HS1.out hk2 fun _ _ => id
  have HTw : Hid (Tw w (w2.alloc (.cells #[.int .i64 (m : Int), .slice none 0 0, .bool false, .bool false, .slice none 0 0] 32)) w.heap.size p w2.heap.size ρ1 m zeroS zeroS) := Hid_mk
    ⟨PSp.kept hs2 ((Kp.refl No w2).alloc _) fun _ _ => id, ⟨.slice none 0 0, .slice none 0 0, by simp, by simp, by simp [zeroS], by simp [zeroS], by simp, fun o => by simp, ⟨none, 0, rfl, Nat.le_refl _, Nat.zero_le _, fun h => absurd rfl h⟩, ⟨none, 0, rfl, Nat.le_refl _, Nat.zero_le _, fun h => absurd rfl h⟩, fun h => absurd rfl h, fun h => absurd rfl h, fun h => h.2 rfl, fun k hk => ⟨by
      cases hρ : ρ1 k with
      | false => rfl
      | true => have := (hs2.low k hρ).2; simp at hk; omega, by simp at hk; omega⟩⟩, by
      cases hρ : ρ1 w2.heap.size with
      | false => rfl
      | true => have := (hs2.low _ hρ).2; omega, (HK1.out.trans' hk2).alloc _, Nat.le_refl _, (HK1.out.trans' hk2).size⟩
  obtain ⟨r, hr⟩ : ∃ r, w2.heap.size = r := ⟨_, rfl⟩
  rw [hr] at HTw
  clear hs2 hk2 HS1 HK1 HKn
  go_wp2_with fail
  try rw [hr]
  clear hr
  go_loopw [8] (fun iv wr => PlRel w w.heap.size p r m l.length iv wr) (fun iv _ => l.length - (intOf iv).toNat)
  case atStart => exact ⟨0, ρ1, zeroS, rfl, Nat.zero_le _, Nat.zero_le _, HTw.out, Nat.zero_le _, Nat.zero_le _⟩
  case round =>
    clear HTw
    obtain ⟨k, ρ, t, rfl, hk, hk150, htw, hok, hrl⟩ := hrel
    have HT := Hid_mk htw
    have HOk := Hid_mk hok
    have HRl := Hid_mk hrl
    have hk0 : (0 : Int) ≤ (k : Int) := Int.natCast_nonneg _
    clear htw hok hrl
    by_cases hlt : k < l.length
    · have hki : (k : Int) < (l.length : Int) := by omega
      by_cases h150 : k < 150
      · have hki2 : (k : Int) < 150 := by omega
        obtain ⟨bl, ol, rfl, hcs⟩ := HL3.out (by intro e; rw [e] at hlt; simp at hlt)
        obtain ⟨q0, q1, q2, q3⟩ := hcs k hlt
        obtain ⟨z1, z2, z3⟩ := HLs.out l[k] (List.getElem_mem hlt)
        obtain ⟨X, hX⟩ : ∃ X, l[k] = X := ⟨_, rfl⟩
        rw [hX] at q0 q1 q2 q3 z1 z2 z3
        obtain ⟨what, vb, bs, rs, near⟩ := X
        simp only at q0 q1 q2 q3 z1 z2 z3
        have kk := HT.out.kp
        have y0 := kk.cell' q0 id
        have y1 := kk.cell' q1 id
        have y2 := kk.cell' q2 id
        have y3 := kk.cell' q3 id
        have HBw := Hid_mk z1
        obtain ⟨ab, cb, rfl, -, -, -⟩ := z1
        have HZ := Hid_mk z2
        have HWh := Hid_mk z3
        have HLt := Hid_mk hlt
        have H150 := Hid_mk h150
        clear q0 q1 q2 q3 hcs hX kk z2 z3 hlt h150
        obtain ⟨q, hq⟩ : ∃ q, wr.heap.size = q := ⟨_, rfl⟩
        have HQq := Hid_mk hq
        obtain ⟨K, hK⟩ : ∃ K : Nat, what % 9 = (K : Int) := ⟨(what % 9).toNat, by have := Int.emod_nonneg what (show (9 : Int) ≠ 0 by omega); omega⟩
        have hK9 : K < 9 := by have := Int.emod_lt_of_pos what (show (0 : Int) < 9 by omega); omega
        have HK := Hid_mk hK
        have hK0 : (0 : Int) ≤ (K : Int) := Int.natCast_nonneg _
        clear hK
        go_upto_if 59 with fail
        go_cut [] from 44 to 176 (fun wc => CutA wr ρ r q what rs near wc)
        case first =>
          cases near with
          | false =>
            go_wp2_with fail
            go_meet
            case rel =>
              refine ⟨ab, cb, bs, ⟨by simp [← HQq.out], by simp [← HQq.out], by simp [← HQq.out], by simp [← HQq.out], bs_no (bs_no HBw.out HT.out.kp) ((Kp.refl No wr).alloc _)⟩, (Kp.refl _ _).alloc _, HZ.out, fun hne x o n c e => ?_⟩
              have hlt := bs_lt HBw.out hne x o n c e
              have := HT.out.kp.size
              exact ⟨HT.out.low hlt, by rw [World.size_alloc]; omega, by rw [← HQq.out]; omega⟩
          | true =>
            have HBy := Hid_mk fun W (hb : Bs W (.slice ab bs.length cb) bs) => bytes_any W _ bs hb (by have := HZ.out; omega)
            go_wp2_with fail
            with_reducible refine (HBy.out _ (bs_no (bs_no HBw.out HT.out.kp) ((Kp.refl No wr).alloc _))).mono ?_
            rintro e w2 ⟨rfl, hb2, hk2⟩
            have HK2 := Hid_mk hk2
            obtain ⟨g2, hg2⟩ : ∃ g2, (wr.alloc (.cells #[.int .i64 what, .slice ab bs.length cb, .string rs, .bool true] 34)).heap.size = g2 := ⟨_, rfl⟩
            have hgq : g2 = q + 1 := by rw [← hg2, ← HQq.out]; simp
            have hb2' : Bs w2 (.slice (some ⟨q + 1, 0, none⟩) bs.length bs.length) (kindsOf bs) := by rw [← hgq, ← hg2]; exact hb2
            have HB2' := Hid_mk hb2'
            have x0 : w2.cell? ⟨q, 0, none⟩ = some (.int .i64 what) := hk2.cell' (by rw [← HQq.out]; simp) id
            have x1 : w2.cell? ⟨q, 1, none⟩ = some (.slice ab bs.length cb) := hk2.cell' (by rw [← HQq.out]; simp) id
            have x2 : w2.cell? ⟨q, 2, none⟩ = some (.string rs) := hk2.cell' (by rw [← HQq.out]; simp) id
            have x3 : w2.cell? ⟨q, 3, none⟩ = some (.bool true) := hk2.cell' (by rw [← HQq.out]; simp) id
            have xf : w2.frozen? ⟨q, 1, none⟩ = false := (hk2.frozen (p := ⟨q, 1, none⟩) (by rw [← HQq.out]; simp) id).trans (by rw [← HQq.out]; simp)
            clear hb2 hk2 hg2 hb2'
            go_wp2_with fail
            go_meet
            case rel =>
              have hkl : (kindsOf bs).length = bs.length := by unfold kindsOf; rw [List.length_map]
              refine ⟨some ⟨q + 1, 0, none⟩, bs.length, kindsOf bs, ?_, ?_, by rw [hkl]; exact HZ.out, fun hne x o n c e => ?_⟩
              · rw [hkl]
                exact ⟨cell_offS x0 (by omega), World.cell?_setCell_same w2 _ _ x1, cell_offS x2 (by omega), cell_offS x3 (by omega), bs_kept HB2'.out ((Kp.refl (fun k => k = q) w2).setCell (p := ⟨q, 1, none⟩) (fun _ => rfl) _) (fun b o n c e e2 => by cases e; omega)⟩
              · refine (((Kp.refl No wr).alloc _).trans' HK2.out).setCell (p := ⟨q, 1, none⟩) (fun h => ?_) _
                have := HQq.out
                simp only at h
                omega
              · cases e
                refine ⟨HT.out.new (by have := HQq.out; omega), ?_, by omega⟩
                have h9 := bs_lt HB2'.out hne (q + 1) 0 _ _ rfl
                simpa [World.setCell] using h9
        case rest =>
          obtain ⟨ax, cx, bb, hx, hkr, hbl, hxv⟩ := hcut
          have HX := Hid_mk hx
          have HKr := Hid_mk hkr
          have HBl := Hid_mk hbl
          have HXv := Hid_mk hxv
          obtain ⟨W1, hW1⟩ : ∃ W1, W1 = wc := ⟨_, rfl⟩
          rw [← hW1] at HX HKr HXv ⊢
          clear hx hkr hbl hxv hW1 HBw
          have HRs := Hid_mk fun W (h : XS W q what (.slice ax bb.length cx) bb rs near) (hs : Sq W) => rs_any W what _ bb rs near h.byt hs HWh.out
          obtain ⟨sp, hsp⟩ : ∃ sp, rsS what near rs.data.toList = sp := ⟨_, rfl⟩
          rw [hsp] at HRs
          clear hsp
          have x0 := HX.out.c0
          go_wp2_with fail
          with_reducible refine (HP9.out what _).mono ?_
          rintro e w' ⟨rfl, rfl⟩
          rw [HK.out]
          have HT1 := Hid_mk (HT.out.no HKr.out)
          clear x0
          dsimp only
          repeat ((fail_if_success (with_reducible show Code.wp _ (Code.block _ _) _ _ _)); first | go_values | go_skip | go_guarded | go_step | go_upon | go_back)
          go_cut [10] from 44 to 176 (fun s10 wc => s10 = .bool true ∧ CutB w p r m k wc)
          case first =>
            have hcases : K ≤ 2 ∨ (¬ K ≤ 2 ∧ K ≤ 6) ∨ K = 7 ∨ K = 8 := by omega
            rcases hcases with h2 | ⟨h2, h6⟩ | rfl | rfl
            · have h2i : (K : Int) ≤ 2 := by omega
              have x1 := HX.out.c1
              have x1a := ((Kp.refl No W1).alloc (.cells #[] 5)).cell' x1 id
              have HBx := Hid_mk (bs_no HX.out.byt ((Kp.refl No W1).alloc (.cells #[] 5)))
              go_wp2_with (at_builtin; (refine wpList_append_bs _ rfl _ _ rfl W1.heap.size _ [] rfl (World.ownsRow_made W1 #[] 0 (Nat.le_refl _) (by decide) rfl) _ bb rfl HBx.out (by simp; have := HBl.out; omega) (by simp) ?_))
              intro v1 W2 happ
              have ho2 : W2.ownsRow W1.heap.size 5 1 v1 bb.length (bb.map B) := by simpa using happ.1
              have hk2 : Kp No W1 W2 := ((Kp.refl No W1).alloc _).grown happ.2.1 fun k hk e => by simp [Value.ownBlock] at e; omega
              have HO2 := Hid_mk ho2
              have HT2 := Hid_mk (HT1.out.no hk2)
              have HK2 := Hid_mk hk2
              have HFd := Hid_mk (feed_any W2 w.heap.size p ρ m t v1 bb HT2.out.sp (owns_bs ho2) (by have := HBl.out; have := HRl.out; omega))
              obtain ⟨a2, c2, rfl, n2, n3⟩ : ∃ a c, v1 = .slice a bb.length c ∧ bb.length ≤ c ∧ c ≤ 9223372036854775807 := by
                obtain ⟨a, c, e, h1, h2, -⟩ := owns_bs ho2
                exact ⟨a, c, e, h1, by unfold maxLen at h2; omega⟩
              clear happ ho2 hk2 x1 x1a HBx
              go_wp2_with fail
              with_reducible refine HFd.out.mono ?_
              intro e W3 hpost
              obtain ⟨he, ρ3, ht3, f3⟩ := Tw.call1 HT2.out hpost
              subst he
              have hown : ∀ g, (Value.slice a2 bb.length c2).ownBlock = some g → W1.heap.size ≤ g ∧ g < W2.heap.size ∧ ρ3 g = false := fun g hg => by
                have h1 := World.ownsRow.lt HO2.out g hg
                exact ⟨h1.1, h1.2, f3.2 g h1.2 (HT1.out.new h1.1).1⟩
              have HOwn := Hid_mk hown
              have HT3 := Hid_mk ht3
              have ho3 : W3.ownsRow W1.heap.size 5 1 (.slice a2 bb.length c2) bb.length (bb.map B) := owns_kept HO2.out f3.1 fun g hg e => by
                have h1 := World.ownsRow.lt HO2.out g hg
                rw [(HT1.out.new h1.1).1] at e; cases e
              have HO3 := Hid_mk ho3
              have hqo : ¬ ρ q = true := by rw [(HT.out.new (k := q) (by have := HQq.out; omega)).1]; simp
              have HX3 := Hid_mk ((HX.out.kept HK2.out id fun _ _ _ _ _ _ => id).kept f3.1 hqo (fun hne x o n c e e2 => by rw [(HXv.out hne x o n c e).1.1] at e2; cases e2))
              -- the reference's slices, as they lay
              obtain ⟨vh1, vr1, hh1⟩ := HT1.out.rs
              have hr1 : W3.cell? ⟨r, 1, none⟩ = some vh1 := f3.1.cell' (HK2.out.cell' hh1.c1 id) (by rw [HT2.out.nr]; simp)
              have hr4 : W3.cell? ⟨r, 4, none⟩ = some vr1 := f3.1.cell' (HK2.out.cell' hh1.c4 id) (by rw [HT2.out.nr]; simp)
              have HH1 := Hid_mk hh1
              have HR1 := Hid_mk hr1
              have HR4 := Hid_mk hr4
              clear hpost ht3 f3 HFd hown ho3 hqo hh1 hr1 hr4
              go_wp2
              go_hide hQ
              go_loopw [13] (fun jv wz => ZRel W3 (.slice a2 bb.length c2) bb.length jv wz) (fun jv _ => bb.length - (intOf jv).toNat)
              case atStart => exact ⟨0, bb, Nat.zero_le _, rfl, rfl, owns_bs HO3.out, fun g hg j => owns_warm' HO3.out g hg j, Kp.refl _ _⟩
              case round =>
                obtain ⟨j, ys, hj, rfl, hyl, hby, hwm, hkz⟩ := hrel
                have hj0 : (0 : Int) ≤ (j : Int) := Int.natCast_nonneg _
                by_cases hjl : j < bb.length
                · have hji : (j : Int) < (bb.length : Int) := by omega
                  have hby' := hby
                  obtain ⟨a3, c3, e3, -, -, h3⟩ := hby'
                  obtain ⟨g, o, e4, hcz⟩ := h3 (by intro e; rw [e] at hyl; simp at hyl; omega)
                  simp only [Value.slice.injEq] at e3
                  obtain ⟨rfl, -, rfl⟩ := e3
                  subst e4
                  have hcj := hcz j (by omega)
                  have hfj := hwm g rfl (o + j)
                  have hwj : IntKind.i64.wrap ((j : Int) + 1) = (j : Int) + 1 := IntWalk.i64_in _ (by omega)
                  have hst := turned.bs_set hby j hjl (122 : UInt8)
                  have HRel := Hid_mk (show ZRel W3 (.slice (some ⟨g, o, none⟩) bb.length c2) bb.length (.int .i64 ((j : Int) + 1)) (World.setCell _ ⟨g, o + j, none⟩ (.int .u8 122)) from ⟨j + 1, _, by omega, by push_cast; rfl, by simpa using hyl, hst, fun g' hg' j' => by rw [World.frozen?_setCell]; exact hwm g' hg' j', hkz.setCell (p := ⟨g, o + j, none⟩) (fun _ => rfl) _⟩)
                  clear hby hwm hkz hcz hst h3
                  go_wp2
                  go_roundw
                  case rel => exact HRel.out
                  case measure => simp only [intOf]; omega
                · have hji : ¬ (j : Int) < (bb.length : Int) := by omega
                  have hown := HOwn.out
                  have hqlt : q < W1.heap.size := World.block_lt_of_cell? W1 _ HX.out.c0
                  have hrlt := HT1.out.rlt
                  have hno : ∀ x, x < W1.heap.size → ¬ ((Value.slice a2 bb.length c2).ownBlock = some x) := fun x hx e => by have := (hown x e).1; omega
                  have ht5 := HT3.out.oth hkz (fun g hg e => by rw [(hown g e).2.2] at hg; cases hg) (hno r hrlt) (fun vh vr hh => by
                    obtain rfl : vh = vh1 := Option.some.inj (hh.c1.symm.trans HR1.out)
                    obtain rfl : vr = vr1 := Option.some.inj (hh.c4.symm.trans HR4.out)
                    exact ⟨fun hne x o n c e => hno x (bs_lt HH1.out.held hne x o n c e), fun hne x o n c e => hno x (bs_lt HH1.out.rest hne x o n c e)⟩) (fun g hg => hno g (by have := HT1.out.kp.size; omega))
                  have hx5 := HX3.out.kept hkz (hno q hqlt) (fun hne x o n c e => hno x (HXv.out hne x o n c e).2.1)
                  have HT5 := Hid_mk ht5
                  have HX5 := Hid_mk hx5
                  have hz5 := hkz.size
                  clear hby hwm hkz hown hno hqlt hrlt
                  obtain ⟨vh5, vr5, hh5⟩ := ht5.rs
                  have HH5 := Hid_mk hh5
                  have c4 := hh5.c4
                  have f4 := hh5.warm 4
                  have x1 := hx5.c1
                  have hlr := hh5.lt
                  obtain ⟨ar5, cr5, rfl, -, -, -⟩ := id hh5.rest
                  clear ht5 hx5 hh5
                  obtain ⟨W5, hW5⟩ : ∃ W5, W5 = _ ∧ Tw w W5 w.heap.size p r ρ3 m (feedS t bb) t := ⟨_, rfl, HT5.out⟩
                  obtain ⟨e5, -⟩ := hW5
                  rw [← e5] at HT5 HX5 HH5 c4 f4 x1 hlr hz5 ⊢
                  clear e5
                  have c4a := fun o => ((Kp.refl No W5).alloc o).cell' c4 id
                  have x1a := fun o => ((Kp.refl No W5).alloc o).cell' x1 id
                  have HRa := Hid_mk fun o => bs_no HH5.out.rest ((Kp.refl No W5).alloc o).drew
                  have HLb := Hid_mk (show t.rest.length + bb.length ≤ 140737488355328 by have := HBl.out; have := HRl.out; omega)
                  go_wp2
                  subst hQ
                  go_wp2
                  go_region_law (first
                    | (refine lst.step_append_bs _ (by rfl) _ _ (by rfl) W5.heap.size _ [] (by rfl) ((World.ownsRow_made W5 #[] 0 (Nat.le_refl _) (by decide) (by rfl)).drew) _ t.rest (by rfl) (HRa.out _) (by have := HLb.out; simp only [List.length_nil]; omega) (by simp) ?_
                       intro v6 W6 happ
                       have HO6 : Hid (W6.ownsRow W5.heap.size 5 1 v6 t.rest.length (t.rest.map B)) := Hid_mk (by simpa using happ.1)
                       have hk6 : Kp No W5 W6 := (((Kp.refl No W5).alloc _).drew).grown happ.2.1 fun k hk e => by simp [Value.ownBlock] at e; omega
                       have HK6 := Hid_mk hk6
                       have x1b := hk6.cell' x1 id
                       clear happ hk6)
                    | (refine lst.step_append_bs _ (by rfl) _ _ (by rfl) W5.heap.size v6 t.rest (by rfl) HO6.out _ bb (by rfl) (bs_no HX5.out.byt HK6.out) HLb.out HK6.out.size ?_
                       intro v7 W7 happ
                       have HO7 := Hid_mk happ.1
                       have hk7 : Kp No W5 W7 := HK6.out.grown happ.2.1 fun k hk e => by have := (World.ownsRow.lt HO6.out k e).1; omega
                       have HK7 := Hid_mk hk7
                       have c4b := hk7.cell' c4 id
                       have f4b := (hk7.frozen (p := ⟨r, 4, none⟩) hlr id).trans f4
                       obtain ⟨a7, c7, e7⟩ : ∃ a c, v7 = .slice a (t.rest ++ bb).length c := by
                         obtain ⟨a, c, e, -⟩ := owns_bs happ.1
                         exact ⟨a, c, e⟩
                       rw [e7] at HO7
                       rw [e7]
                       clear happ hk7 e7))
                  all_goals
                    obtain ⟨tz, htz⟩ : ∃ tz, tz = feedS t bb := ⟨_, rfl⟩
                    have htw := (HT5.out.no HK7.out).set4 (owns_bs HO7.out) (fun hne x o n c e => HT5.out.new (by
                      have := (World.ownsRow.lt HO7.out x (by rw [e]; rfl)).1
                      exact this))
                    have htw2 : Tw w (W7.setCell ⟨r, 4, none⟩ (.slice a7 (t.rest.length + bb.length) c7)) w.heap.size p r ρ3 m tz tz := by rw [htz, ← List.length_append]; exact htw
                    have HOZ : Hid (OkS m tz) := Hid_mk (by rw [htz]; exact HOk.out)
                    have HRZ : Hid (tz.rest.length = t.rest.length + bb.length) := Hid_mk (by rw [htz]; simp [feedS])
                    obtain ⟨WZ, hWZ⟩ : ∃ WZ, W7.setCell ⟨r, 4, none⟩ (.slice a7 (t.rest.length + bb.length) c7) = WZ := ⟨_, rfl⟩
                    rw [hWZ] at htw2
                    have HTZ := Hid_mk htw2
                    clear htz htw htw2 c4a x1a c4b f4b x1b c4 f4 x1
                    go_wp2_with fail
                    go_meet
                    case rel => exact ⟨rfl, _, _, (by first | exact HTZ.out | (rw [hWZ]; exact HTZ.out)), HOZ.out, le_step HRl.out (by have := HRZ.out; have := HBl.out; omega)⟩
            · have h2i : ¬ (K : Int) ≤ 2 := by omega
              have h6i : (K : Int) ≤ 6 := by omega
              have x0 := HX.out.c0
              have x1 := HX.out.c1
              have x2 := HX.out.c2
              have x3 := HX.out.c3
              go_wp2_with fail
              with_reducible refine (HRs.out W1 HX.out (HQ.out.no HT1.out.kp)).mono ?_
              rintro e W2 ⟨rfl, hk2⟩
              have HT2 := Hid_mk (HT1.out.no hk2)
              have HX2 := Hid_mk (HX.out.kept hk2 id fun _ _ _ _ _ _ => id)
              obtain ⟨A, hA⟩ : ∃ A, nextS m sp t = A := ⟨_, rfl⟩
              have hnx := spnext_any W2 w.heap.size p ρ m t sp HT2.out.sp HOk.out (by omega)
              have hok' := nextS_ok HOk.out sp
              have hrl' := nextS_rest m sp t
              rw [hA] at hnx hok' hrl'
              obtain ⟨a, t'⟩ := A
              have HNx := Hid_mk hnx
              have HOZ := Hid_mk hok'
              have HRZ := Hid_mk hrl'
              have HA := Hid_mk hA
              have HZ2 := Hid_mk hk2.size
              clear hk2 hnx hok' hrl' x0 x1 x2 x3 hA
              go_wp2_with fail
              with_reducible refine HNx.out.mono ?_
              intro e W3 hpost
              obtain ⟨he, ρ3, ht3, f3⟩ := Tw.call1 HT2.out hpost
              have he' : e = .returned (.tuple #[.string (tx (a.getD [])), .bool a.isSome]) := he
              subst he'
              have hqo : ¬ ρ q = true := by rw [(HT.out.new (k := q) (by have := HQq.out; omega)).1]; simp
              have HX3 := Hid_mk (HX2.out.kept f3.1 hqo (fun hne x o n c e e2 => by rw [(HXv.out hne x o n c e).1.1] at e2; cases e2))
              have HT3 := Hid_mk ht3
              clear hpost ht3 f3 he HNx
              have x0 := HX3.out.c0
              have x1 := HX3.out.c1
              have x2 := HX3.out.c2
              have x3 := HX3.out.c3
              go_wp2_with fail
              with_reducible refine (HRs.out W3 HX3.out (HQ.out.no HT3.out.kp)).mono ?_
              rintro e W4 ⟨rfl, hk4⟩
              have HT4 := Hid_mk (HT3.out.no hk4)
              have hrn := rnext_any (Oth ρ3 r) W4 r m t sp HT4.out.rs (by omega) HOk.out (by have := HRl.out; omega)
              rw [HA.out] at hrn
              have HRn := Hid_mk hrn
              clear hk4 hrn x0 x1 x2 x3
              go_wp2_with fail
              with_reducible refine HRn.out.mono ?_
              intro e WZ hpost
              obtain ⟨he, ht5, k5⟩ := Tw.call2 HT4.out hpost
              have he' : e = .returned (.tuple #[.string (tx (a.getD [])), .bool a.isSome]) := he
              subst he'
              have HTZ := Hid_mk ht5
              clear hpost ht5 k5 he HRn
              go_wp2_with fail
              go_meet
              case rel => exact ⟨rfl, _, _, HTZ.out, HOZ.out, le_step HRl.out (by have := HRZ.out; omega)⟩
            · have x0 := HX.out.c0
              have x1 := HX.out.c1
              have x2 := HX.out.c2
              have x3 := HX.out.c3
              go_wp2_with fail
              with_reducible refine (HRs.out W1 HX.out (HQ.out.no HT1.out.kp)).mono ?_
              rintro e W2 ⟨rfl, hk2⟩
              have HT2 := Hid_mk (HT1.out.no hk2)
              have HX2 := Hid_mk (HX.out.kept hk2 id fun _ _ _ _ _ _ => id)
              obtain ⟨A, hA⟩ : ∃ A, lastS m sp t = A := ⟨_, rfl⟩
              have hnx := sprest_any W2 w.heap.size p ρ m t sp HT2.out.sp HOk.out (by omega)
              have hok' := lastS_ok HOk.out sp
              have hrl' := lastS_rest m sp t
              rw [hA] at hnx hok' hrl'
              obtain ⟨a, t'⟩ := A
              have HNx := Hid_mk hnx
              have HOZ := Hid_mk hok'
              have HRZ := Hid_mk hrl'
              have HA := Hid_mk hA
              have HZ2 := Hid_mk hk2.size
              clear hk2 hnx hok' hrl' x0 x1 x2 x3 hA
              go_wp2_with fail
              with_reducible refine HNx.out.mono ?_
              intro e W3 hpost
              obtain ⟨he, ρ3, ht3, f3⟩ := Tw.call1 HT2.out hpost
              have he' : e = .returned (.tuple #[.string (tx (a.getD [])), .bool a.isSome]) := he
              subst he'
              have hqo : ¬ ρ q = true := by rw [(HT.out.new (k := q) (by have := HQq.out; omega)).1]; simp
              have HX3 := Hid_mk (HX2.out.kept f3.1 hqo (fun hne x o n c e e2 => by rw [(HXv.out hne x o n c e).1.1] at e2; cases e2))
              have HT3 := Hid_mk ht3
              clear hpost ht3 f3 he HNx
              have x0 := HX3.out.c0
              have x1 := HX3.out.c1
              have x2 := HX3.out.c2
              have x3 := HX3.out.c3
              go_wp2_with fail
              with_reducible refine (HRs.out W3 HX3.out (HQ.out.no HT3.out.kp)).mono ?_
              rintro e W4 ⟨rfl, hk4⟩
              have HT4 := Hid_mk (HT3.out.no hk4)
              have hrn := rlast_any (Oth ρ3 r) W4 r m t sp HT4.out.rs (by omega) HOk.out (by have := HRl.out; omega)
              rw [HA.out] at hrn
              have HRn := Hid_mk hrn
              clear hk4 hrn x0 x1 x2 x3
              go_wp2_with fail
              with_reducible refine HRn.out.mono ?_
              intro e WZ hpost
              obtain ⟨he, ht5, k5⟩ := Tw.call2 HT4.out hpost
              have he' : e = .returned (.tuple #[.string (tx (a.getD [])), .bool a.isSome]) := he
              subst he'
              have HTZ := Hid_mk ht5
              clear hpost ht5 k5 he HRn
              go_wp2_with fail
              go_meet
              case rel => exact ⟨rfl, _, _, HTZ.out, HOZ.out, le_step HRl.out (by have := HRZ.out; omega)⟩
            · have x0 := HX.out.c0
              have HNw := Hid_mk (writer.new_any W1)
              go_wp2_with fail
              with_reducible refine HNw.out.mono ?_
              rintro e W2 ⟨rfl, hwr2, hk2⟩
              have HT2 := Hid_mk (HT1.out.no hk2)
              have hpw : ρ W1.heap.size = false := (HT1.out.new (Nat.le_refl _)).1
              have HLy := Hid_mk (splay_any W2 w.heap.size p ρ m t W1.heap.size W1.heap.size (.slice none 0 0) [] HT2.out.sp hwr2 hpw (fun g e => by simp [Value.ownBlock] at e) (by have := HOk.out; unfold OkS at this; have := HRl.out; simp only [List.length_nil]; omega))
              have HPw := Hid_mk hpw
              have HK2 := Hid_mk hk2
              clear hwr2 hk2 hpw HNw x0
              go_wp2_with fail
              with_reducible refine HLy.out.mono ?_
              intro e W3 hpost
              obtain ⟨he, hs3, v3, hat3, -⟩ := wr_beside HT2.out.sp HPw.out (fun g e => by simp [Value.ownBlock] at e) hpost
              subst he
              have hk3 : Kp No W1 W3 := HK2.out.trans hat3.2.1 fun i hi e => by
                rcases e with e | e
                · omega
                · simp [Value.ownBlock] at e
              have HT3 := Hid_mk (HT1.out.no hk3)
              have hwr3 : Wr W1.heap.size W3 W1.heap.size v3 (laidS t) := hat3.1
              have hlen : (laidS t).length ≤ 140737488355328 := by
                have h1 := textS_len t.held (by have := HOk.out; unfold OkS at this; omega)
                have h2 := textS_len t.rest (by have := HRl.out; omega)
                have := HOk.out
                unfold OkS at this
                have := HRl.out
                unfold laidS
                simp only [List.length_append, List.length_singleton]
                omega
              have hvo : ∀ g, v3.ownBlock = some g → ¬ False := fun _ _ => id
              have HCB := Hid_mk fun V (hV : Kp No W3 V) => (show Calls Tryd.prog 18 #[.pointer (some ⟨W1.heap.size, 0, none⟩)] V fun e V' => ∃ v, e = .returned v ∧ Bs V' v (laidS t) ∧ Kp No W3 V' by
                refine (clone.bytes_any W1.heap.size W1.heap.size V v3 (laidS t) (hwr3.kept hV id fun _ _ => id) hlen).mono ?_
                rintro e V' ⟨v, rfl, ho, hk⟩
                exact ⟨v, rfl, owns_bs ho, hV.trans' hk⟩)
              have HCL := Hid_mk fun V v (hV : Kp No W3 V) (hv : Bs V v (laidS t)) => (show Calls Tryd.prog 19 #[.pointer (some ⟨r, 0, none⟩)] V fun e V' => ∃ v', e = .returned v' ∧ Bs V' v' (laidS t) ∧ Bs V' v (laidS t) ∧ Kp No W3 V' by
                refine (rlay_any (Oth ρ r) V r m t (HT3.out.no hV).rs (by have := HOk.out; unfold OkS at this; have := HRl.out; omega)).mono ?_
                rintro e V' ⟨v', rfl, ho, hk⟩
                exact ⟨v', rfl, owns_bs ho, bs_no hv hk, hV.trans' hk⟩)
              have HOZ := HOk
              clear hpost hat3 hs3 hk3 hwr3 hlen hvo HLy
              go_wp2
              go_region_with (first
                | (go_at_call 18; with_reducible refine (HCB.out W3.drew (Kp.refl No W3).drew).mono ?_; rintro e W6 ⟨v6, rfl, hb6, hk6⟩; have hcv6 := conv_tx hb6; have HB6 := Hid_mk hb6; have HK6 := Hid_mk hk6; clear hb6 hk6)
                | (go_at_call 19; with_reducible refine (HCL.out W6 v6 HK6.out HB6.out).mono ?_; rintro e WZ ⟨v7, rfl, hb7, hbb7, hk7⟩; have hcv7 := conv_tx hb7; have hcvb7 := conv_tx hbb7; have HTZ := Hid_mk (HT3.out.no hk7); clear hb7 hbb7 hk7))
              all_goals
                go_wp2
                simp only [List.getElem_toArray, List.getElem_cons_succ, List.getElem_cons_zero, Act.put, List.setIfInBounds_toArray, List.set_cons_zero, List.set_cons_succ]
                clear HCB HCL HP9 HRs HX HXv y0 y1 y2 y3 HBl HZ HWh hq HQq HK hK9 hK0 l1 l2 HT1 HT2 HT HK2 HPw HKr HQ HLs HL3
                clear hcv6 hcv7 hcvb7
                go_wp2_with fail
                go_meet
                case rel => exact ⟨rfl, _, _, HTZ.out, HOZ.out, Nat.le_trans HRl.out (Nat.mul_le_mul_right _ (Nat.le_succ k))⟩
          case rest =>
            obtain ⟨rfl, ρz, tz, htz, hoz, hrz⟩ := hcut
            obtain ⟨WZ, hWZ⟩ : ∃ WZ, WZ = wc := ⟨_, rfl⟩
            rw [← hWZ] at htz ⊢
            clear hWZ
            have HTZ := Hid_mk htz
            have HOZ := Hid_mk hoz
            have HRZ := Hid_mk hrz
            clear htz hoz hrz HX HKr HBl HXv HRs HT1 HP9 HQ
            go_wp2_with fail
            have HHd := Hid_mk fun V (hV : Kp No WZ V) => held_any V w.heap.size p _ m _ (HTZ.out.no hV).sp
            obtain ⟨vhz, vrz, hzz⟩ := HTZ.out.rs
            have cz1 := hzz.c1
            obtain ⟨ahz, chz, rfl, -, -, -⟩ := id hzz.held
            have hmz : ¬ (m : Int) < (tz.held.length : Int) := by have := HOZ.out; unfold OkS at this; omega
            have HKZ : Hid (Kp No WZ WZ.drew) := Hid_mk (Kp.refl No WZ).drew
            clear hzz
            go_region_held3 (fun V => V.cell? ⟨r, 1, none⟩ = some (.slice ahz tz.held.length chz)) (first | (dsimp only; exact cz1) | go_keep)
              (first
                | (go_at_call 20; with_reducible refine (HHd.out WZ.drew HKZ.out).mono ?_; rintro e w' ⟨rfl, hwz⟩; rw [hwz]; clear hwz w'))
            all_goals
              go_wp2
              go_roundw
              case rel =>
                have hrel : PlRel w w.heap.size p r m l.length (.int .i64 ((k : Int) + 1)) _ := ⟨k + 1, _, _, by push_cast; rfl, by have := HLt.out; omega, by have := H150.out; omega, HTZ.out.no (by first | exact (Kp.refl No WZ).drew | exact (Kp.refl No WZ).drewN _ | exact Kp.refl No WZ), HOZ.out, HRZ.out⟩
                first | exact hrel | (repeat apply Exists.intro; exact ⟨hrel, rfl⟩)
              case measure => have := HLt.out; simp only [intOf]; omega
      · have hki2 : ¬ (k : Int) < 150 := by omega
        clear h150 hk150
        go_wp2
        go_ret
        exact ⟨rfl, HT.out.kp⟩
    · have hki : ¬ (k : Int) < (l.length : Int) := by omega
      clear hlt
      go_wp2
      go_ret
      exact ⟨rfl, HT.out.kp⟩

end Go.Proofs.YtpfpnlhihnfahaaDoor.spl

namespace Go.Proofs.YtpfpnlhihnfahaaDoor.layRow
open Go.ChangeShapes Go.WideShapes Go.ChangeAt Go.RowKit Go.Deep Go.Proofs.YtpfpnlhihnfahaaDoor.sum Go.Proofs.YtpfpnlhihnfahaaDoor.kept Go.Proofs.YtpfpnlhihnfahaaDoor.row
set_option linter.unusedVariables false

section
variable {H : Type} {enc : TypeId × Value → H} {W : World}

theorem len_bulk (l : List (DataW H)) : l.length ≤ Rows.uptoBulkAll l := by
  induction l with
  | nil => simp
  | cons y l ih =>
    have h1 : 1 ≤ Rows.uptoBulk y := by cases y with
      | lit l => cases l <;> simp [Rows.uptoBulk]
      | _ => simp [Rows.uptoBulk]
    simp only [List.length_cons, Rows.uptoBulkAll]; omega

/-- A slice of bytes, opened, of bounded bulk. -/
theorem open_bs_bulk {a : Option Addr} {len cap : Nat} {d : DataW H} {p : List MemPlace} (h0 : DataW.Trod enc Tryd.prog W 0 (fun _ => true) true 30 (.slice a len cap) d p) (hk : Rows.uptoBulk d ≤ 1048576) :
    ∃ bs, Bs W (.slice a len cap) bs ∧ bs.length ≤ 1048576 := by
  have h := h0
  obtain ⟨fuel, hf⟩ := h0
  obtain ⟨bs, hb⟩ := open_bs_any h
  refine ⟨bs, hb, ?_⟩
  obtain ⟨_, _, e, -, -, -⟩ := hb
  simp only [Value.slice.injEq] at e
  rcases open_ints Tryd.underlying30 Tryd.underlying5 (by kernel_rfl) hf with ⟨hcs, _⟩ | ⟨x, l, c, zs, hcs, _, hl, hm, hz, hx, hcell, hwz⟩
  · simp [Value.cells] at hcs
    omega
  · simp [Value.cells] at hcs
    obtain ⟨rfl, rfl, rfl⟩ := hcs
    simp only [if_true] at hz
    obtain ⟨rfl, rfl⟩ := Prod.mk.inj hx
    simp only [Rows.uptoBulk] at hk
    have := len_bulk (lits (H := H) .u8 (zs.take len))
    have hl2 : (lits (H := H) .u8 (zs.take len)).length = len := by simp [lits]; omega
    rw [hl2] at this
    omega

end
end Go.Proofs.YtpfpnlhihnfahaaDoor.layRow
