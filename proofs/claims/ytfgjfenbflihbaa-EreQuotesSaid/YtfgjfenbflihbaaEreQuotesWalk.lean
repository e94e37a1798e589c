/- The law EreQuotes: what is quoted is parsed as the row of its bytes. -/
import Derived.Test.YtfgjfenbflihbaaEreQuoteP
import Derived.Test.YtfgjfenbflihbaaEreCount2
namespace Go.Proofs.Ytfgjfenbflihbaa.ere
open Go.RowKit Go.Proofs.Ytfgjfenbflihbaa.sum Go.Proofs.Ytfgjfenbflihbaa.kept Go.Proofs.Ytfgjfenbflihbaa.pop Go.Proofs.Ytfgjfenbflihbaa.cls Go.Proofs.Ytfgjfenbflihbaa.tre Go.Proofs.Ytfgjfenbflihbaa.str
set_option linter.unusedVariables false

theorem q_parse' (l : List UInt8) (hl : l.length ≤ 400) : parseS (quoteS l) (fun _ => none) (8 * (quoteS l).length + 8) = (joinT 2 (setsFrom l), 0, 0) := by
  by_cases h : l = []
  · subst h; rfl
  · exact q_parse l _ h hl
/-- Parse of what is quoted -/
theorem parse_q (w : World) (l : List UInt8) (hl : l.length ≤ 200) :
    Calls Try.prog 10 #[.string (st (quoteS l))] w fun e w' => ∃ xk xf xl xa xc, e = .returned (.tuple #[.agg (cellsR xk xf xa (List.length xl) xc), .int .i64 0, .int .i64 0]) ∧ joinT 2 (setsFrom l) = .mk xk xf xl ∧ ReV All w' (.mk xk xf xl) (.agg (cellsR xk xf xa xl.length xc)) ∧ Kp No w w' := by
  have h := parse_any w (quoteS l) (fun _ => none) (by rw [quote_len]; omega) (fun q => brkt_plain (q_no l 91 (by decide) (by decide))) (fun q => sign_plain (by rw [quote_len]; omega) (q_no l 123 (by decide) (by decide)))
  rw [q_parse' l (by omega)] at h
  refine h.mono ?_
  rintro e w' ⟨v, rfl, hv, hk⟩
  simp only at hv
  rcases ht : joinT 2 (setsFrom l) with ⟨K, F, L⟩
  rw [ht] at hv
  obtain ⟨a, c, rfl, h1, h2, h3⟩ := hv
  exact ⟨K, F, L, a, c, rfl, rfl, ReV.wider (fun _ _ _ => trivial) _ _ ⟨a, c, rfl, h1, h2, h3⟩, hk⟩
/-- at the loop's head: what is left of the row -/
def QsRel (W0 : World) (b : Nat) (l : List UInt8) (i : Value) (wr : World) : Prop :=
  ∃ (j : Nat) (xk : Int) (xf : Nat → Bool) (xl : List Tr) (xa : Option Addr) (xc : Nat), i = .int .i64 (j : Int) ∧ j ≤ l.length ∧ RAt wr b (.int .i64 xk) (.int .u64 (wd xf 0 64 : Nat)) (.int .u64 (wd xf 64 64 : Nat)) (.int .u64 (wd xf 128 64 : Nat)) (.int .u64 (wd xf 192 64 : Nat)) (.slice xa xl.length xc) ∧ ReV (fun z => z < b) wr (.mk xk xf xl) (.agg (cellsR xk xf xa xl.length xc)) ∧ (j < l.length → joinT 2 (setsFrom (l.drop j)) = .mk xk xf xl) ∧ (l = [] → xk = 0) ∧ Kp (fun z => z = b) W0 wr

set_option maxRecDepth 100000 in
set_option maxHeartbeats 8000000 in
theorem quotes_any (w : World) (s : ByteArray) (hs : s.size ≤ 9223372036854775807) : Calls Try.prog 9 #[.string s] w fun e w' => e = .returned (.bool true) ∧ Kp No w w' := by
  obtain ⟨l0, rfl⟩ : ∃ l, s = st l := ⟨s.data.toList, (st_of s).symm⟩
  have hsz := st_size l0
  rw [hsz] at hs
  obtain ⟨m, hm⟩ : ∃ m, min l0.length 200 = m := ⟨_, rfl⟩
  have hmn : min (l0.length : Int) 200 = (m : Int) := by omega
  have hm0 : (0 : Int) ≤ (m : Int) := Int.natCast_nonneg _
  have hml : (m : Int) ≤ (l0.length : Int) := by omega
  have hml2 : m ≤ l0.length := by omega
  have hx : (st l0).extract 0 m = st (l0.take m) := by rw [st_piece]; simp
  obtain ⟨l, hl⟩ : ∃ l, l0.take m = l := ⟨_, rfl⟩
  have hll : l.length = m := by rw [← hl, List.length_take]; omega
  rw [hl] at hx
  have HM := Hid_mk (show m ≤ 200 by omega)
  have HLl := Hid_mk hll
  have HQ := Hid_mk fun W => quote_any W l (by omega)
  have HP := Hid_mk fun W => parse_q W l (by omega)
  have HKn := Hid_mk fun W => known9_any W
  clear hl hm hll
  unfold cellsR at HP
  go_enter Try.func9, Try.ntmps9
  go_wp2_with fail
  with_reducible refine (HQ.out _).mono ?_
  rintro e w1 ⟨rfl, hk1⟩
  have HK1 := Hid_mk hk1
  clear hk1 HQ hx hmn hml hml2 hsz hs
  have hsl : (st l).size = m := by rw [st_size]; exact HLl.out
  have hsq : (st (quoteS l)).size = 4 * m := by rw [st_size, quote_len, HLl.out]
  have hw4 : IntKind.i64.wrap (4 * (m : Int)) = 4 * (m : Int) := IntWalk.i64_in _ (by have := HM.out; omega)
  go_wp2_with fail
  with_reducible refine (HP.out _).mono ?_
  rintro e w2 ⟨xk, xf, xl, xa, xc, rfl, hxt, hxv, hk2⟩
  clear HP
  go_upto_region 4 with fail
  obtain ⟨b, hb⟩ : ∃ b, w2.heap.size = b := ⟨_, rfl⟩
  rw [hb]
  have hka : Kp No w2 (w2.alloc (.cells (cellsR xk xf xa xl.length xc) 27)) := (Kp.refl No w2).alloc _
  have hra : RAt (w2.alloc (.cells (cellsR xk xf xa xl.length xc) 27)) b (.int .i64 xk) (.int .u64 (wd xf 0 64 : Nat)) (.int .u64 (wd xf 64 64 : Nat)) (.int .u64 (wd xf 128 64 : Nat)) (.int .u64 (wd xf 192 64 : Nat)) (.slice xa xl.length xc) := by
    rw [← hb]
    exact RAt.new _ _ _ _ _ _ _ _
  refine wp_name (fun W => Kp No w W ∧ RAt W b (.int .i64 xk) (.int .u64 (wd xf 0 64 : Nat)) (.int .u64 (wd xf 64 64 : Nat)) (.int .u64 (wd xf 128 64 : Nat)) (.int .u64 (wd xf 192 64 : Nat)) (.slice xa xl.length xc) ∧ ReV (fun z => z < b) W (.mk xk xf xl) (.agg (cellsR xk xf xa xl.length xc)) ∧ w.heap.size ≤ b ∧ b < W.heap.size) ⟨HK1.out.trans' (hk2.trans' hka), hra, ReV.no hka _ _ (ReV.wider (fun z _ hz => by show z < b; omega) _ _ hxv), by have := HK1.out.size; have := hk2.size; omega, hra.lt⟩ ?_
  clear hka hra hb hxv hk2 HK1
  rintro W3 ⟨hk3, hr3, hv3, hwb, hbW⟩
  have HK3 := Hid_mk hk3
  have HR3 := Hid_mk hr3
  have HV3 := Hid_mk hv3
  have HWb := Hid_mk hwb
  have HXt := Hid_mk hxt
  have HBW := Hid_mk hbW
  clear hk3 hr3 hv3 hwb hxt hbW
  go_wp2_with fail
  with_reducible refine (HKn.out _).mono ?_
  rintro e w4 ⟨rfl, hk4⟩
  have HK4 := Hid_mk hk4
  clear hk4 HKn
  go_wp2_with fail
  go_loopw [7] (fun i wr => QsRel w4 b l i wr) (fun i _ => l.length - (intOf i).toNat)
  case atStart =>
    refine ⟨0, xk, xf, xl, xa, xc, rfl, Nat.zero_le _, HR3.out.kept HK4.out id, ReV.no HK4.out _ _ HV3.out, fun _ => by rw [List.drop_zero]; exact HXt.out, fun h => ?_, Kp.refl _ _⟩
    have h1 := HXt.out
    rw [h] at h1
    simp only [setsFrom, List.map_nil, joinT, leafT, Tr.mk.injEq] at h1
    exact h1.1.symm
  case round =>
    obtain ⟨j, xk, xf, xl, xa, xc, rfl, hj, hrb, hv, htr, hnil, hkp⟩ := hrel
    have HRb := Hid_mk hrb
    have HV := Hid_mk hv
    have HTr := Hid_mk htr
    have HNil := Hid_mk hnil
    have HKp := Hid_mk hkp
    have hj0 : (0 : Int) ≤ (j : Int) := Int.natCast_nonneg _
    have hjm : j ≤ m := by rw [← HLl.out]; exact hj
    clear hv htr hnil hkp
    by_cases hlt : j < m
    · have hji : (j : Int) < (m : Int) := by omega
      have hlt2 : j < l.length := by rw [HLl.out]; exact hlt
      have hg := fun h => st_get l j h
      obtain ⟨x, hx⟩ : ∃ x, (l.getD j 0).toNat = x := ⟨_, rfl⟩
      have hx256 : x < 256 := by rw [← hx]; exact (l.getD j 0).toNat_lt
      rw [hx] at hg
      have HX := Hid_mk hx
      have HJl := Hid_mk (show j + 1 ≤ l.length from hlt2)
      have hwi : IntKind.i64.wrap ((j : Int) + 1) = (j : Int) + 1 := IntWalk.i64_in _ (by have := HM.out; omega)
      have hwm : IntKind.i64.wrap ((m : Int) - 1) = (m : Int) - 1 := IntWalk.i64_in _ (by have := HM.out; omega)
      have htr := HTr.out hlt2
      have hdr : l.drop j = l.getD j 0 :: l.drop (j + 1) := by
        rw [List.drop_eq_getElem_cons hlt2]
        simp [List.getD, hlt2]
      rw [hdr] at htr
      have HTr2 := Hid_mk htr
      obtain ⟨c0, c1, c2, c3, c4, c5, cw⟩ := hrb
      clear htr hdr hx hlt hj HTr
      go_upto_region 10 with fail
      obtain ⟨g, hgg⟩ : ∃ g, wr.heap.size = g := ⟨_, rfl⟩
      rw [hgg]
      have hka : Kp No wr (wr.alloc (.cells (cellsR xk xf xa xl.length xc) 27)) := (Kp.refl No wr).alloc _
      have hrg : RAt (wr.alloc (.cells (cellsR xk xf xa xl.length xc) 27)) g (.int .i64 xk) (.int .u64 (wd xf 0 64 : Nat)) (.int .u64 (wd xf 64 64 : Nat)) (.int .u64 (wd xf 128 64 : Nat)) (.int .u64 (wd xf 192 64 : Nat)) (.slice xa xl.length xc) := by
        rw [← hgg]
        exact RAt.new _ _ _ _ _ _ _ _
      have hbg : b < g := by rw [← hgg]; exact HRb.out.lt
      have HGw := Hid_mk (show w4.heap.size ≤ g by have := HKp.out.size; omega)
      refine wp_name (fun W => Kp No wr W ∧ RAt W g (.int .i64 xk) (.int .u64 (wd xf 0 64 : Nat)) (.int .u64 (wd xf 64 64 : Nat)) (.int .u64 (wd xf 128 64 : Nat)) (.int .u64 (wd xf 192 64 : Nat)) (.slice xa xl.length xc)) ⟨hka, hrg⟩ ?_
      clear hka hrg hgg c0 c1 c2 c3 c4 c5 cw
      rintro W5 ⟨hk5, hg5⟩
      have HK5 := Hid_mk hk5
      have HG5 := Hid_mk hg5
      have HB5 := Hid_mk (HRb.out.kept hk5 id)
      have HV5 := Hid_mk (ReV.no hk5 _ _ HV.out)
      have HBg := Hid_mk hbg
      clear hk5 hg5 hbg
      by_cases h1 : j + 1 < m
      · have h1i : (j : Int) < (m : Int) - 1 := by omega
        have h12 : j + 1 < l.length := by rw [HLl.out]; exact h1
        have hdr2 : l.drop (j + 1) = l.getD (j + 1) 0 :: l.drop (j + 2) := by
          rw [List.drop_eq_getElem_cons h12]
          simp [List.getD, h12]
        have ht2 := HTr2.out
        rw [hdr2] at ht2
        have ht3 : kid2 2 (setT (ofL [l.getD j 0])) (joinT 2 (setsFrom (l.drop (j + 1)))) = .mk xk xf xl := by rw [hdr2]; exact ht2
        unfold kid2 at ht3
        simp only [Tr.mk.injEq] at ht3
        obtain ⟨rfl, rfl, rfl⟩ := ht3
        simp only [List.length_cons, List.length_nil, Nat.zero_add] at HG5 HB5
        obtain ⟨o1, p1, k1, f1, l1, a1, c1', e1, hk1, i0, i1, i2, i3, i4, i5, hv1⟩ := kid_at HV5.out 0 (by simp)
        obtain ⟨o2, p2, yk, yf, yl, ya, yc, e2, hk2, j0, j1, j2, j3, j4, j5, hv2⟩ := kid_at HV5.out 1 (by simp)
        rw [e1] at e2
        simp only [Option.some.injEq, Addr.mk.injEq, and_true] at e2
        obtain ⟨rfl, rfl⟩ := e2
        subst e1
        simp only [List.getElem_cons_zero] at hk1
        simp only [List.getElem_cons_succ, List.getElem_cons_zero] at hk2
        simp only [Nat.zero_mul, Nat.add_zero] at i0 i1 i2 i3 i4 i5
        simp only [Nat.one_mul] at j0 j1 j2 j3 j4 j5
        have hob : o1 < b := by
          obtain ⟨_, _, e, _, _, hh⟩ := HV5.out
          obtain ⟨b', o', e', hT, -⟩ := hh (by simp)
          simp only [Value.agg.injEq, Array.mk.injEq, List.cons.injEq, and_true, Value.slice.injEq, true_and] at e
          rw [← e.1] at e'
          simp only [Option.some.injEq, Addr.mk.injEq, and_true] at e'
          rw [e'.1]
          exact hT.1
        have HV1 := Hid_mk hv1
        have HV2 := Hid_mk hv2
        have HOb := Hid_mk hob
        have HK1' := Hid_mk hk1
        have HK2' := Hid_mk hk2
        have J0 := Hid_mk (⟨j0, j1, j2, j3, j4, j5⟩ : _ ∧ _ ∧ _ ∧ _ ∧ _ ∧ _)
        obtain ⟨c0, c1, c2, c3, c4, c5, cw⟩ := id HB5.out
        obtain ⟨d0, d1, d2, d3, d4, d5, dw⟩ := id HG5.out
        clear hv1 hv2 hob hk1 hk2 j0 j1 j2 j3 j4 j5 ht2 hdr2 h1 h12 HTr2
        go_upto_region 14 with fail
        have hks : Kp (fun z => z = g) W5 (ere.putT W5 g (.int .i64 k1) (.int .u64 (wd f1 0 64 : Nat)) (.int .u64 (wd f1 64 64 : Nat)) (.int .u64 (wd f1 128 64 : Nat)) (.int .u64 (wd f1 192 64 : Nat)) (.slice a1 l1.length c1')) := kp_putT (q := g) (Kp.refl (fun z => z = g) _) (fun _ => rfl) _ _ _ _ _ _
        have hpg := HG5.out.put (.int .i64 k1) (.int .u64 (wd f1 0 64 : Nat)) (.int .u64 (wd f1 64 64 : Nat)) (.int .u64 (wd f1 128 64 : Nat)) (.int .u64 (wd f1 192 64 : Nat)) (.slice a1 l1.length c1')
        refine wp_name (fun W => Kp (fun z => z = g) W5 W ∧ RAt W g (.int .i64 k1) (.int .u64 (wd f1 0 64 : Nat)) (.int .u64 (wd f1 64 64 : Nat)) (.int .u64 (wd f1 128 64 : Nat)) (.int .u64 (wd f1 192 64 : Nat)) (.slice a1 l1.length c1')) ⟨hks, hpg⟩ ?_
        clear hks hpg c0 c1 c2 c3 c4 c5 cw d0 d1 d2 d3 d4 d5 dw i0 i1 i2 i3 i4 i5
        rintro W7 ⟨hk7, hg7⟩
        have HK7 := Hid_mk hk7
        have HG7 := Hid_mk hg7
        have hbng : ¬ b = g := by have := HBg.out; omega
        have hong : ¬ o1 = g := by have := HBg.out; have := HOb.out; omega
        have hb7 := HB5.out.kept hk7 hbng
        have HB7 := Hid_mk hb7
        obtain ⟨j0, j1, j2, j3, j4, j5⟩ := J0.out
        replace j0 := hk7.cell' j0 hong
        replace j1 := hk7.cell' j1 hong
        replace j2 := hk7.cell' j2 hong
        replace j3 := hk7.cell' j3 hong
        replace j4 := hk7.cell' j4 hong
        replace j5 := hk7.cell' j5 hong
        obtain ⟨c0, c1, c2, c3, c4, c5, cw⟩ := hb7
        clear hk7 hg7 hong J0
        go_upto_region 15 with fail
        have hks : Kp (fun z => z = b) W7 (ere.putT W7 b (.int .i64 yk) (.int .u64 (wd yf 0 64 : Nat)) (.int .u64 (wd yf 64 64 : Nat)) (.int .u64 (wd yf 128 64 : Nat)) (.int .u64 (wd yf 192 64 : Nat)) (.slice ya yl.length yc)) := kp_putT (q := b) (Kp.refl (fun z => z = b) _) (fun _ => rfl) _ _ _ _ _ _
        have hpb := HB7.out.put (.int .i64 yk) (.int .u64 (wd yf 0 64 : Nat)) (.int .u64 (wd yf 64 64 : Nat)) (.int .u64 (wd yf 128 64 : Nat)) (.int .u64 (wd yf 192 64 : Nat)) (.slice ya yl.length yc)
        refine wp_name (fun W => Kp (fun z => z = b) W7 W ∧ RAt W b (.int .i64 yk) (.int .u64 (wd yf 0 64 : Nat)) (.int .u64 (wd yf 64 64 : Nat)) (.int .u64 (wd yf 128 64 : Nat)) (.int .u64 (wd yf 192 64 : Nat)) (.slice ya yl.length yc)) ⟨hks, hpb⟩ ?_
        clear hks hpb c0 c1 c2 c3 c4 c5 cw j0 j1 j2 j3 j4 j5
        rintro W6 ⟨hk6, hb6⟩
        have HK6 := Hid_mk hk6
        have HB6 := Hid_mk hb6
        obtain ⟨zk, zf, zl, za, zc, hz⟩ : ∃ (zk : Int) (zf : Nat → Bool) (zl : List Tr) (za : Option Addr) (zc : Nat), zk = k1 ∧ zf = f1 ∧ zl = l1 ∧ za = a1 ∧ zc = c1' := ⟨_, _, _, _, _, rfl, rfl, rfl, rfl, rfl⟩
        obtain ⟨rfl, rfl, rfl, rfl, rfl⟩ := hz
        have HG6 := Hid_mk (HG7.out.kept hk6 (by show ¬ g = b; omega))
        have hkp2 : ∀ (t : Tr) (v : Value), ReV (fun z => z < b) W5 t v → ReV (fun z => z < b) W6 t v := fun t v h => ReV.kept HK6.out (fun z hz _ => by have hz : z < b := hz; show ¬ z = b; omega) _ _ (ReV.kept HK7.out (fun z hz _ => by have hz : z < b := hz; have := HBg.out; show ¬ z = g; omega) _ _ h)
        have HO6 := Hid_mk (show ReV (fun z => z < b) W6 (setT (ofL [l.getD j 0])) (.agg (cellsR zk zf za zl.length zc)) from by rw [HK1'.out]; exact hkp2 _ _ HV1.out)
        have HT6 := Hid_mk (hkp2 _ _ HV2.out)
        have hgw : w4.heap.size ≤ g := HGw.out
        have HKK := Hid_mk (((HKp.out.trans HK5.out (T := No) fun _ _ e => e.elim).trans HK7.out (T := fun z => z = g) fun i hi e => by have e : i = g := e; omega).trans HK6.out fun _ _ e => e)
        have HNx : Hid (j + 1 < l.length → joinT 2 (setsFrom (l.drop (j + 1))) = .mk yk yf yl) := Hid_mk fun _ => HK2'.out
        clear hk6 hb6 hkp2 hbng hgw
        have hS0 : (fun V : World => V.cell? ⟨g, 0, none⟩ = some (.int .i64 zk) ∧ V.cell? ⟨g, 1, none⟩ = some (.int .u64 (wd zf 0 64 : Nat)) ∧ V.cell? ⟨g, 2, none⟩ = some (.int .u64 (wd zf 64 64 : Nat)) ∧ V.cell? ⟨g, 3, none⟩ = some (.int .u64 (wd zf 128 64 : Nat)) ∧ V.cell? ⟨g, 4, none⟩ = some (.int .u64 (wd zf 192 64 : Nat)) ∧ V.cell? ⟨g, 5, none⟩ = some (.slice za (List.length zl) zc)) W6 := ⟨HG6.out.c0, HG6.out.c1, HG6.out.c2, HG6.out.c3, HG6.out.c4, HG6.out.c5⟩
        have hSk : ∀ V, Kp No W6 V → (fun V : World => V.cell? ⟨g, 0, none⟩ = some (.int .i64 zk) ∧ V.cell? ⟨g, 1, none⟩ = some (.int .u64 (wd zf 0 64 : Nat)) ∧ V.cell? ⟨g, 2, none⟩ = some (.int .u64 (wd zf 64 64 : Nat)) ∧ V.cell? ⟨g, 3, none⟩ = some (.int .u64 (wd zf 128 64 : Nat)) ∧ V.cell? ⟨g, 4, none⟩ = some (.int .u64 (wd zf 192 64 : Nat)) ∧ V.cell? ⟨g, 5, none⟩ = some (.slice za (List.length zl) zc)) V := fun V hk => ⟨hk.cell' hS0.1 id, hk.cell' hS0.2.1 id, hk.cell' hS0.2.2.1 id, hk.cell' hS0.2.2.2.1 id, hk.cell' hS0.2.2.2.2.1 id, hk.cell' hS0.2.2.2.2.2 id⟩
        have HSk := Hid_mk hSk
        have hon := fun V (hk : Kp No W6 V) => one_val V x hx256
        have hsm := fun V (hk : Kp No W6 V) => same_v V (setT (ofL [l.getD j 0])) (oneT x) _ _ (ReV.wider (T' := All) (fun _ _ _ => trivial) _ _ (ReV.no hk _ _ HO6.out)) (leaf_val All V 1 (oneS x) 0 (by decide) none) (by have := same_one (l.getD j 0); rw [HX.out] at this; exact this)
        unfold cellsR at hon hsm
        have HOn := Hid_mk hon
        have HSm := Hid_mk hsm
        have HC := Hid_mk (Kp.refl No W6).drew
        have hS := HSk.out _ HC.out
        clear hS0 hSk hon hsm
        go_wp2
        go_region_held3 (fun V : World => V.cell? ⟨g, 0, none⟩ = some (.int .i64 zk) ∧ V.cell? ⟨g, 1, none⟩ = some (.int .u64 (wd zf 0 64 : Nat)) ∧ V.cell? ⟨g, 2, none⟩ = some (.int .u64 (wd zf 64 64 : Nat)) ∧ V.cell? ⟨g, 3, none⟩ = some (.int .u64 (wd zf 128 64 : Nat)) ∧ V.cell? ⟨g, 4, none⟩ = some (.int .u64 (wd zf 192 64 : Nat)) ∧ V.cell? ⟨g, 5, none⟩ = some (.slice za (List.length zl) zc))
          (first | exact hS | (dsimp only; exact hS))
          (first
            | (go_at_call 11; with_reducible refine (HOn.out _ HC.out).mono ?_; rintro e w9 ⟨rfl, hv9, hk9⟩; clear hv9; replace HC := Hid_mk (HC.out.trans' hk9); replace hS := HSk.out _ HC.out; clear hk9)
            | (go_at_call 13; with_reducible refine (HSm.out _ HC.out).mono ?_; rintro e w9 ⟨rfl, hk9⟩; replace HC := Hid_mk (HC.out.trans' hk9); replace hS := HSk.out _ HC.out; clear hk9))
        all_goals
          go_wp2
          go_roundw
          case rel => exact ⟨j + 1, yk, yf, yl, ya, yc, by push_cast; rfl, HJl.out, HB6.out.kept HC.out id, ReV.no HC.out _ _ HT6.out, HNx.out, fun h => by have := HJl.out; rw [h] at this; simp at this, HKK.out.trans HC.out (T := No) fun _ _ e => e.elim⟩
          case measure => have := HJl.out; simp only [intOf]; omega
      · have h1i : ¬ (j : Int) < (m : Int) - 1 := by omega
        have hend : j + 1 = l.length := by rw [HLl.out]; omega
        have ht2 := HTr2.out
        rw [hend, List.drop_length] at ht2
        have ht3 : setT (ofL [l.getD j 0]) = .mk xk xf xl := ht2
        obtain ⟨W6, zk, zf, zl, za, zc, hz⟩ : ∃ W6, ∃ (zk : Int) (zf : Nat → Bool) (zl : List Tr) (za : Option Addr) (zc : Nat), W6 = W5 ∧ zk = xk ∧ zf = xf ∧ zl = xl ∧ za = xa ∧ zc = xc := ⟨_, _, _, _, _, _, rfl, rfl, rfl, rfl, rfl, rfl⟩
        obtain ⟨rfl, rfl, rfl, rfl, rfl, rfl⟩ := hz
        have HG6 := HG5
        have HB6 := HB5
        have HT6 := HV5
        have HO6 := Hid_mk (show ReV (fun z => z < b) W6 (setT (ofL [l.getD j 0])) (.agg (cellsR zk zf za zl.length zc)) from by rw [ht3]; exact HV5.out)
        have HKK := Hid_mk (HKp.out.trans HK5.out (T := No) fun _ _ e => e.elim)
        have HNx : Hid (j + 1 < l.length → joinT 2 (setsFrom (l.drop (j + 1))) = .mk zk zf zl) := Hid_mk fun h => absurd h (by omega)
        clear ht2 ht3 hend h1
        have hS0 : (fun V : World => V.cell? ⟨g, 0, none⟩ = some (.int .i64 zk) ∧ V.cell? ⟨g, 1, none⟩ = some (.int .u64 (wd zf 0 64 : Nat)) ∧ V.cell? ⟨g, 2, none⟩ = some (.int .u64 (wd zf 64 64 : Nat)) ∧ V.cell? ⟨g, 3, none⟩ = some (.int .u64 (wd zf 128 64 : Nat)) ∧ V.cell? ⟨g, 4, none⟩ = some (.int .u64 (wd zf 192 64 : Nat)) ∧ V.cell? ⟨g, 5, none⟩ = some (.slice za (List.length zl) zc)) W6 := ⟨HG6.out.c0, HG6.out.c1, HG6.out.c2, HG6.out.c3, HG6.out.c4, HG6.out.c5⟩
        have hSk : ∀ V, Kp No W6 V → (fun V : World => V.cell? ⟨g, 0, none⟩ = some (.int .i64 zk) ∧ V.cell? ⟨g, 1, none⟩ = some (.int .u64 (wd zf 0 64 : Nat)) ∧ V.cell? ⟨g, 2, none⟩ = some (.int .u64 (wd zf 64 64 : Nat)) ∧ V.cell? ⟨g, 3, none⟩ = some (.int .u64 (wd zf 128 64 : Nat)) ∧ V.cell? ⟨g, 4, none⟩ = some (.int .u64 (wd zf 192 64 : Nat)) ∧ V.cell? ⟨g, 5, none⟩ = some (.slice za (List.length zl) zc)) V := fun V hk => ⟨hk.cell' hS0.1 id, hk.cell' hS0.2.1 id, hk.cell' hS0.2.2.1 id, hk.cell' hS0.2.2.2.1 id, hk.cell' hS0.2.2.2.2.1 id, hk.cell' hS0.2.2.2.2.2 id⟩
        have HSk := Hid_mk hSk
        have hon := fun V (hk : Kp No W6 V) => one_val V x hx256
        have hsm := fun V (hk : Kp No W6 V) => same_v V (setT (ofL [l.getD j 0])) (oneT x) _ _ (ReV.wider (T' := All) (fun _ _ _ => trivial) _ _ (ReV.no hk _ _ HO6.out)) (leaf_val All V 1 (oneS x) 0 (by decide) none) (by have := same_one (l.getD j 0); rw [HX.out] at this; exact this)
        unfold cellsR at hon hsm
        have HOn := Hid_mk hon
        have HSm := Hid_mk hsm
        have HC := Hid_mk (Kp.refl No W6).drew
        have hS := HSk.out _ HC.out
        clear hS0 hSk hon hsm
        go_wp2
        go_region_held3 (fun V : World => V.cell? ⟨g, 0, none⟩ = some (.int .i64 zk) ∧ V.cell? ⟨g, 1, none⟩ = some (.int .u64 (wd zf 0 64 : Nat)) ∧ V.cell? ⟨g, 2, none⟩ = some (.int .u64 (wd zf 64 64 : Nat)) ∧ V.cell? ⟨g, 3, none⟩ = some (.int .u64 (wd zf 128 64 : Nat)) ∧ V.cell? ⟨g, 4, none⟩ = some (.int .u64 (wd zf 192 64 : Nat)) ∧ V.cell? ⟨g, 5, none⟩ = some (.slice za (List.length zl) zc))
          (first | exact hS | (dsimp only; exact hS))
          (first
            | (go_at_call 11; with_reducible refine (HOn.out _ HC.out).mono ?_; rintro e w9 ⟨rfl, hv9, hk9⟩; clear hv9; replace HC := Hid_mk (HC.out.trans' hk9); replace hS := HSk.out _ HC.out; clear hk9)
            | (go_at_call 13; with_reducible refine (HSm.out _ HC.out).mono ?_; rintro e w9 ⟨rfl, hk9⟩; replace HC := Hid_mk (HC.out.trans' hk9); replace hS := HSk.out _ HC.out; clear hk9))
        all_goals
          go_wp2
          go_roundw
          case rel => exact ⟨j + 1, zk, zf, zl, za, zc, by push_cast; rfl, HJl.out, HB6.out.kept HC.out id, ReV.no HC.out _ _ HT6.out, HNx.out, fun h => by have := HJl.out; rw [h] at this; simp at this, HKK.out.trans HC.out (T := No) fun _ _ e => e.elim⟩
          case measure => have := HJl.out; simp only [intOf]; omega
    · obtain rfl : j = m := by omega
      have hji : ¬ ((j : Nat) : Int) < (j : Int) := by omega
      clear hlt
      have HKf := Hid_mk ((HK3.out.trans' HK4.out).trans HKp.out (T := fun z => z = b) fun i hi e => by have e : i = b := e; have := HWb.out; omega)
      have hst := st_list l
      obtain ⟨c0, c1, c2, c3, c4, c5, cw⟩ := hrb
      by_cases hn : l = []
      · have hxk := HNil.out hn
        have hn1 : (l == []) = true := by rw [hn]; rfl
        have hn2 : (l != []) = false := by rw [hn]; rfl
        subst hxk
        rw [hn] at hst
        clear hj hjm
        go_wp2
        go_ret
        exact ⟨by first | rfl | simp, HKf.out⟩
      · have hn1 : (l == []) = false := by cases l with
          | nil => exact absurd rfl hn
          | cons a l => rfl
        have hn2 : (l != []) = true := by cases l with
          | nil => exact absurd rfl hn
          | cons a l => rfl
        clear hj hjm
        go_wp2
        go_ret
        exact ⟨by first | rfl | simp, HKf.out⟩

end Go.Proofs.Ytfgjfenbflihbaa.ere
