/- The project's Names of both disks' state. SnapAny: the law's walk. -/
import Derived.Test.YtmehneicdklfeaaGreatSnapOpenM
import Derived.Test.YtmehneicdklfeaaGreatIterM
import Derived.Deep.DeepAppendWide

namespace Go.Proofs.YtmehneicdklfeaaGreat.pair
open Go.RowKit Go.Maps Go.Sort Go.Proofs.YtmehneicdklfeaaGreat.sum Go.Proofs.YtmehneicdklfeaaGreat.kept Go.Proofs.YtmehneicdklfeaaGreat.app Go.Proofs.YtmehneicdklfeaaGreat.writer Go.Proofs.YtmehneicdklfeaaGreat.clone Go.Proofs.YtmehneicdklfeaaGreat.known Go.Proofs.YtmehneicdklfeaaGreat.fs Go.Proofs.YtmehneicdklfeaaGreat.fsDo Go.Proofs.YtmehneicdklfeaaGreat.unseal Go.Proofs.YtmehneicdklfeaaGreat.dsk Go.Proofs.YtmehneicdklfeaaGreat.r2 Go.Proofs.YtmehneicdklfeaaGreat.pair
set_option linter.unusedVariables false

section
variable {w : World} {base p r M : Nat} {ρ : Nat → Role} {d : DSt}
theorem Both.names1 (h : Both w base p ρ d r M) (hM : M ≤ 1000) (hd : d.down = false) :
    Calls Tryz.prog 37 #[.pointer (some ⟨p, 0, none⟩)] w fun e w' => ∃ v, e = .returned v ∧ SRow w' w.heap.size v (nmsOf d) ∧ Kp No w w' := by
  have hf := h.few hM
  refine (names_up w base p ρ d h.dk hd (by omega)).mono ?_
  rintro e w' ⟨v, he, ho, hk⟩
  refine ⟨v, he, ?_, hk⟩
  unfold SRow
  rw [nms_len]
  have e2 : (nmsOf d).map Value.string = (namesOf d.now).map encStr := by
    unfold nmsOf
    rw [List.map_map]
    rfl
  rw [e2]
  exact ho
end

end Go.Proofs.YtmehneicdklfeaaGreat.pair

namespace Go.Proofs.YtmehneicdklfeaaGreat.snp
open Go.RowKit Go.Maps Go.Proofs.YtmehneicdklfeaaGreat.sum Go.Proofs.YtmehneicdklfeaaGreat.kept Go.Proofs.YtmehneicdklfeaaGreat.app Go.Proofs.YtmehneicdklfeaaGreat.writer Go.Proofs.YtmehneicdklfeaaGreat.clone Go.Proofs.YtmehneicdklfeaaGreat.known Go.Proofs.YtmehneicdklfeaaGreat.fs Go.Proofs.YtmehneicdklfeaaGreat.fsDo Go.Proofs.YtmehneicdklfeaaGreat.unseal Go.Proofs.YtmehneicdklfeaaGreat.dsk Go.Proofs.YtmehneicdklfeaaGreat.r2 Go.Proofs.YtmehneicdklfeaaGreat.pair Go.Proofs.YtmehneicdklfeaaGreat.frm Go.Proofs.YtmehneicdklfeaaGreat.plays
set_option linter.unusedVariables false

/-- append of many bytes onto a row of the call's own -/
theorem wpList_append_wide (w : World) {ops : Array Oper} {rest : List Oper} {o : Oper} {a : Act} {Q : Exit → Act → World → Prop} (hgd : o.guard = none) (s x : Operand)
    (ho : o.op = .call { callee := .builtin .append, args := #[s, x], argTypes := #[29, 29] })
    (base : Nat) (v : Value) (bs : List UInt8) (hs : a.eval s = v) (hown : w.ownsRow base 5 1 v bs.length (bs.map B)) (xv : Value) (cs : List UInt8) (hx : a.eval x = xv) (hxs : Bs w xv cs)
    (hb : bs.length + cs.length ≤ 200000000000000) (hbase : base ≤ w.heap.size)
    (h : ∀ v' w', w'.ownsRow base 5 1 v' (bs ++ cs).length ((bs ++ cs).map B) → w.grownBy w' v.ownBlock → wpList Tryz.prog ops Q rest (a.put o.dst v') w') :
    wpList Tryz.prog ops Q (o :: rest) a w := by
  obtain ⟨i0, hi, hz0, hz1, hz2⟩ := info_parts info5
  obtain ⟨ad, cap, rfl, h1, h2, h3⟩ := hxs
  refine wpList_plain hgd fun K hK => ?_
  have key : ∃ v' w', (Builtin.append_ #[29, 29] o.type #[v, .slice ad cs.length cap]).run Tryz.prog w = .ok v' w' ∧ w'.ownsRow base 5 1 v' (bs ++ cs).length ((bs ++ cs).map B) ∧ w.grownBy w' v.ownBlock := by
    by_cases hcs : cs = []
    · subst hcs
      exact ⟨v, w, run_append_zero w o.type v base _ _ hown ad cap, by simpa using hown, World.grownBy.refl _ _⟩
    · obtain ⟨b, o', rfl, hc⟩ := h3 hcs
      have hmx : bs.length + cs.length ≤ maxLen := by unfold maxLen; omega
      obtain ⟨v', w', hr, k1, k2, k3⟩ := run_append_own_wide (P := Tryz.prog) w base 29 o.type 5 i0 (.int .u8 0) 1 1 Tryz.underlying29 hi hz0 hz1 hz2 rfl (by decide) v bs.length _ hown ⟨b, o', none⟩ cs.length cap (cs.map B)
        (by simp) (fun j u hu => by
          rw [addr_add]
          have hj : j < cs.length := by simpa using (List.getElem?_eq_some_iff.1 hu).1
          rw [hc j hj]
          simpa [List.getD, hj] using hu) (fun u hu => by obtain ⟨_, _, rfl⟩ := List.mem_map.1 hu; rfl) hmx (by omega) hbase
      exact ⟨v', w', hr, by simpa using k1, k2⟩
  obtain ⟨v', w', hr, k1, k2⟩ := key
  unfold Oper.wp execOp
  simp only [ho, resolve, invoke, builtin, Sem.run_bind, Sem.run_pure, Result.andThen_ok, List.map_toArray, List.map_cons, List.map_nil, hs, hx, hr]
  exact hK _ _ (h v' w' k1 k2)

theorem made_row (w : World) (x : Value) (xs : List UInt8) : FRow (w.alloc (.cells #[.string snapN, x] 45)) w.heap.size (.slice (some ⟨w.heap.size, 0, none⟩) 1 1) [(snapN, x, xs)] :=
  ⟨rfl, .inr ⟨w.heap.size, 1, _, rfl, Nat.le_refl _, heap_alloc_new w _, Nat.le_refl _, by decide, rfl, rfl⟩⟩

set_option maxRecDepth 100000 in
set_option maxHeartbeats 8000000 in
theorem snapAny_any (w : World) (vb vm : Value) (bs ms : List UInt8) (fr : Int) (ot : Bool) (hb : Bs w vb bs) (hm : Bs w vm ms) (lb : bs.length ≤ 140737488351232) :
    Calls Tryz.prog 4 #[vb, vm, .int .i64 fr, .bool ot] w fun e w' => e = .returned (.bool true) ∧ Kp No w w' := by
  have HB := Hid_mk hb
  have HFr := Hid_mk (ref.frame_any w vm ms hm)
  have HFs := Hid_mk (framed_small ms)
  obtain ⟨ab, cb, rfl, hb1, hb2, -⟩ := id hb
  obtain ⟨am, cm, rfl, hm1, hm2, -⟩ := id hm
  unfold maxLen at hb2 hm2
  clear hb hm
  by_cases h0 : 0 < fr.tmod 3
  · by_cases h2 : (fr.tmod 3 == 2) = true
    · cases ot with
      | true =>
        go_enter Tryz.func4, Tryz.ntmps4
        go_wp2_with fail
        with_reducible refine HFr.out.mono ?_
        rintro e w1 ⟨v1, rfl, ho1, hk1⟩
        have HBX := Hid_mk (bs_no HB.out hk1)
        have hx1 := owns_bs ho1
        have HX := Hid_mk hx1
        obtain ⟨ax, cx, rfl, -⟩ := id hx1
        have HKX := Hid_mk hk1
        have hxl := HFs.out
        clear ho1 hk1 hx1
        go_wp2_with (at_builtin; (refine wpList_append_bs _ rfl _ _ rfl w1.heap.size _ [] rfl (World.ownsRow_made w1 #[] 0 (Nat.le_refl _) (by decide) rfl) _ (framed ms) rfl (bs_no HX.out ((Kp.refl No w1).alloc _)) (show ([] : List UInt8).length + _ ≤ _ by have := HFs.out; simp; omega) (by simp) ?_))
        intro v4 w4 happ
        have hk4 : Kp No w1 w4 := ((Kp.refl No w1).alloc _).grown happ.2.1 fun k hk e => by simp [Value.ownBlock] at e; omega
        have HO4 := Hid_mk (show w4.ownsRow w1.heap.size 5 1 v4 (framed ms).length ((framed ms).map B) by simpa using happ.1)
        have HB4 := Hid_mk (bs_no HBX.out hk4)
        have HK4 := Hid_mk (HKX.out.trans' hk4)
        have hz1 := HKX.out.size
        have hz4 := hk4.size
        have hfs := HFs.out
        clear happ hk4
        go_wp2_with (at_builtin; (refine wpList_append_wide _ rfl _ _ rfl w1.heap.size v4 (framed ms) rfl HO4.out _ bs rfl HB4.out (by omega) (by omega) ?_))
        intro v5 w5 ho5 hg5
        have hk5 : Kp No w w5 := HK4.out.grown hg5 fun k hk e => by have := (HO4.out.lt k e).1; omega
        have hk45 : Kp (fun k => v4.ownBlock = some k) w4 w5 := (Kp.refl _ w4).grown hg5 fun k hk e => e
        clear HBX HX HKX
        have HBX := Hid_mk (bs_no HB.out hk5)
        have ho5 : w5.ownsRow w1.heap.size 5 1 v5 (framed ms ++ bs).length ((framed ms ++ bs).map B) := by rw [List.length_append, List.map_append]; exact ho5
        have hxl : (framed ms ++ bs).length ≤ 200000000000000 := by rw [List.length_append]; omega
        obtain ⟨xs, hxs⟩ : ∃ xs, framed ms ++ bs = xs := ⟨_, rfl⟩
        rw [hxs] at ho5 hxl
        have hx5 := owns_bs ho5
        have HX := Hid_mk hx5
        obtain ⟨a5, c5, rfl, -⟩ := id hx5
        have HKX := Hid_mk hk5
        clear hxs ho5 hg5 hk5 hk45 hx5 HO4 HB4 HK4 hz4 hz1
        have hrow := made_row w5 (.slice a5 (xs).length c5) (xs)
        have kka : Kp No w5 (w5.alloc (.cells #[.string snapN, (.slice a5 (xs).length c5)] 45)) := (Kp.refl No w5).alloc _
        have HRow := Hid_mk hrow
        have HKa := Hid_mk (HKX.out.trans' kka)
        have HXa := Hid_mk (bs_no HX.out kka)
        have HBa := Hid_mk (bs_no HBX.out kka)
        have hzX := HKX.out.size
        clear hrow kka
        obtain ⟨W0, hW0⟩ : ∃ W0, w5.alloc (.cells #[.string snapN, (.slice a5 (xs).length c5)] 45) = W0 := ⟨_, rfl⟩
        have hz0 : w5.heap.size ≤ W0.heap.size := by rw [← hW0]; simp
        rw [hW0] at HRow HKa HXa HBa
        go_wp2_with (at_builtin; (try rw [hW0]); (refine wpList_cat _ rfl _ _ rfl w5.heap.size _ [(snapN, (.slice a5 (xs).length c5), xs)] [(newN, .slice ab bs.length cb, bs)] rfl (FRow.no HRow.out ((Kp.refl No W0).alloc _)) ?b1 (fun q hq => by simp only [List.mem_singleton] at hq; subst hq; rfl) W0.heap.size 0 1 rfl ?b3 (by simp) ?_))
        try (case b1 => first | omega | (simp; omega) | simp)
        case b3 => intro j u hj; match j, hj with | 0, hj => (simp [cells] at hj ⊢; exact hj) | 1, hj => (simp [cells] at hj ⊢; exact hj) | j + 2, hj => simp [cells] at hj
        intro v6 W1 hcat
        obtain ⟨hc1, hc2, hc3⟩ := hcat
        have hk61 : Kp No w W1 := (HKa.out.alloc (.cells #[.string newN, .slice ab bs.length cb] 45)).trans hc2 fun i hi e => by simp [Value.ownBlock] at e; omega
        have hkX1 : Kp No w5 W1 := (((Kp.refl No w5).alloc (.cells #[.string snapN, (.slice a5 (xs).length c5)] 45)).alloc (.cells #[.string newN, .slice ab bs.length cb] 45)).trans (by rw [hW0]; exact hc2) fun i hi e => by simp [Value.ownBlock] at e; omega
        have HKw := Hid_mk hk61
        have HX1 := Hid_mk (bs_no HX.out hkX1)
        have HB1 := Hid_mk (bs_no HBX.out hkX1)
        obtain ⟨a6, cap6, rfl, -⟩ := hc1.opened
        have HP := Hid_mk (pair_any W1 8388608 (by omega) (by omega) _ [(snapN, (.slice a5 (xs).length c5), xs), (newN, .slice ab bs.length cb, bs)] ⟨owns_base hc1 (Nat.zero_le _), (fun q hq => by simp only [List.cons_append, List.nil_append, List.mem_cons, List.not_mem_nil, or_false] at hq; rcases hq with rfl | rfl; exact HX1.out; exact HB1.out)⟩ (by simp) (fun q hq => by simp only [List.cons_append, List.nil_append, List.mem_cons, List.not_mem_nil, or_false] at hq; rcases hq with rfl | rfl; (show snapN.size ≤ maxLen; decide); (show newN.size ≤ maxLen; decide)) (fun q hq => by simp only [List.cons_append, List.nil_append, List.mem_cons, List.not_mem_nil, or_false] at hq; rcases hq with rfl | rfl; (show (xs).length ≤ _; omega); (show bs.length ≤ _; omega)))
        clear hc1 hc2 hc3 hk61 hkX1 hW0 hz0
        simp only [List.cons_append, List.nil_append, List.length_cons, List.length_nil] at HP ⊢
        go_wp2_with fail
        obtain ⟨d7, hd7⟩ : ∃ d7, pairD 8388608 [(snapN, (.slice a5 (xs).length c5), xs), (newN, .slice ab bs.length cb, bs)] = d7 := ⟨_, rfl⟩
        with_reducible refine HP.out.mono ?_
        intro e w7 hpost
        obtain ⟨p, r, he, hbr, hk7, hB7⟩ : ∃ p r, e = .returned (.tuple #[.pointer (some ⟨p, 0, none⟩), .pointer (some ⟨r, 0, none⟩), .bool true]) ∧ W1.heap.size ≤ r ∧ Kp No W1 w7 ∧ Hid (∃ ρ, Both w7 W1.heap.size p ρ (pairD 8388608 [(snapN, (.slice a5 (xs).length c5), xs), (newN, .slice ab bs.length cb, bs)]) r (2 + 1)) := hpost
        subst he
        obtain ⟨ρ7, hB7⟩ := hB7.out
        rw [hd7] at hB7
        have HB7 := Hid_mk hB7
        have HK7 := Hid_mk (HKw.out.trans' hk7)
        have hzw : w.heap.size ≤ W1.heap.size := HKw.out.size
        obtain ⟨bse, hbse⟩ : ∃ bse, W1.heap.size = bse := ⟨_, rfl⟩
        rw [hbse] at HB7 hzw hbr
        clear hB7 hk7 HP hd7 hbse
        go_wp2_with fail
        with_reducible refine (known_any save_any open_any w7).mono ?_
        rintro e w8 ⟨rfl, hk8⟩
        have HB8 := Hid_mk (HB7.out.no hk8)
        have HK8 := Hid_mk (HK7.out.trans' hk8)
        clear hk8 HB7 HK7
        obtain ⟨an, hAn⟩ : ∃ an, opnA d7 = an := ⟨_, rfl⟩
        obtain ⟨d5, hd5⟩ : ∃ d5, (opnD d7).2 = d5 := ⟨_, rfl⟩
        have hO1 := Both.opn1 open_any HB8.out (by omega)
        have hO2 := fun w4 (hM : Mid w8 bse p ρ7 d7 (opnD d7).2 r w4) => Mid.opn2 hM hbr HB8.out.ok (by omega)
        rw [hAn, hd5] at hO1 hO2
        obtain ⟨en, L⟩ := an
        obtain ⟨X, hX⟩ : ∃ X, L.getD [] = X := ⟨_, rfl⟩
        simp only [hX] at hO1 hO2
        obtain ⟨Bh, hBh⟩ : ∃ Bh, L.isSome = Bh := ⟨_, rfl⟩
        rw [hBh] at hO1
        simp only [hBh] at hO2
        have HO1 := Hid_mk hO1
        have HO2 := Hid_mk hO2
        clear hAn hd5 hX hBh hO1 hO2
        go_wp2_with fail
        with_reducible refine HO1.out.mono ?_
        rintro e w9 ⟨va, rfl, hba, hva, hk9, hM9⟩
        have HBv := Hid_mk hba
        have HVa := Hid_mk hva
        have HC2 := Hid_mk (HO2.out w9 hM9.out)
        clear hba hva hk9 hM9 HO1 HO2
        go_wp2_with fail
        with_reducible refine HC2.out.mono ?_
        rintro e wz ⟨vz, rfl, hbb, hkz, hkz9, hBz⟩
        obtain ⟨ρz, hBz⟩ := hBz.out
        have HBz := Hid_mk hBz
        have HKz : Hid (Kp No w wz) := Hid_mk (HK8.out.trans hkz fun i hi e => by omega)
        have hbaz := bs_keptE HBv.out hkz9 (fun hne x o m c e h => HVa.out hne x o m c e h)
        have hca := conv_tx hbaz
        have hcb := conv_tx hbb
        obtain ⟨aa, na, ea, -⟩ := id hbaz
        obtain ⟨az, nz, ez, -⟩ := id hbb
        have ea2 : va = .slice aa X.length na := ea
        have ez2 : vz = .slice az X.length nz := ez
        clear ea ez hbaz hbb hkz hkz9 hBz HC2
        subst ea2 ez2
        have HSd := Hid_mk (samedisk_any wz bse p r _ ρz d5 HBz.out (by omega) (fun hd => HBz.out.names1 (by omega) hd))
        go_wp2_with fail
        with_reducible refine HSd.out.mono ?_
        rintro e wy ⟨rfl, hky⟩
        have HKy := Hid_mk (HKz.out.trans' hky)
        clear hky hca hcb
        go_wp2
        go_ret
        exact ⟨rfl, HKy.out⟩
      | false =>
        go_enter Tryz.func4, Tryz.ntmps4
        go_wp2_with fail
        with_reducible refine HFr.out.mono ?_
        rintro e w1 ⟨v1, rfl, ho1, hk1⟩
        have HBX := Hid_mk (bs_no HB.out hk1)
        have hx1 := owns_bs ho1
        have HX := Hid_mk hx1
        obtain ⟨ax, cx, rfl, -⟩ := id hx1
        have HKX := Hid_mk hk1
        have hxl := HFs.out
        clear ho1 hk1 hx1
        go_wp2_with (at_builtin; (refine wpList_append_bs _ rfl _ _ rfl w1.heap.size _ [] rfl (World.ownsRow_made w1 #[] 0 (Nat.le_refl _) (by decide) rfl) _ (framed ms) rfl (bs_no HX.out ((Kp.refl No w1).alloc _)) (show ([] : List UInt8).length + _ ≤ _ by have := HFs.out; simp; omega) (by simp) ?_))
        intro v4 w4 happ
        have hk4 : Kp No w1 w4 := ((Kp.refl No w1).alloc _).grown happ.2.1 fun k hk e => by simp [Value.ownBlock] at e; omega
        have HO4 := Hid_mk (show w4.ownsRow w1.heap.size 5 1 v4 (framed ms).length ((framed ms).map B) by simpa using happ.1)
        have HB4 := Hid_mk (bs_no HBX.out hk4)
        have HK4 := Hid_mk (HKX.out.trans' hk4)
        have hz1 := HKX.out.size
        have hz4 := hk4.size
        have hfs := HFs.out
        clear happ hk4
        go_wp2_with (at_builtin; (refine wpList_append_wide _ rfl _ _ rfl w1.heap.size v4 (framed ms) rfl HO4.out _ bs rfl HB4.out (by omega) (by omega) ?_))
        intro v5 w5 ho5 hg5
        have hk5 : Kp No w w5 := HK4.out.grown hg5 fun k hk e => by have := (HO4.out.lt k e).1; omega
        have hk45 : Kp (fun k => v4.ownBlock = some k) w4 w5 := (Kp.refl _ w4).grown hg5 fun k hk e => e
        clear HBX HX HKX
        have HBX := Hid_mk (bs_no HB.out hk5)
        have ho5 : w5.ownsRow w1.heap.size 5 1 v5 (framed ms ++ bs).length ((framed ms ++ bs).map B) := by rw [List.length_append, List.map_append]; exact ho5
        have hxl : (framed ms ++ bs).length ≤ 200000000000000 := by rw [List.length_append]; omega
        obtain ⟨xs, hxs⟩ : ∃ xs, framed ms ++ bs = xs := ⟨_, rfl⟩
        rw [hxs] at ho5 hxl
        have hx5 := owns_bs ho5
        have HX := Hid_mk hx5
        obtain ⟨a5, c5, rfl, -⟩ := id hx5
        have HKX := Hid_mk hk5
        clear hxs ho5 hg5 hk5 hk45 hx5 HO4 HB4 HK4 hz4 hz1
        have hrow := made_row w5 (.slice a5 (xs).length c5) (xs)
        have kka : Kp No w5 (w5.alloc (.cells #[.string snapN, (.slice a5 (xs).length c5)] 45)) := (Kp.refl No w5).alloc _
        have HRow := Hid_mk hrow
        have HKa := Hid_mk (HKX.out.trans' kka)
        have HXa := Hid_mk (bs_no HX.out kka)
        have HBa := Hid_mk (bs_no HBX.out kka)
        have hzX := HKX.out.size
        clear hrow kka
        obtain ⟨W1, hW1⟩ : ∃ W1, w5.alloc (.cells #[.string snapN, (.slice a5 (xs).length c5)] 45) = W1 := ⟨_, rfl⟩
        rw [hW1] at HRow HKa HXa HBa
        have HP := Hid_mk (pair_any W1 8388608 (by omega) (by omega) _ [(snapN, (.slice a5 (xs).length c5), xs)] ⟨owns_base HRow.out (Nat.zero_le _), (fun q hq => by simp only [List.mem_singleton] at hq; subst hq; exact HXa.out)⟩ (by simp) (fun q hq => by simp only [List.mem_singleton] at hq; subst hq; show snapN.size ≤ maxLen; decide) (fun q hq => by simp only [List.mem_singleton] at hq; subst hq; show (xs).length ≤ _; omega))
        have HKw := HKa
        go_wp2_with fail
        try rw [hW1]
        clear hW1
        obtain ⟨d7, hd7⟩ : ∃ d7, pairD 8388608 [(snapN, (.slice a5 (xs).length c5), xs)] = d7 := ⟨_, rfl⟩
        with_reducible refine HP.out.mono ?_
        intro e w7 hpost
        obtain ⟨p, r, he, hbr, hk7, hB7⟩ : ∃ p r, e = .returned (.tuple #[.pointer (some ⟨p, 0, none⟩), .pointer (some ⟨r, 0, none⟩), .bool true]) ∧ W1.heap.size ≤ r ∧ Kp No W1 w7 ∧ Hid (∃ ρ, Both w7 W1.heap.size p ρ (pairD 8388608 [(snapN, (.slice a5 (xs).length c5), xs)]) r (1 + 1)) := hpost
        subst he
        obtain ⟨ρ7, hB7⟩ := hB7.out
        rw [hd7] at hB7
        have HB7 := Hid_mk hB7
        have HK7 := Hid_mk (HKw.out.trans' hk7)
        have hzw : w.heap.size ≤ W1.heap.size := HKw.out.size
        obtain ⟨bse, hbse⟩ : ∃ bse, W1.heap.size = bse := ⟨_, rfl⟩
        rw [hbse] at HB7 hzw hbr
        clear hB7 hk7 HP hd7 hbse
        go_wp2_with fail
        with_reducible refine (known_any save_any open_any w7).mono ?_
        rintro e w8 ⟨rfl, hk8⟩
        have HB8 := Hid_mk (HB7.out.no hk8)
        have HK8 := Hid_mk (HK7.out.trans' hk8)
        clear hk8 HB7 HK7
        obtain ⟨an, hAn⟩ : ∃ an, opnA d7 = an := ⟨_, rfl⟩
        obtain ⟨d5, hd5⟩ : ∃ d5, (opnD d7).2 = d5 := ⟨_, rfl⟩
        have hO1 := Both.opn1 open_any HB8.out (by omega)
        have hO2 := fun w4 (hM : Mid w8 bse p ρ7 d7 (opnD d7).2 r w4) => Mid.opn2 hM hbr HB8.out.ok (by omega)
        rw [hAn, hd5] at hO1 hO2
        obtain ⟨en, L⟩ := an
        obtain ⟨X, hX⟩ : ∃ X, L.getD [] = X := ⟨_, rfl⟩
        simp only [hX] at hO1 hO2
        obtain ⟨Bh, hBh⟩ : ∃ Bh, L.isSome = Bh := ⟨_, rfl⟩
        rw [hBh] at hO1
        simp only [hBh] at hO2
        have HO1 := Hid_mk hO1
        have HO2 := Hid_mk hO2
        clear hAn hd5 hX hBh hO1 hO2
        go_wp2_with fail
        with_reducible refine HO1.out.mono ?_
        rintro e w9 ⟨va, rfl, hba, hva, hk9, hM9⟩
        have HBv := Hid_mk hba
        have HVa := Hid_mk hva
        have HC2 := Hid_mk (HO2.out w9 hM9.out)
        clear hba hva hk9 hM9 HO1 HO2
        go_wp2_with fail
        with_reducible refine HC2.out.mono ?_
        rintro e wz ⟨vz, rfl, hbb, hkz, hkz9, hBz⟩
        obtain ⟨ρz, hBz⟩ := hBz.out
        have HBz := Hid_mk hBz
        have HKz : Hid (Kp No w wz) := Hid_mk (HK8.out.trans hkz fun i hi e => by omega)
        have hbaz := bs_keptE HBv.out hkz9 (fun hne x o m c e h => HVa.out hne x o m c e h)
        have hca := conv_tx hbaz
        have hcb := conv_tx hbb
        obtain ⟨aa, na, ea, -⟩ := id hbaz
        obtain ⟨az, nz, ez, -⟩ := id hbb
        have ea2 : va = .slice aa X.length na := ea
        have ez2 : vz = .slice az X.length nz := ez
        clear ea ez hbaz hbb hkz hkz9 hBz HC2
        subst ea2 ez2
        have HSd := Hid_mk (samedisk_any wz bse p r _ ρz d5 HBz.out (by omega) (fun hd => HBz.out.names1 (by omega) hd))
        go_wp2_with fail
        with_reducible refine HSd.out.mono ?_
        rintro e wy ⟨rfl, hky⟩
        have HKy := Hid_mk (HKz.out.trans' hky)
        clear hky hca hcb
        go_wp2
        go_ret
        exact ⟨rfl, HKy.out⟩
    · cases ot with
      | true =>
        go_enter Tryz.func4, Tryz.ntmps4
        go_wp2_with fail
        with_reducible refine HFr.out.mono ?_
        rintro e w1 ⟨v1, rfl, ho1, hk1⟩
        have HBX := Hid_mk (bs_no HB.out hk1)
        have hx1 := owns_bs ho1
        have HX := Hid_mk hx1
        obtain ⟨ax, cx, rfl, -⟩ := id hx1
        have HKX := Hid_mk hk1
        have hxl := HFs.out
        clear ho1 hk1 hx1
        have hrow := made_row w1 (.slice ax (framed ms).length cx) (framed ms)
        have kka : Kp No w1 (w1.alloc (.cells #[.string snapN, (.slice ax (framed ms).length cx)] 45)) := (Kp.refl No w1).alloc _
        have HRow := Hid_mk hrow
        have HKa := Hid_mk (HKX.out.trans' kka)
        have HXa := Hid_mk (bs_no HX.out kka)
        have HBa := Hid_mk (bs_no HBX.out kka)
        have hzX := HKX.out.size
        clear hrow kka
        obtain ⟨W0, hW0⟩ : ∃ W0, w1.alloc (.cells #[.string snapN, (.slice ax (framed ms).length cx)] 45) = W0 := ⟨_, rfl⟩
        have hz0 : w1.heap.size ≤ W0.heap.size := by rw [← hW0]; simp
        rw [hW0] at HRow HKa HXa HBa
        go_wp2_with (at_builtin; (try rw [hW0]); (refine wpList_cat _ rfl _ _ rfl w1.heap.size _ [(snapN, (.slice ax (framed ms).length cx), framed ms)] [(newN, .slice ab bs.length cb, bs)] rfl (FRow.no HRow.out ((Kp.refl No W0).alloc _)) ?b1 (fun q hq => by simp only [List.mem_singleton] at hq; subst hq; rfl) W0.heap.size 0 1 rfl ?b3 (by simp) ?_))
        try (case b1 => first | omega | (simp; omega) | simp)
        case b3 => intro j u hj; match j, hj with | 0, hj => (simp [cells] at hj ⊢; exact hj) | 1, hj => (simp [cells] at hj ⊢; exact hj) | j + 2, hj => simp [cells] at hj
        intro v6 W1 hcat
        obtain ⟨hc1, hc2, hc3⟩ := hcat
        have hk61 : Kp No w W1 := (HKa.out.alloc (.cells #[.string newN, .slice ab bs.length cb] 45)).trans hc2 fun i hi e => by simp [Value.ownBlock] at e; omega
        have hkX1 : Kp No w1 W1 := (((Kp.refl No w1).alloc (.cells #[.string snapN, (.slice ax (framed ms).length cx)] 45)).alloc (.cells #[.string newN, .slice ab bs.length cb] 45)).trans (by rw [hW0]; exact hc2) fun i hi e => by simp [Value.ownBlock] at e; omega
        have HKw := Hid_mk hk61
        have HX1 := Hid_mk (bs_no HX.out hkX1)
        have HB1 := Hid_mk (bs_no HBX.out hkX1)
        obtain ⟨a6, cap6, rfl, -⟩ := hc1.opened
        have HP := Hid_mk (pair_any W1 8388608 (by omega) (by omega) _ [(snapN, (.slice ax (framed ms).length cx), framed ms), (newN, .slice ab bs.length cb, bs)] ⟨owns_base hc1 (Nat.zero_le _), (fun q hq => by simp only [List.cons_append, List.nil_append, List.mem_cons, List.not_mem_nil, or_false] at hq; rcases hq with rfl | rfl; exact HX1.out; exact HB1.out)⟩ (by simp) (fun q hq => by simp only [List.cons_append, List.nil_append, List.mem_cons, List.not_mem_nil, or_false] at hq; rcases hq with rfl | rfl; (show snapN.size ≤ maxLen; decide); (show newN.size ≤ maxLen; decide)) (fun q hq => by simp only [List.cons_append, List.nil_append, List.mem_cons, List.not_mem_nil, or_false] at hq; rcases hq with rfl | rfl; (show (framed ms).length ≤ _; omega); (show bs.length ≤ _; omega)))
        clear hc1 hc2 hc3 hk61 hkX1 hW0 hz0
        simp only [List.cons_append, List.nil_append, List.length_cons, List.length_nil] at HP ⊢
        go_wp2_with fail
        obtain ⟨d7, hd7⟩ : ∃ d7, pairD 8388608 [(snapN, (.slice ax (framed ms).length cx), framed ms), (newN, .slice ab bs.length cb, bs)] = d7 := ⟨_, rfl⟩
        with_reducible refine HP.out.mono ?_
        intro e w7 hpost
        obtain ⟨p, r, he, hbr, hk7, hB7⟩ : ∃ p r, e = .returned (.tuple #[.pointer (some ⟨p, 0, none⟩), .pointer (some ⟨r, 0, none⟩), .bool true]) ∧ W1.heap.size ≤ r ∧ Kp No W1 w7 ∧ Hid (∃ ρ, Both w7 W1.heap.size p ρ (pairD 8388608 [(snapN, (.slice ax (framed ms).length cx), framed ms), (newN, .slice ab bs.length cb, bs)]) r (2 + 1)) := hpost
        subst he
        obtain ⟨ρ7, hB7⟩ := hB7.out
        rw [hd7] at hB7
        have HB7 := Hid_mk hB7
        have HK7 := Hid_mk (HKw.out.trans' hk7)
        have hzw : w.heap.size ≤ W1.heap.size := HKw.out.size
        obtain ⟨bse, hbse⟩ : ∃ bse, W1.heap.size = bse := ⟨_, rfl⟩
        rw [hbse] at HB7 hzw hbr
        clear hB7 hk7 HP hd7 hbse
        go_wp2_with fail
        with_reducible refine (known_any save_any open_any w7).mono ?_
        rintro e w8 ⟨rfl, hk8⟩
        have HB8 := Hid_mk (HB7.out.no hk8)
        have HK8 := Hid_mk (HK7.out.trans' hk8)
        clear hk8 HB7 HK7
        obtain ⟨an, hAn⟩ : ∃ an, opnA d7 = an := ⟨_, rfl⟩
        obtain ⟨d5, hd5⟩ : ∃ d5, (opnD d7).2 = d5 := ⟨_, rfl⟩
        have hO1 := Both.opn1 open_any HB8.out (by omega)
        have hO2 := fun w4 (hM : Mid w8 bse p ρ7 d7 (opnD d7).2 r w4) => Mid.opn2 hM hbr HB8.out.ok (by omega)
        rw [hAn, hd5] at hO1 hO2
        obtain ⟨en, L⟩ := an
        obtain ⟨X, hX⟩ : ∃ X, L.getD [] = X := ⟨_, rfl⟩
        simp only [hX] at hO1 hO2
        obtain ⟨Bh, hBh⟩ : ∃ Bh, L.isSome = Bh := ⟨_, rfl⟩
        rw [hBh] at hO1
        simp only [hBh] at hO2
        have HO1 := Hid_mk hO1
        have HO2 := Hid_mk hO2
        clear hAn hd5 hX hBh hO1 hO2
        go_wp2_with fail
        with_reducible refine HO1.out.mono ?_
        rintro e w9 ⟨va, rfl, hba, hva, hk9, hM9⟩
        have HBv := Hid_mk hba
        have HVa := Hid_mk hva
        have HC2 := Hid_mk (HO2.out w9 hM9.out)
        clear hba hva hk9 hM9 HO1 HO2
        go_wp2_with fail
        with_reducible refine HC2.out.mono ?_
        rintro e wz ⟨vz, rfl, hbb, hkz, hkz9, hBz⟩
        obtain ⟨ρz, hBz⟩ := hBz.out
        have HBz := Hid_mk hBz
        have HKz : Hid (Kp No w wz) := Hid_mk (HK8.out.trans hkz fun i hi e => by omega)
        have hbaz := bs_keptE HBv.out hkz9 (fun hne x o m c e h => HVa.out hne x o m c e h)
        have hca := conv_tx hbaz
        have hcb := conv_tx hbb
        obtain ⟨aa, na, ea, -⟩ := id hbaz
        obtain ⟨az, nz, ez, -⟩ := id hbb
        have ea2 : va = .slice aa X.length na := ea
        have ez2 : vz = .slice az X.length nz := ez
        clear ea ez hbaz hbb hkz hkz9 hBz HC2
        subst ea2 ez2
        have HSd := Hid_mk (samedisk_any wz bse p r _ ρz d5 HBz.out (by omega) (fun hd => HBz.out.names1 (by omega) hd))
        go_wp2_with fail
        with_reducible refine HSd.out.mono ?_
        rintro e wy ⟨rfl, hky⟩
        have HKy := Hid_mk (HKz.out.trans' hky)
        clear hky hca hcb
        go_wp2
        go_ret
        exact ⟨rfl, HKy.out⟩
      | false =>
        go_enter Tryz.func4, Tryz.ntmps4
        go_wp2_with fail
        with_reducible refine HFr.out.mono ?_
        rintro e w1 ⟨v1, rfl, ho1, hk1⟩
        have HBX := Hid_mk (bs_no HB.out hk1)
        have hx1 := owns_bs ho1
        have HX := Hid_mk hx1
        obtain ⟨ax, cx, rfl, -⟩ := id hx1
        have HKX := Hid_mk hk1
        have hxl := HFs.out
        clear ho1 hk1 hx1
        have hrow := made_row w1 (.slice ax (framed ms).length cx) (framed ms)
        have kka : Kp No w1 (w1.alloc (.cells #[.string snapN, (.slice ax (framed ms).length cx)] 45)) := (Kp.refl No w1).alloc _
        have HRow := Hid_mk hrow
        have HKa := Hid_mk (HKX.out.trans' kka)
        have HXa := Hid_mk (bs_no HX.out kka)
        have HBa := Hid_mk (bs_no HBX.out kka)
        have hzX := HKX.out.size
        clear hrow kka
        obtain ⟨W1, hW1⟩ : ∃ W1, w1.alloc (.cells #[.string snapN, (.slice ax (framed ms).length cx)] 45) = W1 := ⟨_, rfl⟩
        rw [hW1] at HRow HKa HXa HBa
        have HP := Hid_mk (pair_any W1 8388608 (by omega) (by omega) _ [(snapN, (.slice ax (framed ms).length cx), framed ms)] ⟨owns_base HRow.out (Nat.zero_le _), (fun q hq => by simp only [List.mem_singleton] at hq; subst hq; exact HXa.out)⟩ (by simp) (fun q hq => by simp only [List.mem_singleton] at hq; subst hq; show snapN.size ≤ maxLen; decide) (fun q hq => by simp only [List.mem_singleton] at hq; subst hq; show (framed ms).length ≤ _; omega))
        have HKw := HKa
        go_wp2_with fail
        try rw [hW1]
        clear hW1
        obtain ⟨d7, hd7⟩ : ∃ d7, pairD 8388608 [(snapN, (.slice ax (framed ms).length cx), framed ms)] = d7 := ⟨_, rfl⟩
        with_reducible refine HP.out.mono ?_
        intro e w7 hpost
        obtain ⟨p, r, he, hbr, hk7, hB7⟩ : ∃ p r, e = .returned (.tuple #[.pointer (some ⟨p, 0, none⟩), .pointer (some ⟨r, 0, none⟩), .bool true]) ∧ W1.heap.size ≤ r ∧ Kp No W1 w7 ∧ Hid (∃ ρ, Both w7 W1.heap.size p ρ (pairD 8388608 [(snapN, (.slice ax (framed ms).length cx), framed ms)]) r (1 + 1)) := hpost
        subst he
        obtain ⟨ρ7, hB7⟩ := hB7.out
        rw [hd7] at hB7
        have HB7 := Hid_mk hB7
        have HK7 := Hid_mk (HKw.out.trans' hk7)
        have hzw : w.heap.size ≤ W1.heap.size := HKw.out.size
        obtain ⟨bse, hbse⟩ : ∃ bse, W1.heap.size = bse := ⟨_, rfl⟩
        rw [hbse] at HB7 hzw hbr
        clear hB7 hk7 HP hd7 hbse
        go_wp2_with fail
        with_reducible refine (known_any save_any open_any w7).mono ?_
        rintro e w8 ⟨rfl, hk8⟩
        have HB8 := Hid_mk (HB7.out.no hk8)
        have HK8 := Hid_mk (HK7.out.trans' hk8)
        clear hk8 HB7 HK7
        obtain ⟨an, hAn⟩ : ∃ an, opnA d7 = an := ⟨_, rfl⟩
        obtain ⟨d5, hd5⟩ : ∃ d5, (opnD d7).2 = d5 := ⟨_, rfl⟩
        have hO1 := Both.opn1 open_any HB8.out (by omega)
        have hO2 := fun w4 (hM : Mid w8 bse p ρ7 d7 (opnD d7).2 r w4) => Mid.opn2 hM hbr HB8.out.ok (by omega)
        rw [hAn, hd5] at hO1 hO2
        obtain ⟨en, L⟩ := an
        obtain ⟨X, hX⟩ : ∃ X, L.getD [] = X := ⟨_, rfl⟩
        simp only [hX] at hO1 hO2
        obtain ⟨Bh, hBh⟩ : ∃ Bh, L.isSome = Bh := ⟨_, rfl⟩
        rw [hBh] at hO1
        simp only [hBh] at hO2
        have HO1 := Hid_mk hO1
        have HO2 := Hid_mk hO2
        clear hAn hd5 hX hBh hO1 hO2
        go_wp2_with fail
        with_reducible refine HO1.out.mono ?_
        rintro e w9 ⟨va, rfl, hba, hva, hk9, hM9⟩
        have HBv := Hid_mk hba
        have HVa := Hid_mk hva
        have HC2 := Hid_mk (HO2.out w9 hM9.out)
        clear hba hva hk9 hM9 HO1 HO2
        go_wp2_with fail
        with_reducible refine HC2.out.mono ?_
        rintro e wz ⟨vz, rfl, hbb, hkz, hkz9, hBz⟩
        obtain ⟨ρz, hBz⟩ := hBz.out
        have HBz := Hid_mk hBz
        have HKz : Hid (Kp No w wz) := Hid_mk (HK8.out.trans hkz fun i hi e => by omega)
        have hbaz := bs_keptE HBv.out hkz9 (fun hne x o m c e h => HVa.out hne x o m c e h)
        have hca := conv_tx hbaz
        have hcb := conv_tx hbb
        obtain ⟨aa, na, ea, -⟩ := id hbaz
        obtain ⟨az, nz, ez, -⟩ := id hbb
        have ea2 : va = .slice aa X.length na := ea
        have ez2 : vz = .slice az X.length nz := ez
        clear ea ez hbaz hbb hkz hkz9 hBz HC2
        subst ea2 ez2
        have HSd := Hid_mk (samedisk_any wz bse p r _ ρz d5 HBz.out (by omega) (fun hd => HBz.out.names1 (by omega) hd))
        go_wp2_with fail
        with_reducible refine HSd.out.mono ?_
        rintro e wy ⟨rfl, hky⟩
        have HKy := Hid_mk (HKz.out.trans' hky)
        clear hky hca hcb
        go_wp2
        go_ret
        exact ⟨rfl, HKy.out⟩
  · cases ot with
    | true =>
      have HX := HB
      have HBX := HB
      have HKX := Hid_mk (Kp.refl No w)
      have hxl : bs.length ≤ 200000000000000 := by omega
      go_enter Tryz.func4, Tryz.ntmps4
      have hrow := made_row w (.slice ab (bs).length cb) (bs)
      have kka : Kp No w (w.alloc (.cells #[.string snapN, (.slice ab (bs).length cb)] 45)) := (Kp.refl No w).alloc _
      have HRow := Hid_mk hrow
      have HKa := Hid_mk (HKX.out.trans' kka)
      have HXa := Hid_mk (bs_no HX.out kka)
      have HBa := Hid_mk (bs_no HBX.out kka)
      have hzX := HKX.out.size
      clear hrow kka
      obtain ⟨W0, hW0⟩ : ∃ W0, w.alloc (.cells #[.string snapN, (.slice ab (bs).length cb)] 45) = W0 := ⟨_, rfl⟩
      have hz0 : w.heap.size ≤ W0.heap.size := by rw [← hW0]; simp
      rw [hW0] at HRow HKa HXa HBa
      go_wp2_with (at_builtin; (try rw [hW0]); (refine wpList_cat _ rfl _ _ rfl w.heap.size _ [(snapN, (.slice ab (bs).length cb), bs)] [(newN, .slice ab bs.length cb, bs)] rfl (FRow.no HRow.out ((Kp.refl No W0).alloc _)) ?b1 (fun q hq => by simp only [List.mem_singleton] at hq; subst hq; rfl) W0.heap.size 0 1 rfl ?b3 (by simp) ?_))
      try (case b1 => first | omega | (simp; omega) | simp)
      case b3 => intro j u hj; match j, hj with | 0, hj => (simp [cells] at hj ⊢; exact hj) | 1, hj => (simp [cells] at hj ⊢; exact hj) | j + 2, hj => simp [cells] at hj
      intro v6 W1 hcat
      obtain ⟨hc1, hc2, hc3⟩ := hcat
      have hk61 : Kp No w W1 := (HKa.out.alloc (.cells #[.string newN, .slice ab bs.length cb] 45)).trans hc2 fun i hi e => by simp [Value.ownBlock] at e; omega
      have hkX1 : Kp No w W1 := (((Kp.refl No w).alloc (.cells #[.string snapN, (.slice ab (bs).length cb)] 45)).alloc (.cells #[.string newN, .slice ab bs.length cb] 45)).trans (by rw [hW0]; exact hc2) fun i hi e => by simp [Value.ownBlock] at e; omega
      have HKw := Hid_mk hk61
      have HX1 := Hid_mk (bs_no HX.out hkX1)
      have HB1 := Hid_mk (bs_no HBX.out hkX1)
      obtain ⟨a6, cap6, rfl, -⟩ := hc1.opened
      have HP := Hid_mk (pair_any W1 8388608 (by omega) (by omega) _ [(snapN, (.slice ab (bs).length cb), bs), (newN, .slice ab bs.length cb, bs)] ⟨owns_base hc1 (Nat.zero_le _), (fun q hq => by simp only [List.cons_append, List.nil_append, List.mem_cons, List.not_mem_nil, or_false] at hq; rcases hq with rfl | rfl; exact HX1.out; exact HB1.out)⟩ (by simp) (fun q hq => by simp only [List.cons_append, List.nil_append, List.mem_cons, List.not_mem_nil, or_false] at hq; rcases hq with rfl | rfl; (show snapN.size ≤ maxLen; decide); (show newN.size ≤ maxLen; decide)) (fun q hq => by simp only [List.cons_append, List.nil_append, List.mem_cons, List.not_mem_nil, or_false] at hq; rcases hq with rfl | rfl; (show (bs).length ≤ _; omega); (show bs.length ≤ _; omega)))
      clear hc1 hc2 hc3 hk61 hkX1 hW0 hz0
      simp only [List.cons_append, List.nil_append, List.length_cons, List.length_nil] at HP ⊢
      go_wp2_with fail
      obtain ⟨d7, hd7⟩ : ∃ d7, pairD 8388608 [(snapN, (.slice ab (bs).length cb), bs), (newN, .slice ab bs.length cb, bs)] = d7 := ⟨_, rfl⟩
      with_reducible refine HP.out.mono ?_
      intro e w7 hpost
      obtain ⟨p, r, he, hbr, hk7, hB7⟩ : ∃ p r, e = .returned (.tuple #[.pointer (some ⟨p, 0, none⟩), .pointer (some ⟨r, 0, none⟩), .bool true]) ∧ W1.heap.size ≤ r ∧ Kp No W1 w7 ∧ Hid (∃ ρ, Both w7 W1.heap.size p ρ (pairD 8388608 [(snapN, (.slice ab (bs).length cb), bs), (newN, .slice ab bs.length cb, bs)]) r (2 + 1)) := hpost
      subst he
      obtain ⟨ρ7, hB7⟩ := hB7.out
      rw [hd7] at hB7
      have HB7 := Hid_mk hB7
      have HK7 := Hid_mk (HKw.out.trans' hk7)
      have hzw : w.heap.size ≤ W1.heap.size := HKw.out.size
      obtain ⟨bse, hbse⟩ : ∃ bse, W1.heap.size = bse := ⟨_, rfl⟩
      rw [hbse] at HB7 hzw hbr
      clear hB7 hk7 HP hd7 hbse
      go_wp2_with fail
      with_reducible refine (known_any save_any open_any w7).mono ?_
      rintro e w8 ⟨rfl, hk8⟩
      have HB8 := Hid_mk (HB7.out.no hk8)
      have HK8 := Hid_mk (HK7.out.trans' hk8)
      clear hk8 HB7 HK7
      obtain ⟨an, hAn⟩ : ∃ an, opnA d7 = an := ⟨_, rfl⟩
      obtain ⟨d5, hd5⟩ : ∃ d5, (opnD d7).2 = d5 := ⟨_, rfl⟩
      have hO1 := Both.opn1 open_any HB8.out (by omega)
      have hO2 := fun w4 (hM : Mid w8 bse p ρ7 d7 (opnD d7).2 r w4) => Mid.opn2 hM hbr HB8.out.ok (by omega)
      rw [hAn, hd5] at hO1 hO2
      obtain ⟨en, L⟩ := an
      obtain ⟨X, hX⟩ : ∃ X, L.getD [] = X := ⟨_, rfl⟩
      simp only [hX] at hO1 hO2
      obtain ⟨Bh, hBh⟩ : ∃ Bh, L.isSome = Bh := ⟨_, rfl⟩
      rw [hBh] at hO1
      simp only [hBh] at hO2
      have HO1 := Hid_mk hO1
      have HO2 := Hid_mk hO2
      clear hAn hd5 hX hBh hO1 hO2
      go_wp2_with fail
      with_reducible refine HO1.out.mono ?_
      rintro e w9 ⟨va, rfl, hba, hva, hk9, hM9⟩
      have HBv := Hid_mk hba
      have HVa := Hid_mk hva
      have HC2 := Hid_mk (HO2.out w9 hM9.out)
      clear hba hva hk9 hM9 HO1 HO2
      go_wp2_with fail
      with_reducible refine HC2.out.mono ?_
      rintro e wz ⟨vz, rfl, hbb, hkz, hkz9, hBz⟩
      obtain ⟨ρz, hBz⟩ := hBz.out
      have HBz := Hid_mk hBz
      have HKz : Hid (Kp No w wz) := Hid_mk (HK8.out.trans hkz fun i hi e => by omega)
      have hbaz := bs_keptE HBv.out hkz9 (fun hne x o m c e h => HVa.out hne x o m c e h)
      have hca := conv_tx hbaz
      have hcb := conv_tx hbb
      obtain ⟨aa, na, ea, -⟩ := id hbaz
      obtain ⟨az, nz, ez, -⟩ := id hbb
      have ea2 : va = .slice aa X.length na := ea
      have ez2 : vz = .slice az X.length nz := ez
      clear ea ez hbaz hbb hkz hkz9 hBz HC2
      subst ea2 ez2
      have HSd := Hid_mk (samedisk_any wz bse p r _ ρz d5 HBz.out (by omega) (fun hd => HBz.out.names1 (by omega) hd))
      go_wp2_with fail
      with_reducible refine HSd.out.mono ?_
      rintro e wy ⟨rfl, hky⟩
      have HKy := Hid_mk (HKz.out.trans' hky)
      clear hky hca hcb
      go_wp2
      go_ret
      exact ⟨rfl, HKy.out⟩
    | false =>
      have HX := HB
      have HBX := HB
      have HKX := Hid_mk (Kp.refl No w)
      have hxl : bs.length ≤ 200000000000000 := by omega
      go_enter Tryz.func4, Tryz.ntmps4
      have hrow := made_row w (.slice ab (bs).length cb) (bs)
      have kka : Kp No w (w.alloc (.cells #[.string snapN, (.slice ab (bs).length cb)] 45)) := (Kp.refl No w).alloc _
      have HRow := Hid_mk hrow
      have HKa := Hid_mk (HKX.out.trans' kka)
      have HXa := Hid_mk (bs_no HX.out kka)
      have HBa := Hid_mk (bs_no HBX.out kka)
      have hzX := HKX.out.size
      clear hrow kka
      obtain ⟨W1, hW1⟩ : ∃ W1, w.alloc (.cells #[.string snapN, (.slice ab (bs).length cb)] 45) = W1 := ⟨_, rfl⟩
      rw [hW1] at HRow HKa HXa HBa
      have HP := Hid_mk (pair_any W1 8388608 (by omega) (by omega) _ [(snapN, (.slice ab (bs).length cb), bs)] ⟨owns_base HRow.out (Nat.zero_le _), (fun q hq => by simp only [List.mem_singleton] at hq; subst hq; exact HXa.out)⟩ (by simp) (fun q hq => by simp only [List.mem_singleton] at hq; subst hq; show snapN.size ≤ maxLen; decide) (fun q hq => by simp only [List.mem_singleton] at hq; subst hq; show (bs).length ≤ _; omega))
      have HKw := HKa
      go_wp2_with fail
      try rw [hW1]
      clear hW1
      obtain ⟨d7, hd7⟩ : ∃ d7, pairD 8388608 [(snapN, (.slice ab (bs).length cb), bs)] = d7 := ⟨_, rfl⟩
      with_reducible refine HP.out.mono ?_
      intro e w7 hpost
      obtain ⟨p, r, he, hbr, hk7, hB7⟩ : ∃ p r, e = .returned (.tuple #[.pointer (some ⟨p, 0, none⟩), .pointer (some ⟨r, 0, none⟩), .bool true]) ∧ W1.heap.size ≤ r ∧ Kp No W1 w7 ∧ Hid (∃ ρ, Both w7 W1.heap.size p ρ (pairD 8388608 [(snapN, (.slice ab (bs).length cb), bs)]) r (1 + 1)) := hpost
      subst he
      obtain ⟨ρ7, hB7⟩ := hB7.out
      rw [hd7] at hB7
      have HB7 := Hid_mk hB7
      have HK7 := Hid_mk (HKw.out.trans' hk7)
      have hzw : w.heap.size ≤ W1.heap.size := HKw.out.size
      obtain ⟨bse, hbse⟩ : ∃ bse, W1.heap.size = bse := ⟨_, rfl⟩
      rw [hbse] at HB7 hzw hbr
      clear hB7 hk7 HP hd7 hbse
      go_wp2_with fail
      with_reducible refine (known_any save_any open_any w7).mono ?_
      rintro e w8 ⟨rfl, hk8⟩
      have HB8 := Hid_mk (HB7.out.no hk8)
      have HK8 := Hid_mk (HK7.out.trans' hk8)
      clear hk8 HB7 HK7
      obtain ⟨an, hAn⟩ : ∃ an, opnA d7 = an := ⟨_, rfl⟩
      obtain ⟨d5, hd5⟩ : ∃ d5, (opnD d7).2 = d5 := ⟨_, rfl⟩
      have hO1 := Both.opn1 open_any HB8.out (by omega)
      have hO2 := fun w4 (hM : Mid w8 bse p ρ7 d7 (opnD d7).2 r w4) => Mid.opn2 hM hbr HB8.out.ok (by omega)
      rw [hAn, hd5] at hO1 hO2
      obtain ⟨en, L⟩ := an
      obtain ⟨X, hX⟩ : ∃ X, L.getD [] = X := ⟨_, rfl⟩
      simp only [hX] at hO1 hO2
      obtain ⟨Bh, hBh⟩ : ∃ Bh, L.isSome = Bh := ⟨_, rfl⟩
      rw [hBh] at hO1
      simp only [hBh] at hO2
      have HO1 := Hid_mk hO1
      have HO2 := Hid_mk hO2
      clear hAn hd5 hX hBh hO1 hO2
      go_wp2_with fail
      with_reducible refine HO1.out.mono ?_
      rintro e w9 ⟨va, rfl, hba, hva, hk9, hM9⟩
      have HBv := Hid_mk hba
      have HVa := Hid_mk hva
      have HC2 := Hid_mk (HO2.out w9 hM9.out)
      clear hba hva hk9 hM9 HO1 HO2
      go_wp2_with fail
      with_reducible refine HC2.out.mono ?_
      rintro e wz ⟨vz, rfl, hbb, hkz, hkz9, hBz⟩
      obtain ⟨ρz, hBz⟩ := hBz.out
      have HBz := Hid_mk hBz
      have HKz : Hid (Kp No w wz) := Hid_mk (HK8.out.trans hkz fun i hi e => by omega)
      have hbaz := bs_keptE HBv.out hkz9 (fun hne x o m c e h => HVa.out hne x o m c e h)
      have hca := conv_tx hbaz
      have hcb := conv_tx hbb
      obtain ⟨aa, na, ea, -⟩ := id hbaz
      obtain ⟨az, nz, ez, -⟩ := id hbb
      have ea2 : va = .slice aa X.length na := ea
      have ez2 : vz = .slice az X.length nz := ez
      clear ea ez hbaz hbb hkz hkz9 hBz HC2
      subst ea2 ez2
      have HSd := Hid_mk (samedisk_any wz bse p r _ ρz d5 HBz.out (by omega) (fun hd => HBz.out.names1 (by omega) hd))
      go_wp2_with fail
      with_reducible refine HSd.out.mono ?_
      rintro e wy ⟨rfl, hky⟩
      have HKy := Hid_mk (HKz.out.trans' hky)
      clear hky hca hcb
      go_wp2
      go_ret
      exact ⟨rfl, HKy.out⟩

end Go.Proofs.YtmehneicdklfeaaGreat.snp
