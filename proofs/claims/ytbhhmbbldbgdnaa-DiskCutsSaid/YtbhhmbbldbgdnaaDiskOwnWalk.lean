/- DiskOwn: the law's walk. -/
import Derived.Test.YtbhhmbbldbgdnaaDiskAps
namespace Go.Proofs.Ytbhhmbbldbgdnaa.dsk
open Go.RowKit Go.Maps Go.Proofs.Ytbhhmbbldbgdnaa.sum Go.Proofs.Ytbhhmbbldbgdnaa.kept Go.Proofs.Ytbhhmbbldbgdnaa.app Go.Proofs.Ytbhhmbbldbgdnaa.writer Go.Proofs.Ytbhhmbbldbgdnaa.clone Go.Proofs.Ytbhhmbbldbgdnaa.unseal Go.Proofs.Ytbhhmbbldbgdnaa.fs Go.Proofs.Ytbhhmbbldbgdnaa.fsMem Go.Proofs.Ytbhhmbbldbgdnaa.fsDo Go.Proofs.Ytbhhmbbldbgdnaa.fsUsed Go.Proofs.Ytbhhmbbldbgdnaa.turned Go.Proofs.Ytbhhmbbldbgdnaa.lst
set_option linter.unusedVariables false

theorem DkAt.other {w w' : World} {base p : Nat} {ρ : Nat → Role} {d : DSt} {nw : Files} {s n : Nat} {vp : Value} {ps : List (Change × Value)} (h : DkAt w base p ρ d nw s n vp ps) (hk : Kp (fun k => ρ k = .other) w w') : DkAt w' base p ρ d nw s n vp ps := by
  have hp : ¬ ρ p = .other := by rw [h.rp]; simp
  refine ⟨hk.cell' h.c0 hp, hk.cell' h.c1 hp, hk.cell' h.c2 hp, hk.cell' h.c3 hp, hk.cell' h.c4 hp, hk.cell' h.c5 hp, fun o => (hk.frozen (p := ⟨p, o, none⟩) h.lt hp).trans (h.warm o),
    h.syn.kept hk (fun k _ e => ⟨fun e2 => ?_, fun m hm => ?_⟩) (fun _ _ => rfl), h.now.kept hk (fun k _ e => ⟨fun e2 => ?_, fun m hm => ?_⟩) (fun _ _ => rfl), h.cs, owns_kept h.pend hk fun k e e2 => ?_,
    fun q hq => ⟨bs_kept (h.byts q hq).1 hk fun x o m c e e2 => ?_, fun x o m c e => ⟨((h.byts q hq).2 x o m c e).1, Nat.lt_of_lt_of_le ((h.byts q hq).2 x o m c e).2 hk.size⟩⟩, h.rp, h.rs, h.rn, h.rv, h.bp, h.low, fun k hk2 => h.hi k (Nat.le_trans hk.size hk2)⟩
  · have := h.rs; rw [← e2, e] at this; cases this
  · rw [sOf_none (by rw [e]; simp)] at hm; cases hm
  · have := h.rn; rw [← e2, e] at this; cases this
  · rw [nOf_none (by rw [e]; simp)] at hm; cases hm
  · have := h.rv _ e; rw [e2] at this; cases this
  · have := ((h.byts q hq).2 _ o m c e).1; rw [e2] at this; cases this

theorem Dk.other {w w' : World} {base p : Nat} {ρ : Nat → Role} {d : DSt} (h : Dk w base p ρ d) (hk : Kp (fun k => ρ k = .other) w w') : Dk w' base p ρ d := by
  obtain ⟨s, n, vp, ps, h⟩ := h
  exact ⟨s, n, vp, ps, h.other hk⟩

theorem Dk.lo {w : World} {base p : Nat} {ρ : Nat → Role} {d : DSt} (h : Dk w base p ρ d) {k : Nat} (hk : k < base) : ρ k = .other := by
  obtain ⟨s, n, vp, ps, h⟩ := h
  exact Classical.byContradiction fun e => by have := h.low k e; omega

theorem short_small {m n : Nat} {l : List (List UInt8)} : (shortL m n l).length ≤ m ∧ ∀ b ∈ shortL m n l, b.length ≤ n := by
  unfold shortL
  constructor
  · simp; omega
  · intro b hb
    obtain ⟨c, _, rfl⟩ := List.mem_map.1 hb
    simp; omega
theorem flat_len {l : List (List UInt8)} {n : Nat} (h : ∀ b ∈ l, b.length ≤ n) : l.flatten.length ≤ l.length * n := by
  induction l with
  | nil => simp
  | cons b l ih =>
    have hb := h b (by simp)
    have := ih fun c hc => h c (by simp [hc])
    rw [List.flatten_cons, List.length_append, List.length_cons, Nat.add_mul]
    omega
theorem flat_small {l : List (List UInt8)} {m n : Nat} (h : ∀ b ∈ l, b.length ≤ n) (hl : l.length ≤ m) (k : Nat) : (l.take k).flatten.length ≤ m * n := by
  have h1 := flat_len (l := l.take k) (n := n) fun b hb => h b (List.mem_of_mem_take hb)
  have h2 : (l.take k).length ≤ m := by rw [List.length_take]; omega
  exact Nat.le_trans h1 (Nat.mul_le_mul_right _ h2)
theorem take_next {l : List (List UInt8)} {k : Nat} {b : List UInt8} (h : l[k]? = some b) : l.take (k + 1) = l.take k ++ [b] := by
  have hk : k < l.length := (List.getElem?_eq_some_iff.1 h).1
  have he := (List.getElem?_eq_some_iff.1 h).2
  rw [List.take_succ_eq_append_getElem hk, he]

/-- parts are appended, and put together -/
def ApRel (w : World) (base p : Nat) (n : ByteArray) (x : Option (List UInt8)) (v : Value) (qs : Els) (s i : Value) (wr : World) : Prop :=
  ∃ (k : Nat) (ρ : Nat → Role), k ≤ qs.length ∧ i = .int .i64 k ∧ s = .string ⟨((qs.texts.take k).flatten).toArray⟩ ∧ Dk wr base p ρ (apD n (-1) x (qs.texts.take k)) ∧ DOk (k + 100) (apD n (-1) x (qs.texts.take k)) ∧ LsR ρ wr v qs ∧ Kp No w wr

def OwnRel (w1 : World) (v : Value) (L : Nat) (i : Value) (wr : World) : Prop :=
  ∃ (k : Nat) (ys : List UInt8), k ≤ L ∧ i = .int .i64 k ∧ ys.length = L ∧ Bs wr v ys ∧ Kp (fun k => v.ownBlock = some k) w1 wr ∧ ∀ g, v.ownBlock = some g → ∀ j, wr.frozen? ⟨g, j, none⟩ = false

theorem owns_warm {w : World} {base : Nat} {e : TypeId} {size : Nat} {v : Value} {n : Nat} {xs : List Value} (h : w.ownsRow base e size v n xs) : ∀ g, v.ownBlock = some g → ∀ j, w.frozen? ⟨g, j, none⟩ = false := by
  intro g hg j
  rcases h.2 with ⟨rfl, _⟩ | ⟨g', cap, cur, rfl, _, hb, _⟩
  · cases hg
  · simp [Value.ownBlock] at hg
    subst hg
    simp [World.frozen?, hb]

set_option maxRecDepth 100000 in
set_option maxHeartbeats 8000000 in
theorem own_any (w : World) (v : Value) (ps : Els) (h : Ls w v ps) :
    Calls Try.prog 6 #[v] w fun e w' => e = .returned (.bool true) ∧ Kp No w w' := by
  have HS := Hid_mk (short_lit w v ps 20 2000 20 2000 h (by omega) (by omega) rfl rfl)
  obtain ⟨⟨a, cap, rfl, -⟩, -⟩ := id h
  clear h
  go_enter Try.func6, Try.ntmps6
  go_wp2_with fail
  with_reducible refine HS.out.mono ?_
  rintro e w1 ⟨v1, qs, rfl, hlo, htx, hk1⟩
  obtain ⟨hs1, hs2⟩ := short_small (m := 20) (n := 2000) (l := ps.texts)
  rw [← htx] at hs1 hs2
  rw [texts_length] at hs1
  obtain ⟨⟨a1, c1, rfl, hc1, hc2, -⟩, -⟩ := id hlo.ls
  unfold maxLen at hc2
  have HLo := Hid_mk hlo
  have HK1 := Hid_mk hk1
  have HS2 := Hid_mk hs2
  have HFl := Hid_mk (flat_small hs2 (show qs.texts.length ≤ 20 by rw [texts_length]; exact hs1))
  clear hlo htx hk1 hs2 HS
  go_wp2_with fail
  with_reducible refine (new_any w1 8388608 (by omega) (by omega)).mono ?_
  rintro e w2 ⟨p, ρ2, rfl, h2, hk2, hp2⟩
  rw [apD_new ka] at h2
  have D2' := Hid_mk h2
  have K2' := Hid_mk hk2
  clear h2 hk2
  go_wp2_with fail
  with_reducible refine (known_any _).mono ?_
  rintro e w3 ⟨rfl, hkn⟩
  have D3 := Hid_mk (D2'.out.no hkn)
  have K3 := Hid_mk (K2'.out.trans' hkn)
  have HLs3 := Hid_mk ((LsR.of_lo (ρ := ρ2) HLo.out fun k _ hk3 => D2'.out.lo hk3).no K3.out)
  have KW3 := Hid_mk (HK1.out.trans' K3.out)
  clear hkn D2' K2'
  go_wp2
  go_loopw [5, 6] (fun s i wr => ApRel w w1.heap.size p ka none (.slice a1 qs.length c1) qs s i wr) (fun _ i _ => qs.length - (intOf i).toNat)
  case atStart => exact ⟨0, ρ2, Nat.zero_le _, rfl, rfl, D3.out, (new_ap ka).mono (Nat.zero_le _), HLs3.out, KW3.out⟩
  case round =>
    obtain ⟨k, ρ, hk, rfl, rfl, hd, hok, hls, hkp⟩ := hrel
    have HD := Hid_mk hd
    have HOk := Hid_mk hok
    have HLs := Hid_mk hls
    have HKp := Hid_mk hkp
    clear hd hok hls hkp
    by_cases hlt : k < qs.length
    · obtain ⟨b, o, x, bs, e1, e2, -, hmem, hget, hc, hbb, hvo⟩ := LsR.at HLs.out hlt
      obtain rfl := e1
      have hbl : bs.length ≤ 2000 := HS2.out bs (List.mem_map.2 ⟨_, hmem, rfl⟩)
      have HNext := Hid_mk (take_next hget)
      have hfl := HFl.out k
      obtain ⟨ha, ho⟩ := append_ap wr w1.heap.size p (k + 100) ρ ka none (qs.texts.take k) x bs HD.out HOk.out (by omega) (by decide) hbb hvo (by show 0 + _ + _ ≤ _; omega)
      rw [← HNext.out] at ha ho
      have HA := Hid_mk ha
      have HO := Hid_mk ho
      have hki : (k : Int) < (qs.length : Int) := by omega
      have hk20 : (k : Int) < 20 := by omega
      have hki0 : (0 : Int) ≤ (k : Int) := Int.natCast_nonneg _
      have hb9 := Hid_mk hbb
      obtain ⟨ax, cx, rfl, -⟩ := id hbb
      clear ha ho hmem hbb hvo e2 hfl
      go_wp2_with fail
      with_reducible refine HA.out.mono ?_
      rintro e w4 ⟨rfl, ρ4, h4, f4⟩
      have D4 := Hid_mk h4
      have HLs4 := Hid_mk (HLs.out.fr f4)
      have K4 := Hid_mk (HD.out.out (show w.heap.size ≤ w1.heap.size from HK1.out.size) HKp.out f4)
      obtain ⟨b', o', x', bs', e1, e2, -, hmem, hget', hc4, hbb4, -⟩ := LsR.at HLs4.out hlt
      simp only [Option.some.injEq, Addr.mk.injEq] at e1
      obtain ⟨rfl, rfl, -⟩ := e1
      obtain rfl : bs = bs' := by rw [hget] at hget'; exact Option.some.inj hget'
      have hcv := known.conv_bs hbb4
      obtain ⟨ax4, cx4, rfl, -⟩ := id hbb4
      have hrel : ApRel w w1.heap.size p ka none (.slice (some ⟨b, o, none⟩) qs.length c1) qs (.string ⟨((qs.texts.take k).flatten ++ bs).toArray⟩) (.int .i64 ((k + 1 : Nat) : Int)) w4 := ⟨k + 1, ρ4, hlt, rfl, by rw [HNext.out, List.flatten_append]; simp, D4.out, HO.out.mono (by omega), HLs4.out, K4.out⟩
      have HRel := Hid_mk hrel
      have hadd := fun W => run_str_add (qs.texts.take k).flatten bs (by have := HFl.out k; omega) W
      clear hrel h4 f4 hmem hget hget' hbb4 e2 hc
      go_wp2
      go_roundw
      case rel => exact HRel.out
      case measure => simp [intOf]; omega
    · have hki : ¬ (k : Int) < (qs.length : Int) := by omega
      obtain rfl : k = qs.length := by omega
      have htk : qs.texts.take qs.length = qs.texts := List.take_of_length_le (by rw [texts_length]; omega)
      rw [htk] at HD HOk ⊢
      have hfl := HFl.out qs.length
      rw [htk] at hfl
      have hrd := read_ap wr w1.heap.size p ρ ka (-1) none qs.texts HD.out (by decide) (by show 0 + _ ≤ _; omega)
      rw [show (none : Option (List UInt8)).getD [] ++ qs.texts.flatten = qs.texts.flatten from rfl] at hrd
      have HRd := Hid_mk hrd
      obtain ⟨F, hF⟩ : ∃ F, qs.texts.flatten = F := ⟨_, rfl⟩
      rw [hF] at HRd hfl ⊢
      clear htk hrd
      go_wp2_with fail
      with_reducible refine HRd.out.mono ?_
      rintro e w4 ⟨v4, rfl, ho4, hk4⟩
      have D4 := Hid_mk (HD.out.no hk4)
      have K4 := Hid_mk (HKp.out.trans' hk4)
      have hw4 := owns_warm ho4
      have hb4 := owns_bs ho4
      have hown4 : ∀ g, v4.ownBlock = some g → ρ g = .other ∧ w.heap.size ≤ g := fun g hg => ⟨HD.out.hi (ho4.lt g hg).1, by have := (ho4.lt g hg).1; have := HKp.out.size; omega⟩
      have HOw4 := Hid_mk hown4
      have HO4 := Hid_mk ho4
      obtain ⟨a4, c4, rfl, hc41, hc42, -⟩ := id hb4
      unfold maxLen at hc42
      obtain ⟨L, hL⟩ : ∃ L, F.length = L := ⟨_, rfl⟩
      have HLen := Hid_mk hL
      have hstart : OwnRel w4 (.slice a4 F.length c4) F.length (.int .i64 ((0 : Nat) : Int)) w4 := ⟨0, F, Nat.zero_le _, rfl, rfl, hb4, Kp.refl _ _, hw4⟩
      rw [hL] at hstart hfl hc41 HO4 HOw4 ⊢
      have HStart := Hid_mk hstart
      clear ho4 hk4 hw4 hb4 hown4 hL hstart
      go_wp2
      go_loopw [9] (fun i wq => OwnRel w4 (.slice a4 L c4) L i wq) (fun i _ => L - (intOf i).toNat)
      case atStart => exact HStart.out
      case round =>
        obtain ⟨j, ys, hj, rfl, hyl, hyb, hyk, hyf⟩ := hrel
        have HYb := Hid_mk hyb
        have HYk := Hid_mk hyk
        have HYl := Hid_mk hyl
        have HYf := Hid_mk hyf
        clear hyb hyk hyl hyf
        by_cases hjl : j < L
        · obtain ⟨g, cap5, e, -⟩ := owns_some HO4.out (by omega)
          simp only [Value.slice.injEq] at e
          obtain ⟨rfl, -, rfl⟩ := e
          have hset := turned.bs_set HYb.out j hjl 238
          rw [Nat.zero_add] at hset
          have hcell : _ := HYb.out
          obtain ⟨_, _, e, _, _, h3⟩ := hcell
          simp only [Value.slice.injEq] at e
          obtain ⟨b', o', e2, hc⟩ := h3 (by intro e; have := HYl.out; rw [e] at this; simp at this; omega)
          rw [← e.1] at e2
          cases e2
          have hcj := hc j (by rw [HYl.out]; exact hjl)
          rw [Nat.zero_add] at hcj
          unfold B at hcj
          have hwj := HYf.out g rfl j
          have hji : (j : Int) < (L : Int) := by omega
          have hji0 : (0 : Int) ≤ (j : Int) := Int.natCast_nonneg _
          have hrel : OwnRel w4 (.slice (some ⟨g, 0, none⟩) L c4) L (.int .i64 ((j + 1 : Nat) : Int)) _ := ⟨j + 1, ys.set j 238, hjl, rfl, by rw [List.length_set]; exact HYl.out, hset, HYk.out.setCell (p := ⟨g, j, none⟩) (fun _ => rfl) _, fun g' hg' i' => by rw [World.frozen?_setCell]; exact HYf.out g' hg' i'⟩
          have HRel := Hid_mk hrel
          clear hrel hset hc h3 e
          go_wp2
          go_roundw
          case rel => exact HRel.out
          case measure => simp [intOf]; omega
        · have hji : ¬ (j : Int) < (L : Int) := by omega
          have D5 := Hid_mk (D4.out.other (HYk.out.mono fun k _ e => (HOw4.out k e).1))
          have K5 := Hid_mk (K4.out.trans HYk.out fun i hi e => by have := (HOw4.out i e).2; omega)
          obtain ⟨z, hz, hzL⟩ : ∃ z, min L 1 = z ∧ z ≤ L := ⟨_, rfl, Nat.min_le_left _ _⟩
          have hcs := bs_take HYb.out z hzL
          obtain ⟨cs, hcse⟩ : ∃ cs, ys.take z = cs := ⟨_, rfl⟩
          have hcl : cs.length = z := by rw [← hcse, List.length_take, HYl.out]; omega
          rw [hcse] at hcs
          have hz1 : z ≤ 1 := by omega
          obtain ⟨ha, ho⟩ := append_ap _ w1.heap.size p (qs.length + 100) ρ ka none qs.texts (.slice a4 z c4) cs D5.out HOk.out (by omega) (by decide) hcs (fun x o m c e => by
            simp only [Value.slice.injEq] at e
            obtain ⟨rfl, -, -⟩ := e
            exact (HOw4.out x rfl).1) (by rw [hF]; show 0 + _ + _ ≤ _; have := HLen.out; omega)
          have HA := Hid_mk ha
          have HZ := Hid_mk hcl
          have hfe : (qs.texts ++ [cs]).flatten = F ++ cs := by rw [List.flatten_append, hF]; simp
          have HFe := Hid_mk hfe
          have hFL := HLen.out
          have hzc : (z : Int) ≤ (c4 : Int) := by omega
          have hz0 : (0 : Int) ≤ (z : Int) := Int.natCast_nonneg _
          have hL0 : (0 : Int) ≤ (L : Int) := Int.natCast_nonneg _
          clear ha ho hcs hcse hcl hfe hF hFL
          have HMin : Hid ((if (1 : Int) < (L : Int) then (1 : Int) else (L : Int)) = (z : Int)) := Hid_mk (by split <;> omega)
          by_cases hL1 : 1 < L
          all_goals first
            | (have hL1i : (1 : Int) < (L : Int) := by omega
               have hze : z = 1 := by omega
               have HZ1 : Hid (z = 1) := Hid_mk hze
               rw [hze] at HA
               clear hz hze)
            | (have hL1i : ¬ (1 : Int) < (L : Int) := by omega
               have hze : z = L := by omega
               have HZ1 : Hid (z = L) := Hid_mk hze
               rw [hze] at HA
               clear hz hze)
          all_goals
            go_wp2_with fail
            with_reducible refine HA.out.mono ?_
            rintro e w6 ⟨rfl, ρ6, h6, f6⟩
            have D6 := Hid_mk h6
            have K6 := Hid_mk (D5.out.out (show w.heap.size ≤ w1.heap.size from HK1.out.size) K5.out f6)
            have hrd := read_ap w6 w1.heap.size p ρ6 ka (-1) none (qs.texts ++ [cs]) h6 (by decide) (by rw [HFe.out, List.length_append, HZ.out, HLen.out]; show 0 + _ ≤ _; omega)
            rw [show (none : Option (List UInt8)).getD [] ++ (qs.texts ++ [cs]).flatten = (qs.texts ++ [cs]).flatten from rfl, HFe.out] at hrd
            have HRd2 := Hid_mk hrd
            clear hrd h6 f6
            go_wp2_with fail
            with_reducible refine HRd2.out.mono ?_
            rintro e w7 ⟨v7, rfl, ho7, hk7⟩
            have K7 := Hid_mk (K6.out.trans' hk7)
            have hb7 := owns_bs ho7
            have hl7 : (F ++ cs).length = L + z := by rw [List.length_append, HLen.out, HZ.out]
            obtain ⟨a7, c7, rfl, hc7, hc8, -⟩ := id hb7
            have hbt := bs_take hb7 L (by rw [hl7]; omega)
            have htk : (F ++ cs).take L = F := by rw [List.take_append_of_le_length (by rw [HLen.out]; omega), List.take_of_length_le (by rw [HLen.out]; omega)]
            rw [htk] at hbt
            have hcv := known.conv_bs hbt
            rw [hl7] at hc7 ⊢
            have hsz : (⟨F.toArray⟩ : ByteArray).size = L := by show F.toArray.size = L; simpa using HLen.out
            have hLc : (L : Int) ≤ (c7 : Int) := by omega
            unfold maxLen at hc8
            clear hl7 hbt htk ho7 hk7 hb7
            first
              | (have hze := HZ1.out
                 rw [hze] at hc7 ⊢
                 clear hze
                 go_wp2
                 go_ret
                 exact ⟨rfl, K7.out⟩)

end Go.Proofs.Ytbhhmbbldbgdnaa.dsk
