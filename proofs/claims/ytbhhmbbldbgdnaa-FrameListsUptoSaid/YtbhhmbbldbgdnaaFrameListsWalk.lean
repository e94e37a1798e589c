/- FrameLists: the law's walk (written by wip/tools/genlists.py). -/
import Derived.Test.YtbhhmbbldbgdnaaRefList
import Derived.Test.YtbhhmbbldbgdnaaFrameCutWalk
import Derived.Test.YtbhhmbbldbgdnaaFat
namespace Go.Proofs.Ytbhhmbbldbgdnaa.frl
open Go.RowKit Go.Proofs.Ytbhhmbbldbgdnaa.sum Go.Proofs.Ytbhhmbbldbgdnaa.kept Go.Proofs.Ytbhhmbbldbgdnaa.app Go.Proofs.Ytbhhmbbldbgdnaa.writer Go.Proofs.Ytbhhmbbldbgdnaa.clone Go.Proofs.Ytbhhmbbldbgdnaa.known Go.Proofs.Ytbhhmbbldbgdnaa.fl Go.Proofs.Ytbhhmbbldbgdnaa.seal Go.Proofs.Ytbhhmbbldbgdnaa.unseal Go.Proofs.Ytbhhmbbldbgdnaa.lst Go.Proofs.Ytbhhmbbldbgdnaa.frm
set_option linter.unusedVariables false

def WriteRel (w9 : World) (base : Nat) (v : Value) (qs : Els) (i : Value) (wr : World) : Prop := ∃ k : Nat, k ≤ qs.length ∧ i = .int .i64 k ∧ Fat wr base v qs ∧ Kp (fun k => base ≤ k) w9 wr
def WriteRel2 (w9 : World) (base : Nat) (v : Value) (qs : Els) (n : Nat) (j : Value) (wr : World) : Prop := ∃ k : Nat, k ≤ n ∧ j = .int .i64 k ∧ Fat wr base v qs ∧ Kp (fun k => base ≤ k) w9 wr

set_option maxRecDepth 100000 in
set_option maxHeartbeats 16000000 in
theorem lists_no (w : World) (vb v : Value) (bz : List UInt8) (ps : Els) (at_ to : Int) (hb : Bs w vb bz) (h : Ls w v ps) (hl : bz.length ≤ 1048576) :
    Calls Try.prog 8 #[vb, v, .bool false, .int .i64 at_, .int .i64 to] w fun e w' => e = .returned (.bool true) ∧ Kp No w w' := by
  have HB := Hid_mk hb
  have HKb := Hid_mk (Kp.refl No w)
  obtain ⟨ab, cb, rfl, -⟩ := id hb
  clear hb h
  go_enter Try.func8, Try.ntmps8
  go_wp2_with (at_builtin; (refine wpList_append_bs _ rfl _ _ rfl w.heap.size _ [] rfl (World.ownsRow_made w #[] 0 (Nat.le_refl _) (by decide) rfl) _ bz rfl (bs_no HB.out ((Kp.refl No w).alloc _)) (show ([] : List UInt8).length + bz.length ≤ 140737488355328 by simp only [List.length_nil]; omega) (show w.heap.size ≤ (w.alloc (.cells #[] 5)).heap.size by simp) ?_))
  intro v5 w5 happ
  have hk5 : Kp No w w5 := ((Kp.refl No w).alloc _).grown happ.2.1 fun k hk e => by simp [Value.ownBlock] at e; omega
  have HO5 := Hid_mk (show w5.ownsRow w.heap.size 5 1 v5 bz.length (bz.map B) by simpa using happ.1)
  have HB5 := Hid_mk (bs_no HB.out hk5)
  have HK5 := Hid_mk (HKb.out.trans' hk5)
  obtain ⟨a5, c5, rfl, -⟩ := id (owns_bs HO5.out)
  have HLi := Hid_mk (frm.list_any w5 _ bz (owns_bs HO5.out) (by omega))
  have HR := fun W (hk : Kp No w5 W) => Hid_mk (ref.list_any W (.slice ab bz.length cb) bz (bs_no HB5.out hk) (by omega))
  have HRe := Hid_mk HR
  clear happ hk5 HR
  go_wp2_with fail
  with_reducible refine HLi.out.mono ?_
  rintro e w6 ⟨v6, qs, rfl, hlo6, htx6, hk6⟩
  have HK6 := Hid_mk (HK5.out.trans' hk6)
  have HK56 := Hid_mk hk6
  have HLo6 := Hid_mk hlo6
  have HTx6 := Hid_mk htx6
  have HR6 := HRe.out w6 hk6
  clear hlo6 htx6 hk6
  go_wp2_with fail
  with_reducible refine HR6.out.mono ?_
  rintro e w7 ⟨v7, rs, rfl, hlo7, htx7, hk7⟩
  have HK7 := Hid_mk (HK6.out.trans' hk7)
  have HK57 := Hid_mk (HK56.out.trans' hk7)
  have HLo67 := Hid_mk (HLo6.out.no hk7)
  have HSm := fun W (hk : Kp No w7 W) => Hid_mk (same_any W v6 v7 qs rs ((HLo67.out.no hk).ls) ((hlo7.no hk).ls) (by rw [HTx6.out, htx7]))
  have HSame := Hid_mk HSm
  clear hlo7 htx7 hk7 HSm
  generalize (listP bz).2 = place9 at *
  go_wp2_with fail
  with_reducible refine (known_any w7).mono ?_
  rintro e w8 ⟨rfl, hk8⟩
  have HS8 := HSame.out w8 hk8
  have HK58 := Hid_mk (HK57.out.trans' hk8)
  have HLo8 := Hid_mk (HLo67.out.no hk8)
  have HK8 := Hid_mk (HK7.out.trans' hk8)
  clear hk8
  go_wp2_with fail
  with_reducible refine HS8.out.mono ?_
  rintro e w9 ⟨rfl, hk9⟩
  have HK59 := Hid_mk (HK58.out.trans' hk9)
  have HFat := Hid_mk (HLo8.out.no hk9).fat
  have HK9 := Hid_mk (HK8.out.trans' hk9)
  have hcv5 := conv_bs (owns_bs (owns_kept HO5.out HK59.out fun _ _ => id))
  have hcvb := conv_bs (bs_no HB5.out HK59.out)
  obtain ⟨a6, c6, rfl⟩ : ∃ a c, v6 = .slice a qs.length c := by
    rcases owns_any HFat.out.row with ⟨rfl, hz⟩ | ⟨g, cap, rfl, -⟩
    · exact ⟨none, 0, by rw [hz]⟩
    · exact ⟨_, _, rfl⟩
  clear hk9
  go_wp2
  clear hcv5 hcvb
  go_loopw [18] (fun i wq => WriteRel w9 w5.heap.size (.slice a6 qs.length c6) qs i wq) (fun i _ => qs.length - (intOf i).toNat)
  case atStart => exact ⟨0, Nat.zero_le _, rfl, HFat.out, Kp.refl _ _⟩
  case round =>
    obtain ⟨i, hi, rfl, hft, hkt⟩ := hrel
    have HFt := Hid_mk hft
    have HKt := Hid_mk hkt
    clear hft hkt
    by_cases hil : i < qs.length
    · have hii : (i : Int) < (qs.length : Int) := by omega
      have hii0 : (0 : Int) ≤ (i : Int) := Int.natCast_nonneg _
      have HStart := Hid_mk (show WriteRel2 w9 w5.heap.size (.slice a6 qs.length c6) qs (qs.getD i (.slice none 0 0, [])).2.length (.int .i64 ((0 : Nat) : Int)) wr from ⟨0, Nat.zero_le _, rfl, HFt.out, HKt.out⟩)
      go_wp2
      go_hide hQ
      go_loopw [19] (fun j wq => WriteRel2 w9 w5.heap.size (.slice a6 qs.length c6) qs (qs.getD i (.slice none 0 0, [])).2.length j wq) (fun j _ => (qs.getD i (.slice none 0 0, [])).2.length - (intOf j).toNat)
      case atStart => exact HStart.out
      case round =>
        obtain ⟨j, hj, rfl, hft, hkt⟩ := hrel
        have hget : qs.getD i (.slice none 0 0, []) = qs[i] := by simp [List.getD, hil]
        rw [hget] at hj
        have JFt := Hid_mk hft
        have JKt := Hid_mk hkt
        obtain ⟨g0, e0, hcap, hcell⟩ := Fat.at hft hil
        unfold maxLen at hcap
        obtain rfl := e0
        have hmem : qs[i] ∈ qs := List.getElem_mem hil
        have hform := hft.form _ hmem
        have hbyt := hft.byt _ hmem
        rw [hget]
        generalize qs[i] = q at *
        obtain ⟨x, bx⟩ := q
        simp only at hcell hform hbyt hj
        generalize hnb : bx.length = n at *
        have hj0 : (0 : Int) ≤ (j : Int) := Int.natCast_nonneg _
        by_cases hjn : j < n
        · obtain ⟨g, capx, rfl, hcx⟩ : ∃ g cap, x = .slice (some ⟨g, 0, none⟩) n cap ∧ n ≤ cap ∧ cap ≤ maxLen := by
            rcases hform with ⟨-, h0⟩ | hf
            · omega
            · exact hf
          unfold maxLen at hcx
          obtain ⟨hbg, hvg, hcb, hfz⟩ := hbyt g rfl
          obtain ⟨x0, hcj⟩ := hcb j hjn
          have hwj := hfz j
          have hji : (j : Int) < (n : Int) := by omega
          have hset := hft.set hcj hvg 238
          have hrel : WriteRel2 w9 w5.heap.size (.slice (some ⟨g0, 0, none⟩) qs.length c6) qs n (.int .i64 ((j + 1 : Nat) : Int)) (wr.setCell ⟨g, j, none⟩ (B 238)) := ⟨j + 1, hjn, rfl, hset, JKt.out.setCell (p := ⟨g, j, none⟩) (fun _ => hbg) _⟩
          have HRel := Hid_mk hrel
          unfold B at hcj
          clear hrel hset hcb hfz hbyt hform hget hft hkt hmem hvg
          go_wp2
          go_roundw
          case rel => exact HRel.out
          case measure => simp [intOf]; omega
        · obtain ⟨ax, capx, rfl⟩ : ∃ a cap, x = .slice a n cap := by
            rcases hform with ⟨e, h0⟩ | ⟨g, cap, e, -⟩
            · exact ⟨none, 0, by rw [e, h0]⟩
            · exact ⟨_, _, e⟩
          have hji : ¬ (j : Int) < (n : Int) := by omega
          have HRel := Hid_mk (show WriteRel w9 w5.heap.size (.slice (some ⟨g0, 0, none⟩) qs.length c6) qs (.int .i64 ((i + 1 : Nat) : Int)) wr from ⟨i + 1, hil, rfl, JFt.out, JKt.out⟩)
          clear hbyt hform hget hft hkt hmem
          go_wp2
          subst hQ
          go_wp2
          go_roundw
          case rel => exact HRel.out
          case measure => simp [intOf]; omega
    · have hii : ¬ (i : Int) < (qs.length : Int) := by omega
      have hb5 : ∀ k, k < w5.heap.size → ¬ w5.heap.size ≤ k := fun k h => by omega
      have hcv5 := conv_bs (owns_bs (owns_kept (owns_kept HO5.out HK59.out fun _ _ => id) HKt.out fun g hg => hb5 g (HO5.out.lt g hg).2))
      have hcvb := conv_bs (show Bs wr _ bz from by
        by_cases hbe : bz = []
        · obtain ⟨a, c, e, h1, h2, h3⟩ := HB.out
          exact ⟨a, c, e, h1, h2, fun h => absurd hbe h⟩
        · refine bs_kept (bs_no HB5.out HK59.out) HKt.out ?_
          intro b o n c e
          obtain ⟨a, c', e', h1, h2, h3⟩ := HB5.out
          obtain ⟨b', o', e2, hc⟩ := h3 hbe
          rw [e'] at e
          cases e
          cases e2
          exact hb5 _ (World.block_lt_of_cell? w5 _ (hc 0 (List.length_pos_iff.2 hbe))))
      have HK := Hid_mk (show Kp No w wr from HK9.out.trans HKt.out fun k hk e => by have := HK5.out.size; omega)
      go_wp2
      go_ret
      exact ⟨rfl, HK.out⟩

theorem framed_le (bs : List UInt8) : (framed bs).length ≤ 4194314 := by
  by_cases h : bs.length ≤ 4194304
  · rw [framed_len h]; omega
  · rw [framed_none h]; simp
theorem allF_le (l : List (List UInt8)) (k : Nat) (hk : k ≤ 20) : (allF (l.take k)).length ≤ 83886280 := by
  have h : ∀ m : List (List UInt8), (allF m).length ≤ m.length * 4194314 := fun m => by
    induction m with
    | nil => simp [allF]
    | cons b m ih =>
      have := framed_le b
      rw [allF_cons, List.length_append, List.length_cons, Nat.add_mul]
      omega
  have h1 := h (l.take k)
  have h2 : (l.take k).length ≤ 20 := by rw [List.length_take]; omega
  have h3 : (l.take k).length * 4194314 ≤ 20 * 4194314 := Nat.mul_le_mul_right _ h2
  omega

def YesRel (base : Nat) (l : List (List UInt8)) (w1 : World) (v i : Value) (wr : World) : Prop :=
  ∃ k : Nat, k ≤ l.length ∧ k ≤ 20 ∧ i = .int .i64 k ∧ wr.ownsRow base 5 1 v (allF (l.take k)).length ((allF (l.take k)).map B) ∧ Kp No w1 wr

set_option maxRecDepth 100000 in
set_option maxHeartbeats 16000000 in
theorem lists_yes (w : World) (vb0 v : Value) (ps : Els) (at_ to : Int) (h : Ls w v ps) (hs : ∃ a l c, vb0 = .slice a l c) :
    Calls Try.prog 8 #[vb0, v, .bool true, .int .i64 at_, .int .i64 to] w fun e w' => e = .returned (.bool true) ∧ Kp No w w' := by
  obtain ⟨ab0, lb0, cb0, rfl⟩ := hs
  obtain ⟨⟨a1, c1, rfl, hc1, hc2, -⟩, -⟩ := id h
  unfold maxLen at hc2
  have HLs := Hid_mk h
  clear h
  go_enter Try.func8, Try.ntmps8
  go_wp2
  go_loopw [11, 12] (fun v i wr => YesRel w.heap.size ps.texts w v i wr) (fun _ i _ => ps.length - (intOf i).toNat)
  case atStart => exact ⟨0, Nat.zero_le _, Nat.zero_le _, rfl, World.ownsRow_nil _ _ _ _, Kp.refl _ _⟩
  case round =>
    obtain ⟨k, hk, hk20, rfl, ho, hkp⟩ := hrel
    rw [texts_length] at hk
    have HKp := Hid_mk hkp
    have hzr := hkp.size
    have hal := allF_le ps.texts k hk20
    by_cases hlt : k < ps.length ∧ k < 20
    · obtain ⟨hlt, hl20⟩ := hlt
      obtain ⟨b, o, x, bs, e1, e2, -, hmem, hget, hb0, hcell⟩ := Ls.at HLs.out hlt
      obtain rfl := e1
      obtain ⟨hc, hbb⟩ := hcell wr hkp
      have HNext := Hid_mk (take_next hget)
      have HO := Hid_mk ho
      have hfl := framed_le bs
      obtain ⟨ax, cx, rfl, -⟩ := id hbb
      have HF := Hid_mk (ref.frame_any wr _ bs hbb)
      have hki : (k : Int) < (ps.length : Int) := by omega
      have hki2 : (k : Int) < 20 := by omega
      have hki0 : (0 : Int) ≤ (k : Int) := Int.natCast_nonneg _
      clear hcell hkp ho hmem hget hbb e2
      go_wp2_with fail
      with_reducible refine HF.out.mono ?_
      rintro e w2 ⟨v2, rfl, ho2, hk2⟩
      have HB2 := Hid_mk (owns_bs ho2)
      obtain ⟨a2, c2, rfl, -⟩ := id HB2.out
      have HK2 := Hid_mk (HKp.out.trans' hk2)
      have HO2 := Hid_mk (owns_kept HO.out hk2 fun _ _ => id)
      have hz2 := hk2.size
      clear ho2 hk2 hc
      go_wp2_with (at_builtin; (refine wpList_append_bs _ rfl _ _ rfl w.heap.size _ (allF (ps.texts.take k)) rfl HO2.out _ (framed bs) rfl HB2.out ?c1 ?c2 ?_))
      case c1 => omega
      case c2 => omega
      intro v3 w3 happ
      have hrel : YesRel w.heap.size ps.texts w v3 (.int .i64 ((k + 1 : Nat) : Int)) w3 := ⟨k + 1, by rw [texts_length]; exact hlt, hl20, rfl, by rw [HNext.out, allF_snoc]; exact happ.1, HK2.out.grown happ.2.1 fun i hi e => by have := (HO2.out.lt i e).1; omega⟩
      have HRel := Hid_mk hrel
      clear hrel happ
      go_wp2
      go_roundw
      case rel => exact HRel.out
      case measure => simp [intOf]; omega
    · obtain ⟨bz, hbz⟩ : ∃ bz, allF (ps.texts.take k) = bz := ⟨_, rfl⟩
      rw [hbz] at ho hal
      have HO := Hid_mk ho
      have HB := Hid_mk (owns_bs ho)
      obtain ⟨ab, cb, rfl, -⟩ := id HB.out
      have HKb := Hid_mk hkp
      have hcase : (¬ (k : Int) < (ps.length : Int)) ∨ ((k : Int) < (ps.length : Int) ∧ ¬ (k : Int) < 20) := by omega
      clear hlt ho hkp hbz
      rcases hcase with hki | ⟨hki, hki2⟩
      all_goals
        by_cases hz0 : bz.length = 0
        · have hzi : ¬ (0 : Int) < (bz.length : Int) := by omega
          clear hz0
          go_wp2_with (at_builtin; (refine wpList_append_bs _ rfl _ _ rfl wr.heap.size _ [] rfl (World.ownsRow_made wr #[] 0 (Nat.le_refl _) (by decide) rfl) _ bz rfl (bs_no HB.out ((Kp.refl No wr).alloc _)) (show ([] : List UInt8).length + bz.length ≤ 140737488355328 by simp only [List.length_nil]; omega) (show wr.heap.size ≤ (wr.alloc (.cells #[] 5)).heap.size by simp) ?_))
          intro v5 w5 happ
          have hk5 : Kp No wr w5 := ((Kp.refl No wr).alloc _).grown happ.2.1 fun k hk e => by simp [Value.ownBlock] at e; omega
          have HO5 := Hid_mk (show w5.ownsRow wr.heap.size 5 1 v5 bz.length (bz.map B) by simpa using happ.1)
          have HB5 := Hid_mk (bs_no HB.out hk5)
          have HK5 := Hid_mk (HKb.out.trans' hk5)
          obtain ⟨a5, c5, rfl, -⟩ := id (owns_bs HO5.out)
          have HLi := Hid_mk (frm.list_any w5 _ bz (owns_bs HO5.out) (by omega))
          have HR := fun W (hk : Kp No w5 W) => Hid_mk (ref.list_any W (.slice ab bz.length cb) bz (bs_no HB5.out hk) (by omega))
          have HRe := Hid_mk HR
          clear happ hk5 HR
          go_wp2_with fail
          with_reducible refine HLi.out.mono ?_
          rintro e w6 ⟨v6, qs, rfl, hlo6, htx6, hk6⟩
          have HK6 := Hid_mk (HK5.out.trans' hk6)
          have HK56 := Hid_mk hk6
          have HLo6 := Hid_mk hlo6
          have HTx6 := Hid_mk htx6
          have HR6 := HRe.out w6 hk6
          clear hlo6 htx6 hk6
          go_wp2_with fail
          with_reducible refine HR6.out.mono ?_
          rintro e w7 ⟨v7, rs, rfl, hlo7, htx7, hk7⟩
          have HK7 := Hid_mk (HK6.out.trans' hk7)
          have HK57 := Hid_mk (HK56.out.trans' hk7)
          have HLo67 := Hid_mk (HLo6.out.no hk7)
          have HSm := fun W (hk : Kp No w7 W) => Hid_mk (same_any W v6 v7 qs rs ((HLo67.out.no hk).ls) ((hlo7.no hk).ls) (by rw [HTx6.out, htx7]))
          have HSame := Hid_mk HSm
          clear hlo7 htx7 hk7 HSm
          generalize (listP bz).2 = place9 at *
          go_wp2_with fail
          with_reducible refine (known_any w7).mono ?_
          rintro e w8 ⟨rfl, hk8⟩
          have HS8 := HSame.out w8 hk8
          have HK58 := Hid_mk (HK57.out.trans' hk8)
          have HLo8 := Hid_mk (HLo67.out.no hk8)
          have HK8 := Hid_mk (HK7.out.trans' hk8)
          clear hk8
          go_wp2_with fail
          with_reducible refine HS8.out.mono ?_
          rintro e w9 ⟨rfl, hk9⟩
          have HK59 := Hid_mk (HK58.out.trans' hk9)
          have HFat := Hid_mk (HLo8.out.no hk9).fat
          have HK9 := Hid_mk (HK8.out.trans' hk9)
          have hcv5 := conv_bs (owns_bs (owns_kept HO5.out HK59.out fun _ _ => id))
          have hcvb := conv_bs (bs_no HB5.out HK59.out)
          obtain ⟨a6, c6, rfl⟩ : ∃ a c, v6 = .slice a qs.length c := by
            rcases owns_any HFat.out.row with ⟨rfl, hz⟩ | ⟨g, cap, rfl, -⟩
            · exact ⟨none, 0, by rw [hz]⟩
            · exact ⟨_, _, rfl⟩
          clear hk9
          go_wp2
          clear hcv5 hcvb
          go_loopw [18] (fun i wq => WriteRel w9 w5.heap.size (.slice a6 qs.length c6) qs i wq) (fun i _ => qs.length - (intOf i).toNat)
          case atStart => exact ⟨0, Nat.zero_le _, rfl, HFat.out, Kp.refl _ _⟩
          case round =>
            obtain ⟨i, hi, rfl, hft, hkt⟩ := hrel
            have HFt := Hid_mk hft
            have HKt := Hid_mk hkt
            clear hft hkt
            by_cases hil : i < qs.length
            · have hii : (i : Int) < (qs.length : Int) := by omega
              have hii0 : (0 : Int) ≤ (i : Int) := Int.natCast_nonneg _
              have HStart := Hid_mk (show WriteRel2 w9 w5.heap.size (.slice a6 qs.length c6) qs (qs.getD i (.slice none 0 0, [])).2.length (.int .i64 ((0 : Nat) : Int)) wr from ⟨0, Nat.zero_le _, rfl, HFt.out, HKt.out⟩)
              go_wp2
              go_hide hQ
              go_loopw [19] (fun j wq => WriteRel2 w9 w5.heap.size (.slice a6 qs.length c6) qs (qs.getD i (.slice none 0 0, [])).2.length j wq) (fun j _ => (qs.getD i (.slice none 0 0, [])).2.length - (intOf j).toNat)
              case atStart => exact HStart.out
              case round =>
                obtain ⟨j, hj, rfl, hft, hkt⟩ := hrel
                have hget : qs.getD i (.slice none 0 0, []) = qs[i] := by simp [List.getD, hil]
                rw [hget] at hj
                have JFt := Hid_mk hft
                have JKt := Hid_mk hkt
                obtain ⟨g0, e0, hcap, hcell⟩ := Fat.at hft hil
                unfold maxLen at hcap
                obtain rfl := e0
                have hmem : qs[i] ∈ qs := List.getElem_mem hil
                have hform := hft.form _ hmem
                have hbyt := hft.byt _ hmem
                rw [hget]
                generalize qs[i] = q at *
                obtain ⟨x, bx⟩ := q
                simp only at hcell hform hbyt hj
                generalize hnb : bx.length = n at *
                have hj0 : (0 : Int) ≤ (j : Int) := Int.natCast_nonneg _
                by_cases hjn : j < n
                · obtain ⟨g, capx, rfl, hcx⟩ : ∃ g cap, x = .slice (some ⟨g, 0, none⟩) n cap ∧ n ≤ cap ∧ cap ≤ maxLen := by
                    rcases hform with ⟨-, h0⟩ | hf
                    · omega
                    · exact hf
                  unfold maxLen at hcx
                  obtain ⟨hbg, hvg, hcb, hfz⟩ := hbyt g rfl
                  obtain ⟨x0, hcj⟩ := hcb j hjn
                  have hwj := hfz j
                  have hji : (j : Int) < (n : Int) := by omega
                  have hset := hft.set hcj hvg 238
                  have hrel : WriteRel2 w9 w5.heap.size (.slice (some ⟨g0, 0, none⟩) qs.length c6) qs n (.int .i64 ((j + 1 : Nat) : Int)) (wr.setCell ⟨g, j, none⟩ (B 238)) := ⟨j + 1, hjn, rfl, hset, JKt.out.setCell (p := ⟨g, j, none⟩) (fun _ => hbg) _⟩
                  have HRel := Hid_mk hrel
                  unfold B at hcj
                  clear hrel hset hcb hfz hbyt hform hget hft hkt hmem hvg
                  go_wp2
                  go_roundw
                  case rel => exact HRel.out
                  case measure => simp [intOf]; omega
                · obtain ⟨ax, capx, rfl⟩ : ∃ a cap, x = .slice a n cap := by
                    rcases hform with ⟨e, h0⟩ | ⟨g, cap, e, -⟩
                    · exact ⟨none, 0, by rw [e, h0]⟩
                    · exact ⟨_, _, e⟩
                  have hji : ¬ (j : Int) < (n : Int) := by omega
                  have HRel := Hid_mk (show WriteRel w9 w5.heap.size (.slice (some ⟨g0, 0, none⟩) qs.length c6) qs (.int .i64 ((i + 1 : Nat) : Int)) wr from ⟨i + 1, hil, rfl, JFt.out, JKt.out⟩)
                  clear hbyt hform hget hft hkt hmem
                  go_wp2
                  subst hQ
                  go_wp2
                  go_roundw
                  case rel => exact HRel.out
                  case measure => simp [intOf]; omega
            · have hii : ¬ (i : Int) < (qs.length : Int) := by omega
              have hb5 : ∀ k, k < w5.heap.size → ¬ w5.heap.size ≤ k := fun k h => by omega
              have hcv5 := conv_bs (owns_bs (owns_kept (owns_kept HO5.out HK59.out fun _ _ => id) HKt.out fun g hg => hb5 g (HO5.out.lt g hg).2))
              have hcvb := conv_bs (show Bs wr _ bz from by
                by_cases hbe : bz = []
                · obtain ⟨a, c, e, h1, h2, h3⟩ := HB.out
                  exact ⟨a, c, e, h1, h2, fun h => absurd hbe h⟩
                · refine bs_kept (bs_no HB5.out HK59.out) HKt.out ?_
                  intro b o n c e
                  obtain ⟨a, c', e', h1, h2, h3⟩ := HB5.out
                  obtain ⟨b', o', e2, hc⟩ := h3 hbe
                  rw [e'] at e
                  cases e
                  cases e2
                  exact hb5 _ (World.block_lt_of_cell? w5 _ (hc 0 (List.length_pos_iff.2 hbe))))
              have HK := Hid_mk (show Kp No w wr from HK9.out.trans HKt.out fun k hk e => by have := HK5.out.size; omega)
              go_wp2
              go_ret
              exact ⟨rfl, HK.out⟩
        · have hzi : (0 : Int) < (bz.length : Int) := by omega
          obtain ⟨g, capx, hge, hg1, hg2⟩ := owns_some HO.out (by omega)
          simp only [Value.slice.injEq] at hge
          obtain ⟨rfl, -, rfl⟩ := hge
          obtain ⟨L, hL⟩ : ∃ L, bz.length = L := ⟨_, rfl⟩
          have HLen := Hid_mk hL
          have hbs := HB.out
          rw [hL] at hzi hal hbs ⊢
          obtain ⟨K, hK⟩ : ∃ K : Nat, at_ % (L : Int) = K := ⟨(at_ % (L : Int)).toNat, by have := Int.emod_nonneg at_ (show (L : Int) ≠ 0 by omega); omega⟩
          have hKl : K < L := by have := Int.emod_lt_of_pos at_ hzi; omega
          have hp := fun w => turned.pick_any at_ (L : Int) hzi (by omega) w
          rw [hK] at hp
          have HP := Hid_mk hp
          have hcell : wr.cell? ⟨g, K, none⟩ = some (B (bz.getD K 0)) := by
            have := HO.out.cells (g := g) rfl K (B (bz.getD K 0)) (by simp [List.getD, show K < bz.length by omega])
            rwa [addr_add, Nat.zero_add] at this
          have hwarm : wr.frozen? ⟨g, K, none⟩ = false := by
            rcases HO.out.2 with ⟨e, _⟩ | ⟨g', cap', cur, e, _, hg, _⟩
            · cases e
            · cases e; simp [World.frozen?, hg]
          unfold B at hcell
          have hKi : (K : Int) < (L : Int) := by omega
          have hKi0 : (0 : Int) ≤ (K : Int) := Int.natCast_nonneg _
          clear hp hK hz0 hL
          go_wp2_with fail
          with_reducible refine (HP.out _).mono ?_
          rintro e w' ⟨rfl, rfl⟩
          obtain ⟨y, hy⟩ : ∃ y : UInt8, B y = .int .u8 (to % 256) := ⟨(to % 256).toNat.toUInt8, by
            have h0 := Int.emod_nonneg to (show (256 : Int) ≠ 0 by omega)
            have h1 := Int.emod_lt_of_pos to (show (0 : Int) < 256 by omega)
            unfold B
            rw [u8_toNat]
            congr 1
            omega⟩
          have hset := turned.bs_set hbs K hKl y
          rw [Nat.zero_add, hy] at hset
          have hkset : Kp No w (wr.setCell ⟨g, K, none⟩ (.int .u8 (to % 256))) := HKb.out.setCell (p := ⟨g, K, none⟩) (fun hlt => by simp only at hlt; omega) _
          clear HKb
          have HKb := Hid_mk hkset
          have hl2 : (bz.set K y).length = L := by rw [List.length_set, HLen.out]
          have hsz : (wr.setCell ⟨g, K, none⟩ (.int .u8 (to % 256))).heap.size = wr.heap.size := by simp [World.setCell]
          have hown0 := World.ownsRow_made (base := (wr.setCell ⟨g, K, none⟩ (.int .u8 (to % 256))).heap.size) (size := 1) (e := 5) (wr.setCell ⟨g, K, none⟩ (.int .u8 (to % 256))) #[] 0 (Nat.le_refl _) (by decide) rfl
          rw [hsz] at hown0
          have HOwn0 := Hid_mk hown0
          have hsz2 : (wr.setCell ⟨g, K, none⟩ (.int .u8 (to % 256))).heap.size ≤ wr.heap.size := by omega
          clear HB hbs hy hkset HO hown0 hsz
          generalize bz.set K y = bq at *
          subst hl2
          have HB := Hid_mk hset
          clear hset
          go_wp2_with (at_builtin; (refine wpList_append_bs _ rfl _ _ rfl wr.heap.size _ [] rfl HOwn0.out _ bq rfl (bs_no HB.out ((Kp.refl No (wr.setCell ⟨g, K, none⟩ (.int .u8 (to % 256)))).alloc _)) (show ([] : List UInt8).length + bq.length ≤ 140737488355328 by simp only [List.length_nil]; omega) (show wr.heap.size ≤ ((wr.setCell ⟨g, K, none⟩ (.int .u8 (to % 256))).alloc (.cells #[] 5)).heap.size by simp) ?_))
          intro v5 w5 happ
          have hk5 : Kp No (wr.setCell ⟨g, K, none⟩ (.int .u8 (to % 256))) w5 := ((Kp.refl No (wr.setCell ⟨g, K, none⟩ (.int .u8 (to % 256)))).alloc _).grown happ.2.1 fun k hk e => by simp [Value.ownBlock] at e; omega
          have HO5 := Hid_mk (show w5.ownsRow wr.heap.size 5 1 v5 bq.length (bq.map B) by simpa using happ.1)
          have HB5 := Hid_mk (bs_no HB.out hk5)
          have HK5 := Hid_mk (HKb.out.trans' hk5)
          obtain ⟨a5, c5, rfl, -⟩ := id (owns_bs HO5.out)
          have HLi := Hid_mk (frm.list_any w5 _ bq (owns_bs HO5.out) (by omega))
          have HR := fun W (hk : Kp No w5 W) => Hid_mk (ref.list_any W (.slice (some ⟨g, 0, none⟩) bq.length cb) bq (bs_no HB5.out hk) (by omega))
          have HRe := Hid_mk HR
          clear happ hk5 HR
          go_wp2_with fail
          with_reducible refine HLi.out.mono ?_
          rintro e w6 ⟨v6, qs, rfl, hlo6, htx6, hk6⟩
          have HK6 := Hid_mk (HK5.out.trans' hk6)
          have HK56 := Hid_mk hk6
          have HLo6 := Hid_mk hlo6
          have HTx6 := Hid_mk htx6
          have HR6 := HRe.out w6 hk6
          clear hlo6 htx6 hk6
          go_wp2_with fail
          with_reducible refine HR6.out.mono ?_
          rintro e w7 ⟨v7, rs, rfl, hlo7, htx7, hk7⟩
          have HK7 := Hid_mk (HK6.out.trans' hk7)
          have HK57 := Hid_mk (HK56.out.trans' hk7)
          have HLo67 := Hid_mk (HLo6.out.no hk7)
          have HSm := fun W (hk : Kp No w7 W) => Hid_mk (same_any W v6 v7 qs rs ((HLo67.out.no hk).ls) ((hlo7.no hk).ls) (by rw [HTx6.out, htx7]))
          have HSame := Hid_mk HSm
          clear hlo7 htx7 hk7 HSm
          generalize (listP bq).2 = place9 at *
          go_wp2_with fail
          with_reducible refine (known_any w7).mono ?_
          rintro e w8 ⟨rfl, hk8⟩
          have HS8 := HSame.out w8 hk8
          have HK58 := Hid_mk (HK57.out.trans' hk8)
          have HLo8 := Hid_mk (HLo67.out.no hk8)
          have HK8 := Hid_mk (HK7.out.trans' hk8)
          clear hk8
          go_wp2_with fail
          with_reducible refine HS8.out.mono ?_
          rintro e w9 ⟨rfl, hk9⟩
          have HK59 := Hid_mk (HK58.out.trans' hk9)
          have HFat := Hid_mk (HLo8.out.no hk9).fat
          have HK9 := Hid_mk (HK8.out.trans' hk9)
          have hcv5 := conv_bs (owns_bs (owns_kept HO5.out HK59.out fun _ _ => id))
          have hcvb := conv_bs (bs_no HB5.out HK59.out)
          obtain ⟨a6, c6, rfl⟩ : ∃ a c, v6 = .slice a qs.length c := by
            rcases owns_any HFat.out.row with ⟨rfl, hz⟩ | ⟨g, cap, rfl, -⟩
            · exact ⟨none, 0, by rw [hz]⟩
            · exact ⟨_, _, rfl⟩
          clear hk9
          go_wp2
          clear hcv5 hcvb
          go_loopw [18] (fun i wq => WriteRel w9 w5.heap.size (.slice a6 qs.length c6) qs i wq) (fun i _ => qs.length - (intOf i).toNat)
          case atStart => exact ⟨0, Nat.zero_le _, rfl, HFat.out, Kp.refl _ _⟩
          case round =>
            obtain ⟨i, hi, rfl, hft, hkt⟩ := hrel
            have HFt := Hid_mk hft
            have HKt := Hid_mk hkt
            clear hft hkt
            by_cases hil : i < qs.length
            · have hii : (i : Int) < (qs.length : Int) := by omega
              have hii0 : (0 : Int) ≤ (i : Int) := Int.natCast_nonneg _
              have HStart := Hid_mk (show WriteRel2 w9 w5.heap.size (.slice a6 qs.length c6) qs (qs.getD i (.slice none 0 0, [])).2.length (.int .i64 ((0 : Nat) : Int)) wr from ⟨0, Nat.zero_le _, rfl, HFt.out, HKt.out⟩)
              go_wp2
              go_hide hQ
              go_loopw [19] (fun j wq => WriteRel2 w9 w5.heap.size (.slice a6 qs.length c6) qs (qs.getD i (.slice none 0 0, [])).2.length j wq) (fun j _ => (qs.getD i (.slice none 0 0, [])).2.length - (intOf j).toNat)
              case atStart => exact HStart.out
              case round =>
                obtain ⟨j, hj, rfl, hft, hkt⟩ := hrel
                have hget : qs.getD i (.slice none 0 0, []) = qs[i] := by simp [List.getD, hil]
                rw [hget] at hj
                have JFt := Hid_mk hft
                have JKt := Hid_mk hkt
                obtain ⟨g0, e0, hcap, hcell⟩ := Fat.at hft hil
                unfold maxLen at hcap
                obtain rfl := e0
                have hmem : qs[i] ∈ qs := List.getElem_mem hil
                have hform := hft.form _ hmem
                have hbyt := hft.byt _ hmem
                rw [hget]
                generalize qs[i] = q at *
                obtain ⟨x, bx⟩ := q
                simp only at hcell hform hbyt hj
                generalize hnb : bx.length = n at *
                have hj0 : (0 : Int) ≤ (j : Int) := Int.natCast_nonneg _
                by_cases hjn : j < n
                · obtain ⟨g, capx, rfl, hcx⟩ : ∃ g cap, x = .slice (some ⟨g, 0, none⟩) n cap ∧ n ≤ cap ∧ cap ≤ maxLen := by
                    rcases hform with ⟨-, h0⟩ | hf
                    · omega
                    · exact hf
                  unfold maxLen at hcx
                  obtain ⟨hbg, hvg, hcb, hfz⟩ := hbyt g rfl
                  obtain ⟨x0, hcj⟩ := hcb j hjn
                  have hwj := hfz j
                  have hji : (j : Int) < (n : Int) := by omega
                  have hset := hft.set hcj hvg 238
                  have hrel : WriteRel2 w9 w5.heap.size (.slice (some ⟨g0, 0, none⟩) qs.length c6) qs n (.int .i64 ((j + 1 : Nat) : Int)) (wr.setCell ⟨g, j, none⟩ (B 238)) := ⟨j + 1, hjn, rfl, hset, JKt.out.setCell (p := ⟨g, j, none⟩) (fun _ => hbg) _⟩
                  have HRel := Hid_mk hrel
                  unfold B at hcj
                  clear hrel hset hcb hfz hbyt hform hget hft hkt hmem hvg
                  go_wp2
                  go_roundw
                  case rel => exact HRel.out
                  case measure => simp [intOf]; omega
                · obtain ⟨ax, capx, rfl⟩ : ∃ a cap, x = .slice a n cap := by
                    rcases hform with ⟨e, h0⟩ | ⟨g, cap, e, -⟩
                    · exact ⟨none, 0, by rw [e, h0]⟩
                    · exact ⟨_, _, e⟩
                  have hji : ¬ (j : Int) < (n : Int) := by omega
                  have HRel := Hid_mk (show WriteRel w9 w5.heap.size (.slice (some ⟨g0, 0, none⟩) qs.length c6) qs (.int .i64 ((i + 1 : Nat) : Int)) wr from ⟨i + 1, hil, rfl, JFt.out, JKt.out⟩)
                  clear hbyt hform hget hft hkt hmem
                  go_wp2
                  subst hQ
                  go_wp2
                  go_roundw
                  case rel => exact HRel.out
                  case measure => simp [intOf]; omega
            · have hii : ¬ (i : Int) < (qs.length : Int) := by omega
              have hb5 : ∀ k, k < w5.heap.size → ¬ w5.heap.size ≤ k := fun k h => by omega
              have hcv5 := conv_bs (owns_bs (owns_kept (owns_kept HO5.out HK59.out fun _ _ => id) HKt.out fun g hg => hb5 g (HO5.out.lt g hg).2))
              have hcvb := conv_bs (show Bs wr _ bq from by
                by_cases hbe : bq = []
                · obtain ⟨a, c, e, h1, h2, h3⟩ := HB.out
                  exact ⟨a, c, e, h1, h2, fun h => absurd hbe h⟩
                · refine bs_kept (bs_no HB5.out HK59.out) HKt.out ?_
                  intro b o n c e
                  obtain ⟨a, c', e', h1, h2, h3⟩ := HB5.out
                  obtain ⟨b', o', e2, hc⟩ := h3 hbe
                  rw [e'] at e
                  cases e
                  cases e2
                  exact hb5 _ (World.block_lt_of_cell? w5 _ (hc 0 (List.length_pos_iff.2 hbe))))
              have HK := Hid_mk (show Kp No w wr from HK9.out.trans HKt.out fun k hk e => by have := HK5.out.size; omega)
              go_wp2
              go_ret
              exact ⟨rfl, HK.out⟩

theorem lists_any (w : World) (vb v : Value) (bz : List UInt8) (ps : Els) (is : Bool) (at_ to : Int) (hb : Bs w vb bz) (h : Ls w v ps) (hl : bz.length ≤ 1048576) :
    Calls Try.prog 8 #[vb, v, .bool is, .int .i64 at_, .int .i64 to] w fun e w' => e = .returned (.bool true) ∧ Kp No w w' := by
  cases is with
  | false => exact lists_no w vb v bz ps at_ to hb h hl
  | true => exact lists_yes w vb v ps at_ to h (by obtain ⟨a, c, e, -⟩ := hb; exact ⟨_, _, _, e⟩)

end Go.Proofs.Ytbhhmbbldbgdnaa.frl
