/- SplitBytes: the law's walk, over what is asked of the project's Splitter. -/
import Derived.Test.YtpmmjihkgfmbhaaSplitAll
import Derived.Test.YtpmmjihkgfmbhaaSplitKnown0
namespace Go.Proofs.Ytpmmjihkgfmbhaa.spl
open Go.RowKit Go.Maps Go.Proofs.Ytpmmjihkgfmbhaa.sum Go.Proofs.Ytpmmjihkgfmbhaa.kept Go.Proofs.Ytpmmjihkgfmbhaa.app Go.Proofs.Ytpmmjihkgfmbhaa.writer Go.Proofs.Ytpmmjihkgfmbhaa.clone Go.Proofs.Ytpmmjihkgfmbhaa.known Go.Proofs.Ytpmmjihkgfmbhaa.unseal Go.Proofs.Ytpmmjihkgfmbhaa.snp
set_option linter.unusedVariables false

theorem Cu.nil (w : World) : Cu w (.slice none 0 0) [] := ⟨none, 0, rfl, Nat.le_refl _, by decide, fun h => absurd rfl h⟩

def SbRel (w w2 : World) (m : Nat) (bt : List UInt8) (c : UInt8) (out fr iv : Value) (wr : World) : Prop :=
  ∃ (i f : Nat) (l : List (List UInt8)), iv = .int .i64 (i : Int) ∧ fr = .int .i64 (f : Int) ∧ i ≤ bt.length ∧ f ≤ i ∧ eatS m [c] (bt.take i) zeroS = (l, cutB m bt f i) ∧ TRow wr w2.heap.size out l ∧ l.length ≤ i ∧ Kp No w2 wr

theorem cut_piece (m : Nat) (b : List UInt8) {f i h : Nat} (hf : f ≤ i) (hi : i ≤ b.length) (hh : h = min i (f + m)) : (b.drop f).take (h - f) = ((b.take i).drop f).take m := by
  subst hh
  rw [List.drop_take, List.take_take]
  congr 1
  omega

set_option maxRecDepth 100000 in
set_option maxHeartbeats 8000000 in
theorem splitBytes_any {Sp : SpT} (C : SplitC Sp) (w : World) (most : Int) (vb : Value) (bs : List UInt8) (c : UInt8) (hb : Bs w vb bs) (hl : bs.length ≤ 140737488355328) :
    Calls Try.prog 4 #[.int .i64 most, vb, .int .u8 (c.toNat : Int)] w fun e w' => e = .returned (.bool true) ∧ Kp No w w' := by
  obtain ⟨m, hm⟩ : ∃ m : Nat, 1 + most % 12 = (m : Int) := ⟨(1 + most % 12).toNat, by have := Int.emod_nonneg most (show (12 : Int) ≠ 0 by omega); omega⟩
  have hm1 : 1 ≤ m := by have := Int.emod_nonneg most (show (12 : Int) ≠ 0 by omega); omega
  have hm2 : m ≤ 12 := by have := Int.emod_lt_of_pos most (show (0 : Int) < 12 by omega); omega
  obtain ⟨ab, cb, rfl, b1, b2, -⟩ := id hb
  unfold maxLen at b2
  obtain ⟨bt, hbte⟩ : ∃ bt, bs.take (min bs.length 300) = bt := ⟨_, rfl⟩
  have hbtl : bt.length = min bs.length 300 := by rw [← hbte, List.length_take]; omega
  have hbt := bs_take hb (min bs.length 300) (Nat.min_le_left _ _)
  rw [hbte, ← hbtl] at hbt
  obtain ⟨L, hL⟩ : ∃ L, bt.length = L := ⟨_, rfl⟩
  have hL3 : L ≤ 300 := by omega
  have hLc : L ≤ cb := by omega
  rw [hL] at hbt
  have hwm : IntKind.i64.wrap (1 + most % 12) = (m : Int) := by rw [hm]; exact IntWalk.i64_in _ (by omega)
  have HPk := Hid_mk (turned.pick_any most 12 (by omega) (by omega) w)
  have HBt := Hid_mk hbt
  have HL := Hid_mk hL
  have HAl := Hid_mk fun W (hW : Kp No w W) => all_any C W m hm1 (by omega) (.slice ab L cb) (.slice none 0 0) bt [] [c] (bs_no hbt hW) (Cu.nil W) (by omega) (by simp) (by unfold maxLen; simp)
  have hcv := conv_tx (bs_one w c)
  have hmin : min (bs.length : Int) 300 = (L : Int) := by omega
  have hsel : (bs.length ≤ 300 ∧ L = bs.length) ∨ (¬ bs.length ≤ 300 ∧ L = 300) := by omega
  clear hb hbt hbte hbtl hL
  rcases hsel with ⟨h3, e3⟩ | ⟨h3, e3⟩
  all_goals
    have h3i : (300 : Int) < (bs.length : Int) ∨ (bs.length : Int) ≤ 300 := by omega
    go_enter Try.func4, Try.ntmps4
    go_wp2_with fail
    with_reducible refine HPk.out.mono ?_
    rintro e w' ⟨rfl, rfl⟩
    go_wp2_with fail
    rw [← e3]
    clear e3 h3 hl
    with_reducible refine (HAl.out _ ((Kp.refl No w).alloc _)).mono ?_
    rintro e w2 ⟨vx, rfl, hrow, hk2⟩
    have HKw : Hid (Kp No w w2) := Hid_mk (((Kp.refl No w).alloc _).trans' hk2)
    have HRow := Hid_mk (TRow.tr hrow)
    have hvx : ∃ a n c, vx = .slice a n c := by
      obtain ⟨a, cc, e, -⟩ := TRow.tr hrow
      exact ⟨a, _, cc, e⟩
    obtain ⟨ax, nx, cx, rfl⟩ := hvx
    clear hrow hk2 HPk HAl hcv hmin hwm h3i
    go_wp2
    go_loopw [9, 10, 11] (fun out fr iv wr => SbRel w w2 m bt c out fr iv wr) (fun _ _ iv _ => L - (intOf iv).toNat)
    case atStart => exact ⟨0, 0, [], rfl, rfl, Nat.zero_le _, Nat.le_refl _, by rw [cutB_zero]; rfl, TRow.nil _ _, Nat.zero_le _, Kp.refl _ _⟩
    case round =>
      obtain ⟨i, f, l, rfl, rfl, hi, hf, heat, hrow, hll, hkp⟩ := hrel
      rw [HL.out] at hi
      have HEat := Hid_mk heat
      have HWr := Hid_mk hrow
      have HK := Hid_mk hkp
      have hi0 : (0 : Int) ≤ (i : Int) := Int.natCast_nonneg _
      have hf0 : (0 : Int) ≤ (f : Int) := Int.natCast_nonneg _
      have hfi : (f : Int) ≤ (i : Int) := by omega
      clear heat hrow hkp
      by_cases hlt : i < L
      · obtain ⟨a2, c2, e2, -, -, h3⟩ := HBt.out
        obtain ⟨b, o, e3, hc⟩ := h3 (by intro e; have := HL.out; rw [e] at this; simp only [List.length_nil] at this; omega)
        simp only [Value.slice.injEq] at e2
        rw [← e2.1] at e3
        subst e3
        clear e2
        have hib : i < bt.length := by rw [HL.out]; exact hlt
        have hci := HK.out.cell' (HKw.out.cell' (hc i hib) id) id
        obtain ⟨y, hy⟩ : ∃ y, bt[i] = y := ⟨_, rfl⟩
        have hgd : bt.getD i 0 = y := by rw [← hy]; simp [List.getD, hib]
        rw [hgd] at hci
        unfold B at hci
        have hbn := byte_next (m := m) (c := c) hf hib HEat.out
        rw [hy] at hbn
        have hwi : IntKind.i64.wrap ((i : Int) + 1) = (i : Int) + 1 := IntWalk.i64_in _ (by omega)
        have hii : (i : Int) < (L : Int) := by omega
        have HLt := Hid_mk hlt
        by_cases hyc : y = c
        · rw [if_pos hyc] at hbn
          obtain ⟨h, hh⟩ : ∃ h : Nat, h = min i (f + m) := ⟨_, rfl⟩
          have hwf : IntKind.i64.wrap ((f : Int) + (m : Int)) = (f : Int) + (m : Int) := IntWalk.i64_in _ (by omega)
          have hfh : f ≤ h := by omega
          have hfhi : (f : Int) ≤ (h : Int) := by omega
          have hhl : (h : Int) ≤ (cb : Int) := by omega
          have hbs := bs_take (bs_drop HBt.out f (by omega) (some ⟨b, o + f, none⟩) fun _ => rfl) (h - f) (by omega)
          rw [cut_piece m bt hf (by rw [HL.out]; omega) hh] at hbs
          have hbw := bs_no hbs (HKw.out.trans' HK.out)
          have hcvq := fun (q : Nat) (hq : h - f = q) => conv_tx (show Bs wr (.slice (some ⟨b, o + f, none⟩) q (cb - f)) _ from hq ▸ hbw)
          have hye : ((y.toNat : Int) == (c.toNat : Int)) = true := by rw [hyc]; simp
          have HBn := Hid_mk hbn
          have hl3 : l.length ≤ 1000000000000 := by omega
          have hfc : ¬ f = cb := by omega
          by_cases hs : (f : Int) + (m : Int) < (i : Int)
          all_goals first
            | (have hcv2 := hcvq m (by omega))
            | (have hcv2 := hcvq (i - f) (by omega))
          all_goals
            clear hcvq hbs hbw hbn hyc hh hc h3 hgd hy
            have hb1 : w2.heap.size ≤ (wr.alloc (.cells #[.string (tx (((bt.take i).drop f).take m))] 9)).heap.size := by have := HK.out.size; simp; omega
            go_wp2_with (at_builtin; (refine wpList_catT _ rfl _ _ rfl w2.heap.size _ l (((bt.take i).drop f).take m) rfl (TRow.no HWr.out ((Kp.refl No wr).alloc _)) hb1 wr.heap.size 1 rfl (by simp) hl3 ?_))
            intro o5 w5 hq1 hq2 hq3
            have hk5 : Kp No w2 w5 := (HK.out.alloc _).trans hq2 fun q hq e => by have := (World.ownsRow.lt HWr.out q e).1; omega
            have HRel : Hid (SbRel w w2 m bt c o5 (.int .i64 ((i : Int) + 1)) (.int .i64 ((i : Int) + 1)) w5) := Hid_mk ⟨i + 1, i + 1, _, by push_cast; rfl, by push_cast; rfl, by rw [HL.out]; have := HLt.out; omega, Nat.le_refl _, HBn.out, hq1, by simp only [List.length_append, List.length_singleton]; omega, hk5⟩
            clear hq1 hq2 hq3 hk5
            go_wp2
            go_roundw
            case rel => exact HRel.out
            case measure => have := HLt.out; simp only [intOf]; omega
        · rw [if_neg hyc] at hbn
          have hye : ((y.toNat : Int) == (c.toNat : Int)) = false := by
            simp only [beq_eq_false_iff_ne, ne_eq]
            exact fun e => hyc (UInt8.toNat_inj.1 (by omega))
          have HRel : Hid (SbRel w w2 m bt c _ (.int .i64 (f : Int)) (.int .i64 ((i : Int) + 1)) wr) := Hid_mk ⟨i + 1, f, l, by push_cast; rfl, rfl, by rw [HL.out]; have := HLt.out; omega, by omega, hbn, HWr.out, by omega, HK.out⟩
          clear hbn hyc hc h3 hgd hy
          go_wp2
          go_roundw
          case rel => exact HRel.out
          case measure => have := HLt.out; simp only [intOf]; omega
      · have hiL : i = L := by omega
        have hR : recsS m [c] bt = l ++ (if f < bt.length then [(bt.drop f).take m] else []) := by
          have h1 := HEat.out
          rw [hiL, ← HL.out, List.take_length] at h1
          unfold recsS
          rw [h1, byte_tail hm1 (by rw [HL.out]; omega)]
        have hii : ¬ (i : Int) < (L : Int) := by omega
        have HWt := Hid_mk (TRow.tr HWr.out)
        by_cases hfl : f < L
        · rw [if_pos (by rw [HL.out]; exact hfl)] at hR
          have hfli : (f : Int) < (L : Int) := by omega
          obtain ⟨h, hh⟩ : ∃ h : Nat, h = min L (f + m) := ⟨_, rfl⟩
          have hwf : IntKind.i64.wrap ((f : Int) + (m : Int)) = (f : Int) + (m : Int) := IntWalk.i64_in _ (by omega)
          have hfh : f ≤ h := by omega
          have hfhi : (f : Int) ≤ (h : Int) := by omega
          have hhl : (h : Int) ≤ (cb : Int) := by omega
          obtain ⟨a2, c2, e2, -, -, h3'⟩ := HBt.out
          obtain ⟨b, o, e3, -⟩ := h3' (by intro e; have := HL.out; rw [e] at this; simp only [List.length_nil] at this; omega)
          simp only [Value.slice.injEq] at e2
          rw [← e2.1] at e3
          subst e3
          clear e2
          have hbs := bs_take (bs_drop HBt.out f (by omega) (some ⟨b, o + f, none⟩) fun _ => rfl) (h - f) (by omega)
          rw [cut_piece m bt (i := L) (by omega) (by rw [HL.out]; omega) hh, show bt.take L = bt by rw [← HL.out, List.take_length]] at hbs
          have hbw := bs_no hbs (HKw.out.trans' HK.out)
          have hcvq := fun (q : Nat) (hq : h - f = q) => conv_tx (show Bs wr (.slice (some ⟨b, o + f, none⟩) q (cb - f)) _ from hq ▸ hbw)
          have hl3 : l.length ≤ 1000000000000 := by omega
          have hfc : ¬ f = cb := by omega
          have hb1 : w2.heap.size ≤ (wr.alloc (.cells #[.string (tx ((bt.drop f).take m))] 9)).heap.size := by have := HK.out.size; simp; omega
          have HR := Hid_mk hR
          by_cases hs : (f : Int) + (m : Int) < (L : Int)
          all_goals first
            | (have hcv2 := hcvq m (by omega))
            | (have hcv2 := hcvq (L - f) (by omega))
          all_goals
            clear hcvq hbs hbw hh hR h3' hiL hi hll hfi hi0
            go_wp2_with (at_builtin; (show wpList _ _ _ ({ dst := _, op := Op.call { callee := Callee.builtin Builtin.append, args := _, argTypes := _ }, type := _, pos := _, after := _, guard := _ } :: _) _ _; refine wpList_catT _ rfl _ _ rfl w2.heap.size _ l ((bt.drop f).take m) rfl (TRow.no HWr.out ((Kp.refl No wr).alloc _)) hb1 wr.heap.size 1 rfl (by simp) hl3 ?_))
            intro o5 w5 hq1 hq2 hq3
            have hk5 : Kp No w2 w5 := (HK.out.alloc _).trans hq2 fun q hq e => by have := (World.ownsRow.lt HWr.out q e).1; omega
            have HK5 := Hid_mk hk5
            have hv5 : ∃ a n c, o5 = .slice a n c := by
              obtain ⟨a, cc, e, -⟩ := TRow.tr hq1
              exact ⟨a, _, cc, e⟩
            have HTr : Hid (Tr w5 o5 (recsS m [c] bt)) := Hid_mk (by rw [HR.out]; exact TRow.tr hq1)
            obtain ⟨a5, n5, c5, rfl⟩ := hv5
            have HKn := Hid_mk (splitknown_any C w5)
            clear hq1 hq2 hq3 hk5 hfli hwf hfhi hhl hl3 hfc hb1 hs hcv2 hfl hfh hlt
            go_wp2_with fail
            with_reducible refine HKn.out.mono ?_
            rintro e w6 ⟨rfl, hk6⟩
            have HSt := Hid_mk (strs_any w6 _ _ (recsS m [c] bt) (HRow.out.no (HK5.out.trans' hk6)) (HTr.out.no hk6))
            have HK6 := Hid_mk (HK5.out.trans' hk6)
            clear hk6 HKn
            go_wp2_with fail
            with_reducible refine HSt.out.mono ?_
            rintro e w7 ⟨rfl, hk7⟩
            have HK7 := Hid_mk (HKw.out.trans' (HK6.out.trans' hk7))
            clear hk7 HSt
            go_wp2
            go_ret
            exact ⟨rfl, HK7.out⟩
        · rw [if_neg (by rw [HL.out]; exact hfl), List.append_nil] at hR
          have hfli : ¬ (f : Int) < (L : Int) := by omega
          have HK5 := HK
          have HTr : Hid (Tr wr _ (recsS m [c] bt)) := Hid_mk (by rw [hR]; exact HWt.out)
          clear hR hfl hiL hi hll hfi hi0
          have HKn := Hid_mk (splitknown_any C wr)
          go_wp2_with fail
          with_reducible refine HKn.out.mono ?_
          rintro e w6 ⟨rfl, hk6⟩
          have HSt := Hid_mk (strs_any w6 _ _ (recsS m [c] bt) (HRow.out.no (HK5.out.trans' hk6)) (HTr.out.no hk6))
          have HK6 := Hid_mk (HK5.out.trans' hk6)
          clear hk6 HKn
          go_wp2_with fail
          with_reducible refine HSt.out.mono ?_
          rintro e w7 ⟨rfl, hk7⟩
          have HK7 := Hid_mk (HKw.out.trans' (HK6.out.trans' hk7))
          clear hk7 HSt
          go_wp2
          go_ret
          exact ⟨rfl, HK7.out⟩

end Go.Proofs.Ytpmmjihkgfmbhaa.spl
