/- PackCut: the law's walk. -/
import Derived.Test.YtbnnbedmcipnpaaBackPlain
namespace Go.Proofs.Ytbnnbedmcipnpaa.cut
open Go.RowKit Go.Proofs.Ytbnnbedmcipnpaa.sum Go.Proofs.Ytbnnbedmcipnpaa.kept Go.Proofs.Ytbnnbedmcipnpaa.app Go.Proofs.Ytbnnbedmcipnpaa.writer Go.Proofs.Ytbnnbedmcipnpaa.clone Go.Proofs.Ytbnnbedmcipnpaa.known Go.Proofs.Ytbnnbedmcipnpaa.unseal Go.Proofs.Ytbnnbedmcipnpaa.number Go.Proofs.Ytbnnbedmcipnpaa.words Go.Proofs.Ytbnnbedmcipnpaa.turned Go.Proofs.Ytbnnbedmcipnpaa.laid Go.Proofs.Ytbnnbedmcipnpaa.back Go.Proofs.Ytbnnbedmcipnpaa.reader
set_option linter.unusedVariables false

/-- the first m of the bytes, k things read: all well, or it has ended too early -/
def CutSt (ls : List LayD) (m k at_ bad : Nat) : Prop :=
  (bad = 0 ∧ at_ = (layAll (ls.take k)).length ∧ at_ ≤ m) ∨ bad = 10

/-- where one stands before the next thing -/
theorem cut_step {ls : List LayD} {m k at_ : Nat} {d : LayD} (h : k < ls.length) (hd : ls[k] = d) (hst : CutSt ls m k at_ 0) :
    (∃ r, ((layAll ls).take m).drop at_ = layOne d ++ r ∧ CutSt ls m (k + 1) (at_ + (layOne d).length) 0) ∨ (∃ q, ((layAll ls).take m).drop at_ = (layOne d).take q ∧ q < (layOne d).length) := by
  subst hd
  rcases hst with ⟨-, rfl, hle⟩ | h
  · have e : layAll ls = layAll (ls.take k) ++ (layOne ls[k] ++ layAll (ls.drop (k + 1))) := by
      have e1 : ls = ls.take k ++ ls[k] :: ls.drop (k + 1) := by
        conv => lhs; rw [← List.take_append_drop k ls]
        rw [List.drop_eq_getElem_cons h]
      unfold layAll
      conv => lhs; rw [e1, List.flatMap_append, List.flatMap_cons]
    have hdrop : ((layAll ls).take m).drop (layAll (ls.take k)).length = (layOne ls[k] ++ layAll (ls.drop (k + 1))).take (m - (layAll (ls.take k)).length) := by
      rw [List.drop_take, e, List.drop_left]
    rw [hdrop]
    by_cases hq : (layOne ls[k]).length ≤ m - (layAll (ls.take k)).length
    · left
      refine ⟨_, by rw [List.take_append, List.take_of_length_le hq], .inl ⟨rfl, ?_, by omega⟩⟩
      rw [layAll_snoc h, List.length_append]
    · right
      exact ⟨m - (layAll (ls.take k)).length, by rw [List.take_append_of_le_length (by omega)], by omega⟩
  · omega

theorem st_byte {ls : List LayD} {m k at_ bad : Nat} {b : UInt8} (hb : bad = 0 ∨ bad = 10)
    (hs : bad = 0 → (∃ r, ((layAll ls).take m).drop at_ = [b] ++ r ∧ CutSt ls m (k + 1) (at_ + [b].length) 0) ∨ (∃ q, ((layAll ls).take m).drop at_ = [b].take q ∧ q < [b].length)) :
    CutSt ls m (k + 1) (rByte ((layAll ls).take m) at_ bad 255).2.1 (rByte ((layAll ls).take m) at_ bad 255).2.2 := by
  have hx : b.toNat < 256 := UInt8.toNat_lt _
  rcases hb with rfl | rfl
  · rcases hs rfl with ⟨r, h1, h2⟩ | ⟨q, h1, h2⟩
    · rw [byte_ok (b := b) (r := r) h1 (by omega)]; exact h2
    · obtain rfl : q = 0 := by simp at h2; omega
      rw [byte_cut h1]; exact .inr rfl
  · right; unfold rByte; simp
theorem st_num {ls : List LayD} {m k at_ bad n : Nat} (hn : n < U64) (hb : bad = 0 ∨ bad = 10)
    (hs : bad = 0 → (∃ r, ((layAll ls).take m).drop at_ = num n ++ r ∧ CutSt ls m (k + 1) (at_ + (num n).length) 0) ∨ (∃ q, ((layAll ls).take m).drop at_ = (num n).take q ∧ q < (num n).length)) :
    CutSt ls m (k + 1) (rNum ((layAll ls).take m) at_ bad 18446744073709551615).2.1 (rNum ((layAll ls).take m) at_ bad 18446744073709551615).2.2 := by
  rcases hb with rfl | rfl
  · rcases hs rfl with ⟨r, h1, h2⟩ | ⟨q, h1, h2⟩
    · rw [num_ok h1 hn (by rw [u64_eq] at hn; omega)]; exact h2
    · rw [num_cut h1 hn h2]; exact .inr rfl
  · right; unfold rNum; simp
theorem st_float {ls : List LayD} {m k at_ bad x : Nat} (hx : x < U64) (hb : bad = 0 ∨ bad = 10)
    (hs : bad = 0 → (∃ r, ((layAll ls).take m).drop at_ = bytesN 8 (canon x) ++ r ∧ CutSt ls m (k + 1) (at_ + (bytesN 8 (canon x)).length) 0) ∨ (∃ q, ((layAll ls).take m).drop at_ = (bytesN 8 (canon x)).take q ∧ q < (bytesN 8 (canon x)).length)) :
    CutSt ls m (k + 1) (rFloat ((layAll ls).take m) at_ bad).2.1 (rFloat ((layAll ls).take m) at_ bad).2.2 := by
  rcases hb with rfl | rfl
  · rcases hs rfl with ⟨r, h1, h2⟩ | ⟨q, h1, h2⟩
    · rw [float_ok h1 hx]
      rw [bytesN_len] at h2
      exact h2
    · rw [bytesN_len] at h2
      rw [float_cut (by rw [h1, List.length_take, bytesN_len]; omega)]; exact .inr rfl
  · right; unfold rFloat; simp
theorem st_text {ls : List LayD} {m k at_ bad : Nat} {t : List UInt8} (ht : t.length < U64) (hb : bad = 0 ∨ bad = 10)
    (hs : bad = 0 → (∃ r, ((layAll ls).take m).drop at_ = num t.length ++ t ++ r ∧ CutSt ls m (k + 1) (at_ + (num t.length ++ t).length) 0) ∨ (∃ q, ((layAll ls).take m).drop at_ = (num t.length ++ t).take q ∧ q < (num t.length ++ t).length)) :
    CutSt ls m (k + 1) (rText ((layAll ls).take m) at_ bad t.length).2.1 (rText ((layAll ls).take m) at_ bad t.length).2.2 := by
  rcases hb with rfl | rfl
  · rcases hs rfl with ⟨r, h1, h2⟩ | ⟨q, h1, h2⟩
    · rw [text_ok h1 ht (Nat.le_refl _)]; exact h2
    · exact .inr (text_cut h1 ht (Nat.le_refl _) h2)
  · right; unfold rText rNum; simp

theorem st_bad {ls : List LayD} {m k at_ bad : Nat} (h : CutSt ls m k at_ bad) : bad = 0 ∨ bad = 10 := by
  rcases h with ⟨h, _⟩ | h
  · exact .inl h
  · exact .inr h

theorem num_max (w : World) (p : Nat) (v : Value) (bs : List UInt8) (at_ bad : Nat) (h : Rd w p v bs at_ bad) :
    Calls Try.prog 16 #[.pointer (some ⟨p, 0, none⟩), .int .u64 18446744073709551615] w (RdPost w p v bs (.int .u64 ((rNum bs at_ bad 18446744073709551615).1 : Int)) (rNum bs at_ bad 18446744073709551615).2.1 (rNum bs at_ bad 18446744073709551615).2.2) :=
  reader.num_any w p v bs at_ bad 18446744073709551615 h
theorem text_len (w : World) (p : Nat) (v : Value) (bs : List UInt8) (at_ bad : Nat) (t : ByteArray) (ht : t.size < 140737488355328) (h : Rd w p v bs at_ bad) :
    Calls Try.prog 17 #[.pointer (some ⟨p, 0, none⟩), .int .i64 (t.size : Int)] w (RdPost w p v bs (.string ⟨(rText bs at_ bad t.data.toList.length).1.toArray⟩) (rText bs at_ bad t.data.toList.length).2.1 (rText bs at_ bad t.data.toList.length).2.2) := by
  have := reader.text_any w p v bs at_ bad (t.size : Int) (by omega) h
  rw [show ((t.size : Int)).toNat = t.data.toList.length by rw [Array.length_toList]; show _ = t.size; omega] at this
  exact this

def CutRel (w : World) (p : Nat) (vR : Value) (ls : List LayD) (m : Nat) (i : Value) (wr : World) : Prop :=
  ∃ k at_ bad, k ≤ ls.length ∧ i = .int .i64 ((k : Nat) : Int) ∧ CutSt ls m k at_ bad ∧ Rd wr p vR ((layAll ls).take m) at_ bad ∧ Kp No w wr

set_option maxRecDepth 100000 in
set_option maxHeartbeats 4000000 in
theorem cut_any (w : World) (v : Value) (ls : List LayD) (cut_ : Int) (h : Lays w v ls) (hok : ∀ d ∈ ls, d.ok) (hroom : roomOf ls < 140737488355328) :
    Calls Try.prog 8 #[v, .int .i64 cut_] w fun e w' => e = .returned (.bool true) ∧ Kp No w w' := by
  have H := Hid_mk h
  have HOk := Hid_mk hok
  have HRoom := Hid_mk hroom
  have hle := layAll_len ls hok
  obtain ⟨a, cap, rfl, hl, hm, -⟩ := h
  have hll : (layAll ls).length < 140737488355328 := by omega
  have HLen := Hid_mk hll
  clear hok hroom hle
  unfold maxLen at hm
  go_enter Try.func8, Try.ntmps8
  go_wp2_with fail
  refine (laid_any w _ ls H.out HOk.out HRoom.out).mono ?_
  rintro e w1 ⟨v1, rfl, ho1, hk1⟩
  have HO1 := Hid_mk ho1
  have HK1 := Hid_mk hk1
  clear ho1 hk1
  go_wp2_with fail
  refine (known_any _).mono ?_
  rintro e w2 ⟨rfl, hk2⟩
  have HK2 := Hid_mk (HK1.out.trans' hk2)
  have HB2 := Hid_mk (bs_no (owns_bs HO1.out) hk2)
  have hsh := owns_any HO1.out
  clear hk2
  by_cases h0 : (layAll ls).length = 0
  · rw [h0] at hsh
    rcases hsh with ⟨rfl, _⟩ | ⟨g, c1, rfl, hg1, hg2, hg3, hg4⟩
    all_goals
      clear hll h0
      go_wp2
      go_ret
      exact ⟨rfl, HK2.out⟩
  · rcases hsh with ⟨_, h00⟩ | ⟨g, c1, rfl, hg1, hg2, hg3, hg4⟩
    · omega
    · have hnz : (((layAll ls).length : Int) == 0) = false := beq_eq_false_iff_ne.2 (by omega)
      obtain ⟨M, hM⟩ : ∃ K : Nat, cut_ % ((layAll ls).length : Int) = K := ⟨(cut_ % ((layAll ls).length : Int)).toNat, by have := Int.emod_nonneg cut_ (show ((layAll ls).length : Int) ≠ 0 by omega); omega⟩
      have hMl : M < (layAll ls).length := by have := Int.emod_lt_of_pos cut_ (show (0 : Int) < ((layAll ls).length : Int) by omega); omega
      have hp := pick_any cut_ ((layAll ls).length : Int) (by omega) (by omega)
      rw [hM] at hp
      have HP := fun w => Hid_mk (hp w)
      have hT := bs_take HB2.out M (by omega)
      have HT := Hid_mk hT
      have HMl := Hid_mk hMl
      have hMc : (M : Int) ≤ (c1 : Int) := by omega
      have hMi : M ≤ 140737488355328 := by omega
      clear hp hT hM hll h0 hMl
      go_wp2_with fail
      refine (HP _).out.mono ?_
      rintro e w' ⟨rfl, rfl⟩
      go_wp2_with fail
      refine (reader.new_any w2 _ _ HT.out (by have := HMl.out; rw [List.length_take]; omega)).mono ?_
      rintro e w3 ⟨p, vR, rfl, hp3, hR3, hk3, -⟩
      have HK3 := Hid_mk (HK2.out.trans' hk3)
      have HR3 := Hid_mk hR3
      have hpw : w.heap.size ≤ p := by have := HK2.out.size; omega
      clear hR3 hk3 hp3
      go_wp2
      generalize hmM : M = m at *
      clear hmM
      go_loopw [7] (fun i wr => CutRel w p vR ls m i wr) (fun i _ => ls.length - (intOf i).toNat)
      case atStart => exact ⟨0, 0, 0, Nat.zero_le _, rfl, .inl ⟨rfl, by simp [layAll], Nat.zero_le _⟩, HR3.out, HK3.out⟩
      case round =>
        obtain ⟨k, at_, bad, hk, rfl, hst0, hR, hkp⟩ := hrel
        have HR := Hid_mk hR
        have HKp := Hid_mk hkp
        have HSt := Hid_mk hst0
        have hlays := lays_kept H.out hkp fun _ _ _ _ _ => id
        clear hR hkp hst0
        by_cases hlt : k < ls.length
        · obtain ⟨_, _, e, -, -, hc⟩ := hlays
          simp only [Value.slice.injEq] at e
          obtain ⟨rfl, -, rfl⟩ := e
          obtain ⟨b, o, rfl, hcell⟩ := hc (by intro e; subst e; simp at hlt)
          obtain ⟨c0, -, -, -, c4⟩ := hcell k hlt
          have hki : (k : Int) < (ls.length : Int) := by omega
          have hok : ls[k].ok := HOk.out _ (List.getElem_mem hlt)
          have hstep : bad = 0 → _ := fun hb => cut_step hlt rfl (hb ▸ HSt.out)
          have HStep := Hid_mk hstep
          generalize hd : ls[k] = d at *
          clear hcell hc hd hstep
          have hp := pick_any d.what 4 (by omega) (by omega)
          have HOkd := Hid_mk hok
          have htl : d.t.size < 140737488355328 := hok.2.2
          have hmod : d.what % 4 = 0 ∨ d.what % 4 = 1 ∨ d.what % 4 = 2 ∨ d.what % 4 = 3 := by omega
          clear hok
          rcases hmod with hm0 | hm1 | hm2 | hm3
          · rw [hm0] at hp
            have hone : layOne d = [d.b] := by unfold layOne; rw [hm0]; rfl
            have HP4 := fun w => Hid_mk (hp w)
            have hs := HStep.out
            rw [hone] at hs
            have HNew := Hid_mk (st_byte (st_bad HSt.out) hs)
            clear hp hone hm0 hs
            go_wp2_with fail
            refine (HP4 _).out.mono ?_
            rintro e w' ⟨rfl, rfl⟩
            go_wp2_with fail
            refine (reader.byte_any wr p vR _ at_ bad 255 HR.out).mono ?_
            rintro e w2 ⟨rfl, hR2, hk2⟩
            have hrel2 : CutRel w p vR ls m (.int .i64 ((k + 1 : Nat) : Int)) w2 := ⟨k + 1, _, _, hlt, rfl, HNew.out, hR2, HKp.out.trans hk2 fun i hi e => by omega⟩
            have HRel := Hid_mk hrel2
            clear hR2 hk2 hrel2
            go_wp2
            go_roundw
            case rel => exact HRel.out
            case measure => simp [intOf]; omega
          · rw [hm1] at hp
            have hone : layOne d = num d.n := by unfold layOne; rw [hm1]; rfl
            have HP4 := fun w => Hid_mk (hp w)
            have hs := HStep.out
            rw [hone] at hs
            have HNew := Hid_mk (st_num HOkd.out.1 (st_bad HSt.out) hs)
            clear hp hone hm1 hs
            go_wp2_with fail
            refine (HP4 _).out.mono ?_
            rintro e w' ⟨rfl, rfl⟩
            go_wp2_with fail
            refine (num_max wr p vR _ at_ bad HR.out).mono ?_
            rintro e w2 ⟨rfl, hR2, hk2⟩
            have hrel2 : CutRel w p vR ls m (.int .i64 ((k + 1 : Nat) : Int)) w2 := ⟨k + 1, _, _, hlt, rfl, HNew.out, hR2, HKp.out.trans hk2 fun i hi e => by omega⟩
            have HRel := Hid_mk hrel2
            clear hR2 hk2 hrel2
            go_wp2
            go_roundw
            case rel => exact HRel.out
            case measure => simp [intOf]; omega
          · rw [hm2] at hp
            have hone : layOne d = num d.t.size ++ d.t.data.toList := by unfold layOne; rw [hm2]; rfl
            have HP4 := fun w => Hid_mk (hp w)
            have hs := HStep.out
            rw [hone] at hs
            have HNew := Hid_mk (st_text (t := d.t.data.toList) (by rw [Array.length_toList, u64_eq]; show d.t.size < _; omega) (st_bad HSt.out) (by rw [Array.length_toList]; exact hs))
            clear hp hone hm2 hs
            go_wp2_with fail
            refine (HP4 _).out.mono ?_
            rintro e w' ⟨rfl, rfl⟩
            go_wp2_with fail
            refine (text_len wr p vR _ at_ bad d.t htl HR.out).mono ?_
            rintro e w2 ⟨rfl, hR2, hk2⟩
            have hrel2 : CutRel w p vR ls m (.int .i64 ((k + 1 : Nat) : Int)) w2 := ⟨k + 1, _, _, hlt, rfl, HNew.out, hR2, HKp.out.trans hk2 fun i hi e => by omega⟩
            have HRel := Hid_mk hrel2
            clear hR2 hk2 hrel2
            go_wp2
            go_roundw
            case rel => exact HRel.out
            case measure => simp [intOf]; omega
          · rw [hm3] at hp
            have hone : layOne d = bytesN 8 (canon d.x) := by unfold layOne; rw [hm3]; rfl
            have HP4 := fun w => Hid_mk (hp w)
            have hs := HStep.out
            rw [hone] at hs
            have HNew := Hid_mk (st_float HOkd.out.2.1 (st_bad HSt.out) hs)
            clear hp hone hm3 hs
            go_wp2_with fail
            refine (HP4 _).out.mono ?_
            rintro e w' ⟨rfl, rfl⟩
            go_wp2_with fail
            refine (reader.float_any wr p vR _ at_ bad HR.out).mono ?_
            rintro e w2 ⟨rfl, hR2, hk2⟩
            have hrel2 : CutRel w p vR ls m (.int .i64 ((k + 1 : Nat) : Int)) w2 := ⟨k + 1, _, _, hlt, rfl, HNew.out, hR2, HKp.out.trans hk2 fun i hi e => by omega⟩
            have HRel := Hid_mk hrel2
            clear hR2 hk2 hrel2
            go_wp2
            go_roundw
            case rel => exact HRel.out
            case measure => simp [intOf]; omega
        · obtain rfl : k = ls.length := by omega
          have hki : ¬ (ls.length : Int) < (ls.length : Int) := by omega
          have hbad : bad = 10 := by
            rcases HSt.out with ⟨-, h1, h2⟩ | h
            · rw [List.take_length] at h1
              have := HMl.out
              omega
            · exact h
          subst hbad
          have hend := reader.end_any wr p vR _ at_ 10 HR.out
          have e10 : rEnd ((layAll ls).take m) at_ 10 = 10 := by unfold rEnd; rw [if_neg (by omega)]
          rw [e10] at hend
          have HEnd := Hid_mk hend
          clear hend e10 hlays
          go_wp2_with fail
          refine HEnd.out.mono ?_
          rintro e w9 ⟨rfl, n9, hw9⟩
          have HK9 : Hid (Kp No w w9) := Hid_mk (by rw [hw9]; exact HKp.out.drewN n9)
          clear hw9
          go_wp2
          go_ret
          exact ⟨rfl, HK9.out⟩

end Go.Proofs.Ytbnnbedmcipnpaa.cut
