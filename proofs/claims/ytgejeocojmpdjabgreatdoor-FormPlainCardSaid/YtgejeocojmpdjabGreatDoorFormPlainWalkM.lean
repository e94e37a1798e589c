/- The law FormPlain: its walk. What the rows' listed variables give the walks of chapters 11 and 12. -/
import Derived.Test.YtgejeocojmpdjabGreatDoorPfFormatM
import Derived.Test.YtgejeocojmpdjabGreatDoorRows
import Derived.ProofKit
import Derived.OpenShut
import Derived.ChangeSame
import Derived.LaidMore
import Derived.LaidSub
import Derived.Stop.Joined

namespace Go.Proofs.YtgejeocojmpdjabGreatDoor.pf
open Go.RowKit Go.Lib Go.Proofs.YtgejeocojmpdjabGreatDoor.sum Go.Proofs.YtgejeocojmpdjabGreatDoor.kept Go.Proofs.YtgejeocojmpdjabGreatDoor.app Go.Proofs.YtgejeocojmpdjabGreatDoor.writer Go.Proofs.YtgejeocojmpdjabGreatDoor.known Go.Proofs.YtgejeocojmpdjabGreatDoor.str Go.Proofs.YtgejeocojmpdjabGreatDoor.fmtf
set_option linter.unusedVariables false

theorem index_none : ∀ (l r : List UInt8), (∀ b ∈ l, b ≠ 37) → Lib.indexByte (l ++ 37 :: r) 37 = (l.length : Int)
  | [], r, _ => by simp [Lib.indexByte]
  | b :: l, r, h => by
    have hb : b ≠ 37 := h b (by simp)
    have ih := index_none l r fun c hc => h c (by simp [hc])
    have h2 : ¬ (((l.length : Int) == -1) = true) := by first | (simp; done) | (simp; omega)
    rw [List.cons_append, Lib.indexByte, if_neg (by simpa using hb), ih, if_neg h2]
    simp only [List.length_cons, Int.natCast_add, Int.natCast_one]
theorem cutS_plain (l r : List UInt8) (h : ∀ b ∈ l, b ≠ 37) : cutS (l ++ 37 :: r) = (l, r, true) := by
  unfold cutS
  rw [index_none l r h, if_pos (by omega)]
  simp
theorem tx_plain (l : List UInt8) (h : ∀ b ∈ l, b ≠ 37) : txS ((l ++ [37, 37]).length + 1) (l ++ [37, 37]) [] = (false, [], addS (addS (addS [] l) [37]) []) := by
  have e : (l ++ [37, 37] : List UInt8).length + 1 = l.length + 1 + 1 + 1 := by simp
  rw [e]
  rw [txS, cutS_plain l [37] h]
  simp only
  rw [if_pos ⟨trivial, by decide⟩, txS]
  rw [show cutS (List.drop 1 [37]) = ([], [], false) by decide +kernel]
  simp only
  rw [if_neg (by simp)]
theorem out_len (l : List UInt8) : (addS (addS (addS [] l) [37]) []).length = min (l.length + 1) 257 := by
  unfold addS
  simp
  omega
theorem out_small (l : List UInt8) (h : l.length < 256) : addS (addS (addS [] l) [37]) [] = l ++ [37] := by
  unfold addS
  have e : l.take (min l.length 257) = l := List.take_of_length_le (by omega)
  simp only [List.nil_append, List.length_nil, Nat.sub_zero, e, List.take_nil, List.append_nil]
  rw [List.take_of_length_le (by simp; omega)]
/-- a text without a % and two of them behind it -/
theorem plain_res (tl : Cv → Ar → Td) (l : List UInt8) (h : ∀ b ∈ l, b ≠ 37) : resS (fmS cnD tl 1 (l ++ [37, 37]) [] []) = if 256 ≤ l.length then ([], 43) else (l ++ [37], 0) := by
  rw [fmS, tx_plain l h]
  simp only
  rw [if_neg (by simp)]
  unfold resS
  simp only
  rw [out_len]
  by_cases h2 : 256 ≤ l.length
  · rw [if_pos (by omega), if_pos h2]
  · rw [if_neg (by omega), if_neg h2, out_small l (by omega)]
theorem plain_ok (tl : Cv → Ar → Td) (Okt : Cv → Ar → Prop) (Ok : List UInt8 → Prop) (l : List UInt8) (h : ∀ b ∈ l, b ≠ 37) (hl : l.length ≤ 100000) : okS cnD Ok tl Okt 1 (l ++ [37, 37]) [] [] := by
  refine ⟨by simp; omega, by simp, ?_, fun hx => ?_⟩
  · rw [tx_plain l h]; simp only; rw [out_len]; omega
  · rw [tx_plain l h] at hx; cases hx

set_option maxRecDepth 100000 in
set_option maxHeartbeats 16000000 in
theorem formPlain_any (w : World) (h : Ld w) (z : List UInt8) (hz : z.length ≤ 140737488355327) (n : Int) (hn1 : -9223372036854775808 ≤ n) (hn2 : n ≤ 9223372036854775807) :
    Calls Tryz.prog 9 #[.string (st z), .int .i64 n] w fun e w' => e = .returned (.bool true) ∧ Kp No w w' := by
  have HL := Hid_mk h
  have hsz := st_size z
  obtain ⟨S, hS⟩ : ∃ S, st z = S := ⟨_, rfl⟩
  have HS := Hid_mk hS
  rw [hS] at hsz ⊢
  have hSi : (S.size : Int) ≤ 140737488355327 := by omega
  have HZ := Hid_mk (And.intro hsz hz)
  clear h hz hS hsz
  go_enter Tryz.func9, Tryz.ntmps9
  go_wp2_with fail
  go_loopw [5, 6] (fun t i wr => ∃ (l : List UInt8) (k : Nat), t = .string (st l) ∧ i = .int .i64 (k : Int) ∧ l.length ≤ 60 ∧ (∀ b ∈ l, b ≠ 37) ∧ k ≤ S.size ∧ wr = w) (fun _ i _ => S.size - (intOf i).toNat)
  case atStart => exact ⟨[], 0, rfl, rfl, by decide, (fun b hb => nomatch hb), Nat.zero_le _, rfl⟩
  case round =>
    obtain ⟨l, k, rfl, rfl, hl, hno, hk, rfl⟩ := hrel
    have HNo := Hid_mk hno
    have hlsz := st_size l
    obtain ⟨L, hL⟩ : ∃ L, st l = L := ⟨_, rfl⟩
    have HLl := Hid_mk hL
    rw [hL] at hlsz ⊢
    have hk0 : (0 : Int) ≤ (k : Int) := Int.natCast_nonneg _
    have hki : (k : Int) ≤ 140737488355327 := by omega
    have HK := Hid_mk hk
    have HLn := Hid_mk (And.intro hlsz hl)
    by_cases hlt : k < S.size
    · have hlti : (k : Int) < (S.size : Int) := by omega
      have hkz : k < z.length := by have := HZ.out.1; omega
      have hg : ∀ h : k < S.size, (S[k]'h).toNat = (z.getD k 0).toNat := by
        have h2 := fun h => st_get z k h
        rw [HS.out] at h2
        exact h2
      obtain ⟨y, hy⟩ : ∃ y, (z.getD k 0).toNat = y := ⟨_, rfl⟩
      rw [hy] at hg
      have hpc : S.extract k (k + 1) = st [z.getD k 0] := by
        rw [← HS.out, st_piece]
        congr 1
        rw [show k + 1 - k = 1 by omega]
        have : z.drop k = z.getD k 0 :: z.drop (k + 1) := by
          rw [List.drop_eq_getElem_cons hkz]
          simp [List.getD, hkz]
        rw [this]
        rfl
      have hps : (S.extract k (k + 1)).size = 1 := by rw [hpc, st_size]; rfl
      have HPc := Hid_mk hpc
      have hcat : ¬ (9223372036854775807 < L.size + (S.extract k (k + 1)).size) := by rw [hps]; omega
      have HY := Hid_mk hy
      have HLt := Hid_mk (And.intro hlt hkz)
      obtain ⟨P, hP⟩ : ∃ P, S.extract k (k + 1) = P := ⟨_, rfl⟩
      have HP := Hid_mk hP
      rw [hP] at hcat hps
      by_cases h37 : y = 37
      · have h37t : ((y : Int) != 37) = false := by rw [h37]; rfl
        have hbig : ¬ ((60 : Int) < (L.size : Int)) := by omega
        clear hno hl hk hpc hy hP hlsz hL hkz
        go_wp2
        refine ⟨⟨l, k + 1, by rw [HLl.out], by go_num, by have := HLn.out; omega, HNo.out, by have := HLt.out.1; omega, trivial⟩, by have := HLt.out.1; simp [intOf]; omega⟩
      · have h37t : ((y : Int) != 37) = true := by simp; omega
        have hne : z.getD k 0 ≠ 37 := by
          intro e
          rw [e] at hy
          exact h37 (by rw [← hy]; rfl)
        have hap : L ++ P = st (l ++ [z.getD k 0]) := by rw [← hL, ← hP, hpc, st_add]
        have HAp := Hid_mk hap
        have HNe := Hid_mk hne
        have hno2 : ∀ b ∈ l ++ [z.getD k 0], b ≠ 37 := by
          intro b hb
          rcases List.mem_append.1 hb with h | h
          · exact hno b h
          · rw [List.mem_singleton.1 h]; exact hne
        have HNo2 := Hid_mk hno2
        by_cases h60 : l.length = 60
        · have hbig : (60 : Int) < (L.size : Int) + 1 := by omega
          have HH := Hid_mk h60
          clear hno hl hk hpc hy hlsz hL hkz hno2 hne hap h60
          go_upto_region 8 with fail
          try rw [hP]
          rw [HAp.out]
          obtain ⟨l2, hl2⟩ : ∃ l2, l ++ [z.getD k 0] = l2 := ⟨_, rfl⟩
          obtain ⟨L2, hL2⟩ : ∃ L2, st l2 = L2 := ⟨_, rfl⟩
          have HT := Hid_mk hL2
          have HN2 : Hid (∀ b ∈ l2, b ≠ 37) := Hid_mk (by rw [← hl2]; exact HNo2.out)
          have HB2 : Hid (l2.length ≤ 61) := Hid_mk (by rw [← hl2, List.length_append, HH.out]; simp)
          rw [hl2, hL2]
          clear hl2 hL2
          go_wp2_with fail
          with_reducible refine (turned.pick_any n 25 (by omega) (by omega) _).mono ?_
          rintro e w1 ⟨rfl, rfl⟩
          obtain ⟨m, hm⟩ : ∃ m : Nat, n % 25 = (m : Int) := ⟨(n % 25).toNat, by omega⟩
          have hm24 : m ≤ 24 := by omega
          have HM24 := Hid_mk hm24
          rw [hm]
          clear hm hm24
          go_wp2_with fail
          rw [← HT.out]
          go_loopw [5, 7] (fun t i wr' => ∃ (l : List UInt8) (j : Nat), t = .string (st l) ∧ i = .int .i64 (j : Int) ∧ j ≤ 24 ∧ l.length + 60 * j ≤ 1501 ∧ (∀ b ∈ l, b ≠ 37) ∧ wr' = wr) (fun _ i _ => (intOf i).toNat)
          case atStart => exact ⟨l2, m, rfl, rfl, HM24.out, by have := HM24.out; have := HB2.out; omega, HN2.out, rfl⟩
          case round =>
            clear HT HN2 HB2 HM24
            obtain ⟨l, j, rfl, rfl, hj, hlen, hno, rfl⟩ := hrel
            have HNo := Hid_mk hno
            have hlsz := st_size l
            obtain ⟨L, hL⟩ : ∃ L, st l = L := ⟨_, rfl⟩
            have HLl := Hid_mk hL
            rw [hL] at hlsz ⊢
            have hj0 : (0 : Int) ≤ (j : Int) := Int.natCast_nonneg _
            have hj24 : (j : Int) ≤ 24 := by omega
            have hLi : (L.size : Int) ≤ 1501 := by omega
            have HJ := Hid_mk (And.intro hj hlen)
            have HSz := Hid_mk hlsz
            by_cases hpos : 0 < j
            · have hposi : (0 : Int) < (j : Int) := by omega
              obtain ⟨M, hM⟩ : ∃ M : Nat, min L.size 60 = M := ⟨_, rfl⟩
              have hMi : min (L.size : Int) 60 = (M : Int) := by omega
              have hM0 : (0 : Int) ≤ (M : Int) := Int.natCast_nonneg _
              have hML : (M : Int) ≤ (L.size : Int) := by omega
              have hM60 : M ≤ 60 := by omega
              have hx := st_piece l 0 M
              rw [Nat.sub_zero, List.drop_zero, hL] at hx
              have hps : (L.extract 0 M).size ≤ 60 := by rw [hx, st_size, List.length_take]; omega
              have hcat : ¬ (9223372036854775807 < L.size + (L.extract 0 M).size) := by omega
              have HX := Hid_mk hx
              have HP2 := Hid_mk (And.intro hpos hM60)
              clear hno hL hlsz hj hlen hM hM60 hpos hx
              go_wp2
              refine ⟨⟨l ++ l.take M, j - 1, ?_, ?_, by have := HJ.out; omega, ?_, ?_, ?_⟩, ?_⟩
              · rw [HX.out, ← HLl.out, st_add]
              · have := HP2.out.1; go_num
              · have := HJ.out; have := HP2.out; rw [List.length_append, List.length_take]; omega
              · intro b hb
                rcases List.mem_append.1 hb with h | h
                · exact HNo.out b h
                · exact HNo.out b (List.mem_of_mem_take h)
              · trivial
              · have := HP2.out.1; simp [intOf]; omega
            · have hposi : ¬ (0 : Int) < (j : Int) := by omega
              have hargs : ArgsAt wr (.slice none 0 0) [] := ⟨none, 0, rfl, by simp, by decide, fun k hk => absurd hk (by simp)⟩
              have hF := format_any wr (l ++ [37, 37]) _ [] hargs cnD _ cnt_digits tlK _ (tlK_ok wr HL.out) 1 (plain_ok tlK _ _ l hno (by omega))
              unfold FmPost at hF
              rw [plain_res tlK l hno, ← st_add, HLl.out] at hF
              have hc1 : ¬ (9223372036854775807 < L.size + 2) := by omega
              have hc2 : ¬ (9223372036854775807 < L.size + 1) := by omega
              have HKn := Hid_mk fun W (hk : Kp No wr W) => known12_any W (HL.out.no hk)
              by_cases hbig : 256 ≤ l.length
              · rw [if_pos hbig] at hF
                have hbi : (256 : Int) ≤ (L.size : Int) := by omega
                have HF : Hid (Calls Tryz.prog 10 #[.string (L ++ ⟨#[37, 37]⟩), .slice none 0 0] wr fun e w' => e = .returned (.tuple #[.string ⟨#[]⟩, .int .i64 43]) ∧ Kp No wr w') := Hid_mk hF
                clear hno hL hlsz hj hlen hpos hargs hF hbig
                go_wp2_with fail
                with_reducible refine HF.out.mono ?_
                rintro e w2 ⟨rfl, hk2⟩
                have HK2 := Hid_mk hk2
                clear hk2
                go_wp2_with fail
                with_reducible refine (HKn.out _ HK2.out).mono ?_
                rintro e w3 ⟨rfl, hk3⟩
                have HK3 := Hid_mk (HK2.out.trans' hk3)
                clear hk3
                go_wp2
                go_ret
                exact ⟨rfl, HK3.out⟩
              · rw [if_neg hbig] at hF
                have hbi : ¬ (256 : Int) ≤ (L.size : Int) := by omega
                rw [← st_add, HLl.out] at hF
                have HF : Hid (Calls Tryz.prog 10 #[.string (L ++ ⟨#[37, 37]⟩), .slice none 0 0] wr fun e w' => e = .returned (.tuple #[.string (L ++ ⟨#[37]⟩), .int .i64 0]) ∧ Kp No wr w') := Hid_mk hF
                clear hno hL hlsz hj hlen hpos hargs hF hbig
                go_wp2_with fail
                with_reducible refine HF.out.mono ?_
                rintro e w2 ⟨rfl, hk2⟩
                have HK2 := Hid_mk hk2
                clear hk2
                go_wp2_with fail
                with_reducible refine (HKn.out _ HK2.out).mono ?_
                rintro e w3 ⟨rfl, hk3⟩
                have HK3 := Hid_mk (HK2.out.trans' hk3)
                clear hk3
                go_wp2
                go_ret
                exact ⟨rfl, HK3.out⟩
        · have hbig : ¬ (60 : Int) < (L.size : Int) + 1 := by omega
          have HH := Hid_mk h60
          clear hno hl hk hpc hy hlsz hL hkz hno2 hne hap h60
          go_wp2
          refine ⟨⟨l ++ [z.getD k 0], k + 1, ?_, by go_num, by have := HLn.out; have := HH.out; simp; omega, HNo2.out, by have := HLt.out.1; omega, trivial⟩, by have := HLt.out.1; simp [intOf]; omega⟩
          first | rw [HAp.out] | rw [hP, HAp.out]
    · have hge : ¬ ((k : Int) < (S.size : Int)) := by omega
      clear hno hl hk hlsz hL
      go_upto_region 8 with fail
      rw [← HLl.out]
      obtain ⟨l2, hl2⟩ : ∃ l2, l = l2 := ⟨_, rfl⟩
      obtain ⟨L2, hL2⟩ : ∃ L2, st l2 = L2 := ⟨_, rfl⟩
      have HT := Hid_mk hL2
      have HN2 : Hid (∀ b ∈ l2, b ≠ 37) := Hid_mk (by rw [← hl2]; exact HNo.out)
      have HB2 : Hid (l2.length ≤ 61) := Hid_mk (by rw [← hl2]; have := HLn.out; omega)
      rw [hl2, hL2]
      clear hl2 hL2
      go_wp2_with fail
      with_reducible refine (turned.pick_any n 25 (by omega) (by omega) _).mono ?_
      rintro e w1 ⟨rfl, rfl⟩
      obtain ⟨m, hm⟩ : ∃ m : Nat, n % 25 = (m : Int) := ⟨(n % 25).toNat, by omega⟩
      have hm24 : m ≤ 24 := by omega
      have HM24 := Hid_mk hm24
      rw [hm]
      clear hm hm24
      go_wp2_with fail
      rw [← HT.out]
      go_loopw [5, 7] (fun t i wr' => ∃ (l : List UInt8) (j : Nat), t = .string (st l) ∧ i = .int .i64 (j : Int) ∧ j ≤ 24 ∧ l.length + 60 * j ≤ 1501 ∧ (∀ b ∈ l, b ≠ 37) ∧ wr' = wr) (fun _ i _ => (intOf i).toNat)
      case atStart => exact ⟨l2, m, rfl, rfl, HM24.out, by have := HM24.out; have := HB2.out; omega, HN2.out, rfl⟩
      case round =>
        clear HT HN2 HB2 HM24
        obtain ⟨l, j, rfl, rfl, hj, hlen, hno, rfl⟩ := hrel
        have HNo := Hid_mk hno
        have hlsz := st_size l
        obtain ⟨L, hL⟩ : ∃ L, st l = L := ⟨_, rfl⟩
        have HLl := Hid_mk hL
        rw [hL] at hlsz ⊢
        have hj0 : (0 : Int) ≤ (j : Int) := Int.natCast_nonneg _
        have hj24 : (j : Int) ≤ 24 := by omega
        have hLi : (L.size : Int) ≤ 1501 := by omega
        have HJ := Hid_mk (And.intro hj hlen)
        have HSz := Hid_mk hlsz
        by_cases hpos : 0 < j
        · have hposi : (0 : Int) < (j : Int) := by omega
          obtain ⟨M, hM⟩ : ∃ M : Nat, min L.size 60 = M := ⟨_, rfl⟩
          have hMi : min (L.size : Int) 60 = (M : Int) := by omega
          have hM0 : (0 : Int) ≤ (M : Int) := Int.natCast_nonneg _
          have hML : (M : Int) ≤ (L.size : Int) := by omega
          have hM60 : M ≤ 60 := by omega
          have hx := st_piece l 0 M
          rw [Nat.sub_zero, List.drop_zero, hL] at hx
          have hps : (L.extract 0 M).size ≤ 60 := by rw [hx, st_size, List.length_take]; omega
          have hcat : ¬ (9223372036854775807 < L.size + (L.extract 0 M).size) := by omega
          have HX := Hid_mk hx
          have HP2 := Hid_mk (And.intro hpos hM60)
          clear hno hL hlsz hj hlen hM hM60 hpos hx
          go_wp2
          refine ⟨⟨l ++ l.take M, j - 1, ?_, ?_, by have := HJ.out; omega, ?_, ?_, ?_⟩, ?_⟩
          · rw [HX.out, ← HLl.out, st_add]
          · have := HP2.out.1; go_num
          · have := HJ.out; have := HP2.out; rw [List.length_append, List.length_take]; omega
          · intro b hb
            rcases List.mem_append.1 hb with h | h
            · exact HNo.out b h
            · exact HNo.out b (List.mem_of_mem_take h)
          · trivial
          · have := HP2.out.1; simp [intOf]; omega
        · have hposi : ¬ (0 : Int) < (j : Int) := by omega
          have hargs : ArgsAt wr (.slice none 0 0) [] := ⟨none, 0, rfl, by simp, by decide, fun k hk => absurd hk (by simp)⟩
          have hF := format_any wr (l ++ [37, 37]) _ [] hargs cnD _ cnt_digits tlK _ (tlK_ok wr HL.out) 1 (plain_ok tlK _ _ l hno (by omega))
          unfold FmPost at hF
          rw [plain_res tlK l hno, ← st_add, HLl.out] at hF
          have hc1 : ¬ (9223372036854775807 < L.size + 2) := by omega
          have hc2 : ¬ (9223372036854775807 < L.size + 1) := by omega
          have HKn := Hid_mk fun W (hk : Kp No wr W) => known12_any W (HL.out.no hk)
          by_cases hbig : 256 ≤ l.length
          · rw [if_pos hbig] at hF
            have hbi : (256 : Int) ≤ (L.size : Int) := by omega
            have HF : Hid (Calls Tryz.prog 10 #[.string (L ++ ⟨#[37, 37]⟩), .slice none 0 0] wr fun e w' => e = .returned (.tuple #[.string ⟨#[]⟩, .int .i64 43]) ∧ Kp No wr w') := Hid_mk hF
            clear hno hL hlsz hj hlen hpos hargs hF hbig
            go_wp2_with fail
            with_reducible refine HF.out.mono ?_
            rintro e w2 ⟨rfl, hk2⟩
            have HK2 := Hid_mk hk2
            clear hk2
            go_wp2_with fail
            with_reducible refine (HKn.out _ HK2.out).mono ?_
            rintro e w3 ⟨rfl, hk3⟩
            have HK3 := Hid_mk (HK2.out.trans' hk3)
            clear hk3
            go_wp2
            go_ret
            exact ⟨rfl, HK3.out⟩
          · rw [if_neg hbig] at hF
            have hbi : ¬ (256 : Int) ≤ (L.size : Int) := by omega
            rw [← st_add, HLl.out] at hF
            have HF : Hid (Calls Tryz.prog 10 #[.string (L ++ ⟨#[37, 37]⟩), .slice none 0 0] wr fun e w' => e = .returned (.tuple #[.string (L ++ ⟨#[37]⟩), .int .i64 0]) ∧ Kp No wr w') := Hid_mk hF
            clear hno hL hlsz hj hlen hpos hargs hF hbig
            go_wp2_with fail
            with_reducible refine HF.out.mono ?_
            rintro e w2 ⟨rfl, hk2⟩
            have HK2 := Hid_mk hk2
            clear hk2
            go_wp2_with fail
            with_reducible refine (HKn.out _ HK2.out).mono ?_
            rintro e w3 ⟨rfl, hk3⟩
            have HK3 := Hid_mk (HK2.out.trans' hk3)
            clear hk3
            go_wp2
            go_ret
            exact ⟨rfl, HK3.out⟩

end Go.Proofs.YtgejeocojmpdjabGreatDoor.pf

namespace Go.Proofs.YtgejeocojmpdjabGreatDoor.pf
open Go.ChangeShapes Go.WideShapes Go.ChangeAt Go.RowKit Go.Lib Go.Proofs.YtgejeocojmpdjabGreatDoor.sum Go.Proofs.YtgejeocojmpdjabGreatDoor.kept Go.Proofs.YtgejeocojmpdjabGreatDoor.fmtf
set_option linter.unusedVariables false

def dbZ : List Int := [0, 1, 56, 2, 57, 49, 28, 3, 61, 58, 42, 50, 38, 29, 17, 4, 62, 47, 59, 36, 45, 43, 51, 22, 53, 39, 33, 30, 24, 18, 12, 5, 63, 55, 48, 27, 60, 41, 37, 16, 46, 35, 44, 21, 52, 32, 23, 11, 54, 26, 40, 15, 34, 20, 31, 10, 25, 14, 19, 9, 13, 8, 7, 6]
def p10Z : List Int := [1, 10, 100, 1000, 10000, 100000, 1000000, 10000000, 100000000, 1000000000, 10000000000, 100000000000, 1000000000000, 10000000000000, 100000000000000, 1000000000000000, 10000000000000000, 100000000000000000, 1000000000000000000, 10000000000000000000]
theorem tab_cell {W : World} (name : String) (dat : DataW Unit) (g : Nat) (T E : TypeId) (k : IntKind) (N : Nat) (zs : List Int) (hdat : dat = .agg (zs.map fun n => .lit (.int k n))) (hN : zs.length = N) (hg0 : Tryz.prog.globalNamed name = some g) (ht0 : (Tryz.prog.globals[g]?).map (·.type) = some T)
    (hT : Tryz.prog.underlying T = some (.array N E)) (hE : Tryz.prog.underlying E = some (.int k)) (hc : Tryz.prog.cellsOf E = 1) (h : laidMet Tryz.prog [(name, dat)] W) (r : Nat) (hr : r < N) : W.cell? ⟨g, r, none⟩ = some (.int k (zs.getD r 0)) := by
  obtain ⟨ps, ⟨g1, t1, cs, fuel, p, q, hg, ht, hv, hd, _, _⟩, _, _⟩ := h
  obtain rfl := Option.some.inj (hg0.symm.trans hg)
  obtain rfl := Option.some.inj (ht0.symm.trans ht)
  rw [hdat] at hd
  obtain ⟨xs, m, _, ex, _, hl, hel⟩ := DataW.trod_array hT hd
  have hEl := hel r hr
  rw [hc, Nat.mul_one, List.getElem?_eq_getElem (by omega)] at hEl
  obtain ⟨z, e1, e2, _⟩ := DataW.trod_int hE hEl
  have e3 : (xs.map (·.1)) = zs.map fun n => .lit (.int k n) := (DataW.agg.inj (Prod.mk.inj ex).1).symm
  have e4 : (xs.map (·.1))[r]? = (zs.map fun n => (DataW.lit (.int k n) : DataW Unit))[r]? := by rw [e3]
  rw [List.getElem?_map, List.getElem?_map, List.getElem?_eq_getElem (by omega : r < xs.length), List.getElem?_eq_getElem (by omega : r < zs.length), e2] at e4
  have hz : z = zs.getD r 0 := by
    simp only [Option.map_some, Option.some.injEq, DataW.lit.injEq, Lit.int.injEq, true_and] at e4
    rw [e4, List.getD, List.getElem?_eq_getElem (by omega : r < zs.length)]; rfl
  rw [World.var?_cell hg hv r, ← hz]
  have : cs.toList[r]? = some (.int k z) := by
    have h0 : ((cs.toList.drop r).take 1)[0]? = some (.int k z) := by rw [e1]; rfl
    simpa using h0
  simpa using this
theorem pow_cell {W : World} (h : laidMet Tryz.prog [("internal/strconv.pow10Tab", Pinned.pow10Tab)] W) (hN : Pinned.pow10Rows.length = 696) (r : Nat) (hr : r < 696) :
    W.cell? ⟨7, r * 2, none⟩ = some (.int .u64 ((Pinned.pow10Rows.getD r (0, 0)).1 : Int)) ∧ W.cell? ⟨7, r * 2 + 1, none⟩ = some (.int .u64 ((Pinned.pow10Rows.getD r (0, 0)).2 : Int)) := by
  have hc2 : Tryz.prog.cellsOf 186 = 2 := by kernel_rfl
  have hc : Tryz.prog.cellsOf 90 = 1 := by kernel_rfl
  obtain ⟨ps, ⟨g1, t1, cs, fuel, p, q, hg, ht, hv, hd, _, _⟩, _, _⟩ := h
  obtain rfl := Option.some.inj ((show Tryz.prog.globalNamed "internal/strconv.pow10Tab" = some 7 by kernel_rfl).symm.trans hg)
  obtain rfl := Option.some.inj ((show (Tryz.prog.globals[7]?).map (·.type) = some 187 by kernel_rfl).symm.trans ht)
  unfold Pinned.pow10Tab at hd
  obtain ⟨xs, m, _, ex, _, hl, hel⟩ := DataW.trod_array Tryz.underlying187 hd
  have hEl := hel r hr
  rw [hc2, List.getElem?_eq_getElem (by omega)] at hEl
  obtain ⟨y0, y1, m2, ey, hcl, hf0, hf1⟩ := trod_struct2 Tryz.underlying186 hEl
  have hr2 : r < Pinned.pow10Rows.length := by omega
  have e3 : (xs.map (·.1)) = Pinned.pow10Rows.map fun x => .agg [.lit (.int .u64 x.1), .lit (.int .u64 x.2)] := (DataW.agg.inj (Prod.mk.inj ex).1).symm
  have e4 : (xs.map (·.1))[r]? = (Pinned.pow10Rows.map fun x => (DataW.agg [.lit (.int .u64 x.1), .lit (.int .u64 x.2)] : DataW Unit))[r]? := by rw [e3]
  rw [List.getElem?_map, List.getElem?_map, List.getElem?_eq_getElem (by omega : r < xs.length), List.getElem?_eq_getElem hr2] at e4
  have e5 : (xs[r]'(by omega)).1 = .agg [.lit (.int .u64 (Pinned.pow10Rows[r].1 : Int)), .lit (.int .u64 (Pinned.pow10Rows[r].2 : Int))] := by simpa using e4
  rw [ey] at e5
  have e6 : [y0.1, y1.1] = [.lit (.int .u64 (Pinned.pow10Rows[r].1 : Int)), .lit (.int .u64 (Pinned.pow10Rows[r].2 : Int))] := DataW.agg.inj e5
  simp only [List.cons.injEq, and_true] at e6
  have hx : Pinned.pow10Rows.getD r (0, 0) = Pinned.pow10Rows[r] := by rw [List.getD, List.getElem?_eq_getElem hr2]; rfl
  rw [hx]
  obtain ⟨a, f1, f2, _⟩ := DataW.trod_int Tryz.underlying90 hf0
  obtain ⟨b, g1, g2, _⟩ := DataW.trod_int Tryz.underlying90 hf1
  have ha : a = (Pinned.pow10Rows[r].1 : Int) := by have := e6.1; rw [f2] at this; simpa using this
  have hb : b = (Pinned.pow10Rows[r].2 : Int) := by have := e6.2; rw [g2] at this; simpa using this
  rw [← ha, ← hb, World.var?_cell hg hv (r * 2), World.var?_cell hg hv (r * 2 + 1)]
  simp only [hc] at f1 g1
  have h0 := congrArg (fun l => l[0]?) f1
  have h1 := congrArg (fun l => l[0]?) g1
  simp at h0 h1
  exact ⟨by simpa using h0, by simpa using h1⟩
theorem flag_cell {W : World} (name : String) (g : Nat) (T : TypeId) (hg0 : Tryz.prog.globalNamed name = some g) (ht0 : (Tryz.prog.globals[g]?).map (·.type) = some T) (hT : Tryz.prog.underlying T = some .bool) (h : laidMet Tryz.prog [(name, .lit (.bool true))] W) : W.cell? ⟨g, 0, none⟩ = some (.bool true) := by
  obtain ⟨ps, ⟨g1, t1, cs, fuel, p, q, hg, ht, hv, hd, _, _⟩, _, _⟩ := h
  obtain rfl := Option.some.inj (hg0.symm.trans hg)
  obtain rfl := Option.some.inj (ht0.symm.trans ht)
  obtain ⟨b, e1, e2⟩ := DataW.trod_bool hT hd
  have hb : b = true := by
    have := (Prod.mk.inj e2).1
    simpa using this.symm
  rw [World.var?_cell hg hv 0]
  rw [hb] at e1
  have : cs.toList[0]? = some (.bool true) := by rw [e1]; rfl
  simpa using this
theorem pow_len : Pinned.pow10Rows.length = 696 := by kernel_rfl
theorem pow_bd : (Pinned.pow10Rows.all fun x => decide (x.1 < 18446744073709551616) && decide (x.2 < 18446744073709551616)) = true := by kernel_rfl
theorem p10_is : ((List.range 19).all fun n => decide (p10Z.getD n 0 = ((10 ^ n : Nat) : Int))) = true := by kernel_rfl
theorem ld_of {W : World} (h1 : laidMet Tryz.prog [("internal/strconv.optimize", .lit (.bool true))] W) (h2 : laidMet Tryz.prog [("internal/strconv.uint64pow10", .agg (p10Z.map fun n => .lit (.int .u64 n)))] W) (h3 : laidMet Tryz.prog [("internal/strconv.pow10Tab", Pinned.pow10Tab)] W) (h4 : laidMet Tryz.prog [("math/bits.deBruijn64tab", .agg (dbZ.map fun n => .lit (.int .u8 n)))] W) : Ld W := by
  have db := tab_cell "math/bits.deBruijn64tab" _ 10 199 5 .u8 64 dbZ rfl (by kernel_rfl) (by kernel_rfl) (by kernel_rfl) Tryz.underlying199 Tryz.underlying5 (by kernel_rfl) h4
  refine ⟨flag_cell _ _ 4 (by kernel_rfl) (by kernel_rfl) Tryz.underlying4 h1, fun n hn => ?_, fun p hp1 hp2 => ?_, db 15 (by omega), db 7 (by omega)⟩
  · have := tab_cell "internal/strconv.uint64pow10" _ 4 169 90 .u64 20 p10Z rfl (by kernel_rfl) (by kernel_rfl) (by kernel_rfl) Tryz.underlying169 Tryz.underlying90 (by kernel_rfl) h2 n (by omega)
    have e := of_decide_eq_true (List.all_eq_true.1 p10_is n (List.mem_range.2 (by omega)))
    rw [e] at this
    exact this
  · obtain ⟨r, hr⟩ : ∃ r : Nat, p + 348 = (r : Int) := ⟨(p + 348).toNat, by omega⟩
    have hr2 : r < 696 := by omega
    have hc := pow_cell h3 pow_len r hr2
    have hm : Pinned.pow10Rows.getD r (0, 0) ∈ Pinned.pow10Rows := by
      have hl : r < Pinned.pow10Rows.length := by rw [pow_len]; exact hr2
      rw [List.getD, List.getElem?_eq_getElem hl]
      exact List.getElem_mem hl
    have hb := List.all_eq_true.1 pow_bd _ hm
    simp only [Bool.and_eq_true, decide_eq_true_eq] at hb
    unfold Pw T10
    rw [hr, Int.toNat_natCast]
    exact ⟨hc, hb⟩

end Go.Proofs.YtgejeocojmpdjabGreatDoor.pf
