/- The project's Open, where it asks its disk as chapter 6 tells it. So many bytes of 0, as make makes them. SnapKnown: the law's walk. Bytes as a text. tailracehand.Pair: both disks, new, with the files that a hand laid there. Two disks side by side: what each tells. tailracehand.SameDisk: both disks tell the same. -/
import Derived.Test.YtmehneicdklfeaaGreatIterM
import Derived.Test.YtmehneicdklfeaaGreatRefUnsealM
import Derived.Test.YtmehneicdklfeaaGreatBaseM
import Derived.Test.YtmehneicdklfeaaGreatFsMemM
import Derived.Test.YtmehneicdklfeaaGreatRefSaveM
import Derived.Test.YtmehneicdklfeaaGreatR2M
import Derived.Test.YtmehneicdklfeaaGreatR2CrashWalkM
import Derived.Test.YtmehneicdklfeaaGreatDiskNewM
import Derived.Test.YtmehneicdklfeaaGreatDiskFullM

namespace Go.Proofs.YtmehneicdklfeaaGreat.snp
open Go.RowKit Go.Maps Go.Proofs.YtmehneicdklfeaaGreat.sum Go.Proofs.YtmehneicdklfeaaGreat.kept Go.Proofs.YtmehneicdklfeaaGreat.app Go.Proofs.YtmehneicdklfeaaGreat.writer Go.Proofs.YtmehneicdklfeaaGreat.clone Go.Proofs.YtmehneicdklfeaaGreat.fs Go.Proofs.YtmehneicdklfeaaGreat.fsDo Go.Proofs.YtmehneicdklfeaaGreat.unseal Go.Proofs.YtmehneicdklfeaaGreat.dsk Go.Proofs.YtmehneicdklfeaaGreat.r2 Go.Proofs.YtmehneicdklfeaaGreat.pair Go.Proofs.YtmehneicdklfeaaGreat.frm Go.Proofs.YtmehneicdklfeaaGreat.lst
set_option linter.unusedVariables false

def OpPost (w : World) (base p : Nat) (ρ : Nat → Role) (x : Int × Option (List UInt8)) (D : DSt) (e : Ending) (w' : World) : Prop :=
  ∃ v ρ', e = .returned (.tuple #[v, .bool x.2.isSome, .int .i64 x.1]) ∧ Dk w' base p ρ' D ∧ Fr ρ w ρ' w' ∧ Bs w' v (x.2.getD []) ∧ (x.2.getD [] ≠ [] → ∀ x o m c, v = .slice (some ⟨x, o, none⟩) m c → w.heap.size ≤ x ∧ ρ' x = .other)

set_option maxRecDepth 100000 in
set_option maxHeartbeats 2000000 in
theorem drop_any (w : World) (base p M : Nat) (ρ : Nat → Role) (d : DSt) (h : Dk w base p ρ d) (hok : OkN M d) (hM : M ≤ 900) :
    Calls Tryz.prog 26 #[.pointer (some ⟨p, 0, none⟩)] w (StPost base p ρ (seqD (rmR d newN) fun d => syR d).2 w (.int .i64 (seqD (rmR d newN) fun d => syR d).1)) := by
  obtain ⟨q, hq⟩ : ∃ q, q = seqD (rmR d newN) fun d => syR d := ⟨_, rfl⟩
  rw [← hq]
  have HQ := Hid_mk hq
  obtain ⟨e1, he1⟩ : ∃ e1, (rmR d newN).1 = e1 := ⟨_, rfl⟩
  have HRm := Hid_mk (st_num (premove_any h hok.1 (by omega) newN (by decide)) he1)
  have HOk := Hid_mk (rmR_ok hok newN (by decide))
  clear hq h hok
  go_enter Tryz.func26, Tryz.ntmps26
  go_wp2_with fail
  with_reducible refine HRm.out.mono ?_
  rintro e w2 ⟨rfl, H2⟩
  obtain ⟨ρ2, hz2, hf2⟩ := H2.out
  by_cases h1 : e1 = 0
  · have hQ2 := HQ.out.trans (seqD_ok _ (he1.trans h1))
    subst h1
    have HQ2 := Hid_mk hQ2
    have HSy := Hid_mk (psync_any hz2 HOk.out.1 (by omega))
    have HK2 := Hid_mk hf2
    clear hQ2 hz2 hf2 H2 HRm he1
    go_wp2_with fail
    with_reducible refine HSy.out.mono ?_
    rintro e w3 ⟨rfl, ρ3, hz3, hf3⟩
    have HF : Hid (StPost base p ρ q.2 w (.int .i64 q.1) (.returned (.int .i64 (syR (rmR d newN).2).1)) w3) := Hid_mk (by rw [HQ2.out]; exact ⟨rfl, ρ3, hz3, HK2.out.trans hf3⟩)
    clear hz3 hf3 HSy
    go_wp2
    go_ret
    exact HF.out
  · have hQ2 := HQ.out.trans (seqD_no _ (by rw [he1]; exact h1))
    have HF : Hid (StPost base p ρ q.2 w (.int .i64 q.1) (.returned (.int .i64 e1)) w2) := Hid_mk (by rw [hQ2]; exact ⟨by rw [he1], ρ2, hz2, hf2⟩)
    clear hQ2 hz2 hf2 H2 HRm he1
    go_wp2
    go_ret
    exact HF.out

set_option maxRecDepth 100000 in
set_option maxHeartbeats 4000000 in
theorem open_any : OpenC := by
  intro w base p M ρ d h hok hM
  show Calls Tryz.prog 9 #[.pointer (some ⟨p, 0, none⟩)] w (OpPost w base p ρ (opnA d) (opnD d).2)
  have HZ := Hid_mk h
  have HOk := Hid_mk hok
  have HH := Hid_mk (has_any w base p M ρ d h hok (by omega))
  obtain ⟨X, hX⟩ : ∃ X, X = opnA d := ⟨_, rfl⟩
  obtain ⟨D, hD⟩ : ∃ D, D = (opnD d).2 := ⟨_, rfl⟩
  rw [← hX, ← hD]
  unfold opnA at hX
  clear h hok
  cases hh : hereB d newN with
  | false =>
    rw [hh] at HH
    have ho : opnD d = (0, d) := by unfold opnD; rw [hh]; rfl
    rw [ho] at hX hD
    have HX : Hid (X = (0, gotD d)) := Hid_mk hX
    have HD : Hid (D = d) := Hid_mk hD
    clear ho hX hD hh
    go_enter Tryz.func9, Tryz.ntmps9
    go_wp2_with fail
    with_reducible refine HH.out.mono ?_
    rintro e w1 ⟨rfl, k1⟩
    have HZ1 := Hid_mk (HZ.out.no k1)
    have HKp := Hid_mk (Fr.of_no (ρ := ρ) k1)
    have hz1 := k1.size
    clear k1
    have HRd := Hid_mk (pread_any HZ1.out HOk.out (by omega) snapN (by decide))
    go_wp2_with fail
    with_reducible refine HRd.out.mono ?_
    rintro e wr ⟨v, rfl, ho, hbl, kr⟩
    have HZr := Hid_mk (HZ1.out.no kr)
    have HKr := Hid_mk (HKp.out.trans (Fr.of_no kr))
    have hb := owns_bs ho
    have hszr := kr.size
    have hX3 := HX.out
    unfold gotD at hX3
    obtain ⟨bs, hbs⟩ : ∃ bs, bs = readD d snapN := ⟨_, rfl⟩
    rw [← hbs] at hb hbl hX3
    have HX3 := Hid_mk hX3
    have HLi := Hid_mk (frm.list_any wr v bs hb (by omega))
    clear hbs HRd HX hX3 ho kr
    obtain ⟨a, cap, rfl, hlc, hm, -⟩ := hb
    go_wp2_with fail
    with_reducible refine HLi.out.mono ?_
    rintro e w5 ⟨vl, qs, rfl, lo, tx, kl⟩
    have HZ5 := Hid_mk (HZr.out.no kl)
    have HK5 := Hid_mk (HKr.out.trans (Fr.of_no kl))
    have hX4 := HX3.out
    have hlen : (listP bs).1.length = qs.length := by rw [← tx, texts_length]
    unfold gotL at hX4
    rw [hlen] at hX4
    obtain ⟨n, hn⟩ : ∃ n, n = (listP bs).2 := ⟨_, rfl⟩
    rw [← hn] at hX4 ⊢
    have hls := lo.ls
    have HLo := Hid_mk lo
    obtain ⟨⟨al, cl, rfl, hl1, hl2, hl3⟩, hl4⟩ := hls
    clear HLi HX3 kl lo hn
    by_cases h1 : qs.length = 1
    · obtain ⟨q, rfl⟩ := List.length_eq_one_iff.1 h1
      obtain ⟨bl, ol, rfl, hcl⟩ := hl3 (by simp)
      have hc0 : w5.cell? ⟨bl, ol, none⟩ = some q.1 := hcl 0 (by simp)
      have hbq := hl4 q (by simp)
      have hnq : q.2 ≠ [] → ∀ x o m c, q.1 = .slice (some ⟨x, o, none⟩) m c → w.heap.size ≤ x ∧ ρ x = .other := fun _ x o m c e => by
        have ho := HLo.out.each q (by simp)
        rcases owns_any ho with ⟨e2, -⟩ | ⟨g, cp, e2, hg⟩
        · rw [e2] at e; cases e
        · rw [e2] at e; cases e; have := hg.1; exact ⟨by omega, HZr.out.hi hg.1⟩
      rw [← tx] at hX4
      have htx : (Els.texts [q]).headD [] = q.2 := rfl
      rw [htx] at hX4
      clear hcl hl3 hl4 tx hlen h1 htx HLo
      by_cases h2 : n = bs.length
      · have hX5 : X = (0, some q.2) := by rw [hX4, if_pos ⟨rfl, h2⟩]
        have h2i : (n : Int) = (bs.length : Int) := by omega
        have HF : Hid (OpPost w base p ρ X D (.returned (.tuple #[q.1, .bool true, .int .i64 0])) w5) := Hid_mk (by rw [hX5, HD.out]; exact ⟨q.1, _, rfl, HZ5.out, HK5.out, hbq, hnq⟩)
        clear hX4 hX5 hbq hnq
        simp only [List.length_cons, List.length_nil] at hl1 ⊢
        go_wp2
        refine bodyPost_ret (results_tmp3 rfl _ _ _) rfl ?_
        exact HF.out
      · have hX5 : X = (0, none) := by rw [hX4, if_neg (fun h => h2 h.2)]
        have h2i : ¬ (n : Int) = (bs.length : Int) := by omega
        have HF : Hid (OpPost w base p ρ X D (.returned (.tuple #[.slice none 0 0, .bool false, .int .i64 0])) w5) := Hid_mk (by rw [hX5, HD.out]; exact ⟨_, _, rfl, HZ5.out, HK5.out, nil_bs _, fun h => absurd rfl h⟩)
        clear hX4 hX5 hbq hnq
        simp only [List.length_cons, List.length_nil] at hl1 ⊢
        go_wp2
        refine bodyPost_ret (results_tmp3 rfl _ _ _) rfl ?_
        exact HF.out
    · have hX5 : X = (0, none) := by rw [hX4, if_neg (fun h => h1 h.1)]
      have h1i : ¬ (qs.length : Int) = 1 := by omega
      have HF : Hid (OpPost w base p ρ X D (.returned (.tuple #[.slice none 0 0, .bool false, .int .i64 0])) w5) := Hid_mk (by rw [hX5, HD.out]; exact ⟨_, _, rfl, HZ5.out, HK5.out, nil_bs _, fun h => absurd rfl h⟩)
      clear hX4 hX5 hl3 hl4 tx hlen HLo
      go_wp2
      refine bodyPost_ret (results_tmp3 rfl _ _ _) rfl ?_
      exact HF.out
  | true =>
    rw [hh] at HH
    have ho : opnD d = seqD (rmR d newN) fun d => syR d := by unfold opnD; rw [hh]; rfl
    have hok2 := opnD_ok HOk.out
    rw [ho] at hX hD hok2
    have HDr0 := Hid_mk fun W (HW : Dk W base p ρ d) => drop_any W base p M ρ d HW HOk.out hM
    obtain ⟨q, hq⟩ : ∃ q, q = seqD (rmR d newN) fun d => syR d := ⟨_, rfl⟩
    rw [← hq] at hX hD hok2 HDr0
    obtain ⟨e2, d3⟩ := q
    have HX : Hid (X = if e2 = 0 then (0, gotD d3) else (e2, none)) := Hid_mk hX
    have HD : Hid (D = d3) := Hid_mk hD
    have HOk3 := Hid_mk hok2
    clear ho hX hD hh hq hok2
    go_enter Tryz.func9, Tryz.ntmps9
    go_wp2_with fail
    with_reducible refine HH.out.mono ?_
    rintro e w1 ⟨rfl, k1⟩
    have HZ1 := Hid_mk (HZ.out.no k1)
    have HK1 := Hid_mk (Fr.of_no (ρ := ρ) k1)
    have hz1 := k1.size
    clear k1
    have HDr := Hid_mk (st_num (HDr0.out w1 HZ1.out) rfl)
    go_wp2_with fail
    with_reducible refine HDr.out.mono ?_
    rintro e w3 ⟨rfl, H3⟩
    obtain ⟨ρ3, hz3, hf3⟩ := H3.out
    have HZ3 := Hid_mk hz3
    have HK3 := Hid_mk (HK1.out.trans hf3)
    have hzz3 := hf3.1.size
    clear hz3 hf3 H3 HDr
    have hX2 := HX.out
    by_cases h2 : e2 = 0
    · subst h2
      have hXg : X = (0, gotD d3) := by rw [hX2, if_pos rfl]
      clear HX hX2
      have HX := Hid_mk hXg
      clear hXg
      have HRd := Hid_mk (pread_any HZ3.out HOk3.out (by omega) snapN (by decide))
      go_wp2_with fail
      with_reducible refine HRd.out.mono ?_
      rintro e wr ⟨v, rfl, ho, hbl, kr⟩
      have HZr := Hid_mk (HZ3.out.no kr)
      have HKr := Hid_mk (HK3.out.trans (Fr.of_no kr))
      have hb := owns_bs ho
      have hszr := kr.size
      have hX3 := HX.out
      unfold gotD at hX3
      obtain ⟨bs, hbs⟩ : ∃ bs, bs = readD d3 snapN := ⟨_, rfl⟩
      rw [← hbs] at hb hbl hX3
      have HX3 := Hid_mk hX3
      have HLi := Hid_mk (frm.list_any wr v bs hb (by omega))
      clear hbs HRd HX hX3 ho kr
      obtain ⟨a, cap, rfl, hlc, hm, -⟩ := hb
      go_wp2_with fail
      with_reducible refine HLi.out.mono ?_
      rintro e w5 ⟨vl, qs, rfl, lo, tx, kl⟩
      have HZ5 := Hid_mk (HZr.out.no kl)
      have HK5 := Hid_mk (HKr.out.trans (Fr.of_no kl))
      have hX4 := HX3.out
      have hlen : (listP bs).1.length = qs.length := by rw [← tx, texts_length]
      unfold gotL at hX4
      rw [hlen] at hX4
      obtain ⟨n, hn⟩ : ∃ n, n = (listP bs).2 := ⟨_, rfl⟩
      rw [← hn] at hX4 ⊢
      have hls := lo.ls
      have HLo := Hid_mk lo
      obtain ⟨⟨al, cl, rfl, hl1, hl2, hl3⟩, hl4⟩ := hls
      clear HLi HX3 kl lo hn
      by_cases h1 : qs.length = 1
      · obtain ⟨q, rfl⟩ := List.length_eq_one_iff.1 h1
        obtain ⟨bl, ol, rfl, hcl⟩ := hl3 (by simp)
        have hc0 : w5.cell? ⟨bl, ol, none⟩ = some q.1 := hcl 0 (by simp)
        have hbq := hl4 q (by simp)
        have hnq : q.2 ≠ [] → ∀ x o m c, q.1 = .slice (some ⟨x, o, none⟩) m c → w.heap.size ≤ x ∧ ρ3 x = .other := fun _ x o m c e => by
          have ho := HLo.out.each q (by simp)
          rcases owns_any ho with ⟨e2, -⟩ | ⟨g, cp, e2, hg⟩
          · rw [e2] at e; cases e
          · rw [e2] at e; cases e; have := hg.1; exact ⟨by omega, HZr.out.hi hg.1⟩
        rw [← tx] at hX4
        have htx : (Els.texts [q]).headD [] = q.2 := rfl
        rw [htx] at hX4
        clear hcl hl3 hl4 tx hlen h1 htx HLo
        by_cases h2 : n = bs.length
        · have hX5 : X = (0, some q.2) := by rw [hX4, if_pos ⟨rfl, h2⟩]
          have h2i : (n : Int) = (bs.length : Int) := by omega
          have HF : Hid (OpPost w base p ρ X D (.returned (.tuple #[q.1, .bool true, .int .i64 0])) w5) := Hid_mk (by rw [hX5, HD.out]; exact ⟨q.1, _, rfl, HZ5.out, HK5.out, hbq, hnq⟩)
          clear hX4 hX5 hbq hnq
          simp only [List.length_cons, List.length_nil] at hl1 ⊢
          go_wp2
          refine bodyPost_ret (results_tmp3 rfl _ _ _) rfl ?_
          exact HF.out
        · have hX5 : X = (0, none) := by rw [hX4, if_neg (fun h => h2 h.2)]
          have h2i : ¬ (n : Int) = (bs.length : Int) := by omega
          have HF : Hid (OpPost w base p ρ X D (.returned (.tuple #[.slice none 0 0, .bool false, .int .i64 0])) w5) := Hid_mk (by rw [hX5, HD.out]; exact ⟨_, _, rfl, HZ5.out, HK5.out, nil_bs _, fun h => absurd rfl h⟩)
          clear hX4 hX5 hbq hnq
          simp only [List.length_cons, List.length_nil] at hl1 ⊢
          go_wp2
          refine bodyPost_ret (results_tmp3 rfl _ _ _) rfl ?_
          exact HF.out
      · have hX5 : X = (0, none) := by rw [hX4, if_neg (fun h => h1 h.1)]
        have h1i : ¬ (qs.length : Int) = 1 := by omega
        have HF : Hid (OpPost w base p ρ X D (.returned (.tuple #[.slice none 0 0, .bool false, .int .i64 0])) w5) := Hid_mk (by rw [hX5, HD.out]; exact ⟨_, _, rfl, HZ5.out, HK5.out, nil_bs _, fun h => absurd rfl h⟩)
        clear hX4 hX5 hl3 hl4 tx hlen HLo
        go_wp2
        refine bodyPost_ret (results_tmp3 rfl _ _ _) rfl ?_
        exact HF.out
    · have hX3 : X = (e2, none) := by rw [hX2, if_neg h2]
      have HF : Hid (OpPost w base p ρ X D (.returned (.tuple #[.slice none 0 0, .bool false, .int .i64 e2])) w3) := Hid_mk (by rw [hX3, HD.out]; exact ⟨_, ρ3, rfl, HZ3.out, HK3.out, nil_bs _, fun h => absurd rfl h⟩)
      clear hX2 hX3
      go_wp2
      refine bodyPost_ret (results_tmp3 rfl _ _ _) rfl ?_
      exact HF.out

end Go.Proofs.YtmehneicdklfeaaGreat.snp

namespace Go.Proofs.YtmehneicdklfeaaGreat.mkz
open Go.RowKit Go.Proofs.YtmehneicdklfeaaGreat.sum Go.Proofs.YtmehneicdklfeaaGreat.kept Go.Proofs.YtmehneicdklfeaaGreat.app Go.Proofs.YtmehneicdklfeaaGreat.writer Go.Proofs.YtmehneicdklfeaaGreat.clone Go.Proofs.YtmehneicdklfeaaGreat.unseal
set_option linter.unusedVariables false

/-- so many bytes of 0, as made by the call -/
theorem make_zeros (w : World) (n : Nat) (N : Int) (hN : N = (n : Int)) (hn : n ≤ 1000000000) :
    ∃ w', (Instr.makeSlice 29 (.int .i64 N) (.int .i64 N)).run Tryz.prog w = .ok (.slice (some ⟨w.heap.size, 0, none⟩) n n) w' ∧ (∃ zs : List UInt8, zs.length = n ∧ Bs w' (.slice (some ⟨w.heap.size, 0, none⟩) n n) zs) ∧ Kp No w w' := by
  subst hN
  obtain ⟨i0, hi, hz0, hz1, hz2⟩ := info_parts info5
  obtain ⟨w', hr, ho, hg⟩ := run_make_full (P := Tryz.prog) w w.heap.size 29 5 i0 (.int .u8 0) 1 Tryz.underlying29 hi hz0 hz1 .i64 .i64 n (by rw [hz2]; omega) (by unfold maxLen; omega) (Nat.le_refl _)
  refine ⟨w', hr, ⟨List.replicate n 0, List.length_replicate, ?_⟩, (Kp.refl No w).grown hg fun k hk e => by cases e⟩
  have hl : (List.replicate n (0 : UInt8)).length = n := List.length_replicate
  have := owns_bs (w := w') (base := w.heap.size) (v := .slice (some ⟨w.heap.size, 0, none⟩) n n) (bs := List.replicate n 0) (by
    rw [hl]
    have e : (madeCells (Value.int .u8 0).cells (n * 1)).toList = (List.replicate n (0 : UInt8)).map B := by
      apply List.ext_getElem
      · simp [madeCells]
      · intro i h1 h2
        simp [madeCells, Value.cells, B, Nat.mod_one]
    rw [← e]; exact ho)
  exact this

end Go.Proofs.YtmehneicdklfeaaGreat.mkz

namespace Go.Proofs.YtmehneicdklfeaaGreat.snp
open Go.RowKit Go.Maps Go.Proofs.YtmehneicdklfeaaGreat.sum Go.Proofs.YtmehneicdklfeaaGreat.kept Go.Proofs.YtmehneicdklfeaaGreat.app Go.Proofs.YtmehneicdklfeaaGreat.writer Go.Proofs.YtmehneicdklfeaaGreat.clone Go.Proofs.YtmehneicdklfeaaGreat.known Go.Proofs.YtmehneicdklfeaaGreat.fs Go.Proofs.YtmehneicdklfeaaGreat.fsDo Go.Proofs.YtmehneicdklfeaaGreat.unseal Go.Proofs.YtmehneicdklfeaaGreat.dsk Go.Proofs.YtmehneicdklfeaaGreat.r2 Go.Proofs.YtmehneicdklfeaaGreat.pair Go.Proofs.YtmehneicdklfeaaGreat.frm Go.Proofs.YtmehneicdklfeaaGreat.mkz
set_option linter.unusedVariables false

set_option maxRecDepth 100000 in
theorem open_nil (w : World) : Calls Tryz.prog 9 #[.pointer none] w fun e w' => e = .returned (.tuple #[.slice none 0 0, .bool false, .int .i64 1]) ∧ w = w' := by
  go_enter Tryz.func9, Tryz.ntmps9
  go_wp2
  refine bodyPost_ret (results_tmp3 rfl _ _ _) rfl ?_
  exact ⟨rfl, rfl⟩
set_option maxRecDepth 100000 in
theorem save_nil (w : World) (v : Value) : Calls Tryz.prog 11 #[.pointer none, v] w fun e w' => e = .returned (.int .i64 1) ∧ w = w' := by
  go_enter Tryz.func11, Tryz.ntmps11
  go_wp2
  go_ret
  exact ⟨rfl, rfl⟩
set_option maxRecDepth 100000 in
theorem save_long (w : World) (p : Nat) (a : Option Addr) (n cap : Nat) (h : 4194304 < n) : Calls Tryz.prog 11 #[.pointer (some ⟨p, 0, none⟩), .slice a n cap] w fun e w' => e = .returned (.int .i64 12) ∧ w = w' := by
  have hli : (4194304 : Int) < (n : Int) := by omega
  go_enter Tryz.func11, Tryz.ntmps11
  go_wp2
  go_ret
  exact ⟨rfl, rfl⟩

end Go.Proofs.YtmehneicdklfeaaGreat.snp

namespace Go.Proofs.YtmehneicdklfeaaGreat.snp
open Go.RowKit Go.Maps Go.Proofs.YtmehneicdklfeaaGreat.sum Go.Proofs.YtmehneicdklfeaaGreat.kept Go.Proofs.YtmehneicdklfeaaGreat.app Go.Proofs.YtmehneicdklfeaaGreat.writer Go.Proofs.YtmehneicdklfeaaGreat.clone Go.Proofs.YtmehneicdklfeaaGreat.known Go.Proofs.YtmehneicdklfeaaGreat.fs Go.Proofs.YtmehneicdklfeaaGreat.r2
set_option linter.unusedVariables false

/-- bytes as a text -/
def tx (l : List UInt8) : ByteArray := ⟨l.toArray⟩
theorem tx_ne {a b : List UInt8} (h : a ≠ b) : ((tx a).toList == (tx b).toList) = false := txt_ne fun e => h (by
  have := congrArg ByteArray.toList e
  simpa [tx, ByteArray.toList_eq] using this)
theorem conv_tx {w : World} {v : Value} {bs : List UInt8} (h : Bs w v bs) : (convert 29 9 v).run Tryz.prog w = .ok (.string (tx bs)) w := conv_bs h

end Go.Proofs.YtmehneicdklfeaaGreat.snp

namespace Go.Proofs.YtmehneicdklfeaaGreat.plays
open Go.RowKit Go.Maps Go.Proofs.YtmehneicdklfeaaGreat.sum Go.Proofs.YtmehneicdklfeaaGreat.kept Go.Proofs.YtmehneicdklfeaaGreat.app Go.Proofs.YtmehneicdklfeaaGreat.writer Go.Proofs.YtmehneicdklfeaaGreat.clone Go.Proofs.YtmehneicdklfeaaGreat.fs Go.Proofs.YtmehneicdklfeaaGreat.fsDo Go.Proofs.YtmehneicdklfeaaGreat.unseal Go.Proofs.YtmehneicdklfeaaGreat.dsk Go.Proofs.YtmehneicdklfeaaGreat.r2 Go.Proofs.YtmehneicdklfeaaGreat.pair
set_option linter.unusedVariables false

/-- both are new (as in Plays) -/
theorem both_new0 {w w2 : World} {base p : Nat} {ρ : Nat → Role} {room : Int} (h : Dk w2 base p ρ (newD room)) (h0 : 0 ≤ room) (h1 : room ≤ 8388608) :
    Both (w2.alloc (.cells #[.int .i64 room, .slice none 0 0, .slice none 0 0, .slice none 0 0, .bool false, .int .i64 0, .bool false] 52)) base p ρ (newD room) w2.heap.size 0 := by
  have hk := (Kp.refl No w2).alloc (.cells #[.int .i64 room, .slice none 0 0, .slice none 0 0, .slice none 0 0, .bool false, .int .i64 0, .bool false] 52)
  refine ⟨h.no hk, ⟨new_ok room h0 h1, (fun e he => by cases he), (fun c hc => by cases hc)⟩, ⟨room, false, 0, false⟩, .slice none 0 0, .slice none 0 0, .slice none 0 0, [], [], [], ?_, ?_⟩
  · exact ⟨⟨by simp, by simp, by simp, by simp, by simp, by simp, by simp, fun o => by simp, by simp⟩, Fl.nil _, Fl.nil _, Wt.nil _, h.hi (Nat.le_refl _), Aw.nil _ _ _ _ _, Aw.nil _ _ _ _ _, Aw.nil _ _ _ _ _, (fun q hq => by cases hq), (fun q hq => by cases hq), (fun q hq => by cases hq)⟩
  · exact ⟨rfl, rfl, rfl, (by show (0 : Int) ≤ 0; omega), (by show (0 : Int) ≤ _; omega), rfl, rfl, rfl⟩


theorem dk_low {w : World} {base p : Nat} {ρ : Nat → Role} {d : DSt} (h : Dk w base p ρ d) {k : Nat} (hk : k < base) : ρ k = .other := by
  obtain ⟨s, n, vp, ps, h⟩ := h
  exact Classical.byContradiction fun e => by have := h.low k e; omega

/-- the files laid, one behind another -/
def laidD (d : DSt) : List Fv → DSt
  | [] => d
  | q :: l => laidD (appR d q.1 q.2.2).2 l
theorem laidD_append (d : DSt) (l m : List Fv) : laidD d (l ++ m) = laidD (laidD d l) m := by
  induction l generalizing d with
  | nil => rfl
  | cons q l ih => exact ih _
theorem laidD_succ (d : DSt) (l : List Fv) {k : Nat} (h : k < l.length) : laidD d (l.take (k + 1)) = (appR (laidD d (l.take k)) l[k].1 l[k].2.2).2 := by
  rw [List.take_succ_eq_append_getElem h, laidD_append]
  rfl
/-- the state of both -/
def pairD (room : Int) (l : List Fv) : DSt := (syR (laidD (newD room) l)).2

def PrPost (w : World) (room : Int) (l : List Fv) (e : Ending) (w' : World) : Prop :=
  ∃ p r, e = .returned (.tuple #[.pointer (some ⟨p, 0, none⟩), .pointer (some ⟨r, 0, none⟩), .bool true]) ∧ w.heap.size ≤ r ∧ Kp No w w' ∧ Hid (∃ ρ, Both w' w.heap.size p ρ (pairD room l) r (l.length + 1))

def PrRel (w : World) (room : Int) (l : List Fv) (p r : Nat) (i : Value) (wr : World) : Prop :=
  ∃ k : Nat, i = .int .i64 (k : Int) ∧ k ≤ l.length ∧ Kp No w wr ∧ Hid (∃ ρ, Both wr w.heap.size p ρ (laidD (newD room) (l.take k)) r k)

set_option maxRecDepth 100000 in
set_option maxHeartbeats 4000000 in
theorem pair_any (w : World) (room : Int) (hr0 : 0 ≤ room) (hr1 : room ≤ 8388608) (v : Value) (l : List Fv) (h : Fl w v l) (hl : l.length ≤ 20) (hn : ∀ q ∈ l, q.1.size ≤ maxLen) (hbl : ∀ q ∈ l, q.2.2.length ≤ 1000000000000000) :
    Calls Tryz.prog 5 #[.int .i64 room, v] w (PrPost w room l) := by
  have HN := Hid_mk (new_any w room hr0 hr1)
  have HFl := Hid_mk h
  have HNm := Hid_mk hn
  have HBl := Hid_mk hbl
  obtain ⟨a, cap, rfl, h1, h2, h3⟩ := h.1.opened
  have HC := Hid_mk h3
  clear h3 h hn hbl
  go_enter Tryz.func5, Tryz.ntmps5
  go_wp2_with fail
  with_reducible refine HN.out.mono ?_
  rintro e w1 ⟨p, ρ, rfl, hd1, hk1, hp⟩
  have hb := both_new0 (w := w) hd1 hr0 hr1
  have hk3 := hk1.alloc (.cells #[.int .i64 room, .slice none 0 0, .slice none 0 0, .slice none 0 0, .bool false, .int .i64 0, .bool false] 52)
  have HB := Hid_mk hb
  have HK3 := Hid_mk hk3
  have hrw : w.heap.size ≤ w1.heap.size := hk1.size
  clear hb hd1 hk1 HN hk3
  go_wp2
  obtain ⟨r, hr⟩ : ∃ r, w1.heap.size = r := ⟨_, rfl⟩
  rw [hr] at hrw HB ⊢
  go_loopw [10] (fun i wr => PrRel w room l p r i wr) (fun i _ => l.length - (intOf i).toNat)
  case atStart => exact ⟨0, rfl, Nat.zero_le _, HK3.out, Hid_mk ⟨ρ, HB.out⟩⟩
  case round =>
    obtain ⟨k, rfl, hk, hkk, hbk⟩ := hrel
    obtain ⟨ρk, hbk⟩ := hbk.out
    have HBk := Hid_mk hbk
    have HKk := Hid_mk hkk
    clear hbk hkk
    have hk0 : (0 : Int) ≤ (k : Int) := Int.natCast_nonneg _
    have hk20 : k ≤ 20 := by omega
    by_cases hlt : k < l.length
    · have hki : (k : Int) < (l.length : Int) := by omega
      have hki2 : (k : Int) < 20 := by omega
      obtain ⟨b, rfl, hc⟩ := HC.out (by intro e; rw [e] at hlt; simp at hlt)
      obtain ⟨c0, c1⟩ := hc k hlt
      have hsm : l[k] ∈ l := List.getElem_mem hlt
      have hbs := HFl.out.2 _ hsm
      have hnx := HNm.out _ hsm
      have hbx := HBl.out _ hsm
      have hsu := laidD_succ (newD room) l hlt
      obtain ⟨q, hq⟩ : ∃ q, l[k] = q := ⟨_, rfl⟩
      rw [hq] at c0 c1 hbs hnx hbx hsu
      obtain ⟨x, vb, bs⟩ := q
      simp only at c0 c1 hbs hnx hbx hsu
      obtain ⟨d, hd⟩ : ∃ d, laidD (newD room) (l.take k) = d := ⟨_, rfl⟩
      rw [hd] at HBk hsu
      have hblt : b < w.heap.size := World.block_lt_of_cell? w _ c0
      have HLt := Hid_mk hlt
      have hlow : bs ≠ [] → ∀ x o m c, vb = .slice (some ⟨x, o, none⟩) m c → x < w.heap.size := fun hne x o m c e => bs_lt hbs hne e
      have HLow := Hid_mk hlow
      have HSu := Hid_mk hsu
      have HBs := Hid_mk (bs_no hbs HKk.out)
      obtain ⟨ab, cb, rfl, -⟩ := id hbs
      have y0 := HKk.out.cell' c0 id
      have y1 := HKk.out.cell' c1 id
      have hnb1 : ¬ (fun k => w.heap.size ≤ k ∧ k ≠ r ∧ ρk k ≠ .other) b := fun h => by have := h.1; omega
      have hnb2 : ¬ (fun k => k = r) b := fun h => by have h' : b = r := h; omega
      obtain ⟨cd, hcd⟩ : ∃ c, (appR d x bs).1 = c := ⟨_, rfl⟩
      have HC1 : Hid (∀ V, Kp No wr V → Calls Tryz.prog 16 #[.pointer (some ⟨p, 0, none⟩), .string x, .slice ab bs.length cb] V fun e w1 => e = .returned (.int .i64 cd) ∧ Kp (fun k => w.heap.size ≤ k ∧ k ≠ r ∧ ρk k ≠ .other) V w1 ∧ Hid (Mid V w.heap.size p ρk d ((appR d x bs).2) r w1)) :=
        Hid_mk fun V hV => (HBk.out.no hV).call (hcd ▸ papp_any (HBk.out.no hV).dk HBk.out.ok.1 (by omega) x _ bs hnx (bs_no HBs.out hV) (fun hne y o m c e => dk_low HBk.out.dk (HLow.out hne y o m c e)) hbx)
      have HC2 : Hid (∀ V w1, Kp No wr V → Hid (Mid V w.heap.size p ρk d ((appR d x bs).2) r w1) → Kp (fun k => w.heap.size ≤ k ∧ k ≠ r ∧ ρk k ≠ .other) V w1 → Calls Tryz.prog 17 #[.pointer (some ⟨r, 0, none⟩), .string x, .slice ab bs.length cb] w1 fun e w2 => e = .returned (.int .i64 cd) ∧ Kp (fun k => w.heap.size ≤ k) V w2 ∧ Kp (fun k => k = r) w1 w2 ∧ Hid (∃ ρ2, Both w2 w.heap.size p ρ2 ((appR d x bs).2) r (k + 1))) :=
        Hid_mk fun V w1 hV hmid hk1 => hmid.out.call hrw (appR_ok HBk.out.ok x bs) fun ρ1 x' vs vn vw ls ln ps h3 h4 h5 h6 => hcd ▸ refappend_any w1 ρ1 r d x' vs vn vw ls ln ps k h3 h4 HBk.out.ok.1 (by omega) h5 x _ bs hnx (bs_keptE (bs_no HBs.out hV) hk1 fun hne y o m c e h => by have := HLow.out hne y o m c e; have := h.1; omega) (fun hne y o m c e => by
          have h7 := HLow.out hne y o m c e
          have h8 := HKk.out.size
          have h9 := hV.size
          have h10 := hk1.size
          exact ⟨h6 y h7, by omega, by omega⟩) hbx
      clear hcd hsu hq hd hsm hbs hlow hc hnx c0 c1 hlt
      go_wp2
      go_region_held3 (fun V => V.cell? ⟨b, k * 2, none⟩ = some (.string x) ∧ V.cell? ⟨b, k * 2 + 1, none⟩ = some (.slice ab bs.length cb))
        (first
          | go_keep
          | (dsimp only; exact ⟨y0, y1⟩)
          | (dsimp only; exact ⟨u0, u1⟩)
          | (dsimp only; exact ⟨v0, v1⟩)
          | assumption)
        (first
          | (go_at_call 16; (with_reducible refine (HC1.out _ (Kp.drew (Kp.refl No wr))).mono ?_); rintro e w4 ⟨rfl, hk4, hM4⟩; have u0 := hk4.cell' y0 hnb1; have u1 := hk4.cell' y1 hnb1)
          | (go_at_call 17; (with_reducible refine (HC2.out _ _ (Kp.drew (Kp.refl No wr)) hM4 hk4).mono ?_); rintro e w5 ⟨rfl, hk5, hk5r, hB5⟩; have v0 := hk5r.cell' u0 hnb2; have v1 := hk5r.cell' u1 hnb2))
      have HN5 : Hid (∀ i, i = (.int .i64 ((k : Int) + 1) : Value) → PrRel w room l p r i w5) := Hid_mk fun i hi => by
        obtain ⟨ρ5, hb5⟩ := hB5.out
        exact ⟨k + 1, by rw [hi]; push_cast; rfl, HLt.out, HKk.out.trans ((Kp.refl _ wr).drew.trans' hk5) (fun i hi e => by omega), Hid_mk ⟨ρ5, by rw [HSu.out]; exact hb5⟩⟩
      clear hB5 hk5 hk5r hM4 hk4 u0 u1 v0 v1 y0 y1 HC1 HC2
      go_wp2
      go_roundw
      case rel => exact HN5.out _ rfl
      case measure => have := HLt.out; simp only [intOf]; omega
    · have hki : ¬ (k : Int) < (l.length : Int) := by omega
      have hkl : k = l.length := by omega
      subst hkl
      rw [List.take_length] at HBk
      obtain ⟨d, hd⟩ : ∃ d, laidD (newD room) l = d := ⟨_, rfl⟩
      rw [hd] at HBk
      have HPd : Hid (pairD room l = (syR d).2) := Hid_mk (by unfold pairD; rw [hd])
      clear hd hlt
      obtain ⟨cd, hcd⟩ : ∃ c, (syR d).1 = c := ⟨_, rfl⟩
      have HC1 : Hid (∀ V, Kp No wr V → Calls Tryz.prog 18 #[.pointer (some ⟨p, 0, none⟩)] V fun e w1 => e = .returned (.int .i64 cd) ∧ Kp (fun k => w.heap.size ≤ k ∧ k ≠ r ∧ ρk k ≠ .other) V w1 ∧ Hid (Mid V w.heap.size p ρk d ((syR d).2) r w1)) :=
        Hid_mk fun V hV => (HBk.out.no hV).call (hcd ▸ psync_any (HBk.out.no hV).dk HBk.out.ok.1 (by omega))
      have HC2 : Hid (∀ V w1, Hid (Mid V w.heap.size p ρk d ((syR d).2) r w1) → Calls Tryz.prog 19 #[.pointer (some ⟨r, 0, none⟩)] w1 fun e w2 => e = .returned (.int .i64 cd) ∧ Kp (fun k => w.heap.size ≤ k) V w2 ∧ Kp (fun k => k = r) w1 w2 ∧ Hid (∃ ρ2, Both w2 w.heap.size p ρ2 ((syR d).2) r (l.length + 1))) :=
        Hid_mk fun V w1 hmid => hmid.out.call hrw (syR_ok HBk.out.ok) fun ρ1 x' vs vn vw ls ln ps h3 h4 h5 h6 => hcd ▸ refsync_any w1 ρ1 r d x' vs vn vw ls ln ps l.length h3 h4 HBk.out.ok.1 (by omega) h5
      clear hcd
      go_wp2_with (first
          | (go_at_call 18; (with_reducible refine (HC1.out _ (Kp.refl No wr)).mono ?_); rintro e w4 ⟨rfl, hk4, hM4⟩)
          | (go_at_call 19; (with_reducible refine (HC2.out _ _ hM4).mono ?_); rintro e w5 ⟨rfl, hk5, hk5r, hB5⟩))
      refine bodyPost_ret (results_tmp3 rfl _ _ _) rfl ?_
      obtain ⟨ρ5, hb5⟩ := hB5.out
      exact ⟨_, _, rfl, hrw, HKk.out.trans hk5 (fun i hi e => by omega), Hid_mk ⟨ρ5, by rw [HPd.out]; exact hb5⟩⟩

end Go.Proofs.YtmehneicdklfeaaGreat.plays

namespace Go.Proofs.YtmehneicdklfeaaGreat.pair
open Go.RowKit Go.Maps Go.Sort Go.Proofs.YtmehneicdklfeaaGreat.sum Go.Proofs.YtmehneicdklfeaaGreat.kept Go.Proofs.YtmehneicdklfeaaGreat.app Go.Proofs.YtmehneicdklfeaaGreat.writer Go.Proofs.YtmehneicdklfeaaGreat.clone Go.Proofs.YtmehneicdklfeaaGreat.known Go.Proofs.YtmehneicdklfeaaGreat.fs Go.Proofs.YtmehneicdklfeaaGreat.fsDo Go.Proofs.YtmehneicdklfeaaGreat.unseal Go.Proofs.YtmehneicdklfeaaGreat.dsk Go.Proofs.YtmehneicdklfeaaGreat.r2 Go.Proofs.YtmehneicdklfeaaGreat.pair
set_option linter.unusedVariables false

/-- the names of a disk's files, as texts -/
def nmsOf (d : DSt) : List ByteArray := (namesOf d.now).map fun n => ⟨n.toArray⟩
theorem nms_len (d : DSt) : (nmsOf d).length = d.now.length := by unfold nmsOf namesOf; rw [List.length_map, List.length_map]

section
variable {w : World} {base p r M : Nat} {ρ : Nat → Role} {d : DSt}

theorem Both.few (h : Both w base p ρ d r M) (hM : M ≤ 1000) : d.now.length ≤ 1000 ∧ used d.now ≤ 10000000000 := by
  obtain ⟨h1, h2, x, vs, vn, vw, ls, ln, ps, h3, h4⟩ := h
  obtain ⟨b1, b2, b3, -⟩ := h4.bounds h2.1 hM
  rw [← h4.now, files_len]
  exact ⟨b2, b3⟩

theorem Both.names2 (h : Both w base p ρ d r M) (hM : M ≤ 1000) :
    Calls Tryz.prog 38 #[.pointer (some ⟨r, 0, none⟩)] w fun e w' => ∃ v, e = .returned v ∧ SRow w' w.heap.size v (if d.down = true then [] else nmsOf d) ∧ Kp No w w' := by
  obtain ⟨h1, h2, x, vs, vn, vw, ls, ln, ps, h3, h4⟩ := h
  obtain ⟨b1, b2, b3, -⟩ := h4.bounds h2.1 hM
  have e : nmsOf d = ln.map (·.1) := by
    unfold nmsOf
    rw [← h4.now]
    unfold namesOf files
    rw [List.map_map, List.map_map]
    exact List.map_congr_left fun q _ => rfl
  rw [e, h4.down]
  exact refnames_any w r x vs vn vw ln h3.at_ h3.fn (by omega)
theorem Both.used1 (h : Both w base p ρ d r M) (hM : M ≤ 1000) :
    Calls Tryz.prog 39 #[.pointer (some ⟨p, 0, none⟩)] w fun e w' => e = .returned (.int .i64 (if d.down = true then 0 else (used d.now : Int))) ∧ Kp No w w' := by
  have hf := h.few hM
  cases hd : d.down with
  | true => exact (used_down w base p ρ d h.dk hd).mono fun e w' ⟨he, hw⟩ => ⟨he, hw ▸ Kp.refl _ _⟩
  | false => exact used_disk w base p ρ d h.dk hd (by omega)
theorem Both.used2 (h : Both w base p ρ d r M) (hM : M ≤ 1000) :
    Calls Tryz.prog 40 #[.pointer (some ⟨r, 0, none⟩)] w fun e w' => e = .returned (.int .i64 (if d.down = true then 0 else (used d.now : Int))) ∧ w = w' := by
  obtain ⟨h1, h2, x, vs, vn, vw, ls, ln, ps, h3, h4⟩ := h
  obtain ⟨b1, b2, b3, -⟩ := h4.bounds h2.1 hM
  have := refused_any w r x vs vn vw ln h3.at_ h3.fn (by omega) (by omega)
  rw [h4.now, ← h4.down] at this
  exact this
theorem Both.pend (h : Both w base p ρ d r M) :
    Calls Tryz.prog 41 #[.pointer (some ⟨p, 0, none⟩)] w fun e w' => e = .returned (.int .i64 (d.cs.length : Int)) ∧ w = w' := pending_any w base p ρ d h.dk
theorem Both.down (h : Both w base p ρ d r M) :
    Calls Tryz.prog 42 #[.pointer (some ⟨p, 0, none⟩)] w fun e w' => e = .returned (.bool d.down) ∧ w = w' := down_any w base p ρ d h.dk
/-- the reference's cells that the law reads itself -/
theorem Both.cells (h : Both w base p ρ d r M) : ∃ a c, w.cell? ⟨r, 3, none⟩ = some (.slice a d.cs.length c) ∧ w.cell? ⟨r, 6, none⟩ = some (.bool d.down) := by
  obtain ⟨h1, h2, x, vs, vn, vw, ls, ln, ps, h3, h4⟩ := h
  have hpl : ps.length = d.cs.length := by rw [← h4.cs, List.length_map]
  have c3 := h3.at_.c3
  have c6 := h3.at_.c6
  rw [← h4.down] at c6
  rcases owns_any h3.fw.1 with ⟨rfl, h0⟩ | ⟨g, cap, rfl, -⟩
  · rw [← hpl, h0]; exact ⟨_, _, c3, c6⟩
  · rw [← hpl]; exact ⟨_, _, c3, c6⟩
theorem Both.read1 (h : Both w base p ρ d r M) (hM : M ≤ 1000) (n : ByteArray) (hn : n.size ≤ maxLen) (hd : d.down = false) :
    Calls Tryz.prog 27 #[.pointer (some ⟨p, 0, none⟩), .string n] w fun e w' => ∃ v, e = .returned (.tuple #[v, .bool (get d.now (nm n)).isSome]) ∧ Bs w' v (old d.now (nm n)) ∧ Kp No w w' := by
  have hf := h.few hM
  obtain ⟨⟨s, nn, vp, ps, hh⟩, -, -⟩ := h
  refine (read_any w base p ρ d d.now s nn vp ps n hh hd hn (by omega)).mono ?_
  rintro e w' ⟨v, he, ho, hk⟩
  exact ⟨v, he, owns_bs ho, hk⟩
theorem Both.nms16 (h : Both w base p ρ d r M) : ∀ s ∈ nmsOf d, s.size ≤ 16 := by
  intro s hs
  unfold nmsOf at hs
  obtain ⟨n, hn, rfl⟩ := List.mem_map.1 hs
  obtain ⟨e, he, rfl⟩ := List.mem_map.1 hn
  have := h.ok.2.now e he
  show e.1.toArray.size ≤ 16
  simpa using this
theorem Both.read2 (h : Both w base p ρ d r M) (hM : M ≤ 1000) (n : ByteArray) (hn : n.size ≤ maxLen) (hd : d.down = false) :
    Calls Tryz.prog 31 #[.pointer (some ⟨r, 0, none⟩), .string n] w fun e w' => ∃ v, e = .returned (.tuple #[v, .bool (fs.get d.now (nm n)).isSome]) ∧ Bs w v (old d.now (nm n)) ∧ w = w' := by
  refine (h.read hM n hn).mono ?_
  rintro e w' ⟨v, bs, he, hb, hbe, -, hw⟩
  rw [hd] at he hbe
  simp only [Bool.not_false, Bool.true_and, Bool.false_eq_true, if_false] at he hbe
  subst hbe
  exact ⟨v, he, hb, hw⟩
theorem Both.none18 (h : Both w base p ρ d r M) {n : ByteArray} (hn : 16 < n.size) : (get d.now (nm n)).isSome = false := by
  cases hg : (fs.get d.now (nm n)).isSome with
  | false => rfl
  | true => have := h.ok.2.has hg; omega
end

theorem srow_cell {w : World} {base g n c : Nat} {l : List ByteArray} (h : SRow w base (.slice (some ⟨g, 0, none⟩) n c) l) (k : Nat) (hk : k < l.length) : w.cell? ⟨g, k, none⟩ = some (.string l[k]) := by
  have h' : w.ownsRow base 9 1 (.slice (some ⟨g, 0, none⟩) n c) l.length (l.map Value.string) := h
  have := h'.cells (g := g) rfl k (.string l[k]) (by simp [hk])
  rw [addr_add, Nat.zero_add] at this
  exact this

end Go.Proofs.YtmehneicdklfeaaGreat.pair

namespace Go.Proofs.YtmehneicdklfeaaGreat.plays
open Go.RowKit Go.Maps Go.Proofs.YtmehneicdklfeaaGreat.sum Go.Proofs.YtmehneicdklfeaaGreat.kept Go.Proofs.YtmehneicdklfeaaGreat.app Go.Proofs.YtmehneicdklfeaaGreat.writer Go.Proofs.YtmehneicdklfeaaGreat.clone Go.Proofs.YtmehneicdklfeaaGreat.known Go.Proofs.YtmehneicdklfeaaGreat.fs Go.Proofs.YtmehneicdklfeaaGreat.fsDo Go.Proofs.YtmehneicdklfeaaGreat.unseal Go.Proofs.YtmehneicdklfeaaGreat.dsk Go.Proofs.YtmehneicdklfeaaGreat.r2 Go.Proofs.YtmehneicdklfeaaGreat.pair

def SmRel (n : Nat) (w : World) (i : Value) (wr : World) : Prop := ∃ k : Nat, i = .int .i64 (k : Int) ∧ k ≤ n ∧ Kp No w wr

set_option maxRecDepth 100000 in
set_option maxHeartbeats 4000000 in
theorem samedisk_any (w : World) (base p r M : Nat) (ρ : Nat → Role) (d : DSt) (h : Both w base p ρ d r M) (hM : M ≤ 1000)
    (hN1 : d.down = false → Calls Tryz.prog 37 #[.pointer (some ⟨p, 0, none⟩)] w fun e w' => ∃ v, e = .returned v ∧ SRow w' w.heap.size v (nmsOf d) ∧ Kp No w w') :
    Calls Tryz.prog 13 #[.pointer (some ⟨p, 0, none⟩), .pointer (some ⟨r, 0, none⟩)] w fun e w' => e = .returned (.bool true) ∧ Kp No w w' := by
  have HM := Hid_mk hM
  have H := Hid_mk h
  have hfew := h.few hM
  have HN2 := Hid_mk fun V (hV : Kp No w V) => (h.no hV).names2 hM
  obtain ⟨U, hU⟩ : ∃ U, (if d.down = true then 0 else (used d.now : Int)) = U := ⟨_, rfl⟩
  have HU1 := Hid_mk fun V (hV : Kp No w V) => hU ▸ (h.no hV).used1 hM
  have HU2 := Hid_mk fun V (hV : Kp No w V) => hU ▸ (h.no hV).used2 hM
  have HPe := Hid_mk fun V (hV : Kp No w V) => (h.no hV).pend
  have HDn := Hid_mk fun V (hV : Kp No w V) => (h.no hV).down
  clear hU hM
  obtain ⟨aw, cw, c3, c6⟩ := h.cells
  have HC3 := Hid_mk c3
  have HC6 := Hid_mk c6
  cases hd : d.down with
  | true =>
    have HN1 := Hid_mk (names_down w base p ρ d h.dk hd)
    rw [hd] at HDn HC6 HN2
    clear h c3 c6 hN1
    go_enter Tryz.func13, Tryz.ntmps13
    go_wp2_with fail
    with_reducible refine HN1.out.mono ?_
    rintro e w' ⟨rfl, rfl⟩
    go_wp2_with fail
    with_reducible refine (HN2.out _ (Kp.refl _ _)).mono ?_
    rintro e w2 ⟨v2, rfl, hs2, hk2⟩
    simp only [if_true] at hs2
    have c3 := hk2.cell' HC3.out id
    have c6 := hk2.cell' HC6.out id
    have HK2 := Hid_mk hk2
    obtain ⟨a2, k2, rfl⟩ : ∃ a c, v2 = .slice a 0 c := by
      rcases owns_any hs2 with ⟨rfl, -⟩ | ⟨g, cap, rfl, -⟩ <;> exact ⟨_, _, rfl⟩
    clear hs2 hk2
    go_wp2
    go_region_held3 (fun V => V.cell? ⟨r, 3, none⟩ = some (.slice aw d.cs.length cw) ∧ V.cell? ⟨r, 6, none⟩ = some (.bool true))
      (first
        | go_keep
        | (dsimp only; exact ⟨c3, c6⟩)
        | (dsimp only; exact ⟨e3, e6⟩)
        | assumption)
      (first
        | (go_at_call 39; (with_reducible refine (HU1.out _ (HK2.out.drew)).mono ?_); rintro e w3 ⟨rfl, hk3⟩; have hk3' := Kp.trans' HK2.out.drew hk3; have e3 := hk3'.cell' HC3.out id; have e6 := hk3'.cell' HC6.out id; have HK3 := Hid_mk hk3'; clear hk3 hk3')
        | (go_at_call 40; (with_reducible refine (HU2.out _ HK3.out).mono ?_); rintro e w' ⟨rfl, rfl⟩)
        | (go_at_call 41; (with_reducible refine (HPe.out _ HK3.out).mono ?_); rintro e w' ⟨rfl, rfl⟩)
        | (go_at_call 42; (with_reducible refine (HDn.out _ HK3.out).mono ?_); rintro e w' ⟨rfl, rfl⟩))
    have HKE := Hid_mk HK3.out
    clear e3 e6 c3 c6
    go_wp2
    go_loopw [7] (fun i wr => i = .int .i64 0 ∧ Kp No w wr) (fun _ _ => 0)
    case atStart => exact ⟨rfl, HKE.out⟩
    case round =>
      obtain ⟨rfl, hkr⟩ := hrel
      have HKr := Hid_mk hkr
      clear hkr
      go_wp2
      go_ret
      exact ⟨rfl, HKr.out⟩
  | false =>
    have HN1 := Hid_mk (hN1 hd)
    have HR1 := Hid_mk fun V (hV : Kp No w V) n (hn : n.size ≤ maxLen) => (h.no hV).read1 HM.out n hn hd
    have HR2 := Hid_mk fun V (hV : Kp No w V) n (hn : n.size ≤ maxLen) => (h.no hV).read2 HM.out n hn hd
    rw [hd] at HDn HC6 HN2
    have hln := nms_len d
    have hsz : ∀ k (hk : k < (nmsOf d).length), (nmsOf d)[k].size ≤ maxLen := fun k hk => by
      have := H.out.nms16 _ (List.getElem_mem hk)
      unfold maxLen; omega
    have HSz := Hid_mk hsz
    obtain ⟨L, hL⟩ : ∃ L, nmsOf d = L := ⟨_, rfl⟩
    rw [hL] at HN1 HN2 hln HSz
    have hL1 : L.length ≤ 1000 := by omega
    clear h c3 c6 hsz hL hfew hN1
    go_enter Tryz.func13, Tryz.ntmps13
    go_wp2_with fail
    with_reducible refine HN1.out.mono ?_
    rintro e w1 ⟨v1, rfl, hs1, hk1⟩
    have HS1 := Hid_mk hs1
    have HK1 := Hid_mk hk1
    obtain ⟨a1, k1, rfl, hg1⟩ : ∃ a c, v1 = .slice a L.length c ∧ (L ≠ [] → ∃ g, a = some ⟨g, 0, none⟩) := by
      rcases owns_any hs1 with ⟨rfl, h0⟩ | ⟨g, cap, rfl, -⟩
      · exact ⟨_, _, by rw [h0], fun hne => absurd (List.eq_nil_of_length_eq_zero h0) hne⟩
      · exact ⟨_, _, rfl, fun _ => ⟨g, rfl⟩⟩
    have HG1 := Hid_mk hg1
    clear hs1 hk1 hg1
    go_wp2_with fail
    with_reducible refine (HN2.out _ HK1.out).mono ?_
    rintro e w2 ⟨v2, rfl, hs2, hk2⟩
    simp only [Bool.false_eq_true, if_false] at hs2
    have hk2 := HK1.out.trans' hk2
    have HS2 := Hid_mk hs2
    have HS1b : Hid (SRow w2 w.heap.size (.slice a1 L.length k1) L) := Hid_mk (HS1.out.no (by assumption))
    obtain ⟨a2, k2, rfl, hg2⟩ : ∃ a c, v2 = .slice a L.length c ∧ (L ≠ [] → ∃ g, a = some ⟨g, 0, none⟩) := by
      rcases owns_any hs2 with ⟨rfl, h0⟩ | ⟨g, cap, rfl, -⟩
      · exact ⟨_, _, by rw [h0], fun hne => absurd (List.eq_nil_of_length_eq_zero h0) hne⟩
      · exact ⟨_, _, rfl, fun _ => ⟨g, rfl⟩⟩
    have HG2 := Hid_mk hg2
    have c3 := hk2.cell' HC3.out id
    have c6 := hk2.cell' HC6.out id
    have HK2 := Hid_mk hk2
    clear hs2 hk2 hg2
    go_wp2
    go_region_held3 (fun V => V.cell? ⟨r, 3, none⟩ = some (.slice aw d.cs.length cw) ∧ V.cell? ⟨r, 6, none⟩ = some (.bool false))
      (first
        | go_keep
        | (dsimp only; exact ⟨c3, c6⟩)
        | (dsimp only; exact ⟨e3, e6⟩)
        | assumption)
      (first
        | (go_at_call 39; (with_reducible refine (HU1.out _ (HK2.out.drew)).mono ?_); rintro e w3 ⟨rfl, hk3⟩; have hk3' := Kp.trans' HK2.out.drew hk3; have e3 := hk3'.cell' HC3.out id; have e6 := hk3'.cell' HC6.out id; have HK3 := Hid_mk hk3'; have HK23 := Hid_mk (Kp.trans' (Kp.drew (Kp.refl No w2)) hk3); clear hk3 hk3')
        | (go_at_call 40; (with_reducible refine (HU2.out _ HK3.out).mono ?_); rintro e w' ⟨rfl, rfl⟩)
        | (go_at_call 41; (with_reducible refine (HPe.out _ HK3.out).mono ?_); rintro e w' ⟨rfl, rfl⟩)
        | (go_at_call 42; (with_reducible refine (HDn.out _ HK3.out).mono ?_); rintro e w' ⟨rfl, rfl⟩))
    have HKE := Hid_mk HK3.out
    clear e3 e6 c3 c6
    have HS1c : Hid (SRow w3 w.heap.size (.slice a1 L.length k1) L) := Hid_mk (HS1b.out.no HK23.out)
    have HS2c := Hid_mk (HS2.out.no HK23.out)
    clear HKE
    go_wp2
    go_loopw [7] (fun i wr => SmRel L.length w3 i wr) (fun i _ => L.length - (intOf i).toNat)
    case atStart => exact ⟨0, rfl, Nat.zero_le _, Kp.refl _ _⟩
    case round =>
      obtain ⟨k, rfl, hk, hkr⟩ := hrel
      have HKr := Hid_mk hkr
      have HKw := Hid_mk (HK3.out.trans' hkr)
      clear hkr
      by_cases hlt : k < L.length
      · have hki : (k : Int) < (L.length : Int) := by omega
        have hk0 : (0 : Int) ≤ (k : Int) := Int.natCast_nonneg _
        obtain ⟨g1, rfl⟩ := HG1.out (by intro e; rw [e] at hlt; simp at hlt)
        obtain ⟨g2, rfl⟩ := HG2.out (by intro e; rw [e] at hlt; simp at hlt)
        have y1 := srow_cell (HS1c.out.no HKr.out) k hlt
        have y2 := srow_cell (HS2c.out.no HKr.out) k hlt
        have hys := HSz.out k hlt
        obtain ⟨y, hy⟩ : ∃ y, L[k] = y := ⟨_, rfl⟩
        rw [hy] at y1 y2 hys
        have HLt := Hid_mk hlt
        have hr1 := HR1.out _ HKw.out y hys
        have hr2 := fun V (hV : Kp No w V) => HR2.out V hV y hys
        obtain ⟨gb, hgb⟩ : ∃ gb, (fs.get d.now (nm y)).isSome = gb := ⟨_, rfl⟩
        obtain ⟨bs, hbs⟩ : ∃ bs, old d.now (nm y) = bs := ⟨_, rfl⟩
        rw [hgb, hbs] at hr1
        simp only [hgb, hbs] at hr2
        have HA1 := Hid_mk hr1
        have HA2 := Hid_mk hr2
        clear hr1 hr2 hgb hbs hy hlt hys
        go_wp2_with fail
        with_reducible refine HA1.out.mono ?_
        rintro e w4 ⟨v4, rfl, hb4, hk4⟩
        have HK4 := Hid_mk (HKw.out.trans' hk4)
        have HK34 := Hid_mk (HKr.out.trans' hk4)
        have z1 := hk4.cell' y1 id
        have z2 := hk4.cell' y2 id
        have HB4 := Hid_mk hb4
        obtain ⟨a4, c4, rfl, -⟩ := id hb4
        clear hk4 hb4 y1 y2
        go_wp2_with fail
        with_reducible refine (HA2.out _ HK4.out).mono ?_
        rintro e w' ⟨v5, rfl, hb5, rfl⟩
        have hc4 := conv_bs (bs_no HB4.out ((Kp.refl No w4).drew))
        have hc5 := conv_bs (bs_no hb5 ((Kp.refl No w4).drew))
        obtain ⟨a5, c5, rfl, -⟩ := id hb5
        clear hb5
        go_wp2
        go_region_held3 (fun V => V.cell? ⟨g1, k, none⟩ = some (.string y) ∧ V.cell? ⟨g2, k, none⟩ = some (.string y) ∧
            (convert 29 9 (.slice a4 bs.length c4)).run Tryz.prog V = .ok (.string ⟨bs.toArray⟩) V ∧ (convert 29 9 (.slice a5 bs.length c5)).run Tryz.prog V = .ok (.string ⟨bs.toArray⟩) V)
          (first | (dsimp only; exact ⟨z1, z2, hc4, hc5⟩) | go_keep) (fail)
        all_goals
          go_wp2
          go_roundw
          case rel => exact ⟨k + 1, by push_cast; rfl, HLt.out, HK34.out.drew⟩
          case measure => have := HLt.out; simp only [intOf]; omega
      · have hki : ¬ (k : Int) < (L.length : Int) := by omega
        clear hlt
        go_wp2
        go_ret
        exact ⟨rfl, HKw.out⟩

end Go.Proofs.YtmehneicdklfeaaGreat.plays
