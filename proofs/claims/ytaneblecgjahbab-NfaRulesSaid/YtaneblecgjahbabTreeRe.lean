/- tailracehand.Re: a tree that is right, of a raw one. -/
import Derived.Test.YtaneblecgjahbabTreeMakeM
import Derived.Test.YtaneblecgjahbabErePureM

namespace Go.Proofs.Ytaneblecgjahbab.ere
open Go.RowKit Go.Proofs.Ytaneblecgjahbab.sum Go.Proofs.Ytaneblecgjahbab.kept Go.Proofs.Ytaneblecgjahbab.pop Go.Proofs.Ytaneblecgjahbab.cls Go.Proofs.Ytaneblecgjahbab.tre Go.Proofs.Ytaneblecgjahbab.str Go.Proofs.Ytaneblecgjahbab.turned Go.Proofs.Ytaneblecgjahbab.treeArg
set_option linter.unusedVariables false

set_option maxRecDepth 100000 in
set_option maxHeartbeats 16000000 in
theorem re_any : ∀ (d : Nat), d ≤ 4 → MkAt d := by
  intro d
  induction d using Nat.strongRecOn with
  | ind d ih =>
  intro hd t w k n a len c ht
  obtain ⟨l, rfl, rfl⟩ : ∃ l, t = .mk k n l ∧ len = l.length := by
    obtain ⟨k', n', l⟩ := t
    obtain ⟨a', c', e, -⟩ := ht
    injection e with e
    simp at e
    obtain ⟨rfl, rfl, -, rfl, -⟩ := e
    exact ⟨l, rfl, rfl⟩
  by_cases h2 : k % 12 = 2
  · exact re_set d hd w k n a l.length c h2
  have HN2 := Hid_mk h2
  clear h2
  have HIh := Hid_mk (fun m hm => ih m hm (by omega) : ∀ m, m < d → MkAt m)
  have HT := Hid_mk ht
  have HD := Hid_mk hd
  have HP1 := Hid_mk fun W => pick_any k 12 (by decide) (by decide) W
  have HP2 := Hid_mk fun W => pick_any n 2 (by decide) (by decide) W
  have HP3 := Hid_mk fun W => pick_any n 3 (by decide) (by decide) W
  obtain ⟨z, hz⟩ : ∃ z, w.heap.size = z := ⟨_, rfl⟩
  have HZ := Hid_mk hz
  have hmf : ∀ (fn : Fn) (first cap : Array Value) (w : World), (Instr.makeFunc fn first cap).run Try.prog w = .ok (.func fn first cap) w := fun _ _ _ _ => rfl
  clear ht ih hd hz
  go_enter Try.func9, Try.ntmps9
  go_upto_region 1 with fail
  rw [HZ.out, show z + 1 + 1 = z + 2 from rfl]
  refine wp_name (fun V => Kp No w V ∧ V.heap.size = z + 3 ∧ (V.cell? ⟨z, 0, none⟩ = some (.int .i64 k) ∧ V.cell? ⟨z, 1, none⟩ = some (.int .i64 n) ∧ V.cell? ⟨z, 2, none⟩ = some (.slice a l.length c) ∧ V.cell? ⟨z + 1, 0, none⟩ = some (.int .i64 (d : Int))) ∧ RAt V (z + 2) (.int .i64 0) (.int .u64 0) (.int .u64 0) (.int .u64 0) (.int .u64 0) (.slice none 0 0)) ?_ ?_
  · have hz := HZ.out
    have e1 : z + 1 = (w.alloc (.cells #[.int .i64 k, .int .i64 n, .slice a l.length c] 24)).heap.size := by simp [hz]
    have e2 : z + 2 = ((w.alloc (.cells #[.int .i64 k, .int .i64 n, .slice a l.length c] 24)).alloc (.cells #[.int .i64 (d : Int)] 3)).heap.size := by simp [hz]
    refine ⟨(((Kp.refl No w).alloc _).alloc _).alloc _, by simp [hz], ⟨?_, ?_, ?_, ?_⟩, ?_⟩
    · refine Kp.cell' (((Kp.refl No _).alloc _).alloc _) ?_ id; rw [← hz]; simp
    · refine Kp.cell' (((Kp.refl No _).alloc _).alloc _) ?_ id; rw [← hz]; simp
    · refine Kp.cell' (((Kp.refl No _).alloc _).alloc _) ?_ id; rw [← hz]; simp
    · refine Kp.cell' ((Kp.refl No _).alloc _) ?_ id; rw [e1]; simp
    · rw [e2]; exact RAt.new _ _ _ _ _ _ _ _
  rintro W1 ⟨hk1, hz1, ⟨t0, t1, t2, t3⟩, hr1⟩
  have HK1 := Hid_mk hk1
  have HZ1 := Hid_mk hz1
  have HR1 := Hid_mk hr1
  have HT1 := Hid_mk t1
  have hkid : ∀ V, Kp No W1 V → ∀ (i : Nat), i < 2 → Calls Try.prog 28 #[.int .i64 (i : Int), .pointer (some ⟨z, 0, none⟩), .pointer (some ⟨z + 1, 0, none⟩)] V (MkPost V (d - 1)) := by
    intro V hV i hi
    have ha : AtT V (.mk k n l) (.agg #[.int .i64 k, .int .i64 n, .slice a l.length c]) := AtT.no (hk1.trans' hV) (.mk k n l) (.agg #[.int .i64 k, .int .i64 n, .slice a l.length c]) HT.out
    have c0 := hV.cell' t0 id
    have c1 := hV.cell' t1 id
    have c2 := hV.cell' t2 id
    have c3 := hV.cell' t3 id
    exact kid_any d HD.out HIh.out l V z (z + 1) k n a c ha c0 c1 c2 c3 i hi
  have HKid := Hid_mk hkid
  clear hkid t1 t2 hk1 hz1 hr1
  obtain ⟨y, hy, hy2⟩ : ∃ y : Nat, k % 12 = (y : Int) ∧ y < 12 := ⟨(k % 12).toNat, by omega, by omega⟩
  have HY := Hid_mk hy
  have HY2 := Hid_mk hy2
  clear hy hy2
  go_wp2_with fail
  with_reducible refine (HP1.out _).mono ?_
  rintro e W1 ⟨rfl, rfl⟩
  rw [HY.out]
  by_cases hd0 : d = 0
  · subst hd0
    have hdb : decide ((0 : Int) ≤ 0) = true := rfl
    by_cases hy4 : (y : Int) > 4
    · have hyb : decide ((y : Int) > 4) = true := decide_eq_true hy4
      have t1 := HT1.out
      go_wp2_with fail
      clear t1
      have hm : ∃ u : Nat, n % 3 = (u : Int) ∧ u < 3 := ⟨(n % 3).toNat, by omega, by omega⟩
      obtain ⟨u, hu, hu2⟩ := hm
      have hp := HP3.out W1
      rw [hu] at hp
      have HPu := Hid_mk hp
      have HOne := Hid_mk fun (V : World) (b : Nat) (hb : b < 256) => tre.one_any V b hb
      clear hp hu
      with_reducible refine HPu.out.mono ?_
      rintro e w1 ⟨rfl, rfl⟩
      obtain ⟨r0, r1, r2, r3, r4, r5, rw1⟩ := HR1.out
      have huc : u = 0 ∨ u = 1 ∨ u = 2 := by omega
      clear hu2
      rcases huc with rfl | rfl | rfl
      · go_wp2_with fail
        refine (HOne.out W1 97 (by decide)).mono ?_
        rintro e w2 ⟨rfl, hk2⟩
        have HK2 := Hid_mk hk2
        obtain ⟨r0, r1, r2, r3, r4, r5, rw1⟩ := HR1.out.kept hk2 id
        clear hk2
        unfold cellsR
        go_wp2
        have hz := HZ.out
        have hz2 := HZ1.out
        have hkz : Kp (fun b => b = z + 2) w2 (putR w2 (z + 2) (.int .i64 1) (.int .u64 (wd (oneS 97) 0 64 : Nat)) (.int .u64 (wd (oneS 97) 64 64 : Nat)) (.int .u64 (wd (oneS 97) 128 64 : Nat)) (.int .u64 (wd (oneS 97) 192 64 : Nat)) (.slice none 0 0)) := kp_putR (q := z + 2) (Kp.refl (fun b => b = z + 2) w2) (fun _ => rfl) _ _ _ _ _ _
        have hkf : Kp No w (putR w2 (z + 2) (.int .i64 1) (.int .u64 (wd (oneS 97) 0 64 : Nat)) (.int .u64 (wd (oneS 97) 64 64 : Nat)) (.int .u64 (wd (oneS 97) 128 64 : Nat)) (.int .u64 (wd (oneS 97) 192 64 : Nat)) (.slice none 0 0)) := (HK1.out.trans' HK2.out).trans hkz (T := fun b => b = z + 2) fun i hi e => by have e : i = z + 2 := e; omega
        refine bodyPost_ret (v := .agg (cellsR 1 (oneS 97) none 0 0)) ?_ rfl ?_
        · simp [results, Try.results9, go_sem, r0, r1, r2, r3, r4, r5]
        · exact ⟨_, _, _, _, _, oneT 97, rfl, ⟨none, 0, rfl, Nat.le_refl _, by decide, fun h => absurd rfl h⟩, hkf, by unfold oneT; exact gdt_set _ _⟩
      · go_wp2_with fail
        refine (HOne.out W1 98 (by decide)).mono ?_
        rintro e w2 ⟨rfl, hk2⟩
        have HK2 := Hid_mk hk2
        obtain ⟨r0, r1, r2, r3, r4, r5, rw1⟩ := HR1.out.kept hk2 id
        clear hk2
        unfold cellsR
        go_wp2
        have hz := HZ.out
        have hz2 := HZ1.out
        have hkz : Kp (fun b => b = z + 2) w2 (putR w2 (z + 2) (.int .i64 1) (.int .u64 (wd (oneS 98) 0 64 : Nat)) (.int .u64 (wd (oneS 98) 64 64 : Nat)) (.int .u64 (wd (oneS 98) 128 64 : Nat)) (.int .u64 (wd (oneS 98) 192 64 : Nat)) (.slice none 0 0)) := kp_putR (q := z + 2) (Kp.refl (fun b => b = z + 2) w2) (fun _ => rfl) _ _ _ _ _ _
        have hkf : Kp No w (putR w2 (z + 2) (.int .i64 1) (.int .u64 (wd (oneS 98) 0 64 : Nat)) (.int .u64 (wd (oneS 98) 64 64 : Nat)) (.int .u64 (wd (oneS 98) 128 64 : Nat)) (.int .u64 (wd (oneS 98) 192 64 : Nat)) (.slice none 0 0)) := (HK1.out.trans' HK2.out).trans hkz (T := fun b => b = z + 2) fun i hi e => by have e : i = z + 2 := e; omega
        refine bodyPost_ret (v := .agg (cellsR 1 (oneS 98) none 0 0)) ?_ rfl ?_
        · simp [results, Try.results9, go_sem, r0, r1, r2, r3, r4, r5]
        · exact ⟨_, _, _, _, _, oneT 98, rfl, ⟨none, 0, rfl, Nat.le_refl _, by decide, fun h => absurd rfl h⟩, hkf, by unfold oneT; exact gdt_set _ _⟩
      · go_wp2_with fail
        refine (HOne.out W1 99 (by decide)).mono ?_
        rintro e w2 ⟨rfl, hk2⟩
        have HK2 := Hid_mk hk2
        obtain ⟨r0, r1, r2, r3, r4, r5, rw1⟩ := HR1.out.kept hk2 id
        clear hk2
        unfold cellsR
        go_wp2
        have hz := HZ.out
        have hz2 := HZ1.out
        have hkz : Kp (fun b => b = z + 2) w2 (putR w2 (z + 2) (.int .i64 1) (.int .u64 (wd (oneS 99) 0 64 : Nat)) (.int .u64 (wd (oneS 99) 64 64 : Nat)) (.int .u64 (wd (oneS 99) 128 64 : Nat)) (.int .u64 (wd (oneS 99) 192 64 : Nat)) (.slice none 0 0)) := kp_putR (q := z + 2) (Kp.refl (fun b => b = z + 2) w2) (fun _ => rfl) _ _ _ _ _ _
        have hkf : Kp No w (putR w2 (z + 2) (.int .i64 1) (.int .u64 (wd (oneS 99) 0 64 : Nat)) (.int .u64 (wd (oneS 99) 64 64 : Nat)) (.int .u64 (wd (oneS 99) 128 64 : Nat)) (.int .u64 (wd (oneS 99) 192 64 : Nat)) (.slice none 0 0)) := (HK1.out.trans' HK2.out).trans hkz (T := fun b => b = z + 2) fun i hi e => by have e : i = z + 2 := e; omega
        refine bodyPost_ret (v := .agg (cellsR 1 (oneS 99) none 0 0)) ?_ rfl ?_
        · simp [results, Try.results9, go_sem, r0, r1, r2, r3, r4, r5]
        · exact ⟨_, _, _, _, _, oneT 99, rfl, ⟨none, 0, rfl, Nat.le_refl _, by decide, fun h => absurd rfl h⟩, hkf, by unfold oneT; exact gdt_set _ _⟩
    · have hyb : decide ((y : Int) > 4) = false := decide_eq_false hy4
      have hyc : y = 0 ∨ y = 1 ∨ y = 2 ∨ y = 3 ∨ y = 4 := by omega
      clear hyb hy4
      rcases hyc with rfl | rfl | rfl | rfl | rfl
      · have t1 := HT1.out
        go_wp2_with fail
        clear t1
        have hm : ∃ u : Nat, n % 3 = (u : Int) ∧ u < 3 := ⟨(n % 3).toNat, by omega, by omega⟩
        obtain ⟨u, hu, hu2⟩ := hm
        have hp := HP3.out W1
        rw [hu] at hp
        have HPu := Hid_mk hp
        have HOne := Hid_mk fun (V : World) (b : Nat) (hb : b < 256) => tre.one_any V b hb
        clear hp hu
        with_reducible refine HPu.out.mono ?_
        rintro e w1 ⟨rfl, rfl⟩
        obtain ⟨r0, r1, r2, r3, r4, r5, rw1⟩ := HR1.out
        have huc : u = 0 ∨ u = 1 ∨ u = 2 := by omega
        clear hu2
        rcases huc with rfl | rfl | rfl
        · go_wp2_with fail
          refine (HOne.out W1 97 (by decide)).mono ?_
          rintro e w2 ⟨rfl, hk2⟩
          have HK2 := Hid_mk hk2
          obtain ⟨r0, r1, r2, r3, r4, r5, rw1⟩ := HR1.out.kept hk2 id
          clear hk2
          unfold cellsR
          go_wp2
          have hz := HZ.out
          have hz2 := HZ1.out
          have hkz : Kp (fun b => b = z + 2) w2 (putR w2 (z + 2) (.int .i64 1) (.int .u64 (wd (oneS 97) 0 64 : Nat)) (.int .u64 (wd (oneS 97) 64 64 : Nat)) (.int .u64 (wd (oneS 97) 128 64 : Nat)) (.int .u64 (wd (oneS 97) 192 64 : Nat)) (.slice none 0 0)) := kp_putR (q := z + 2) (Kp.refl (fun b => b = z + 2) w2) (fun _ => rfl) _ _ _ _ _ _
          have hkf : Kp No w (putR w2 (z + 2) (.int .i64 1) (.int .u64 (wd (oneS 97) 0 64 : Nat)) (.int .u64 (wd (oneS 97) 64 64 : Nat)) (.int .u64 (wd (oneS 97) 128 64 : Nat)) (.int .u64 (wd (oneS 97) 192 64 : Nat)) (.slice none 0 0)) := (HK1.out.trans' HK2.out).trans hkz (T := fun b => b = z + 2) fun i hi e => by have e : i = z + 2 := e; omega
          refine bodyPost_ret (v := .agg (cellsR 1 (oneS 97) none 0 0)) ?_ rfl ?_
          · simp [results, Try.results9, go_sem, r0, r1, r2, r3, r4, r5]
          · exact ⟨_, _, _, _, _, oneT 97, rfl, ⟨none, 0, rfl, Nat.le_refl _, by decide, fun h => absurd rfl h⟩, hkf, by unfold oneT; exact gdt_set _ _⟩
        · go_wp2_with fail
          refine (HOne.out W1 98 (by decide)).mono ?_
          rintro e w2 ⟨rfl, hk2⟩
          have HK2 := Hid_mk hk2
          obtain ⟨r0, r1, r2, r3, r4, r5, rw1⟩ := HR1.out.kept hk2 id
          clear hk2
          unfold cellsR
          go_wp2
          have hz := HZ.out
          have hz2 := HZ1.out
          have hkz : Kp (fun b => b = z + 2) w2 (putR w2 (z + 2) (.int .i64 1) (.int .u64 (wd (oneS 98) 0 64 : Nat)) (.int .u64 (wd (oneS 98) 64 64 : Nat)) (.int .u64 (wd (oneS 98) 128 64 : Nat)) (.int .u64 (wd (oneS 98) 192 64 : Nat)) (.slice none 0 0)) := kp_putR (q := z + 2) (Kp.refl (fun b => b = z + 2) w2) (fun _ => rfl) _ _ _ _ _ _
          have hkf : Kp No w (putR w2 (z + 2) (.int .i64 1) (.int .u64 (wd (oneS 98) 0 64 : Nat)) (.int .u64 (wd (oneS 98) 64 64 : Nat)) (.int .u64 (wd (oneS 98) 128 64 : Nat)) (.int .u64 (wd (oneS 98) 192 64 : Nat)) (.slice none 0 0)) := (HK1.out.trans' HK2.out).trans hkz (T := fun b => b = z + 2) fun i hi e => by have e : i = z + 2 := e; omega
          refine bodyPost_ret (v := .agg (cellsR 1 (oneS 98) none 0 0)) ?_ rfl ?_
          · simp [results, Try.results9, go_sem, r0, r1, r2, r3, r4, r5]
          · exact ⟨_, _, _, _, _, oneT 98, rfl, ⟨none, 0, rfl, Nat.le_refl _, by decide, fun h => absurd rfl h⟩, hkf, by unfold oneT; exact gdt_set _ _⟩
        · go_wp2_with fail
          refine (HOne.out W1 99 (by decide)).mono ?_
          rintro e w2 ⟨rfl, hk2⟩
          have HK2 := Hid_mk hk2
          obtain ⟨r0, r1, r2, r3, r4, r5, rw1⟩ := HR1.out.kept hk2 id
          clear hk2
          unfold cellsR
          go_wp2
          have hz := HZ.out
          have hz2 := HZ1.out
          have hkz : Kp (fun b => b = z + 2) w2 (putR w2 (z + 2) (.int .i64 1) (.int .u64 (wd (oneS 99) 0 64 : Nat)) (.int .u64 (wd (oneS 99) 64 64 : Nat)) (.int .u64 (wd (oneS 99) 128 64 : Nat)) (.int .u64 (wd (oneS 99) 192 64 : Nat)) (.slice none 0 0)) := kp_putR (q := z + 2) (Kp.refl (fun b => b = z + 2) w2) (fun _ => rfl) _ _ _ _ _ _
          have hkf : Kp No w (putR w2 (z + 2) (.int .i64 1) (.int .u64 (wd (oneS 99) 0 64 : Nat)) (.int .u64 (wd (oneS 99) 64 64 : Nat)) (.int .u64 (wd (oneS 99) 128 64 : Nat)) (.int .u64 (wd (oneS 99) 192 64 : Nat)) (.slice none 0 0)) := (HK1.out.trans' HK2.out).trans hkz (T := fun b => b = z + 2) fun i hi e => by have e : i = z + 2 := e; omega
          refine bodyPost_ret (v := .agg (cellsR 1 (oneS 99) none 0 0)) ?_ rfl ?_
          · simp [results, Try.results9, go_sem, r0, r1, r2, r3, r4, r5]
          · exact ⟨_, _, _, _, _, oneT 99, rfl, ⟨none, 0, rfl, Nat.le_refl _, by decide, fun h => absurd rfl h⟩, hkf, by unfold oneT; exact gdt_set _ _⟩
      · have t1 := HT1.out
        go_wp2_with fail
        clear t1
        have hm : ∃ u : Nat, n % 3 = (u : Int) ∧ u < 3 := ⟨(n % 3).toNat, by omega, by omega⟩
        obtain ⟨u, hu, hu2⟩ := hm
        have hp := HP3.out W1
        rw [hu] at hp
        have HPu := Hid_mk hp
        have HOne := Hid_mk fun (V : World) (b : Nat) (hb : b < 256) => tre.one_any V b hb
        clear hp hu
        with_reducible refine HPu.out.mono ?_
        rintro e w1 ⟨rfl, rfl⟩
        obtain ⟨r0, r1, r2, r3, r4, r5, rw1⟩ := HR1.out
        have huc : u = 0 ∨ u = 1 ∨ u = 2 := by omega
        clear hu2
        rcases huc with rfl | rfl | rfl
        · go_wp2_with fail
          refine (HOne.out W1 97 (by decide)).mono ?_
          rintro e w2 ⟨rfl, hk2⟩
          have HK2 := Hid_mk hk2
          obtain ⟨r0, r1, r2, r3, r4, r5, rw1⟩ := HR1.out.kept hk2 id
          clear hk2
          unfold cellsR
          go_wp2
          have hz := HZ.out
          have hz2 := HZ1.out
          have hkz : Kp (fun b => b = z + 2) w2 (putR w2 (z + 2) (.int .i64 1) (.int .u64 (wd (oneS 97) 0 64 : Nat)) (.int .u64 (wd (oneS 97) 64 64 : Nat)) (.int .u64 (wd (oneS 97) 128 64 : Nat)) (.int .u64 (wd (oneS 97) 192 64 : Nat)) (.slice none 0 0)) := kp_putR (q := z + 2) (Kp.refl (fun b => b = z + 2) w2) (fun _ => rfl) _ _ _ _ _ _
          have hkf : Kp No w (putR w2 (z + 2) (.int .i64 1) (.int .u64 (wd (oneS 97) 0 64 : Nat)) (.int .u64 (wd (oneS 97) 64 64 : Nat)) (.int .u64 (wd (oneS 97) 128 64 : Nat)) (.int .u64 (wd (oneS 97) 192 64 : Nat)) (.slice none 0 0)) := (HK1.out.trans' HK2.out).trans hkz (T := fun b => b = z + 2) fun i hi e => by have e : i = z + 2 := e; omega
          refine bodyPost_ret (v := .agg (cellsR 1 (oneS 97) none 0 0)) ?_ rfl ?_
          · simp [results, Try.results9, go_sem, r0, r1, r2, r3, r4, r5]
          · exact ⟨_, _, _, _, _, oneT 97, rfl, ⟨none, 0, rfl, Nat.le_refl _, by decide, fun h => absurd rfl h⟩, hkf, by unfold oneT; exact gdt_set _ _⟩
        · go_wp2_with fail
          refine (HOne.out W1 98 (by decide)).mono ?_
          rintro e w2 ⟨rfl, hk2⟩
          have HK2 := Hid_mk hk2
          obtain ⟨r0, r1, r2, r3, r4, r5, rw1⟩ := HR1.out.kept hk2 id
          clear hk2
          unfold cellsR
          go_wp2
          have hz := HZ.out
          have hz2 := HZ1.out
          have hkz : Kp (fun b => b = z + 2) w2 (putR w2 (z + 2) (.int .i64 1) (.int .u64 (wd (oneS 98) 0 64 : Nat)) (.int .u64 (wd (oneS 98) 64 64 : Nat)) (.int .u64 (wd (oneS 98) 128 64 : Nat)) (.int .u64 (wd (oneS 98) 192 64 : Nat)) (.slice none 0 0)) := kp_putR (q := z + 2) (Kp.refl (fun b => b = z + 2) w2) (fun _ => rfl) _ _ _ _ _ _
          have hkf : Kp No w (putR w2 (z + 2) (.int .i64 1) (.int .u64 (wd (oneS 98) 0 64 : Nat)) (.int .u64 (wd (oneS 98) 64 64 : Nat)) (.int .u64 (wd (oneS 98) 128 64 : Nat)) (.int .u64 (wd (oneS 98) 192 64 : Nat)) (.slice none 0 0)) := (HK1.out.trans' HK2.out).trans hkz (T := fun b => b = z + 2) fun i hi e => by have e : i = z + 2 := e; omega
          refine bodyPost_ret (v := .agg (cellsR 1 (oneS 98) none 0 0)) ?_ rfl ?_
          · simp [results, Try.results9, go_sem, r0, r1, r2, r3, r4, r5]
          · exact ⟨_, _, _, _, _, oneT 98, rfl, ⟨none, 0, rfl, Nat.le_refl _, by decide, fun h => absurd rfl h⟩, hkf, by unfold oneT; exact gdt_set _ _⟩
        · go_wp2_with fail
          refine (HOne.out W1 99 (by decide)).mono ?_
          rintro e w2 ⟨rfl, hk2⟩
          have HK2 := Hid_mk hk2
          obtain ⟨r0, r1, r2, r3, r4, r5, rw1⟩ := HR1.out.kept hk2 id
          clear hk2
          unfold cellsR
          go_wp2
          have hz := HZ.out
          have hz2 := HZ1.out
          have hkz : Kp (fun b => b = z + 2) w2 (putR w2 (z + 2) (.int .i64 1) (.int .u64 (wd (oneS 99) 0 64 : Nat)) (.int .u64 (wd (oneS 99) 64 64 : Nat)) (.int .u64 (wd (oneS 99) 128 64 : Nat)) (.int .u64 (wd (oneS 99) 192 64 : Nat)) (.slice none 0 0)) := kp_putR (q := z + 2) (Kp.refl (fun b => b = z + 2) w2) (fun _ => rfl) _ _ _ _ _ _
          have hkf : Kp No w (putR w2 (z + 2) (.int .i64 1) (.int .u64 (wd (oneS 99) 0 64 : Nat)) (.int .u64 (wd (oneS 99) 64 64 : Nat)) (.int .u64 (wd (oneS 99) 128 64 : Nat)) (.int .u64 (wd (oneS 99) 192 64 : Nat)) (.slice none 0 0)) := (HK1.out.trans' HK2.out).trans hkz (T := fun b => b = z + 2) fun i hi e => by have e : i = z + 2 := e; omega
          refine bodyPost_ret (v := .agg (cellsR 1 (oneS 99) none 0 0)) ?_ rfl ?_
          · simp [results, Try.results9, go_sem, r0, r1, r2, r3, r4, r5]
          · exact ⟨_, _, _, _, _, oneT 99, rfl, ⟨none, 0, rfl, Nat.le_refl _, by decide, fun h => absurd rfl h⟩, hkf, by unfold oneT; exact gdt_set _ _⟩
      · exact absurd (by have := HY.out; omega) HN2.out
      · have t1 := HT1.out
        go_wp2_with fail
        clear t1
        have hm : ∃ u : Nat, n % 3 = (u : Int) ∧ u < 3 := ⟨(n % 3).toNat, by omega, by omega⟩
        obtain ⟨u, hu, hu2⟩ := hm
        have hp := HP3.out W1
        rw [hu] at hp
        have HPu := Hid_mk hp
        clear hp hu
        with_reducible refine HPu.out.mono ?_
        rintro e w1 ⟨rfl, rfl⟩
        obtain ⟨r0, r1, r2, r3, r4, r5, rw1⟩ := HR1.out
        have huc : u = 0 ∨ u = 1 ∨ u = 2 := by omega
        clear hu2
        rcases huc with rfl | rfl | rfl
        · have hix : ∀ W, Sem.run Try.prog (Instr.index 70 (.agg #[.int .i64 0, .int .i64 7, .int .i64 8]) (.int .i64 0)) W = .ok (.int .i64 0) W := fun _ => rfl
          go_wp2_with fail
          have hz := HZ.out
          have hz2 := HZ1.out
          have hkz : Kp (fun b => b = z + 2) W1 (putR W1 (z + 2) (.int .i64 0) (.int .u64 0) (.int .u64 0) (.int .u64 0) (.int .u64 0) (.slice none 0 0)) := kp_putR (q := z + 2) (Kp.refl (fun b => b = z + 2) W1) (fun _ => rfl) _ _ _ _ _ _
          have hkf : Kp No w (putR W1 (z + 2) (.int .i64 0) (.int .u64 0) (.int .u64 0) (.int .u64 0) (.int .u64 0) (.slice none 0 0)) := (HK1.out).trans hkz (T := fun b => b = z + 2) fun i hi e => by have e : i = z + 2 := e; omega
          refine bodyPost_ret (v := .agg #[.int .i64 0, .int .u64 0, .int .u64 0, .int .u64 0, .int .u64 0, .slice none 0 0]) ?_ rfl ?_
          · simp [results, Try.results9, go_sem, r0, r1, r2, r3, r4, r5]
          · exact ⟨0, nul, none, 0, 0, .mk 0 nul [], rfl, ⟨none, 0, by simp [cellsR, wd_nul], Nat.le_refl _, by decide, fun h => absurd rfl h⟩, hkf, gdt_leaf _ _ (by decide)⟩
        · have hix : ∀ W, Sem.run Try.prog (Instr.index 70 (.agg #[.int .i64 0, .int .i64 7, .int .i64 8]) (.int .i64 1)) W = .ok (.int .i64 7) W := fun _ => rfl
          go_wp2_with fail
          have hz := HZ.out
          have hz2 := HZ1.out
          have hkz : Kp (fun b => b = z + 2) W1 (putR W1 (z + 2) (.int .i64 7) (.int .u64 0) (.int .u64 0) (.int .u64 0) (.int .u64 0) (.slice none 0 0)) := kp_putR (q := z + 2) (Kp.refl (fun b => b = z + 2) W1) (fun _ => rfl) _ _ _ _ _ _
          have hkf : Kp No w (putR W1 (z + 2) (.int .i64 7) (.int .u64 0) (.int .u64 0) (.int .u64 0) (.int .u64 0) (.slice none 0 0)) := (HK1.out).trans hkz (T := fun b => b = z + 2) fun i hi e => by have e : i = z + 2 := e; omega
          refine bodyPost_ret (v := .agg #[.int .i64 7, .int .u64 0, .int .u64 0, .int .u64 0, .int .u64 0, .slice none 0 0]) ?_ rfl ?_
          · simp [results, Try.results9, go_sem, r0, r1, r2, r3, r4, r5]
          · exact ⟨7, nul, none, 0, 0, .mk 7 nul [], rfl, ⟨none, 0, by simp [cellsR, wd_nul], Nat.le_refl _, by decide, fun h => absurd rfl h⟩, hkf, gdt_leaf _ _ (by decide)⟩
        · have hix : ∀ W, Sem.run Try.prog (Instr.index 70 (.agg #[.int .i64 0, .int .i64 7, .int .i64 8]) (.int .i64 2)) W = .ok (.int .i64 8) W := fun _ => rfl
          go_wp2_with fail
          have hz := HZ.out
          have hz2 := HZ1.out
          have hkz : Kp (fun b => b = z + 2) W1 (putR W1 (z + 2) (.int .i64 8) (.int .u64 0) (.int .u64 0) (.int .u64 0) (.int .u64 0) (.slice none 0 0)) := kp_putR (q := z + 2) (Kp.refl (fun b => b = z + 2) W1) (fun _ => rfl) _ _ _ _ _ _
          have hkf : Kp No w (putR W1 (z + 2) (.int .i64 8) (.int .u64 0) (.int .u64 0) (.int .u64 0) (.int .u64 0) (.slice none 0 0)) := (HK1.out).trans hkz (T := fun b => b = z + 2) fun i hi e => by have e : i = z + 2 := e; omega
          refine bodyPost_ret (v := .agg #[.int .i64 8, .int .u64 0, .int .u64 0, .int .u64 0, .int .u64 0, .slice none 0 0]) ?_ rfl ?_
          · simp [results, Try.results9, go_sem, r0, r1, r2, r3, r4, r5]
          · exact ⟨8, nul, none, 0, 0, .mk 8 nul [], rfl, ⟨none, 0, by simp [cellsR, wd_nul], Nat.le_refl _, by decide, fun h => absurd rfl h⟩, hkf, gdt_leaf _ _ (by decide)⟩
      · have t1 := HT1.out
        go_wp2_with fail
        clear t1
        have hm : ∃ u : Nat, n % 2 = (u : Int) ∧ u < 2 := ⟨(n % 2).toNat, by omega, by omega⟩
        obtain ⟨u, hu, hu2⟩ := hm
        have hp := HP2.out W1
        rw [hu] at hp
        have HPu := Hid_mk hp
        have HOne := Hid_mk fun (V : World) (b : Nat) (hb : b < 256) => tre.one_any V b hb
        clear hp hu
        with_reducible refine HPu.out.mono ?_
        rintro e w1 ⟨rfl, rfl⟩
        obtain ⟨r0, r1, r2, r3, r4, r5, rw1⟩ := HR1.out
        have huc : u = 0 ∨ u = 1 := by omega
        clear hu2
        rcases huc with rfl | rfl
        · go_wp2_with fail
          refine (HOne.out W1 97 (by decide)).mono ?_
          rintro e w2 ⟨rfl, hk2⟩
          have HK2 := Hid_mk hk2
          obtain ⟨r0, r1, r2, r3, r4, r5, rw1⟩ := HR1.out.kept hk2 id
          clear hk2
          unfold cellsR
          go_wp2
          have hz := HZ.out
          have hz2 := HZ1.out
          have hkz : Kp (fun b => b = z + 2) w2 (putR w2 (z + 2) (.int .i64 1) (.int .u64 (wd (oneS 97) 0 64 : Nat)) (.int .u64 (wd (oneS 97) 64 64 : Nat)) (.int .u64 (wd (oneS 97) 128 64 : Nat)) (.int .u64 (wd (oneS 97) 192 64 : Nat)) (.slice none 0 0)) := kp_putR (q := z + 2) (Kp.refl (fun b => b = z + 2) w2) (fun _ => rfl) _ _ _ _ _ _
          have hkf : Kp No w (putR w2 (z + 2) (.int .i64 1) (.int .u64 (wd (oneS 97) 0 64 : Nat)) (.int .u64 (wd (oneS 97) 64 64 : Nat)) (.int .u64 (wd (oneS 97) 128 64 : Nat)) (.int .u64 (wd (oneS 97) 192 64 : Nat)) (.slice none 0 0)) := (HK1.out.trans' HK2.out).trans hkz (T := fun b => b = z + 2) fun i hi e => by have e : i = z + 2 := e; omega
          refine bodyPost_ret (v := .agg (cellsR 1 (oneS 97) none 0 0)) ?_ rfl ?_
          · simp [results, Try.results9, go_sem, r0, r1, r2, r3, r4, r5]
          · exact ⟨_, _, _, _, _, oneT 97, rfl, ⟨none, 0, rfl, Nat.le_refl _, by decide, fun h => absurd rfl h⟩, hkf, by unfold oneT; exact gdt_set _ _⟩
        · go_wp2_with fail
          refine (HOne.out W1 98 (by decide)).mono ?_
          rintro e w2 ⟨rfl, hk2⟩
          have HK2 := Hid_mk hk2
          obtain ⟨r0, r1, r2, r3, r4, r5, rw1⟩ := HR1.out.kept hk2 id
          clear hk2
          unfold cellsR
          go_wp2
          have hz := HZ.out
          have hz2 := HZ1.out
          have hkz : Kp (fun b => b = z + 2) w2 (putR w2 (z + 2) (.int .i64 1) (.int .u64 (wd (oneS 98) 0 64 : Nat)) (.int .u64 (wd (oneS 98) 64 64 : Nat)) (.int .u64 (wd (oneS 98) 128 64 : Nat)) (.int .u64 (wd (oneS 98) 192 64 : Nat)) (.slice none 0 0)) := kp_putR (q := z + 2) (Kp.refl (fun b => b = z + 2) w2) (fun _ => rfl) _ _ _ _ _ _
          have hkf : Kp No w (putR w2 (z + 2) (.int .i64 1) (.int .u64 (wd (oneS 98) 0 64 : Nat)) (.int .u64 (wd (oneS 98) 64 64 : Nat)) (.int .u64 (wd (oneS 98) 128 64 : Nat)) (.int .u64 (wd (oneS 98) 192 64 : Nat)) (.slice none 0 0)) := (HK1.out.trans' HK2.out).trans hkz (T := fun b => b = z + 2) fun i hi e => by have e : i = z + 2 := e; omega
          refine bodyPost_ret (v := .agg (cellsR 1 (oneS 98) none 0 0)) ?_ rfl ?_
          · simp [results, Try.results9, go_sem, r0, r1, r2, r3, r4, r5]
          · exact ⟨_, _, _, _, _, oneT 98, rfl, ⟨none, 0, rfl, Nat.le_refl _, by decide, fun h => absurd rfl h⟩, hkf, by unfold oneT; exact gdt_set _ _⟩
  · have hd1 : ¬ (d : Int) ≤ 0 := by omega
    have hdb : decide ((d : Int) ≤ 0) = false := decide_eq_false hd1
    have HD1 := Hid_mk hd0
    clear hd0
    have hyc : y = 0 ∨ y = 1 ∨ y = 2 ∨ y = 3 ∨ y = 4 ∨ y = 5 ∨ y = 6 ∨ y = 7 ∨ y = 8 ∨ y = 9 ∨ y = 10 ∨ y = 11 := by have := HY2.out; omega
    rcases hyc with rfl | rfl | rfl | rfl | rfl | rfl | rfl | rfl | rfl | rfl | rfl | rfl
    · have t1 := HT1.out
      go_wp2_with fail
      clear t1
      have hm : ∃ u : Nat, n % 3 = (u : Int) ∧ u < 3 := ⟨(n % 3).toNat, by omega, by omega⟩
      obtain ⟨u, hu, hu2⟩ := hm
      have hp := HP3.out W1
      rw [hu] at hp
      have HPu := Hid_mk hp
      have HOne := Hid_mk fun (V : World) (b : Nat) (hb : b < 256) => tre.one_any V b hb
      clear hp hu
      with_reducible refine HPu.out.mono ?_
      rintro e w1 ⟨rfl, rfl⟩
      obtain ⟨r0, r1, r2, r3, r4, r5, rw1⟩ := HR1.out
      have huc : u = 0 ∨ u = 1 ∨ u = 2 := by omega
      clear hu2
      rcases huc with rfl | rfl | rfl
      · go_wp2_with fail
        refine (HOne.out W1 97 (by decide)).mono ?_
        rintro e w2 ⟨rfl, hk2⟩
        have HK2 := Hid_mk hk2
        obtain ⟨r0, r1, r2, r3, r4, r5, rw1⟩ := HR1.out.kept hk2 id
        clear hk2
        unfold cellsR
        go_wp2
        have hz := HZ.out
        have hz2 := HZ1.out
        have hkz : Kp (fun b => b = z + 2) w2 (putR w2 (z + 2) (.int .i64 1) (.int .u64 (wd (oneS 97) 0 64 : Nat)) (.int .u64 (wd (oneS 97) 64 64 : Nat)) (.int .u64 (wd (oneS 97) 128 64 : Nat)) (.int .u64 (wd (oneS 97) 192 64 : Nat)) (.slice none 0 0)) := kp_putR (q := z + 2) (Kp.refl (fun b => b = z + 2) w2) (fun _ => rfl) _ _ _ _ _ _
        have hkf : Kp No w (putR w2 (z + 2) (.int .i64 1) (.int .u64 (wd (oneS 97) 0 64 : Nat)) (.int .u64 (wd (oneS 97) 64 64 : Nat)) (.int .u64 (wd (oneS 97) 128 64 : Nat)) (.int .u64 (wd (oneS 97) 192 64 : Nat)) (.slice none 0 0)) := (HK1.out.trans' HK2.out).trans hkz (T := fun b => b = z + 2) fun i hi e => by have e : i = z + 2 := e; omega
        refine bodyPost_ret (v := .agg (cellsR 1 (oneS 97) none 0 0)) ?_ rfl ?_
        · simp [results, Try.results9, go_sem, r0, r1, r2, r3, r4, r5]
        · exact ⟨_, _, _, _, _, oneT 97, rfl, ⟨none, 0, rfl, Nat.le_refl _, by decide, fun h => absurd rfl h⟩, hkf, by unfold oneT; exact gdt_set _ _⟩
      · go_wp2_with fail
        refine (HOne.out W1 98 (by decide)).mono ?_
        rintro e w2 ⟨rfl, hk2⟩
        have HK2 := Hid_mk hk2
        obtain ⟨r0, r1, r2, r3, r4, r5, rw1⟩ := HR1.out.kept hk2 id
        clear hk2
        unfold cellsR
        go_wp2
        have hz := HZ.out
        have hz2 := HZ1.out
        have hkz : Kp (fun b => b = z + 2) w2 (putR w2 (z + 2) (.int .i64 1) (.int .u64 (wd (oneS 98) 0 64 : Nat)) (.int .u64 (wd (oneS 98) 64 64 : Nat)) (.int .u64 (wd (oneS 98) 128 64 : Nat)) (.int .u64 (wd (oneS 98) 192 64 : Nat)) (.slice none 0 0)) := kp_putR (q := z + 2) (Kp.refl (fun b => b = z + 2) w2) (fun _ => rfl) _ _ _ _ _ _
        have hkf : Kp No w (putR w2 (z + 2) (.int .i64 1) (.int .u64 (wd (oneS 98) 0 64 : Nat)) (.int .u64 (wd (oneS 98) 64 64 : Nat)) (.int .u64 (wd (oneS 98) 128 64 : Nat)) (.int .u64 (wd (oneS 98) 192 64 : Nat)) (.slice none 0 0)) := (HK1.out.trans' HK2.out).trans hkz (T := fun b => b = z + 2) fun i hi e => by have e : i = z + 2 := e; omega
        refine bodyPost_ret (v := .agg (cellsR 1 (oneS 98) none 0 0)) ?_ rfl ?_
        · simp [results, Try.results9, go_sem, r0, r1, r2, r3, r4, r5]
        · exact ⟨_, _, _, _, _, oneT 98, rfl, ⟨none, 0, rfl, Nat.le_refl _, by decide, fun h => absurd rfl h⟩, hkf, by unfold oneT; exact gdt_set _ _⟩
      · go_wp2_with fail
        refine (HOne.out W1 99 (by decide)).mono ?_
        rintro e w2 ⟨rfl, hk2⟩
        have HK2 := Hid_mk hk2
        obtain ⟨r0, r1, r2, r3, r4, r5, rw1⟩ := HR1.out.kept hk2 id
        clear hk2
        unfold cellsR
        go_wp2
        have hz := HZ.out
        have hz2 := HZ1.out
        have hkz : Kp (fun b => b = z + 2) w2 (putR w2 (z + 2) (.int .i64 1) (.int .u64 (wd (oneS 99) 0 64 : Nat)) (.int .u64 (wd (oneS 99) 64 64 : Nat)) (.int .u64 (wd (oneS 99) 128 64 : Nat)) (.int .u64 (wd (oneS 99) 192 64 : Nat)) (.slice none 0 0)) := kp_putR (q := z + 2) (Kp.refl (fun b => b = z + 2) w2) (fun _ => rfl) _ _ _ _ _ _
        have hkf : Kp No w (putR w2 (z + 2) (.int .i64 1) (.int .u64 (wd (oneS 99) 0 64 : Nat)) (.int .u64 (wd (oneS 99) 64 64 : Nat)) (.int .u64 (wd (oneS 99) 128 64 : Nat)) (.int .u64 (wd (oneS 99) 192 64 : Nat)) (.slice none 0 0)) := (HK1.out.trans' HK2.out).trans hkz (T := fun b => b = z + 2) fun i hi e => by have e : i = z + 2 := e; omega
        refine bodyPost_ret (v := .agg (cellsR 1 (oneS 99) none 0 0)) ?_ rfl ?_
        · simp [results, Try.results9, go_sem, r0, r1, r2, r3, r4, r5]
        · exact ⟨_, _, _, _, _, oneT 99, rfl, ⟨none, 0, rfl, Nat.le_refl _, by decide, fun h => absurd rfl h⟩, hkf, by unfold oneT; exact gdt_set _ _⟩
    · have t1 := HT1.out
      go_wp2_with fail
      clear t1
      have hm : ∃ u : Nat, n % 3 = (u : Int) ∧ u < 3 := ⟨(n % 3).toNat, by omega, by omega⟩
      obtain ⟨u, hu, hu2⟩ := hm
      have hp := HP3.out W1
      rw [hu] at hp
      have HPu := Hid_mk hp
      have HOne := Hid_mk fun (V : World) (b : Nat) (hb : b < 256) => tre.one_any V b hb
      clear hp hu
      with_reducible refine HPu.out.mono ?_
      rintro e w1 ⟨rfl, rfl⟩
      obtain ⟨r0, r1, r2, r3, r4, r5, rw1⟩ := HR1.out
      have huc : u = 0 ∨ u = 1 ∨ u = 2 := by omega
      clear hu2
      rcases huc with rfl | rfl | rfl
      · go_wp2_with fail
        refine (HOne.out W1 97 (by decide)).mono ?_
        rintro e w2 ⟨rfl, hk2⟩
        have HK2 := Hid_mk hk2
        obtain ⟨r0, r1, r2, r3, r4, r5, rw1⟩ := HR1.out.kept hk2 id
        clear hk2
        unfold cellsR
        go_wp2
        have hz := HZ.out
        have hz2 := HZ1.out
        have hkz : Kp (fun b => b = z + 2) w2 (putR w2 (z + 2) (.int .i64 1) (.int .u64 (wd (oneS 97) 0 64 : Nat)) (.int .u64 (wd (oneS 97) 64 64 : Nat)) (.int .u64 (wd (oneS 97) 128 64 : Nat)) (.int .u64 (wd (oneS 97) 192 64 : Nat)) (.slice none 0 0)) := kp_putR (q := z + 2) (Kp.refl (fun b => b = z + 2) w2) (fun _ => rfl) _ _ _ _ _ _
        have hkf : Kp No w (putR w2 (z + 2) (.int .i64 1) (.int .u64 (wd (oneS 97) 0 64 : Nat)) (.int .u64 (wd (oneS 97) 64 64 : Nat)) (.int .u64 (wd (oneS 97) 128 64 : Nat)) (.int .u64 (wd (oneS 97) 192 64 : Nat)) (.slice none 0 0)) := (HK1.out.trans' HK2.out).trans hkz (T := fun b => b = z + 2) fun i hi e => by have e : i = z + 2 := e; omega
        refine bodyPost_ret (v := .agg (cellsR 1 (oneS 97) none 0 0)) ?_ rfl ?_
        · simp [results, Try.results9, go_sem, r0, r1, r2, r3, r4, r5]
        · exact ⟨_, _, _, _, _, oneT 97, rfl, ⟨none, 0, rfl, Nat.le_refl _, by decide, fun h => absurd rfl h⟩, hkf, by unfold oneT; exact gdt_set _ _⟩
      · go_wp2_with fail
        refine (HOne.out W1 98 (by decide)).mono ?_
        rintro e w2 ⟨rfl, hk2⟩
        have HK2 := Hid_mk hk2
        obtain ⟨r0, r1, r2, r3, r4, r5, rw1⟩ := HR1.out.kept hk2 id
        clear hk2
        unfold cellsR
        go_wp2
        have hz := HZ.out
        have hz2 := HZ1.out
        have hkz : Kp (fun b => b = z + 2) w2 (putR w2 (z + 2) (.int .i64 1) (.int .u64 (wd (oneS 98) 0 64 : Nat)) (.int .u64 (wd (oneS 98) 64 64 : Nat)) (.int .u64 (wd (oneS 98) 128 64 : Nat)) (.int .u64 (wd (oneS 98) 192 64 : Nat)) (.slice none 0 0)) := kp_putR (q := z + 2) (Kp.refl (fun b => b = z + 2) w2) (fun _ => rfl) _ _ _ _ _ _
        have hkf : Kp No w (putR w2 (z + 2) (.int .i64 1) (.int .u64 (wd (oneS 98) 0 64 : Nat)) (.int .u64 (wd (oneS 98) 64 64 : Nat)) (.int .u64 (wd (oneS 98) 128 64 : Nat)) (.int .u64 (wd (oneS 98) 192 64 : Nat)) (.slice none 0 0)) := (HK1.out.trans' HK2.out).trans hkz (T := fun b => b = z + 2) fun i hi e => by have e : i = z + 2 := e; omega
        refine bodyPost_ret (v := .agg (cellsR 1 (oneS 98) none 0 0)) ?_ rfl ?_
        · simp [results, Try.results9, go_sem, r0, r1, r2, r3, r4, r5]
        · exact ⟨_, _, _, _, _, oneT 98, rfl, ⟨none, 0, rfl, Nat.le_refl _, by decide, fun h => absurd rfl h⟩, hkf, by unfold oneT; exact gdt_set _ _⟩
      · go_wp2_with fail
        refine (HOne.out W1 99 (by decide)).mono ?_
        rintro e w2 ⟨rfl, hk2⟩
        have HK2 := Hid_mk hk2
        obtain ⟨r0, r1, r2, r3, r4, r5, rw1⟩ := HR1.out.kept hk2 id
        clear hk2
        unfold cellsR
        go_wp2
        have hz := HZ.out
        have hz2 := HZ1.out
        have hkz : Kp (fun b => b = z + 2) w2 (putR w2 (z + 2) (.int .i64 1) (.int .u64 (wd (oneS 99) 0 64 : Nat)) (.int .u64 (wd (oneS 99) 64 64 : Nat)) (.int .u64 (wd (oneS 99) 128 64 : Nat)) (.int .u64 (wd (oneS 99) 192 64 : Nat)) (.slice none 0 0)) := kp_putR (q := z + 2) (Kp.refl (fun b => b = z + 2) w2) (fun _ => rfl) _ _ _ _ _ _
        have hkf : Kp No w (putR w2 (z + 2) (.int .i64 1) (.int .u64 (wd (oneS 99) 0 64 : Nat)) (.int .u64 (wd (oneS 99) 64 64 : Nat)) (.int .u64 (wd (oneS 99) 128 64 : Nat)) (.int .u64 (wd (oneS 99) 192 64 : Nat)) (.slice none 0 0)) := (HK1.out.trans' HK2.out).trans hkz (T := fun b => b = z + 2) fun i hi e => by have e : i = z + 2 := e; omega
        refine bodyPost_ret (v := .agg (cellsR 1 (oneS 99) none 0 0)) ?_ rfl ?_
        · simp [results, Try.results9, go_sem, r0, r1, r2, r3, r4, r5]
        · exact ⟨_, _, _, _, _, oneT 99, rfl, ⟨none, 0, rfl, Nat.le_refl _, by decide, fun h => absurd rfl h⟩, hkf, by unfold oneT; exact gdt_set _ _⟩
    · exact absurd (by have := HY.out; omega) HN2.out
    · have t1 := HT1.out
      go_wp2_with fail
      clear t1
      have hm : ∃ u : Nat, n % 3 = (u : Int) ∧ u < 3 := ⟨(n % 3).toNat, by omega, by omega⟩
      obtain ⟨u, hu, hu2⟩ := hm
      have hp := HP3.out W1
      rw [hu] at hp
      have HPu := Hid_mk hp
      clear hp hu
      with_reducible refine HPu.out.mono ?_
      rintro e w1 ⟨rfl, rfl⟩
      obtain ⟨r0, r1, r2, r3, r4, r5, rw1⟩ := HR1.out
      have huc : u = 0 ∨ u = 1 ∨ u = 2 := by omega
      clear hu2
      rcases huc with rfl | rfl | rfl
      · have hix : ∀ W, Sem.run Try.prog (Instr.index 70 (.agg #[.int .i64 0, .int .i64 7, .int .i64 8]) (.int .i64 0)) W = .ok (.int .i64 0) W := fun _ => rfl
        go_wp2_with fail
        have hz := HZ.out
        have hz2 := HZ1.out
        have hkz : Kp (fun b => b = z + 2) W1 (putR W1 (z + 2) (.int .i64 0) (.int .u64 0) (.int .u64 0) (.int .u64 0) (.int .u64 0) (.slice none 0 0)) := kp_putR (q := z + 2) (Kp.refl (fun b => b = z + 2) W1) (fun _ => rfl) _ _ _ _ _ _
        have hkf : Kp No w (putR W1 (z + 2) (.int .i64 0) (.int .u64 0) (.int .u64 0) (.int .u64 0) (.int .u64 0) (.slice none 0 0)) := (HK1.out).trans hkz (T := fun b => b = z + 2) fun i hi e => by have e : i = z + 2 := e; omega
        refine bodyPost_ret (v := .agg #[.int .i64 0, .int .u64 0, .int .u64 0, .int .u64 0, .int .u64 0, .slice none 0 0]) ?_ rfl ?_
        · simp [results, Try.results9, go_sem, r0, r1, r2, r3, r4, r5]
        · exact ⟨0, nul, none, 0, 0, .mk 0 nul [], rfl, ⟨none, 0, by simp [cellsR, wd_nul], Nat.le_refl _, by decide, fun h => absurd rfl h⟩, hkf, gdt_leaf _ _ (by decide)⟩
      · have hix : ∀ W, Sem.run Try.prog (Instr.index 70 (.agg #[.int .i64 0, .int .i64 7, .int .i64 8]) (.int .i64 1)) W = .ok (.int .i64 7) W := fun _ => rfl
        go_wp2_with fail
        have hz := HZ.out
        have hz2 := HZ1.out
        have hkz : Kp (fun b => b = z + 2) W1 (putR W1 (z + 2) (.int .i64 7) (.int .u64 0) (.int .u64 0) (.int .u64 0) (.int .u64 0) (.slice none 0 0)) := kp_putR (q := z + 2) (Kp.refl (fun b => b = z + 2) W1) (fun _ => rfl) _ _ _ _ _ _
        have hkf : Kp No w (putR W1 (z + 2) (.int .i64 7) (.int .u64 0) (.int .u64 0) (.int .u64 0) (.int .u64 0) (.slice none 0 0)) := (HK1.out).trans hkz (T := fun b => b = z + 2) fun i hi e => by have e : i = z + 2 := e; omega
        refine bodyPost_ret (v := .agg #[.int .i64 7, .int .u64 0, .int .u64 0, .int .u64 0, .int .u64 0, .slice none 0 0]) ?_ rfl ?_
        · simp [results, Try.results9, go_sem, r0, r1, r2, r3, r4, r5]
        · exact ⟨7, nul, none, 0, 0, .mk 7 nul [], rfl, ⟨none, 0, by simp [cellsR, wd_nul], Nat.le_refl _, by decide, fun h => absurd rfl h⟩, hkf, gdt_leaf _ _ (by decide)⟩
      · have hix : ∀ W, Sem.run Try.prog (Instr.index 70 (.agg #[.int .i64 0, .int .i64 7, .int .i64 8]) (.int .i64 2)) W = .ok (.int .i64 8) W := fun _ => rfl
        go_wp2_with fail
        have hz := HZ.out
        have hz2 := HZ1.out
        have hkz : Kp (fun b => b = z + 2) W1 (putR W1 (z + 2) (.int .i64 8) (.int .u64 0) (.int .u64 0) (.int .u64 0) (.int .u64 0) (.slice none 0 0)) := kp_putR (q := z + 2) (Kp.refl (fun b => b = z + 2) W1) (fun _ => rfl) _ _ _ _ _ _
        have hkf : Kp No w (putR W1 (z + 2) (.int .i64 8) (.int .u64 0) (.int .u64 0) (.int .u64 0) (.int .u64 0) (.slice none 0 0)) := (HK1.out).trans hkz (T := fun b => b = z + 2) fun i hi e => by have e : i = z + 2 := e; omega
        refine bodyPost_ret (v := .agg #[.int .i64 8, .int .u64 0, .int .u64 0, .int .u64 0, .int .u64 0, .slice none 0 0]) ?_ rfl ?_
        · simp [results, Try.results9, go_sem, r0, r1, r2, r3, r4, r5]
        · exact ⟨8, nul, none, 0, 0, .mk 8 nul [], rfl, ⟨none, 0, by simp [cellsR, wd_nul], Nat.le_refl _, by decide, fun h => absurd rfl h⟩, hkf, gdt_leaf _ _ (by decide)⟩
    · have t1 := HT1.out
      go_wp2_with fail
      clear t1
      have hm : ∃ u : Nat, n % 2 = (u : Int) ∧ u < 2 := ⟨(n % 2).toNat, by omega, by omega⟩
      obtain ⟨u, hu, hu2⟩ := hm
      have hp := HP2.out W1
      rw [hu] at hp
      have HPu := Hid_mk hp
      have HOne := Hid_mk fun (V : World) (b : Nat) (hb : b < 256) => tre.one_any V b hb
      clear hp hu
      with_reducible refine HPu.out.mono ?_
      rintro e w1 ⟨rfl, rfl⟩
      obtain ⟨r0, r1, r2, r3, r4, r5, rw1⟩ := HR1.out
      have huc : u = 0 ∨ u = 1 := by omega
      clear hu2
      rcases huc with rfl | rfl
      · go_wp2_with fail
        refine (HOne.out W1 97 (by decide)).mono ?_
        rintro e w2 ⟨rfl, hk2⟩
        have HK2 := Hid_mk hk2
        obtain ⟨r0, r1, r2, r3, r4, r5, rw1⟩ := HR1.out.kept hk2 id
        clear hk2
        unfold cellsR
        go_wp2
        have hz := HZ.out
        have hz2 := HZ1.out
        have hkz : Kp (fun b => b = z + 2) w2 (putR w2 (z + 2) (.int .i64 1) (.int .u64 (wd (oneS 97) 0 64 : Nat)) (.int .u64 (wd (oneS 97) 64 64 : Nat)) (.int .u64 (wd (oneS 97) 128 64 : Nat)) (.int .u64 (wd (oneS 97) 192 64 : Nat)) (.slice none 0 0)) := kp_putR (q := z + 2) (Kp.refl (fun b => b = z + 2) w2) (fun _ => rfl) _ _ _ _ _ _
        have hkf : Kp No w (putR w2 (z + 2) (.int .i64 1) (.int .u64 (wd (oneS 97) 0 64 : Nat)) (.int .u64 (wd (oneS 97) 64 64 : Nat)) (.int .u64 (wd (oneS 97) 128 64 : Nat)) (.int .u64 (wd (oneS 97) 192 64 : Nat)) (.slice none 0 0)) := (HK1.out.trans' HK2.out).trans hkz (T := fun b => b = z + 2) fun i hi e => by have e : i = z + 2 := e; omega
        refine bodyPost_ret (v := .agg (cellsR 1 (oneS 97) none 0 0)) ?_ rfl ?_
        · simp [results, Try.results9, go_sem, r0, r1, r2, r3, r4, r5]
        · exact ⟨_, _, _, _, _, oneT 97, rfl, ⟨none, 0, rfl, Nat.le_refl _, by decide, fun h => absurd rfl h⟩, hkf, by unfold oneT; exact gdt_set _ _⟩
      · go_wp2_with fail
        refine (HOne.out W1 98 (by decide)).mono ?_
        rintro e w2 ⟨rfl, hk2⟩
        have HK2 := Hid_mk hk2
        obtain ⟨r0, r1, r2, r3, r4, r5, rw1⟩ := HR1.out.kept hk2 id
        clear hk2
        unfold cellsR
        go_wp2
        have hz := HZ.out
        have hz2 := HZ1.out
        have hkz : Kp (fun b => b = z + 2) w2 (putR w2 (z + 2) (.int .i64 1) (.int .u64 (wd (oneS 98) 0 64 : Nat)) (.int .u64 (wd (oneS 98) 64 64 : Nat)) (.int .u64 (wd (oneS 98) 128 64 : Nat)) (.int .u64 (wd (oneS 98) 192 64 : Nat)) (.slice none 0 0)) := kp_putR (q := z + 2) (Kp.refl (fun b => b = z + 2) w2) (fun _ => rfl) _ _ _ _ _ _
        have hkf : Kp No w (putR w2 (z + 2) (.int .i64 1) (.int .u64 (wd (oneS 98) 0 64 : Nat)) (.int .u64 (wd (oneS 98) 64 64 : Nat)) (.int .u64 (wd (oneS 98) 128 64 : Nat)) (.int .u64 (wd (oneS 98) 192 64 : Nat)) (.slice none 0 0)) := (HK1.out.trans' HK2.out).trans hkz (T := fun b => b = z + 2) fun i hi e => by have e : i = z + 2 := e; omega
        refine bodyPost_ret (v := .agg (cellsR 1 (oneS 98) none 0 0)) ?_ rfl ?_
        · simp [results, Try.results9, go_sem, r0, r1, r2, r3, r4, r5]
        · exact ⟨_, _, _, _, _, oneT 98, rfl, ⟨none, 0, rfl, Nat.le_refl _, by decide, fun h => absurd rfl h⟩, hkf, by unfold oneT; exact gdt_set _ _⟩
    · go_wp2_with fail
      refine (HKid.out W1 (Kp.refl No W1) 0 (by omega)).mono ?_
      rintro e w2 ⟨vk, vf, va, vn, vc, tr, rfl, hv2, hk2, hs2⟩
      have HK2 := Hid_mk hk2
      have HV2 := Hid_mk hv2
      have HS2 := Hid_mk hs2
      clear hk2 hv2 hs2
      unfold cellsR
      go_wp2_with fail
      refine (HKid.out w2 HK2.out 1 (by omega)).mono ?_
      rintro e w3 ⟨uk, uf, ua, un, uc, ur, rfl, hv3, hk3, hs3⟩
      obtain ⟨g, hg⟩ : ∃ g, w3.heap.size = g := ⟨_, rfl⟩
      have hz2 := HK2.out.size
      have hm := made2 (T := fun b => z + 3 ≤ b) (ReV.no hk3 _ _ (ReV.wider (T' := fun b => z + 3 ≤ b) (fun b hb _ => by have h8 := HZ1.out; omega) _ _ HV2.out)) (ReV.wider (T' := fun b => z + 3 ≤ b) (fun b hb _ => by have h8 := HZ1.out; omega) _ _ hv3) (by have h8 := HZ1.out; have h9 := hk3.size; show z + 3 ≤ w3.heap.size; omega) 2 nul 30
      have hka := (HK2.out.trans' hk3).alloc (.cells (cellsR vk vf va vn vc ++ cellsR uk uf ua un uc) 30)
      rw [hg] at hm
      have HM := Hid_mk hm
      have HKA := Hid_mk hka
      have HG := Hid_mk hg
      have HS3 := Hid_mk hs3
      obtain ⟨r0, r1, r2, r3, r4, r5, rw1⟩ := HR1.out.kept hka id
      unfold cellsR at r0 r1 r2 r3 r4 r5 rw1 ⊢
      simp only [List.append_toArray, List.cons_append, List.nil_append] at r0 r1 r2 r3 r4 r5 rw1
      clear hm hka hg hs3 hv3 hk3 hz2
      go_wp2
      rw [HG.out]
      obtain ⟨w4, hw4⟩ : ∃ w4, w3.alloc (.cells #[.int .i64 vk, .int .u64 (wd vf 0 64 : Nat), .int .u64 (wd vf 64 64 : Nat), .int .u64 (wd vf 128 64 : Nat), .int .u64 (wd vf 192 64 : Nat), .slice va vn vc, .int .i64 uk, .int .u64 (wd uf 0 64 : Nat), .int .u64 (wd uf 64 64 : Nat), .int .u64 (wd uf 128 64 : Nat), .int .u64 (wd uf 192 64 : Nat), .slice ua un uc] 30) = w4 := ⟨_, rfl⟩
      have HMa := HM.out
      have HKb := HKA.out
      unfold cellsR at HMa HKb
      simp only [List.append_toArray, List.cons_append, List.nil_append] at HMa HKb
      rw [hw4] at r0 r1 r2 r3 r4 r5 rw1 HMa HKb ⊢
      simp only [wd_nul, Int.natCast_zero] at HMa
      have hz := HZ.out
      have hz2 := HZ1.out
      have hkz : Kp (fun b => b = z + 2) w4 (putR w4 (z + 2) (.int .i64 2) (.int .u64 0) (.int .u64 0) (.int .u64 0) (.int .u64 0) (.slice (some ⟨g, 0, none⟩) 2 2)) := kp_putR (q := z + 2) (Kp.refl (fun b => b = z + 2) w4) (fun _ => rfl) _ _ _ _ _ _
      have hkf : Kp No w (putR w4 (z + 2) (.int .i64 2) (.int .u64 0) (.int .u64 0) (.int .u64 0) (.int .u64 0) (.slice (some ⟨g, 0, none⟩) 2 2)) := (HK1.out.trans' HKb).trans hkz (T := fun b => b = z + 2) fun i hi e => by have e : i = z + 2 := e; omega
      refine bodyPost_ret (v := .agg #[.int .i64 2, .int .u64 0, .int .u64 0, .int .u64 0, .int .u64 0, .slice (some ⟨g, 0, none⟩) 2 2]) ?_ rfl ?_
      · simp [results, Try.results9, go_sem, r0, r1, r2, r3, r4, r5]
      · exact ⟨2, nul, _, _, _, .mk 2 nul [tr, ur], rfl, ReV.wider (fun b hb _ => by have hb : z + 3 ≤ b := hb; omega) _ _ (ReV.kept hkz (fun b hb _ => by have hb : z + 3 ≤ b := hb; show ¬ b = z + 2; omega) _ _ HMa), hkf, gdt_two HS2.out HS3.out HD1.out _ (by decide)⟩
    · go_wp2_with fail
      refine (HKid.out W1 (Kp.refl No W1) 0 (by omega)).mono ?_
      rintro e w2 ⟨vk, vf, va, vn, vc, tr, rfl, hv2, hk2, hs2⟩
      have HK2 := Hid_mk hk2
      have HV2 := Hid_mk hv2
      have HS2 := Hid_mk hs2
      clear hk2 hv2 hs2
      unfold cellsR
      go_wp2_with fail
      refine (HKid.out w2 HK2.out 1 (by omega)).mono ?_
      rintro e w3 ⟨uk, uf, ua, un, uc, ur, rfl, hv3, hk3, hs3⟩
      obtain ⟨g, hg⟩ : ∃ g, w3.heap.size = g := ⟨_, rfl⟩
      have hz2 := HK2.out.size
      have hm := made2 (T := fun b => z + 3 ≤ b) (ReV.no hk3 _ _ (ReV.wider (T' := fun b => z + 3 ≤ b) (fun b hb _ => by have h8 := HZ1.out; omega) _ _ HV2.out)) (ReV.wider (T' := fun b => z + 3 ≤ b) (fun b hb _ => by have h8 := HZ1.out; omega) _ _ hv3) (by have h8 := HZ1.out; have h9 := hk3.size; show z + 3 ≤ w3.heap.size; omega) 2 nul 30
      have hka := (HK2.out.trans' hk3).alloc (.cells (cellsR vk vf va vn vc ++ cellsR uk uf ua un uc) 30)
      rw [hg] at hm
      have HM := Hid_mk hm
      have HKA := Hid_mk hka
      have HG := Hid_mk hg
      have HS3 := Hid_mk hs3
      obtain ⟨r0, r1, r2, r3, r4, r5, rw1⟩ := HR1.out.kept hka id
      unfold cellsR at r0 r1 r2 r3 r4 r5 rw1 ⊢
      simp only [List.append_toArray, List.cons_append, List.nil_append] at r0 r1 r2 r3 r4 r5 rw1
      clear hm hka hg hs3 hv3 hk3 hz2
      go_wp2
      rw [HG.out]
      obtain ⟨w4, hw4⟩ : ∃ w4, w3.alloc (.cells #[.int .i64 vk, .int .u64 (wd vf 0 64 : Nat), .int .u64 (wd vf 64 64 : Nat), .int .u64 (wd vf 128 64 : Nat), .int .u64 (wd vf 192 64 : Nat), .slice va vn vc, .int .i64 uk, .int .u64 (wd uf 0 64 : Nat), .int .u64 (wd uf 64 64 : Nat), .int .u64 (wd uf 128 64 : Nat), .int .u64 (wd uf 192 64 : Nat), .slice ua un uc] 30) = w4 := ⟨_, rfl⟩
      have HMa := HM.out
      have HKb := HKA.out
      unfold cellsR at HMa HKb
      simp only [List.append_toArray, List.cons_append, List.nil_append] at HMa HKb
      rw [hw4] at r0 r1 r2 r3 r4 r5 rw1 HMa HKb ⊢
      simp only [wd_nul, Int.natCast_zero] at HMa
      have hz := HZ.out
      have hz2 := HZ1.out
      have hkz : Kp (fun b => b = z + 2) w4 (putR w4 (z + 2) (.int .i64 2) (.int .u64 0) (.int .u64 0) (.int .u64 0) (.int .u64 0) (.slice (some ⟨g, 0, none⟩) 2 2)) := kp_putR (q := z + 2) (Kp.refl (fun b => b = z + 2) w4) (fun _ => rfl) _ _ _ _ _ _
      have hkf : Kp No w (putR w4 (z + 2) (.int .i64 2) (.int .u64 0) (.int .u64 0) (.int .u64 0) (.int .u64 0) (.slice (some ⟨g, 0, none⟩) 2 2)) := (HK1.out.trans' HKb).trans hkz (T := fun b => b = z + 2) fun i hi e => by have e : i = z + 2 := e; omega
      refine bodyPost_ret (v := .agg #[.int .i64 2, .int .u64 0, .int .u64 0, .int .u64 0, .int .u64 0, .slice (some ⟨g, 0, none⟩) 2 2]) ?_ rfl ?_
      · simp [results, Try.results9, go_sem, r0, r1, r2, r3, r4, r5]
      · exact ⟨2, nul, _, _, _, .mk 2 nul [tr, ur], rfl, ReV.wider (fun b hb _ => by have hb : z + 3 ≤ b := hb; omega) _ _ (ReV.kept hkz (fun b hb _ => by have hb : z + 3 ≤ b := hb; show ¬ b = z + 2; omega) _ _ HMa), hkf, gdt_two HS2.out HS3.out HD1.out _ (by decide)⟩
    · go_wp2_with fail
      refine (HKid.out W1 (Kp.refl No W1) 0 (by omega)).mono ?_
      rintro e w2 ⟨vk, vf, va, vn, vc, tr, rfl, hv2, hk2, hs2⟩
      have HK2 := Hid_mk hk2
      have HV2 := Hid_mk hv2
      have HS2 := Hid_mk hs2
      clear hk2 hv2 hs2
      unfold cellsR
      go_wp2_with fail
      refine (HKid.out w2 HK2.out 1 (by omega)).mono ?_
      rintro e w3 ⟨uk, uf, ua, un, uc, ur, rfl, hv3, hk3, hs3⟩
      obtain ⟨g, hg⟩ : ∃ g, w3.heap.size = g := ⟨_, rfl⟩
      have hz2 := HK2.out.size
      have hm := made2 (T := fun b => z + 3 ≤ b) (ReV.no hk3 _ _ (ReV.wider (T' := fun b => z + 3 ≤ b) (fun b hb _ => by have h8 := HZ1.out; omega) _ _ HV2.out)) (ReV.wider (T' := fun b => z + 3 ≤ b) (fun b hb _ => by have h8 := HZ1.out; omega) _ _ hv3) (by have h8 := HZ1.out; have h9 := hk3.size; show z + 3 ≤ w3.heap.size; omega) 3 nul 30
      have hka := (HK2.out.trans' hk3).alloc (.cells (cellsR vk vf va vn vc ++ cellsR uk uf ua un uc) 30)
      rw [hg] at hm
      have HM := Hid_mk hm
      have HKA := Hid_mk hka
      have HG := Hid_mk hg
      have HS3 := Hid_mk hs3
      obtain ⟨r0, r1, r2, r3, r4, r5, rw1⟩ := HR1.out.kept hka id
      unfold cellsR at r0 r1 r2 r3 r4 r5 rw1 ⊢
      simp only [List.append_toArray, List.cons_append, List.nil_append] at r0 r1 r2 r3 r4 r5 rw1
      clear hm hka hg hs3 hv3 hk3 hz2
      go_wp2
      rw [HG.out]
      obtain ⟨w4, hw4⟩ : ∃ w4, w3.alloc (.cells #[.int .i64 vk, .int .u64 (wd vf 0 64 : Nat), .int .u64 (wd vf 64 64 : Nat), .int .u64 (wd vf 128 64 : Nat), .int .u64 (wd vf 192 64 : Nat), .slice va vn vc, .int .i64 uk, .int .u64 (wd uf 0 64 : Nat), .int .u64 (wd uf 64 64 : Nat), .int .u64 (wd uf 128 64 : Nat), .int .u64 (wd uf 192 64 : Nat), .slice ua un uc] 30) = w4 := ⟨_, rfl⟩
      have HMa := HM.out
      have HKb := HKA.out
      unfold cellsR at HMa HKb
      simp only [List.append_toArray, List.cons_append, List.nil_append] at HMa HKb
      rw [hw4] at r0 r1 r2 r3 r4 r5 rw1 HMa HKb ⊢
      simp only [wd_nul, Int.natCast_zero] at HMa
      have hz := HZ.out
      have hz2 := HZ1.out
      have hkz : Kp (fun b => b = z + 2) w4 (putR w4 (z + 2) (.int .i64 3) (.int .u64 0) (.int .u64 0) (.int .u64 0) (.int .u64 0) (.slice (some ⟨g, 0, none⟩) 2 2)) := kp_putR (q := z + 2) (Kp.refl (fun b => b = z + 2) w4) (fun _ => rfl) _ _ _ _ _ _
      have hkf : Kp No w (putR w4 (z + 2) (.int .i64 3) (.int .u64 0) (.int .u64 0) (.int .u64 0) (.int .u64 0) (.slice (some ⟨g, 0, none⟩) 2 2)) := (HK1.out.trans' HKb).trans hkz (T := fun b => b = z + 2) fun i hi e => by have e : i = z + 2 := e; omega
      refine bodyPost_ret (v := .agg #[.int .i64 3, .int .u64 0, .int .u64 0, .int .u64 0, .int .u64 0, .slice (some ⟨g, 0, none⟩) 2 2]) ?_ rfl ?_
      · simp [results, Try.results9, go_sem, r0, r1, r2, r3, r4, r5]
      · exact ⟨3, nul, _, _, _, .mk 3 nul [tr, ur], rfl, ReV.wider (fun b hb _ => by have hb : z + 3 ≤ b := hb; omega) _ _ (ReV.kept hkz (fun b hb _ => by have hb : z + 3 ≤ b := hb; show ¬ b = z + 2; omega) _ _ HMa), hkf, gdt_two HS2.out HS3.out HD1.out _ (by decide)⟩
    · go_wp2_with fail
      refine (HKid.out W1 (Kp.refl No W1) 0 (by omega)).mono ?_
      rintro e w2 ⟨vk, vf, va, vn, vc, tr, rfl, hv2, hk2, hs2⟩
      have HK2 := Hid_mk hk2
      have HV2 := Hid_mk hv2
      have HS2 := Hid_mk hs2
      clear hk2 hv2 hs2
      unfold cellsR
      go_wp2_with fail
      refine (HKid.out w2 HK2.out 1 (by omega)).mono ?_
      rintro e w3 ⟨uk, uf, ua, un, uc, ur, rfl, hv3, hk3, hs3⟩
      obtain ⟨g, hg⟩ : ∃ g, w3.heap.size = g := ⟨_, rfl⟩
      have hz2 := HK2.out.size
      have hm := made2 (T := fun b => z + 3 ≤ b) (ReV.no hk3 _ _ (ReV.wider (T' := fun b => z + 3 ≤ b) (fun b hb _ => by have h8 := HZ1.out; omega) _ _ HV2.out)) (ReV.wider (T' := fun b => z + 3 ≤ b) (fun b hb _ => by have h8 := HZ1.out; omega) _ _ hv3) (by have h8 := HZ1.out; have h9 := hk3.size; show z + 3 ≤ w3.heap.size; omega) 3 nul 30
      have hka := (HK2.out.trans' hk3).alloc (.cells (cellsR vk vf va vn vc ++ cellsR uk uf ua un uc) 30)
      rw [hg] at hm
      have HM := Hid_mk hm
      have HKA := Hid_mk hka
      have HG := Hid_mk hg
      have HS3 := Hid_mk hs3
      obtain ⟨r0, r1, r2, r3, r4, r5, rw1⟩ := HR1.out.kept hka id
      unfold cellsR at r0 r1 r2 r3 r4 r5 rw1 ⊢
      simp only [List.append_toArray, List.cons_append, List.nil_append] at r0 r1 r2 r3 r4 r5 rw1
      clear hm hka hg hs3 hv3 hk3 hz2
      go_wp2
      rw [HG.out]
      obtain ⟨w4, hw4⟩ : ∃ w4, w3.alloc (.cells #[.int .i64 vk, .int .u64 (wd vf 0 64 : Nat), .int .u64 (wd vf 64 64 : Nat), .int .u64 (wd vf 128 64 : Nat), .int .u64 (wd vf 192 64 : Nat), .slice va vn vc, .int .i64 uk, .int .u64 (wd uf 0 64 : Nat), .int .u64 (wd uf 64 64 : Nat), .int .u64 (wd uf 128 64 : Nat), .int .u64 (wd uf 192 64 : Nat), .slice ua un uc] 30) = w4 := ⟨_, rfl⟩
      have HMa := HM.out
      have HKb := HKA.out
      unfold cellsR at HMa HKb
      simp only [List.append_toArray, List.cons_append, List.nil_append] at HMa HKb
      rw [hw4] at r0 r1 r2 r3 r4 r5 rw1 HMa HKb ⊢
      simp only [wd_nul, Int.natCast_zero] at HMa
      have hz := HZ.out
      have hz2 := HZ1.out
      have hkz : Kp (fun b => b = z + 2) w4 (putR w4 (z + 2) (.int .i64 3) (.int .u64 0) (.int .u64 0) (.int .u64 0) (.int .u64 0) (.slice (some ⟨g, 0, none⟩) 2 2)) := kp_putR (q := z + 2) (Kp.refl (fun b => b = z + 2) w4) (fun _ => rfl) _ _ _ _ _ _
      have hkf : Kp No w (putR w4 (z + 2) (.int .i64 3) (.int .u64 0) (.int .u64 0) (.int .u64 0) (.int .u64 0) (.slice (some ⟨g, 0, none⟩) 2 2)) := (HK1.out.trans' HKb).trans hkz (T := fun b => b = z + 2) fun i hi e => by have e : i = z + 2 := e; omega
      refine bodyPost_ret (v := .agg #[.int .i64 3, .int .u64 0, .int .u64 0, .int .u64 0, .int .u64 0, .slice (some ⟨g, 0, none⟩) 2 2]) ?_ rfl ?_
      · simp [results, Try.results9, go_sem, r0, r1, r2, r3, r4, r5]
      · exact ⟨3, nul, _, _, _, .mk 3 nul [tr, ur], rfl, ReV.wider (fun b hb _ => by have hb : z + 3 ≤ b := hb; omega) _ _ (ReV.kept hkz (fun b hb _ => by have hb : z + 3 ≤ b := hb; show ¬ b = z + 2; omega) _ _ HMa), hkf, gdt_two HS2.out HS3.out HD1.out _ (by decide)⟩
    · go_wp2_with fail
      refine (HKid.out W1 (Kp.refl No W1) 0 (by omega)).mono ?_
      rintro e w2 ⟨vk, vf, va, vn, vc, tr, rfl, hv2, hk2, hs2⟩
      obtain ⟨g, hg⟩ : ∃ g, w2.heap.size = g := ⟨_, rfl⟩
      have hm := made1 (T := fun b => z + 3 ≤ b) (ReV.wider (T' := fun b => z + 3 ≤ b) (fun b hb _ => by have h8 := HZ1.out; omega) _ _ hv2) (by have h8 := HZ1.out; have h9 := hk2.size; show z + 3 ≤ w2.heap.size; omega) 4 nul 30
      have hka := hk2.alloc (.cells (cellsR vk vf va vn vc) 30)
      rw [hg] at hm
      have HM := Hid_mk hm
      have HKA := Hid_mk hka
      have HG := Hid_mk hg
      have HS2 := Hid_mk hs2
      obtain ⟨r0, r1, r2, r3, r4, r5, rw1⟩ := HR1.out.kept hka id
      unfold cellsR at r0 r1 r2 r3 r4 r5 rw1 ⊢
      clear hm hka hg hs2 hv2 hk2
      go_wp2
      rw [HG.out]
      obtain ⟨w3, hw3⟩ : ∃ w3, w2.alloc (.cells #[.int .i64 vk, .int .u64 (wd vf 0 64 : Nat), .int .u64 (wd vf 64 64 : Nat), .int .u64 (wd vf 128 64 : Nat), .int .u64 (wd vf 192 64 : Nat), .slice va vn vc] 30) = w3 := ⟨_, rfl⟩
      have HMa := HM.out
      have HKb := HKA.out
      unfold cellsR at HMa HKb
      rw [hw3] at r0 r1 r2 r3 r4 r5 rw1 HMa HKb ⊢
      simp only [wd_nul, Int.natCast_zero] at HMa
      have hz := HZ.out
      have hz2 := HZ1.out
      have hkz : Kp (fun b => b = z + 2) w3 (putR w3 (z + 2) (.int .i64 4) (.int .u64 0) (.int .u64 0) (.int .u64 0) (.int .u64 0) (.slice (some ⟨g, 0, none⟩) 1 1)) := kp_putR (q := z + 2) (Kp.refl (fun b => b = z + 2) w3) (fun _ => rfl) _ _ _ _ _ _
      have hkf : Kp No w (putR w3 (z + 2) (.int .i64 4) (.int .u64 0) (.int .u64 0) (.int .u64 0) (.int .u64 0) (.slice (some ⟨g, 0, none⟩) 1 1)) := (HK1.out.trans' HKb).trans hkz (T := fun b => b = z + 2) fun i hi e => by have e : i = z + 2 := e; omega
      refine bodyPost_ret (v := .agg #[.int .i64 4, .int .u64 0, .int .u64 0, .int .u64 0, .int .u64 0, .slice (some ⟨g, 0, none⟩) 1 1]) ?_ rfl ?_
      · simp [results, Try.results9, go_sem, r0, r1, r2, r3, r4, r5]
      · exact ⟨4, nul, _, _, _, .mk 4 nul [tr], rfl, ReV.wider (fun b hb _ => by have hb : z + 3 ≤ b := hb; omega) _ _ (ReV.kept hkz (fun b hb _ => by have hb : z + 3 ≤ b := hb; show ¬ b = z + 2; omega) _ _ HMa), hkf, gdt_one HS2.out HD1.out _ (by decide)⟩
    · go_wp2_with fail
      refine (HKid.out W1 (Kp.refl No W1) 0 (by omega)).mono ?_
      rintro e w2 ⟨vk, vf, va, vn, vc, tr, rfl, hv2, hk2, hs2⟩
      obtain ⟨g, hg⟩ : ∃ g, w2.heap.size = g := ⟨_, rfl⟩
      have hm := made1 (T := fun b => z + 3 ≤ b) (ReV.wider (T' := fun b => z + 3 ≤ b) (fun b hb _ => by have h8 := HZ1.out; omega) _ _ hv2) (by have h8 := HZ1.out; have h9 := hk2.size; show z + 3 ≤ w2.heap.size; omega) 5 nul 30
      have hka := hk2.alloc (.cells (cellsR vk vf va vn vc) 30)
      rw [hg] at hm
      have HM := Hid_mk hm
      have HKA := Hid_mk hka
      have HG := Hid_mk hg
      have HS2 := Hid_mk hs2
      obtain ⟨r0, r1, r2, r3, r4, r5, rw1⟩ := HR1.out.kept hka id
      unfold cellsR at r0 r1 r2 r3 r4 r5 rw1 ⊢
      clear hm hka hg hs2 hv2 hk2
      go_wp2
      rw [HG.out]
      obtain ⟨w3, hw3⟩ : ∃ w3, w2.alloc (.cells #[.int .i64 vk, .int .u64 (wd vf 0 64 : Nat), .int .u64 (wd vf 64 64 : Nat), .int .u64 (wd vf 128 64 : Nat), .int .u64 (wd vf 192 64 : Nat), .slice va vn vc] 30) = w3 := ⟨_, rfl⟩
      have HMa := HM.out
      have HKb := HKA.out
      unfold cellsR at HMa HKb
      rw [hw3] at r0 r1 r2 r3 r4 r5 rw1 HMa HKb ⊢
      simp only [wd_nul, Int.natCast_zero] at HMa
      have hz := HZ.out
      have hz2 := HZ1.out
      have hkz : Kp (fun b => b = z + 2) w3 (putR w3 (z + 2) (.int .i64 5) (.int .u64 0) (.int .u64 0) (.int .u64 0) (.int .u64 0) (.slice (some ⟨g, 0, none⟩) 1 1)) := kp_putR (q := z + 2) (Kp.refl (fun b => b = z + 2) w3) (fun _ => rfl) _ _ _ _ _ _
      have hkf : Kp No w (putR w3 (z + 2) (.int .i64 5) (.int .u64 0) (.int .u64 0) (.int .u64 0) (.int .u64 0) (.slice (some ⟨g, 0, none⟩) 1 1)) := (HK1.out.trans' HKb).trans hkz (T := fun b => b = z + 2) fun i hi e => by have e : i = z + 2 := e; omega
      refine bodyPost_ret (v := .agg #[.int .i64 5, .int .u64 0, .int .u64 0, .int .u64 0, .int .u64 0, .slice (some ⟨g, 0, none⟩) 1 1]) ?_ rfl ?_
      · simp [results, Try.results9, go_sem, r0, r1, r2, r3, r4, r5]
      · exact ⟨5, nul, _, _, _, .mk 5 nul [tr], rfl, ReV.wider (fun b hb _ => by have hb : z + 3 ≤ b := hb; omega) _ _ (ReV.kept hkz (fun b hb _ => by have hb : z + 3 ≤ b := hb; show ¬ b = z + 2; omega) _ _ HMa), hkf, gdt_one HS2.out HD1.out _ (by decide)⟩
    · go_wp2_with fail
      refine (HKid.out W1 (Kp.refl No W1) 0 (by omega)).mono ?_
      rintro e w2 ⟨vk, vf, va, vn, vc, tr, rfl, hv2, hk2, hs2⟩
      obtain ⟨g, hg⟩ : ∃ g, w2.heap.size = g := ⟨_, rfl⟩
      have hm := made1 (T := fun b => z + 3 ≤ b) (ReV.wider (T' := fun b => z + 3 ≤ b) (fun b hb _ => by have h8 := HZ1.out; omega) _ _ hv2) (by have h8 := HZ1.out; have h9 := hk2.size; show z + 3 ≤ w2.heap.size; omega) 6 nul 30
      have hka := hk2.alloc (.cells (cellsR vk vf va vn vc) 30)
      rw [hg] at hm
      have HM := Hid_mk hm
      have HKA := Hid_mk hka
      have HG := Hid_mk hg
      have HS2 := Hid_mk hs2
      obtain ⟨r0, r1, r2, r3, r4, r5, rw1⟩ := HR1.out.kept hka id
      unfold cellsR at r0 r1 r2 r3 r4 r5 rw1 ⊢
      clear hm hka hg hs2 hv2 hk2
      go_wp2
      rw [HG.out]
      obtain ⟨w3, hw3⟩ : ∃ w3, w2.alloc (.cells #[.int .i64 vk, .int .u64 (wd vf 0 64 : Nat), .int .u64 (wd vf 64 64 : Nat), .int .u64 (wd vf 128 64 : Nat), .int .u64 (wd vf 192 64 : Nat), .slice va vn vc] 30) = w3 := ⟨_, rfl⟩
      have HMa := HM.out
      have HKb := HKA.out
      unfold cellsR at HMa HKb
      rw [hw3] at r0 r1 r2 r3 r4 r5 rw1 HMa HKb ⊢
      simp only [wd_nul, Int.natCast_zero] at HMa
      have hz := HZ.out
      have hz2 := HZ1.out
      have hkz : Kp (fun b => b = z + 2) w3 (putR w3 (z + 2) (.int .i64 6) (.int .u64 0) (.int .u64 0) (.int .u64 0) (.int .u64 0) (.slice (some ⟨g, 0, none⟩) 1 1)) := kp_putR (q := z + 2) (Kp.refl (fun b => b = z + 2) w3) (fun _ => rfl) _ _ _ _ _ _
      have hkf : Kp No w (putR w3 (z + 2) (.int .i64 6) (.int .u64 0) (.int .u64 0) (.int .u64 0) (.int .u64 0) (.slice (some ⟨g, 0, none⟩) 1 1)) := (HK1.out.trans' HKb).trans hkz (T := fun b => b = z + 2) fun i hi e => by have e : i = z + 2 := e; omega
      refine bodyPost_ret (v := .agg #[.int .i64 6, .int .u64 0, .int .u64 0, .int .u64 0, .int .u64 0, .slice (some ⟨g, 0, none⟩) 1 1]) ?_ rfl ?_
      · simp [results, Try.results9, go_sem, r0, r1, r2, r3, r4, r5]
      · exact ⟨6, nul, _, _, _, .mk 6 nul [tr], rfl, ReV.wider (fun b hb _ => by have hb : z + 3 ≤ b := hb; omega) _ _ (ReV.kept hkz (fun b hb _ => by have hb : z + 3 ≤ b := hb; show ¬ b = z + 2; omega) _ _ HMa), hkf, gdt_one HS2.out HD1.out _ (by decide)⟩

end Go.Proofs.Ytaneblecgjahbab.ere
