/- Package ere: so many of a part in a row. -/
import Derived.Test.YtaneblecgjahbabNfaAllM
import Derived.Test.YtaneblecgjahbabEreCopied
import Derived.Test.YtaneblecgjahbabEreSignM
import Derived.Test.YtaneblecgjahbabEreJoin

namespace Go.Proofs.Ytaneblecgjahbab.ere
open Go.RowKit Go.Proofs.Ytaneblecgjahbab.sum Go.Proofs.Ytaneblecgjahbab.kept Go.Proofs.Ytaneblecgjahbab.pop Go.Proofs.Ytaneblecgjahbab.cls Go.Proofs.Ytaneblecgjahbab.tre Go.Proofs.Ytaneblecgjahbab.str
set_option linter.unusedVariables false

theorem LsAt.wid {T T' : Nat → Prop} {w : World} {q base : Nat} {v : Value} {es : List El} {ts : List Tr} (h : LsAt T w q base v es ts) (hT : ∀ b, T b → T' b) (ho : ∀ g, v.ownBlock = some g → ¬ T' g) (hi : ∀ b, T' b → base ≤ b ∧ b < w.heap.size) (hq : ¬ T' q) : LsAt T' w q base v es ts :=
  ⟨h.c0, h.c1, h.warm, ⟨h.lt.1, hq, h.lt.2.2⟩, h.le, h.big, h.same, h.row, fun e he => ReV.wider (fun b hb _ => hT b hb) _ _ (h.ok e he), ho, hi⟩
theorem LsAt.keptR {S T : Nat → Prop} {w w' : World} {q base : Nat} {v : Value} {es : List El} {ts : List Tr} (h : LsAt T w q base v es ts) (hk : Kp S w w') (hq : ¬ S q) (hv : ∀ g, v.ownBlock = some g → ¬ S g) (hT : ∀ b, T b → ¬ S b) : LsAt T w' q base v es ts :=
  ⟨hk.cell' h.c0 hq, hk.cell' h.c1 hq, fun i => (hk.frozen (p := ⟨q, i, none⟩) (World.block_lt_of_cell? w ⟨q, 0, none⟩ h.c0) hq).trans (h.warm i), ⟨Nat.lt_of_lt_of_le h.lt.1 hk.size, h.lt.2⟩, Nat.le_trans h.le hk.size, h.big, h.same,
    owns_kept h.row hk hv, fun e he => ReV.kept hk (fun b hb _ => hT b hb) _ _ (h.ok e he), h.out, fun b hb => ⟨(h.inn b hb).1, Nat.lt_of_lt_of_le (h.inn b hb).2 hk.size⟩⟩
theorem LsAt.fresh (T : Nat → Prop) {w : World} {q : Nat} (hq : q < w.heap.size) (c0 : w.cell? ⟨q, 0, none⟩ = some (.slice none 0 0)) (c1 : w.cell? ⟨q, 1, none⟩ = some (.int .i64 0)) (hw : ∀ i, w.frozen? ⟨q, i, none⟩ = false) (hT : ∀ b, T b → b < w.heap.size) (hTq : ¬ T q) : LsAt T w q 0 (.slice none 0 0) [] [] :=
  ⟨c0, c1, hw, ⟨hq, hTq, fun e => by cases e⟩, Nat.zero_le _, fun _ => ⟨rfl, rfl⟩, fun _ => rfl, World.ownsRow_nil _ _ _ _, fun e he => (by cases he), fun g hg => (by cases hg), fun b hb => ⟨Nat.zero_le _, hT b hb⟩⟩
/-- where trees may lie: what was there before, and what is newer than the list -/
def TZ (T0 : Nat → Prop) (z q : Nat) : Nat → Prop := fun b => (T0 b ∧ b < z) ∨ q < b
def TA (T0 : Nat → Prop) (z q : Nat) (w : World) (v : Value) : Nat → Prop := fun b => TZ T0 z q b ∧ b < w.heap.size ∧ v.ownBlock ≠ some b
def AgRel (T0 : Nat → Prop) (W7 : World) (z q : Nat) (t : Tr) (x : Nat × Nat × Bool) (n : Nat) (k : Value) (wr : World) : Prop :=
  ∃ (j : Nat) (v : Value) (es : List El), j ≤ n ∧ k = .int .i64 (j : Int) ∧ LsAt (TA T0 z q wr v) wr q 0 v es ((rowT t x).take j) ∧ (∀ g, v.ownBlock = some g → q < g) ∧ Kp (fun b => q ≤ b) W7 wr
theorem AgRel.next {T0 Ta : Nat → Prop} {W7 w6 w' : World} {z q j n : Nat} {t u : Tr} {x : Nat × Nat × Bool} {v v' : Value} {es' : List El} (hz : z ≤ q) (hl : LsAt Ta w' q 0 v' es' ((rowT t x).take j ++ [u])) (hjn : j < n) (hj : j < (rowT t x).length) (hu : (rowT t x)[j] = u) (hTz : ∀ b, Ta b → TZ T0 z q b)
    (hv : ∀ g, v.ownBlock = some g → q < g) (hloc : v'.ownBlock = v.ownBlock ∨ v'.ownBlock = none ∨ ∃ g, v'.ownBlock = some g ∧ w6.heap.size ≤ g) (hq : q < w6.heap.size) (hk6 : Kp (fun b => q ≤ b) W7 w6) (hk : Kp (fun b => b = q ∨ some b = v.ownBlock) w6 w') : AgRel T0 W7 z q t x n (.int .i64 ((j : Int) + 1)) w' := by
  have hv' : ∀ g, v'.ownBlock = some g → q < g := fun g hg => by
    rcases hloc with e | e | ⟨g', e, h⟩
    · exact hv g (e ▸ hg)
    · rw [e] at hg; cases hg
    · rw [e] at hg; cases hg; omega
  refine ⟨j + 1, v', es', hjn, by congr 1, ?_, hv', hk6.trans hk fun b _ hb => ?_⟩
  · rw [List.take_succ_eq_append_getElem hj, hu]
    exact hl.wid (fun b hb => ⟨hTz b hb, (hl.inn b hb).2, fun e => hl.out b e hb⟩) (fun g hg hT => hT.2.2 hg) (fun b hb => ⟨Nat.zero_le _, hb.2.1⟩) (fun h => by rcases h.1 with h | h <;> omega)
  · rcases hb with rfl | hb
    · exact Nat.le_refl _
    · exact Nat.le_of_lt (hv b hb.symm)
theorem copied_v {T : Nat → Prop} {w : World} {t : Tr} {yk : Int} {yf : Nat → Bool} {ya : Option Addr} {yn yc : Nat} (h : ReV T w t (.agg (cellsR yk yf ya yn yc))) (hs : t.size ≤ 16000) :
    Calls Try.prog 115 #[.agg (cellsR yk yf ya yn yc)] w fun e w' => ∃ (a : Option Addr) (c : Nat), e = .returned (.agg (cellsR yk yf a yn c)) ∧ ReV (fun z => w.heap.size ≤ z) w' t (.agg (cellsR yk yf a yn c)) ∧ Kp No w w' := by
  refine (copied_any 16000 T t hs (by decide) w _ h).mono ?_
  rintro e w' ⟨k, f, l, a, c, rfl, rfl, hv, hk⟩
  obtain ⟨a0, c0, e0, -⟩ := h
  have e1 : cellsR yk yf a yn c = cellsR k f a l.length c := by
    injection e0 with e0
    simp at e0
    obtain ⟨h0, h1, h2, h3, h4, -, h5, -⟩ := e0
    simp [cellsR, h0, h1, h2, h3, h4, h5]
  exact ⟨a, c, by rw [e1], by rw [e1]; exact hv, hk⟩
theorem tz_new {T0 : Nat → Prop} {z q : Nat} {w : World} (h : q < w.heap.size) : ∀ b, w.heap.size ≤ b → TZ T0 z q b := fun b hb => .inr (by omega)

set_option maxRecDepth 100000 in
set_option maxHeartbeats 8000000 in
theorem again_true (T : Nat → Prop) (w : World) (t : Tr) (v : Value) (m : Nat) (hv : PtV T w (absP t) v) (h1 : m ≤ m) (h2 : m ≤ 50) :
    Calls Try.prog 105 #[v, .agg #[.int .i64 (m : Int), .int .i64 (m : Int), .bool true]] w fun e w' => ∃ v', e = .returned v' ∧ PtV (fun b => T b ∨ w.heap.size ≤ b) w' (absP (againT t (m, m, true))) v' ∧ Kp No w w' := by
  obtain ⟨yk, yf, ya, yn, yc, rfl, hyo⟩ := hv
  obtain ⟨L, hL⟩ : ∃ L, (absP t).n = L := ⟨_, rfl⟩
  obtain ⟨H, hH⟩ : ∃ H, (absP t).h = H := ⟨_, rfl⟩
  have hL1 : L ≤ 401 := by rw [← hL]; exact absP_n t
  have hL2 : 1 ≤ L := by rw [← hL]; exact absP_pos t
  have hH1 : H ≤ 41 := by rw [← hH]; exact absP_h t
  rw [hL, hH]
  obtain ⟨n, hn⟩ : ∃ n, rowN (m, m, true) = n := ⟨_, rfl⟩
  have hnM : n = m + 1 := by rw [← hn]; rfl
  have hnl : n ≤ 51 := by omega
  obtain ⟨z, hz⟩ : ∃ z, w.heap.size = z := ⟨_, rfl⟩
  have HLf := Hid_mk fun W => leaf_any W 0
  have HOv := Hid_mk fun W => over_any W
  have HN := Hid_mk hn
  have HZ := Hid_mk hz
  have HYo := Hid_mk hyo
  have HL := Hid_mk hL
  have HH := Hid_mk hH
  have HNM := Hid_mk hnM
  have hrl : (rowT t (m, m, true)).length = n := by rw [row_len t (m, m, true) h1 (fun e => rfl), hn]
  have HRl := Hid_mk hrl
  go_enter Try.func105, Try.ntmps105
  unfold cellsP
  go_upto_region 1 with fail
  refine wp_name (fun W => Kp No w W ∧ W.heap.size = z + 3 ∧ PAt W z (.int .i64 yk) (.int .u64 (wd yf 0 64 : Nat)) (.int .u64 (wd yf 64 64 : Nat)) (.int .u64 (wd yf 128 64 : Nat)) (.int .u64 (wd yf 192 64 : Nat)) (.slice ya yn yc) (.int .i64 (L : Int)) (.int .i64 (H : Int)) ∧ (W.cell? ⟨z + 1, 0, none⟩ = some (.int .i64 (m : Int)) ∧ W.cell? ⟨z + 1, 1, none⟩ = some (.int .i64 (m : Int)) ∧ W.cell? ⟨z + 1, 2, none⟩ = some (.bool true)) ∧ PAt W (z + 1 + 1) (.int .i64 0) (.int .u64 0) (.int .u64 0) (.int .u64 0) (.int .u64 0) (.slice none 0 0) (.int .i64 0) (.int .i64 0)) ?_ ?_
  · rw [← hz]
    refine ⟨(((Kp.refl No w).alloc _).alloc _).alloc _, by simp, ((PAt.new w _ _ _ _ _ _ _ _ _).kept ((Kp.refl No _).alloc _) id).kept ((Kp.refl No _).alloc _) id, ?_, ?_⟩
    · have e : w.heap.size + 1 = (w.alloc (.cells #[.int .i64 yk, .int .u64 (wd yf 0 64 : Nat), .int .u64 (wd yf 64 64 : Nat), .int .u64 (wd yf 128 64 : Nat), .int .u64 (wd yf 192 64 : Nat), .slice ya yn yc, .int .i64 (L : Int), .int .i64 (H : Int)] 102)).heap.size := by simp
      rw [e]
      refine ⟨?_, ?_, ?_⟩ <;> refine Kp.cell' ((Kp.refl No _).alloc _) ?_ id <;> simp
    · have e : ∀ o o' : Obj, ((w.alloc o).alloc o').heap.size = w.heap.size + 1 + 1 := fun o o' => by simp
      rw [← e]
      exact PAt.new _ _ _ _ _ _ _ _ _ _
  rintro W0 ⟨hk0, hz0, hp0, ⟨t0, t1, t2⟩, hr0⟩
  have HK0 := Hid_mk hk0
  have HZ0 := Hid_mk hz0
  have HP0 := Hid_mk hp0
  have HR0 := Hid_mk hr0
  have HT0 := Hid_mk t0
  have HT2 := Hid_mk t2
  obtain ⟨p0, p1, p2, p3, p4, p5, p6, p7, pw⟩ := hp0
  obtain ⟨r0, r1, r2, r3, r4, r5, r6, r7, rw'⟩ := hr0
  clear hk0 hn hyo hL hH hrl
  have hn0 : ((n : Int) == 0) = false := by rw [beq_eq_false_iff_ne]; omega
  clear hnM
  go_upto_region 4 with fail
  rw [show ((m : Int) + 1) = (n : Int) from by have := HNM.out; omega]
  obtain ⟨nL, hnL⟩ : ∃ nL, n * L = nL := ⟨_, rfl⟩
  have hnLb : nL ≤ 51 * 401 := by rw [← hnL]; exact Nat.mul_le_mul hnl hL1
  have hwL : IntKind.i64.wrap ((n : Int) * (L : Int)) = (nL : Int) := by rw [← hnL, IntWalk.i64_in _ (by rw [← Int.natCast_mul, hnL]; omega)]; simp
  have HNL := Hid_mk hnL
  have HNLB := Hid_mk hnLb
  clear hnL
  by_cases hbig : 400 < nL
  · have hbi : (nL : Int) > 400 := by omega
    have hov : absP (againT t (m, m, true)) = overP := join_over 2 (.inl rfl) _ (row_over h1 (fun e => rfl) (by rw [HN.out, HL.out, HNL.out]; exact hbig))
    have HOvr := Hid_mk hov
    clear hov hbig hnLb
    go_upto_region 7 with fail
    clear hwL
    go_wp2_with fail
    with_reducible refine (HOv.out _).mono ?_
    rintro e W1 ⟨rfl, hk1⟩
    have hr1 := HR0.out.kept hk1 id
    clear r0 r1 r2 r3 r4 r5 r6 r7 p0 p1 p2 p3 p4 p5 p6 p7 t0 t1 t2 pw rw'
    obtain ⟨r0, r1, r2, r3, r4, r5, r6, r7, rw'⟩ := hr1
    unfold cellsP
    go_wp2
    have hkf := (HK0.out.trans' hk1).trans (kp_putP (q := z + 1 + 1) (Kp.refl (fun b => b = z + 1 + 1) W1) (fun _ => rfl) (.int .i64 0) (.int .u64 (wd nul 0 64 : Nat)) (.int .u64 (wd nul 64 64 : Nat)) (.int .u64 (wd nul 128 64 : Nat)) (.int .u64 (wd nul 192 64 : Nat)) (.slice none 0 0) (.int .i64 401) (.int .i64 41)) (T := fun b => b = z + 1 + 1) (fun i hi e => by have := HZ.out; omega)
    refine bodyPost_ret (v := .agg (cellsP 0 nul none 0 0 401 41)) ?_ rfl ?_
    rotate_left
    · rw [HOvr.out]
      exact ⟨_, rfl, over_val _ _, hkf⟩
    simp [results, Try.results105, go_sem, cellsP, wd_nul, r0, r1, r2, r3, r4, r5, r6, r7]
  have hbi : ¬ (nL : Int) > 400 := by omega
  have HBig := Hid_mk hbig
  have hfit : fitsB t = true := (absP_iff t).1 (by rw [HL.out]; have h9 : 1 * L ≤ n * L := Nat.mul_le_mul_right L (by have := HNM.out; omega); have := HNL.out; omega)
  have hab : (absP t).t = t := by rw [absP_fits hfit]
  have hyo := HYo.out
  rw [hab] at hyo
  have HV := Hid_mk hyo
  have HFit := Hid_mk hfit
  clear hbig hnLb hfit hab hyo
  go_upto_region 9 with fail
  refine wp_name (fun W => Kp No W0 W ∧ W.heap.size = z + 4 ∧ W.cell? ⟨z + 3, 0, none⟩ = some (.slice none 0 0) ∧ W.cell? ⟨z + 3, 1, none⟩ = some (.int .i64 0) ∧ (∀ i, W.frozen? ⟨z + 3, i, none⟩ = false)) ?_ ?_
  · refine ⟨(Kp.refl No W0).alloc _, by simp [HZ0.out], ?_, ?_, fun i => ?_⟩ <;> (rw [← HZ0.out]; simp)
  rintro W7 ⟨hk7, hz7, l0, l1, lw⟩
  have HK7 := Hid_mk hk7
  have HZ7 := Hid_mk hz7
  have hl0 : LsAt (TA T z (z + 3) W7 (.slice none 0 0)) W7 (z + 3) 0 (.slice none 0 0) [] [] := LsAt.fresh _ (by omega) l0 l1 lw (fun b hb => hb.2.1) (fun hb => by rcases hb.1 with h | h <;> omega)
  have HL0 := Hid_mk hl0
  clear hk7 hz7 l0 l1 lw hl0 p0 p1 p2 p3 p4 p5 p6 p7 pw r0 r1 r2 r3 r4 r5 r6 r7 rw' t0 t1 t2 hz hz0 hwL hbi
  go_wp2
  go_loopw [25] (fun k wr => AgRel T W7 z (z + 3) t (m, m, true) n k wr) (fun k _ => n - (intOf k).toNat)
  case atStart =>
    exact ⟨0, _, [], Nat.zero_le _, rfl, HL0.out, fun g hg => (by cases hg), Kp.refl _ _⟩
  case round =>
    obtain ⟨j, v, es, hj, rfl, hl, hvg, hkr⟩ := hrel
    have hkz : Kp (fun b => z + 3 ≤ b) W0 wr := (HK7.out.to).trans' hkr
    have hsz : z + 4 ≤ wr.heap.size := by have h8 := hkr.size; have h9 := HZ7.out; omega
    have HPr := Hid_mk (HP0.out.kept hkz (by show ¬ z + 3 ≤ z; omega))
    have HRr := Hid_mk (HR0.out.kept hkz (by show ¬ z + 3 ≤ z + 1 + 1; omega))
    have HTr0 := Hid_mk (hkz.cell' HT0.out (by show ¬ z + 3 ≤ z + 1; omega))
    have HTr2 := Hid_mk (hkz.cell' HT2.out (by show ¬ z + 3 ≤ z + 1; omega))
    have HVr : Hid (ReV (fun b => T b ∧ b < z) wr t (.agg (cellsR yk yf ya yn yc))) := Hid_mk (ReV.kept hkz (fun b hb _ => by have := hb.2; omega) _ _ (ReV.no HK0.out _ _ (ReV.wider (fun b hb hlt => ⟨hb, by have := HZ.out; omega⟩) _ _ HV.out)))
    have HKz := Hid_mk hkz
    have HKr := Hid_mk hkr
    have HVg := Hid_mk hvg
    have HSz := Hid_mk hsz
    clear hkz hkr hvg
    by_cases hjn : j < n
    case neg =>
      have hji : ¬ (j : Int) < (n : Int) := by omega
      have htk : (rowT t (m, m, true)).take j = rowT t (m, m, true) := List.take_of_length_le (by rw [HRl.out]; omega)
      rw [htk] at hl
      have hne : rowT t (m, m, true) ≠ [] := fun e => by
        have h9 := HRl.out
        rw [e] at h9
        have h8 := HNM.out
        simp at h9
        omega
      have hjoin := joined_any _ wr (z + 3) 0 v es (rowT t (m, m, true)) 2 (.inl rfl) hl hne (by rw [HRl.out]; omega)
      have HJ := Hid_mk hjoin
      clear hjoin hne htk hl hjn
      go_wp2_with fail
      with_reducible refine HJ.out.mono ?_
      rintro e w2 ⟨u, rfl, hu, hk2⟩
      obtain ⟨uk, uf, ua, un, uc, rfl, hv2⟩ := hu
      obtain ⟨up, hup⟩ : ∃ up, absP (joinT 2 (rowT t (m, m, true))) = up := ⟨_, rfl⟩
      rw [hup] at hv2 ⊢
      have HUp := Hid_mk hup
      have HV2 := Hid_mk hv2
      have HK2 := Hid_mk hk2
      obtain ⟨r0, r1, r2, r3, r4, r5, r6, r7, rw'⟩ := HRr.out.kept hk2 id
      clear hup hv2 hk2 hji
      unfold cellsP
      go_wp2
      have hs2 := kp_putP (q := z + 1 + 1) (Kp.refl (fun b => b = z + 1 + 1) w2) (fun _ => rfl) (.int .i64 uk) (.int .u64 (wd uf 0 64 : Nat)) (.int .u64 (wd uf 64 64 : Nat)) (.int .u64 (wd uf 128 64 : Nat)) (.int .u64 (wd uf 192 64 : Nat)) (.slice ua un uc) (.int .i64 (up.n : Int)) (.int .i64 (up.h : Int))
      have hkw : Kp No w wr := HK0.out.trans HKz.out (T := fun b => z + 3 ≤ b) fun i hi e => by have := HZ.out; omega
      have hkf := (hkw.trans' HK2.out).trans hs2 (T := fun b => b = z + 1 + 1) fun i hi e => by have := HZ.out; omega
      refine bodyPost_ret (v := .agg (cellsP uk uf ua un uc up.n up.h)) ?_ rfl ?_
      rotate_left
      · refine ⟨_, rfl, ?_, hkf⟩
        rw [show absP (againT t (m, m, true)) = up from HUp.out]
        refine ⟨uk, uf, ua, un, uc, rfl, ReV.wider (fun b hb _ => ?_) _ _ (ReV.kept hs2 (fun b hb hlt e => ?_) _ _ HV2.out)⟩
        · rcases hb with hb | hb
          · rcases hb.1 with h | h
            · exact .inl h.1
            · exact .inr (by have := HZ.out; omega)
          · exact .inr (by have := HSz.out; have := HZ.out; omega)
        · subst e
          rcases hb with hb | hb
          · rcases hb.1 with h | h
            · have := h.2; omega
            · omega
          · have := HSz.out; omega
      simp [results, Try.results105, go_sem, cellsP, r0, r1, r2, r3, r4, r5, r6, r7]
    case pos =>
      have hji : (j : Int) < (n : Int) := by omega
      obtain ⟨q8, hq8⟩ : ∃ q8, wr.heap.size = q8 := ⟨_, rfl⟩
      rw [hq8] at hsz
      obtain ⟨p0, p1, p2, p3, p4, p5, p6, p7, pw⟩ := HPr.out
      have HLl := Hid_mk hl
      have HJn := Hid_mk hjn
      clear hl hjn
      go_upto_region 13 with fail
      refine wp_name (fun W => Kp No wr W ∧ W.heap.size = q8 + 1 ∧ PAt W q8 (.int .i64 yk) (.int .u64 (wd yf 0 64 : Nat)) (.int .u64 (wd yf 64 64 : Nat)) (.int .u64 (wd yf 128 64 : Nat)) (.int .u64 (wd yf 192 64 : Nat)) (.slice ya yn yc) (.int .i64 (L : Int)) (.int .i64 (H : Int))) ⟨(Kp.refl No wr).alloc _, by simp [hq8], by rw [← hq8]; exact PAt.new _ _ _ _ _ _ _ _ _ _⟩ ?_
      rintro W1 ⟨hk1, hz1, hp1⟩
      have HQ8 := Hid_mk hq8
      have HK1 := Hid_mk hk1
      have HZ1 := Hid_mk hz1
      have HP1 := Hid_mk hp1
      have HPz := Hid_mk (HPr.out.kept hk1 id)
      clear hk1 hz1 hp1 hq8 p0 p1 p2 p3 p4 p5 p6 p7 pw
      have hTn : ∀ b, q8 ≤ b → b ≠ q8 → (TZ T z (z + 3) b ∧ b ≠ q8 ∧ v.ownBlock ≠ some b) := fun b hb hne => ⟨.inr (by omega), hne, fun e => by
        have h7 := (HLl.out.row.lt b e).2
        have h8 := HQ8.out
        omega⟩
      have HTn := Hid_mk hTn
      clear hTn
      by_cases hj0 : j = 0
      case pos =>
        have hjg : ¬ (j : Int) > 0 := by omega
        have hK5 : Kp No wr W1 := HK1.out
        have hV5 : ReV (fun b => TZ T z (z + 3) b ∧ b ≠ q8 ∧ v.ownBlock ≠ some b) W1 t (.agg (cellsR yk yf ya yn yc)) := ReV.wider (fun b hb _ => ⟨.inl hb, by have := hb.2; omega, fun e => by have h1 := HVg.out b e; have h2 := hb.2; omega⟩) _ _ (ReV.no HK1.out _ _ HVr.out)
        have HK5 := Hid_mk hK5
        have HV5 := Hid_mk hV5
        have HA5 := Hid_mk HP1.out
        have hgt : q8 < W1.heap.size := by have := HZ1.out; omega
        clear hK5 hV5 hj0
        go_upto_region 16 with fail
        clear hjg
        have hL5 : LsAt (fun b => (TZ T z (z + 3) b ∧ b ≠ q8 ∧ v.ownBlock ≠ some b) ∧ b < W1.heap.size) W1 (z + 3) 0 v es ((rowT t (m, m, true)).take j) :=
          (HLl.out.no HK5.out).wid (fun b hb => ⟨⟨hb.1, by have h1 := hb.2.1; have h2 := HQ8.out; omega, hb.2.2⟩, by have h1 := hb.2.1; have h2 := HQ8.out; omega⟩) (fun g hg h => h.1.2.2 hg) (fun b hb => ⟨Nat.zero_le _, hb.2⟩) (fun h => by rcases h.1.1 with h | h <;> omega)
        have HL5 := Hid_mk hL5
        have HQL := Hid_mk hgt
        have c0 := HK5.out.cell' HTr0.out id
        have c2 := HK5.out.cell' HTr2.out id
        obtain ⟨p0, p1, p2, p3, p4, p5, p6, p7, pw⟩ := HA5.out
        have hab : (absP t).t = t := by rw [absP_fits HFit.out]
        have hlen : ((rowT t (m, m, true)).take j).length ≤ 1000000000 := by have h1 := HRl.out; have h2 := List.length_take_le j (rowT t (m, m, true)); omega
        have hx5 : PtV (fun b => TZ T z (z + 3) b ∧ b ≠ q8 ∧ v.ownBlock ≠ some b) W1 (absP t) (.agg (cellsP yk yf ya yn yc L H)) := ⟨yk, yf, ya, yn, yc, by rw [HL.out, HH.out], by rw [hab]; exact HV5.out⟩
        have hkw6 : Kp (fun b => z + 3 ≤ b) W7 W1 := HKr.out.trans' HK5.out.to
        have HKW := Hid_mk hkw6
        have HX5 := Hid_mk hx5
        have HLen := Hid_mk hlen
        clear hL5 hgt hab hlen hx5 hkw6
        by_cases hjm : j < m
        case pos =>
          have hjmi : (j : Int) < (m : Int) := by omega
          have hadd := add_own _ W1 (z + 3) 0 v es _ HL5.out t _ (HX5.out.wider (fun b hb hlt => ⟨hb, hlt⟩)) HLen.out
          have hu : (rowT t (m, m, true))[j]'(by rw [HRl.out]; exact HJn.out) = t := by rw [row_get t _ h1 (fun e => rfl) j, if_pos hjm]
          have HU := Hid_mk hu
          unfold cellsP at hadd
          have HAdd := Hid_mk hadd
          clear hadd hu hjm
          go_wp2_with fail
          with_reducible refine HAdd.out.mono ?_
          rintro e w7 ⟨rfl, ⟨v', es', hl', hloc⟩, hk7⟩
          have HL7 := Hid_mk hl'
          have HLoc := Hid_mk hloc
          have HK7' := Hid_mk hk7
          clear hl' hloc hk7 c0 c2 p0 p1 p2 p3 p4 p5 p6 p7 pw hjmi
          go_wp2
          go_roundw
          case rel => exact AgRel.next (by omega) HL7.out HJn.out (by rw [HRl.out]; exact HJn.out) HU.out (fun b hb => hb.1.1) HVg.out HLoc.out (by have := HQL.out; have := HSz.out; have := HQ8.out; omega) HKW.out HK7'.out
          case measure => have := HJn.out; simp only [intOf]; omega
        case neg =>
          have hjmi : ¬ (j : Int) < (m : Int) := by omega
          have hone : Calls Try.prog 103 #[.int .i64 4, .agg (cellsP yk yf ya yn yc L H)] W1 fun e w' => ∃ uk uf ua un uc up, e = .returned (.agg (cellsP uk uf ua un uc (Pt.n up) (Pt.h up))) ∧ up = absP (kid1 4 t) ∧ ReV (fun b => TZ T z (z + 3) b ∧ b ≠ q8 ∧ v.ownBlock ≠ some b) w' up.t (.agg (cellsR uk uf ua un uc)) ∧ Kp No W1 w' := by
            have h9 := one_any _ W1 4 _ _ HX5.out (fun b hb => HTn.out b (by have := HQL.out; omega) (by have := HQL.out; omega)) ⟨absP_n t, absP_h t⟩
            rw [← abs1] at h9
            refine h9.mono ?_
            rintro e w' ⟨v, rfl, ⟨k, f, a, n, c, rfl, hv⟩, hk⟩
            exact ⟨k, f, a, n, c, _, rfl, rfl, hv, hk⟩
          have hu : (rowT t (m, m, true))[j]'(by rw [HRl.out]; exact HJn.out) = kid1 4 t := by rw [row_get t _ h1 (fun e => rfl) j, if_neg hjm]; rfl
          have HU := Hid_mk hu
          unfold cellsP at hone
          have HOne := Hid_mk hone
          clear hone hu hjm
          go_wp2_with fail
          with_reducible refine HOne.out.mono ?_
          rintro e W6 ⟨uk, uf, ua', un, uc', up, rfl, hup, huo, hk6⟩
          have hL6 := (HL5.out.no hk6).wid (T' := fun b => (TZ T z (z + 3) b ∧ b ≠ q8 ∧ v.ownBlock ≠ some b) ∧ b < W6.heap.size) (fun b hb => ⟨hb.1, by have h1 := hb.2; have h2 := hk6.size; omega⟩) (fun g hg h => h.1.2.2 hg) (fun b hb => ⟨Nat.zero_le _, hb.2⟩) (fun h => by rcases h.1.1 with h | h <;> omega)
          have hx6 : PtV (fun b => (TZ T z (z + 3) b ∧ b ≠ q8 ∧ v.ownBlock ≠ some b) ∧ b < W6.heap.size) W6 (absP (kid1 4 t)) (.agg (cellsP uk uf ua' un uc' up.n up.h)) := by
            rw [← hup]
            exact ⟨uk, uf, ua', un, uc', rfl, ReV.wider (fun b hb hlt => ⟨hb, hlt⟩) _ _ huo⟩
          have hadd := add_own _ W6 (z + 3) 0 v es _ hL6 (kid1 4 t) _ hx6 HLen.out
          unfold cellsP at hadd
          have HAdd := Hid_mk hadd
          have HK6 := Hid_mk hk6
          clear hadd hx6 hL6 hup huo hk6 c0 c2 p0 p1 p2 p3 p4 p5 p6 p7 pw
          go_wp2_with fail
          with_reducible refine HAdd.out.mono ?_
          rintro e w7 ⟨rfl, ⟨v', es', hl', hloc⟩, hk7⟩
          have HL7 := Hid_mk hl'
          have HLoc := Hid_mk hloc
          have HK7' := Hid_mk hk7
          clear hl' hloc hk7 hjmi
          go_wp2
          go_roundw
          case rel => exact AgRel.next (by omega) HL7.out HJn.out (by rw [HRl.out]; exact HJn.out) HU.out (fun b hb => hb.1.1) HVg.out HLoc.out (by have := HQL.out; have := HK6.out.size; have := HSz.out; have := HQ8.out; omega) (HKW.out.trans' HK6.out.to) HK7'.out
          case measure => have := HJn.out; simp only [intOf]; omega

      case neg =>
        have hjg : (j : Int) > 0 := by omega
        have hcp := copied_v (ReV.no HK1.out _ _ HVr.out) (size_fits HFit.out)
        unfold cellsR at hcp
        have HCp := Hid_mk hcp
        obtain ⟨p0, p1, p2, p3, p4, p5, p6, p7, pw⟩ := HPz.out
        clear hcp hj0
        go_wp2_with fail
        with_reducible refine HCp.out.mono ?_
        rintro e W2 ⟨ua, uc, rfl, hv2, hk2⟩
        have hA2 := HP1.out.kept hk2 id
        have HV2 := Hid_mk hv2
        have HK2 := Hid_mk hk2
        have HA2 := Hid_mk hA2
        clear p0 p1 p2 p3 p4 p5 p6 p7 pw hv2 hk2
        obtain ⟨p0, p1, p2, p3, p4, p5, p6, p7, pw⟩ := hA2
        go_upto_region 16 with fail
        have hks := kp_putT (q := q8) (Kp.refl (fun b => b = q8) W2) (fun _ => rfl) (.int .i64 yk) (.int .u64 (wd yf 0 64 : Nat)) (.int .u64 (wd yf 64 64 : Nat)) (.int .u64 (wd yf 128 64 : Nat)) (.int .u64 (wd yf 192 64 : Nat)) (.slice ua yn uc)
        have hK5 := (HK1.out.trans' HK2.out).trans hks (T := fun b => b = q8) fun i hi e => by have := HQ8.out; omega
        have hA5 := HA2.out.putT (.int .i64 yk) (.int .u64 (wd yf 0 64 : Nat)) (.int .u64 (wd yf 64 64 : Nat)) (.int .u64 (wd yf 128 64 : Nat)) (.int .u64 (wd yf 192 64 : Nat)) (.slice ua yn uc)
        have hV5 := ReV.kept hks (T := fun b => TZ T z (z + 3) b ∧ b ≠ q8 ∧ v.ownBlock ≠ some b) (fun b hb _ => hb.2.1) _ _ (ReV.wider (fun b hb _ => HTn.out b (by have := HZ1.out; omega) (by have := HZ1.out; omega)) _ _ HV2.out)
        have hgt0 : q8 < W2.heap.size := by have h1 := HZ1.out; have h2 := HK2.out.size; omega
        have hgt1 := Nat.lt_of_lt_of_le hgt0 hks.size
        unfold putT at hK5 hA5 hV5 hgt1
        refine wp_name (fun W => Kp No wr W ∧ PAt W q8 (.int .i64 yk) (.int .u64 (wd yf 0 64 : Nat)) (.int .u64 (wd yf 64 64 : Nat)) (.int .u64 (wd yf 128 64 : Nat)) (.int .u64 (wd yf 192 64 : Nat)) (.slice ua yn uc) (.int .i64 (L : Int)) (.int .i64 (H : Int)) ∧ ReV (fun b => TZ T z (z + 3) b ∧ b ≠ q8 ∧ v.ownBlock ≠ some b) W t (.agg (cellsR yk yf ua yn uc)) ∧ q8 < W.heap.size) ⟨hK5, hA5, hV5, hgt1⟩ ?_
        clear hks hK5 hA5 hV5 hgt1 hgt0 p0 p1 p2 p3 p4 p5 p6 p7 pw
        rintro W5 ⟨hK5, hA5, hV5, hgt⟩
        have HK5 := Hid_mk hK5
        have HV5 := Hid_mk hV5
        have HA5 := Hid_mk hA5
        clear hK5 hA5 hV5 hjg
        have hL5 : LsAt (fun b => (TZ T z (z + 3) b ∧ b ≠ q8 ∧ v.ownBlock ≠ some b) ∧ b < W5.heap.size) W5 (z + 3) 0 v es ((rowT t (m, m, true)).take j) :=
          (HLl.out.no HK5.out).wid (fun b hb => ⟨⟨hb.1, by have h1 := hb.2.1; have h2 := HQ8.out; omega, hb.2.2⟩, by have h1 := hb.2.1; have h2 := HQ8.out; omega⟩) (fun g hg h => h.1.2.2 hg) (fun b hb => ⟨Nat.zero_le _, hb.2⟩) (fun h => by rcases h.1.1 with h | h <;> omega)
        have HL5 := Hid_mk hL5
        have HQL := Hid_mk hgt
        have c0 := HK5.out.cell' HTr0.out id
        have c2 := HK5.out.cell' HTr2.out id
        obtain ⟨p0, p1, p2, p3, p4, p5, p6, p7, pw⟩ := HA5.out
        have hab : (absP t).t = t := by rw [absP_fits HFit.out]
        have hlen : ((rowT t (m, m, true)).take j).length ≤ 1000000000 := by have h1 := HRl.out; have h2 := List.length_take_le j (rowT t (m, m, true)); omega
        have hx5 : PtV (fun b => TZ T z (z + 3) b ∧ b ≠ q8 ∧ v.ownBlock ≠ some b) W5 (absP t) (.agg (cellsP yk yf ua yn uc L H)) := ⟨yk, yf, ua, yn, uc, by rw [HL.out, HH.out], by rw [hab]; exact HV5.out⟩
        have hkw6 : Kp (fun b => z + 3 ≤ b) W7 W5 := HKr.out.trans' HK5.out.to
        have HKW := Hid_mk hkw6
        have HX5 := Hid_mk hx5
        have HLen := Hid_mk hlen
        clear hL5 hgt hab hlen hx5 hkw6
        by_cases hjm : j < m
        case pos =>
          have hjmi : (j : Int) < (m : Int) := by omega
          have hadd := add_own _ W5 (z + 3) 0 v es _ HL5.out t _ (HX5.out.wider (fun b hb hlt => ⟨hb, hlt⟩)) HLen.out
          have hu : (rowT t (m, m, true))[j]'(by rw [HRl.out]; exact HJn.out) = t := by rw [row_get t _ h1 (fun e => rfl) j, if_pos hjm]
          have HU := Hid_mk hu
          unfold cellsP at hadd
          have HAdd := Hid_mk hadd
          clear hadd hu hjm
          go_wp2_with fail
          with_reducible refine HAdd.out.mono ?_
          rintro e w7 ⟨rfl, ⟨v', es', hl', hloc⟩, hk7⟩
          have HL7 := Hid_mk hl'
          have HLoc := Hid_mk hloc
          have HK7' := Hid_mk hk7
          clear hl' hloc hk7 c0 c2 p0 p1 p2 p3 p4 p5 p6 p7 pw hjmi
          go_wp2
          go_roundw
          case rel => exact AgRel.next (by omega) HL7.out HJn.out (by rw [HRl.out]; exact HJn.out) HU.out (fun b hb => hb.1.1) HVg.out HLoc.out (by have := HQL.out; have := HSz.out; have := HQ8.out; omega) HKW.out HK7'.out
          case measure => have := HJn.out; simp only [intOf]; omega
        case neg =>
          have hjmi : ¬ (j : Int) < (m : Int) := by omega
          have hone : Calls Try.prog 103 #[.int .i64 4, .agg (cellsP yk yf ua yn uc L H)] W5 fun e w' => ∃ uk uf ua un uc up, e = .returned (.agg (cellsP uk uf ua un uc (Pt.n up) (Pt.h up))) ∧ up = absP (kid1 4 t) ∧ ReV (fun b => TZ T z (z + 3) b ∧ b ≠ q8 ∧ v.ownBlock ≠ some b) w' up.t (.agg (cellsR uk uf ua un uc)) ∧ Kp No W5 w' := by
            have h9 := one_any _ W5 4 _ _ HX5.out (fun b hb => HTn.out b (by have := HQL.out; omega) (by have := HQL.out; omega)) ⟨absP_n t, absP_h t⟩
            rw [← abs1] at h9
            refine h9.mono ?_
            rintro e w' ⟨v, rfl, ⟨k, f, a, n, c, rfl, hv⟩, hk⟩
            exact ⟨k, f, a, n, c, _, rfl, rfl, hv, hk⟩
          have hu : (rowT t (m, m, true))[j]'(by rw [HRl.out]; exact HJn.out) = kid1 4 t := by rw [row_get t _ h1 (fun e => rfl) j, if_neg hjm]; rfl
          have HU := Hid_mk hu
          unfold cellsP at hone
          have HOne := Hid_mk hone
          clear hone hu hjm
          go_wp2_with fail
          with_reducible refine HOne.out.mono ?_
          rintro e W6 ⟨uk, uf, ua', un, uc', up, rfl, hup, huo, hk6⟩
          have hL6 := (HL5.out.no hk6).wid (T' := fun b => (TZ T z (z + 3) b ∧ b ≠ q8 ∧ v.ownBlock ≠ some b) ∧ b < W6.heap.size) (fun b hb => ⟨hb.1, by have h1 := hb.2; have h2 := hk6.size; omega⟩) (fun g hg h => h.1.2.2 hg) (fun b hb => ⟨Nat.zero_le _, hb.2⟩) (fun h => by rcases h.1.1 with h | h <;> omega)
          have hx6 : PtV (fun b => (TZ T z (z + 3) b ∧ b ≠ q8 ∧ v.ownBlock ≠ some b) ∧ b < W6.heap.size) W6 (absP (kid1 4 t)) (.agg (cellsP uk uf ua' un uc' up.n up.h)) := by
            rw [← hup]
            exact ⟨uk, uf, ua', un, uc', rfl, ReV.wider (fun b hb hlt => ⟨hb, hlt⟩) _ _ huo⟩
          have hadd := add_own _ W6 (z + 3) 0 v es _ hL6 (kid1 4 t) _ hx6 HLen.out
          unfold cellsP at hadd
          have HAdd := Hid_mk hadd
          have HK6 := Hid_mk hk6
          clear hadd hx6 hL6 hup huo hk6 c0 c2 p0 p1 p2 p3 p4 p5 p6 p7 pw
          go_wp2_with fail
          with_reducible refine HAdd.out.mono ?_
          rintro e w7 ⟨rfl, ⟨v', es', hl', hloc⟩, hk7⟩
          have HL7 := Hid_mk hl'
          have HLoc := Hid_mk hloc
          have HK7' := Hid_mk hk7
          clear hl' hloc hk7 hjmi
          go_wp2
          go_roundw
          case rel => exact AgRel.next (by omega) HL7.out HJn.out (by rw [HRl.out]; exact HJn.out) HU.out (fun b hb => hb.1.1) HVg.out HLoc.out (by have := HQL.out; have := HK6.out.size; have := HSz.out; have := HQ8.out; omega) (HKW.out.trans' HK6.out.to) HK7'.out
          case measure => have := HJn.out; simp only [intOf]; omega


set_option maxRecDepth 100000 in
set_option maxHeartbeats 8000000 in
theorem again_false (T : Nat → Prop) (w : World) (t : Tr) (v : Value) (m M : Nat) (hv : PtV T w (absP t) v) (h1 : m ≤ M) (h2 : M ≤ 50) :
    Calls Try.prog 105 #[v, .agg #[.int .i64 (m : Int), .int .i64 (M : Int), .bool false]] w fun e w' => ∃ v', e = .returned v' ∧ PtV (fun b => T b ∨ w.heap.size ≤ b) w' (absP (againT t (m, M, false))) v' ∧ Kp No w w' := by
  obtain ⟨yk, yf, ya, yn, yc, rfl, hyo⟩ := hv
  obtain ⟨L, hL⟩ : ∃ L, (absP t).n = L := ⟨_, rfl⟩
  obtain ⟨H, hH⟩ : ∃ H, (absP t).h = H := ⟨_, rfl⟩
  have hL1 : L ≤ 401 := by rw [← hL]; exact absP_n t
  have hL2 : 1 ≤ L := by rw [← hL]; exact absP_pos t
  have hH1 : H ≤ 41 := by rw [← hH]; exact absP_h t
  rw [hL, hH]
  obtain ⟨n, hn⟩ : ∃ n, rowN (m, M, false) = n := ⟨_, rfl⟩
  have hnM : n = M := by rw [← hn]; rfl
  have hnl : n ≤ 51 := by omega
  obtain ⟨z, hz⟩ : ∃ z, w.heap.size = z := ⟨_, rfl⟩
  have HLf := Hid_mk fun W => leaf_any W 0
  have HOv := Hid_mk fun W => over_any W
  have HN := Hid_mk hn
  have HZ := Hid_mk hz
  have HYo := Hid_mk hyo
  have HL := Hid_mk hL
  have HH := Hid_mk hH
  have HNM := Hid_mk hnM
  have hrl : (rowT t (m, M, false)).length = n := by rw [row_len t (m, M, false) h1 (fun e => (by cases e)), hn]
  have HRl := Hid_mk hrl
  go_enter Try.func105, Try.ntmps105
  unfold cellsP
  go_upto_region 1 with fail
  refine wp_name (fun W => Kp No w W ∧ W.heap.size = z + 3 ∧ PAt W z (.int .i64 yk) (.int .u64 (wd yf 0 64 : Nat)) (.int .u64 (wd yf 64 64 : Nat)) (.int .u64 (wd yf 128 64 : Nat)) (.int .u64 (wd yf 192 64 : Nat)) (.slice ya yn yc) (.int .i64 (L : Int)) (.int .i64 (H : Int)) ∧ (W.cell? ⟨z + 1, 0, none⟩ = some (.int .i64 (m : Int)) ∧ W.cell? ⟨z + 1, 1, none⟩ = some (.int .i64 (M : Int)) ∧ W.cell? ⟨z + 1, 2, none⟩ = some (.bool false)) ∧ PAt W (z + 1 + 1) (.int .i64 0) (.int .u64 0) (.int .u64 0) (.int .u64 0) (.int .u64 0) (.slice none 0 0) (.int .i64 0) (.int .i64 0)) ?_ ?_
  · rw [← hz]
    refine ⟨(((Kp.refl No w).alloc _).alloc _).alloc _, by simp, ((PAt.new w _ _ _ _ _ _ _ _ _).kept ((Kp.refl No _).alloc _) id).kept ((Kp.refl No _).alloc _) id, ?_, ?_⟩
    · have e : w.heap.size + 1 = (w.alloc (.cells #[.int .i64 yk, .int .u64 (wd yf 0 64 : Nat), .int .u64 (wd yf 64 64 : Nat), .int .u64 (wd yf 128 64 : Nat), .int .u64 (wd yf 192 64 : Nat), .slice ya yn yc, .int .i64 (L : Int), .int .i64 (H : Int)] 102)).heap.size := by simp
      rw [e]
      refine ⟨?_, ?_, ?_⟩ <;> refine Kp.cell' ((Kp.refl No _).alloc _) ?_ id <;> simp
    · have e : ∀ o o' : Obj, ((w.alloc o).alloc o').heap.size = w.heap.size + 1 + 1 := fun o o' => by simp
      rw [← e]
      exact PAt.new _ _ _ _ _ _ _ _ _ _
  rintro W0 ⟨hk0, hz0, hp0, ⟨t0, t1, t2⟩, hr0⟩
  have HK0 := Hid_mk hk0
  have HZ0 := Hid_mk hz0
  have HP0 := Hid_mk hp0
  have HR0 := Hid_mk hr0
  have HT0 := Hid_mk t0
  have HT2 := Hid_mk t2
  obtain ⟨p0, p1, p2, p3, p4, p5, p6, p7, pw⟩ := hp0
  obtain ⟨r0, r1, r2, r3, r4, r5, r6, r7, rw'⟩ := hr0
  clear hk0 hn hyo hL hH hrl
  by_cases hn0 : n = 0
  · have hM0 : M = 0 := by omega
    have hm0 : m = 0 := by omega
    subst hM0
    subst hm0
    have hat : againT t (0, 0, false) = leafT 0 := by rfl
    have habs : absP (leafT 0) = ⟨leafT 0, 1, 1⟩ := by kernel_rfl
    have HAt := Hid_mk hat
    have HAbs := Hid_mk habs
    clear hn0 hnM hz hz0 pw rw' hat habs
    go_wp2_with fail
    with_reducible refine (HLf.out _).mono ?_
    rintro e W1 ⟨rfl, hk1⟩
    have hr1 := HR0.out.kept hk1 id
    clear r0 r1 r2 r3 r4 r5 r6 r7 p0 p1 p2 p3 p4 p5 p6 p7 t0 t1 t2
    obtain ⟨r0, r1, r2, r3, r4, r5, r6, r7, rw'⟩ := hr1
    unfold cellsP
    go_wp2
    have hkf := (HK0.out.trans' hk1).trans (kp_putP (q := z + 1 + 1) (Kp.refl (fun b => b = z + 1 + 1) W1) (fun _ => rfl) (.int .i64 0) (.int .u64 (wd nul 0 64 : Nat)) (.int .u64 (wd nul 64 64 : Nat)) (.int .u64 (wd nul 128 64 : Nat)) (.int .u64 (wd nul 192 64 : Nat)) (.slice none 0 0) (.int .i64 1) (.int .i64 1)) (T := fun b => b = z + 1 + 1) (fun i hi e => by have := HZ.out; omega)
    refine bodyPost_ret (v := .agg (cellsP 0 nul none 0 0 1 1)) ?_ rfl ?_
    rotate_left
    · rw [HAt.out, HAbs.out]
      exact ⟨_, rfl, ⟨0, nul, none, 0, 0, rfl, leaf_val _ _ 0 nul 0 (by decide) none⟩, hkf⟩
    simp [results, Try.results105, go_sem, cellsP, wd_nul, r0, r1, r2, r3, r4, r5, r6, r7]
  obtain rfl : n = M := hnM
  have hn0' : ((n : Int) == 0) = false := by rw [beq_eq_false_iff_ne]; omega
  have HN0 := Hid_mk hn0
  clear hn0
  obtain ⟨nL, hnL⟩ : ∃ nL, n * L = nL := ⟨_, rfl⟩
  have hnLb : nL ≤ 51 * 401 := by rw [← hnL]; exact Nat.mul_le_mul hnl hL1
  have hwL : IntKind.i64.wrap ((n : Int) * (L : Int)) = (nL : Int) := by rw [← hnL, IntWalk.i64_in _ (by rw [← Int.natCast_mul, hnL]; omega)]; simp
  have HNL := Hid_mk hnL
  have HNLB := Hid_mk hnLb
  clear hnL
  by_cases hbig : 400 < nL
  · have hbi : (nL : Int) > 400 := by omega
    have hov : absP (againT t (m, n, false)) = overP := join_over 2 (.inl rfl) _ (row_over h1 (fun e => (by cases e)) (by rw [HN.out, HL.out, HNL.out]; exact hbig))
    have HOvr := Hid_mk hov
    clear hov hbig hnLb
    go_upto_region 7 with fail
    clear hwL
    go_wp2_with fail
    with_reducible refine (HOv.out _).mono ?_
    rintro e W1 ⟨rfl, hk1⟩
    have hr1 := HR0.out.kept hk1 id
    clear r0 r1 r2 r3 r4 r5 r6 r7 p0 p1 p2 p3 p4 p5 p6 p7 t0 t1 t2 pw rw'
    obtain ⟨r0, r1, r2, r3, r4, r5, r6, r7, rw'⟩ := hr1
    unfold cellsP
    go_wp2
    have hkf := (HK0.out.trans' hk1).trans (kp_putP (q := z + 1 + 1) (Kp.refl (fun b => b = z + 1 + 1) W1) (fun _ => rfl) (.int .i64 0) (.int .u64 (wd nul 0 64 : Nat)) (.int .u64 (wd nul 64 64 : Nat)) (.int .u64 (wd nul 128 64 : Nat)) (.int .u64 (wd nul 192 64 : Nat)) (.slice none 0 0) (.int .i64 401) (.int .i64 41)) (T := fun b => b = z + 1 + 1) (fun i hi e => by have := HZ.out; omega)
    refine bodyPost_ret (v := .agg (cellsP 0 nul none 0 0 401 41)) ?_ rfl ?_
    rotate_left
    · rw [HOvr.out]
      exact ⟨_, rfl, over_val _ _, hkf⟩
    simp [results, Try.results105, go_sem, cellsP, wd_nul, r0, r1, r2, r3, r4, r5, r6, r7]
  have hbi : ¬ (nL : Int) > 400 := by omega
  have HBig := Hid_mk hbig
  have hfit : fitsB t = true := (absP_iff t).1 (by rw [HL.out]; have h9 : 1 * L ≤ n * L := Nat.mul_le_mul_right L (by have := HNM.out; have := HN0.out; omega); have := HNL.out; omega)
  have hab : (absP t).t = t := by rw [absP_fits hfit]
  have hyo := HYo.out
  rw [hab] at hyo
  have HV := Hid_mk hyo
  have HFit := Hid_mk hfit
  clear hbig hnLb hfit hab hyo
  go_upto_region 9 with fail
  refine wp_name (fun W => Kp No W0 W ∧ W.heap.size = z + 4 ∧ W.cell? ⟨z + 3, 0, none⟩ = some (.slice none 0 0) ∧ W.cell? ⟨z + 3, 1, none⟩ = some (.int .i64 0) ∧ (∀ i, W.frozen? ⟨z + 3, i, none⟩ = false)) ?_ ?_
  · refine ⟨(Kp.refl No W0).alloc _, by simp [HZ0.out], ?_, ?_, fun i => ?_⟩ <;> (rw [← HZ0.out]; simp)
  rintro W7 ⟨hk7, hz7, l0, l1, lw⟩
  have HK7 := Hid_mk hk7
  have HZ7 := Hid_mk hz7
  have hl0 : LsAt (TA T z (z + 3) W7 (.slice none 0 0)) W7 (z + 3) 0 (.slice none 0 0) [] [] := LsAt.fresh _ (by omega) l0 l1 lw (fun b hb => hb.2.1) (fun hb => by rcases hb.1 with h | h <;> omega)
  have HL0 := Hid_mk hl0
  clear hk7 hz7 l0 l1 lw hl0 p0 p1 p2 p3 p4 p5 p6 p7 pw r0 r1 r2 r3 r4 r5 r6 r7 rw' t0 t1 t2 hz hz0 hwL hbi
  go_wp2
  go_loopw [25] (fun k wr => AgRel T W7 z (z + 3) t (m, n, false) n k wr) (fun k _ => n - (intOf k).toNat)
  case atStart =>
    exact ⟨0, _, [], Nat.zero_le _, rfl, HL0.out, fun g hg => (by cases hg), Kp.refl _ _⟩
  case round =>
    obtain ⟨j, v, es, hj, rfl, hl, hvg, hkr⟩ := hrel
    have hkz : Kp (fun b => z + 3 ≤ b) W0 wr := (HK7.out.to).trans' hkr
    have hsz : z + 4 ≤ wr.heap.size := by have h8 := hkr.size; have h9 := HZ7.out; omega
    have HPr := Hid_mk (HP0.out.kept hkz (by show ¬ z + 3 ≤ z; omega))
    have HRr := Hid_mk (HR0.out.kept hkz (by show ¬ z + 3 ≤ z + 1 + 1; omega))
    have HTr0 := Hid_mk (hkz.cell' HT0.out (by show ¬ z + 3 ≤ z + 1; omega))
    have HTr2 := Hid_mk (hkz.cell' HT2.out (by show ¬ z + 3 ≤ z + 1; omega))
    have HVr : Hid (ReV (fun b => T b ∧ b < z) wr t (.agg (cellsR yk yf ya yn yc))) := Hid_mk (ReV.kept hkz (fun b hb _ => by have := hb.2; omega) _ _ (ReV.no HK0.out _ _ (ReV.wider (fun b hb hlt => ⟨hb, by have := HZ.out; omega⟩) _ _ HV.out)))
    have HKz := Hid_mk hkz
    have HKr := Hid_mk hkr
    have HVg := Hid_mk hvg
    have HSz := Hid_mk hsz
    clear hkz hkr hvg
    by_cases hjn : j < n
    case neg =>
      have hji : ¬ (j : Int) < (n : Int) := by omega
      have htk : (rowT t (m, n, false)).take j = rowT t (m, n, false) := List.take_of_length_le (by rw [HRl.out]; omega)
      rw [htk] at hl
      have hne : rowT t (m, n, false) ≠ [] := fun e => by
        have h9 := HRl.out
        rw [e] at h9
        have h8 := HNM.out
        simp at h9
        have := HN0.out; omega
      have hjoin := joined_any _ wr (z + 3) 0 v es (rowT t (m, n, false)) 2 (.inl rfl) hl hne (by rw [HRl.out]; omega)
      have HJ := Hid_mk hjoin
      clear hjoin hne htk hl hjn
      go_wp2_with fail
      with_reducible refine HJ.out.mono ?_
      rintro e w2 ⟨u, rfl, hu, hk2⟩
      obtain ⟨uk, uf, ua, un, uc, rfl, hv2⟩ := hu
      obtain ⟨up, hup⟩ : ∃ up, absP (joinT 2 (rowT t (m, n, false))) = up := ⟨_, rfl⟩
      rw [hup] at hv2 ⊢
      have HUp := Hid_mk hup
      have HV2 := Hid_mk hv2
      have HK2 := Hid_mk hk2
      obtain ⟨r0, r1, r2, r3, r4, r5, r6, r7, rw'⟩ := HRr.out.kept hk2 id
      clear hup hv2 hk2 hji
      unfold cellsP
      go_wp2
      have hs2 := kp_putP (q := z + 1 + 1) (Kp.refl (fun b => b = z + 1 + 1) w2) (fun _ => rfl) (.int .i64 uk) (.int .u64 (wd uf 0 64 : Nat)) (.int .u64 (wd uf 64 64 : Nat)) (.int .u64 (wd uf 128 64 : Nat)) (.int .u64 (wd uf 192 64 : Nat)) (.slice ua un uc) (.int .i64 (up.n : Int)) (.int .i64 (up.h : Int))
      have hkw : Kp No w wr := HK0.out.trans HKz.out (T := fun b => z + 3 ≤ b) fun i hi e => by have := HZ.out; omega
      have hkf := (hkw.trans' HK2.out).trans hs2 (T := fun b => b = z + 1 + 1) fun i hi e => by have := HZ.out; omega
      refine bodyPost_ret (v := .agg (cellsP uk uf ua un uc up.n up.h)) ?_ rfl ?_
      rotate_left
      · refine ⟨_, rfl, ?_, hkf⟩
        rw [show absP (againT t (m, n, false)) = up from HUp.out]
        refine ⟨uk, uf, ua, un, uc, rfl, ReV.wider (fun b hb _ => ?_) _ _ (ReV.kept hs2 (fun b hb hlt e => ?_) _ _ HV2.out)⟩
        · rcases hb with hb | hb
          · rcases hb.1 with h | h
            · exact .inl h.1
            · exact .inr (by have := HZ.out; omega)
          · exact .inr (by have := HSz.out; have := HZ.out; omega)
        · subst e
          rcases hb with hb | hb
          · rcases hb.1 with h | h
            · have := h.2; omega
            · omega
          · have := HSz.out; omega
      simp [results, Try.results105, go_sem, cellsP, r0, r1, r2, r3, r4, r5, r6, r7]
    case pos =>
      have hji : (j : Int) < (n : Int) := by omega
      obtain ⟨q8, hq8⟩ : ∃ q8, wr.heap.size = q8 := ⟨_, rfl⟩
      rw [hq8] at hsz
      obtain ⟨p0, p1, p2, p3, p4, p5, p6, p7, pw⟩ := HPr.out
      have HLl := Hid_mk hl
      have HJn := Hid_mk hjn
      clear hl hjn
      go_upto_region 13 with fail
      refine wp_name (fun W => Kp No wr W ∧ W.heap.size = q8 + 1 ∧ PAt W q8 (.int .i64 yk) (.int .u64 (wd yf 0 64 : Nat)) (.int .u64 (wd yf 64 64 : Nat)) (.int .u64 (wd yf 128 64 : Nat)) (.int .u64 (wd yf 192 64 : Nat)) (.slice ya yn yc) (.int .i64 (L : Int)) (.int .i64 (H : Int))) ⟨(Kp.refl No wr).alloc _, by simp [hq8], by rw [← hq8]; exact PAt.new _ _ _ _ _ _ _ _ _ _⟩ ?_
      rintro W1 ⟨hk1, hz1, hp1⟩
      have HQ8 := Hid_mk hq8
      have HK1 := Hid_mk hk1
      have HZ1 := Hid_mk hz1
      have HP1 := Hid_mk hp1
      have HPz := Hid_mk (HPr.out.kept hk1 id)
      clear hk1 hz1 hp1 hq8 p0 p1 p2 p3 p4 p5 p6 p7 pw
      have hTn : ∀ b, q8 ≤ b → b ≠ q8 → (TZ T z (z + 3) b ∧ b ≠ q8 ∧ v.ownBlock ≠ some b) := fun b hb hne => ⟨.inr (by omega), hne, fun e => by
        have h7 := (HLl.out.row.lt b e).2
        have h8 := HQ8.out
        omega⟩
      have HTn := Hid_mk hTn
      clear hTn
      by_cases hj0 : j = 0
      case pos =>
        have hjg : ¬ (j : Int) > 0 := by omega
        have hK5 : Kp No wr W1 := HK1.out
        have hV5 : ReV (fun b => TZ T z (z + 3) b ∧ b ≠ q8 ∧ v.ownBlock ≠ some b) W1 t (.agg (cellsR yk yf ya yn yc)) := ReV.wider (fun b hb _ => ⟨.inl hb, by have := hb.2; omega, fun e => by have h1 := HVg.out b e; have h2 := hb.2; omega⟩) _ _ (ReV.no HK1.out _ _ HVr.out)
        have HK5 := Hid_mk hK5
        have HV5 := Hid_mk hV5
        have HA5 := Hid_mk HP1.out
        have hgt : q8 < W1.heap.size := by have := HZ1.out; omega
        clear hK5 hV5 hj0
        go_upto_region 16 with fail
        clear hjg
        have hL5 : LsAt (fun b => (TZ T z (z + 3) b ∧ b ≠ q8 ∧ v.ownBlock ≠ some b) ∧ b < W1.heap.size) W1 (z + 3) 0 v es ((rowT t (m, n, false)).take j) :=
          (HLl.out.no HK5.out).wid (fun b hb => ⟨⟨hb.1, by have h1 := hb.2.1; have h2 := HQ8.out; omega, hb.2.2⟩, by have h1 := hb.2.1; have h2 := HQ8.out; omega⟩) (fun g hg h => h.1.2.2 hg) (fun b hb => ⟨Nat.zero_le _, hb.2⟩) (fun h => by rcases h.1.1 with h | h <;> omega)
        have HL5 := Hid_mk hL5
        have HQL := Hid_mk hgt
        have c0 := HK5.out.cell' HTr0.out id
        have c2 := HK5.out.cell' HTr2.out id
        obtain ⟨p0, p1, p2, p3, p4, p5, p6, p7, pw⟩ := HA5.out
        have hab : (absP t).t = t := by rw [absP_fits HFit.out]
        have hlen : ((rowT t (m, n, false)).take j).length ≤ 1000000000 := by have h1 := HRl.out; have h2 := List.length_take_le j (rowT t (m, n, false)); omega
        have hx5 : PtV (fun b => TZ T z (z + 3) b ∧ b ≠ q8 ∧ v.ownBlock ≠ some b) W1 (absP t) (.agg (cellsP yk yf ya yn yc L H)) := ⟨yk, yf, ya, yn, yc, by rw [HL.out, HH.out], by rw [hab]; exact HV5.out⟩
        have hkw6 : Kp (fun b => z + 3 ≤ b) W7 W1 := HKr.out.trans' HK5.out.to
        have HKW := Hid_mk hkw6
        have HX5 := Hid_mk hx5
        have HLen := Hid_mk hlen
        clear hL5 hgt hab hlen hx5 hkw6
        by_cases hjm : j < m
        case pos =>
          have hjmi : (j : Int) < (m : Int) := by omega
          have hadd := add_own _ W1 (z + 3) 0 v es _ HL5.out t _ (HX5.out.wider (fun b hb hlt => ⟨hb, hlt⟩)) HLen.out
          have hu : (rowT t (m, n, false))[j]'(by rw [HRl.out]; exact HJn.out) = t := by rw [row_get t _ h1 (fun e => (by cases e)) j, if_pos hjm]
          have HU := Hid_mk hu
          unfold cellsP at hadd
          have HAdd := Hid_mk hadd
          clear hadd hu hjm
          go_wp2_with fail
          with_reducible refine HAdd.out.mono ?_
          rintro e w7 ⟨rfl, ⟨v', es', hl', hloc⟩, hk7⟩
          have HL7 := Hid_mk hl'
          have HLoc := Hid_mk hloc
          have HK7' := Hid_mk hk7
          clear hl' hloc hk7 c0 c2 p0 p1 p2 p3 p4 p5 p6 p7 pw hjmi
          go_wp2
          go_roundw
          case rel => exact AgRel.next (by omega) HL7.out HJn.out (by rw [HRl.out]; exact HJn.out) HU.out (fun b hb => hb.1.1) HVg.out HLoc.out (by have := HQL.out; have := HSz.out; have := HQ8.out; omega) HKW.out HK7'.out
          case measure => have := HJn.out; simp only [intOf]; omega
        case neg =>
          have hjmi : ¬ (j : Int) < (m : Int) := by omega
          have hone : Calls Try.prog 103 #[.int .i64 6, .agg (cellsP yk yf ya yn yc L H)] W1 fun e w' => ∃ uk uf ua un uc up, e = .returned (.agg (cellsP uk uf ua un uc (Pt.n up) (Pt.h up))) ∧ up = absP (kid1 6 t) ∧ ReV (fun b => TZ T z (z + 3) b ∧ b ≠ q8 ∧ v.ownBlock ≠ some b) w' up.t (.agg (cellsR uk uf ua un uc)) ∧ Kp No W1 w' := by
            have h9 := one_any _ W1 6 _ _ HX5.out (fun b hb => HTn.out b (by have := HQL.out; omega) (by have := HQL.out; omega)) ⟨absP_n t, absP_h t⟩
            rw [← abs1] at h9
            refine h9.mono ?_
            rintro e w' ⟨v, rfl, ⟨k, f, a, n, c, rfl, hv⟩, hk⟩
            exact ⟨k, f, a, n, c, _, rfl, rfl, hv, hk⟩
          have hu : (rowT t (m, n, false))[j]'(by rw [HRl.out]; exact HJn.out) = kid1 6 t := by rw [row_get t _ h1 (fun e => (by cases e)) j, if_neg hjm]; rfl
          have HU := Hid_mk hu
          unfold cellsP at hone
          have HOne := Hid_mk hone
          clear hone hu hjm
          go_wp2_with fail
          with_reducible refine HOne.out.mono ?_
          rintro e W6 ⟨uk, uf, ua', un, uc', up, rfl, hup, huo, hk6⟩
          have hL6 := (HL5.out.no hk6).wid (T' := fun b => (TZ T z (z + 3) b ∧ b ≠ q8 ∧ v.ownBlock ≠ some b) ∧ b < W6.heap.size) (fun b hb => ⟨hb.1, by have h1 := hb.2; have h2 := hk6.size; omega⟩) (fun g hg h => h.1.2.2 hg) (fun b hb => ⟨Nat.zero_le _, hb.2⟩) (fun h => by rcases h.1.1 with h | h <;> omega)
          have hx6 : PtV (fun b => (TZ T z (z + 3) b ∧ b ≠ q8 ∧ v.ownBlock ≠ some b) ∧ b < W6.heap.size) W6 (absP (kid1 6 t)) (.agg (cellsP uk uf ua' un uc' up.n up.h)) := by
            rw [← hup]
            exact ⟨uk, uf, ua', un, uc', rfl, ReV.wider (fun b hb hlt => ⟨hb, hlt⟩) _ _ huo⟩
          have hadd := add_own _ W6 (z + 3) 0 v es _ hL6 (kid1 6 t) _ hx6 HLen.out
          unfold cellsP at hadd
          have HAdd := Hid_mk hadd
          have HK6 := Hid_mk hk6
          clear hadd hx6 hL6 hup huo hk6 c0 c2 p0 p1 p2 p3 p4 p5 p6 p7 pw
          go_wp2_with fail
          with_reducible refine HAdd.out.mono ?_
          rintro e w7 ⟨rfl, ⟨v', es', hl', hloc⟩, hk7⟩
          have HL7 := Hid_mk hl'
          have HLoc := Hid_mk hloc
          have HK7' := Hid_mk hk7
          clear hl' hloc hk7 hjmi
          go_wp2
          go_roundw
          case rel => exact AgRel.next (by omega) HL7.out HJn.out (by rw [HRl.out]; exact HJn.out) HU.out (fun b hb => hb.1.1) HVg.out HLoc.out (by have := HQL.out; have := HK6.out.size; have := HSz.out; have := HQ8.out; omega) (HKW.out.trans' HK6.out.to) HK7'.out
          case measure => have := HJn.out; simp only [intOf]; omega

      case neg =>
        have hjg : (j : Int) > 0 := by omega
        have hcp := copied_v (ReV.no HK1.out _ _ HVr.out) (size_fits HFit.out)
        unfold cellsR at hcp
        have HCp := Hid_mk hcp
        obtain ⟨p0, p1, p2, p3, p4, p5, p6, p7, pw⟩ := HPz.out
        clear hcp hj0
        go_wp2_with fail
        with_reducible refine HCp.out.mono ?_
        rintro e W2 ⟨ua, uc, rfl, hv2, hk2⟩
        have hA2 := HP1.out.kept hk2 id
        have HV2 := Hid_mk hv2
        have HK2 := Hid_mk hk2
        have HA2 := Hid_mk hA2
        clear p0 p1 p2 p3 p4 p5 p6 p7 pw hv2 hk2
        obtain ⟨p0, p1, p2, p3, p4, p5, p6, p7, pw⟩ := hA2
        go_upto_region 16 with fail
        have hks := kp_putT (q := q8) (Kp.refl (fun b => b = q8) W2) (fun _ => rfl) (.int .i64 yk) (.int .u64 (wd yf 0 64 : Nat)) (.int .u64 (wd yf 64 64 : Nat)) (.int .u64 (wd yf 128 64 : Nat)) (.int .u64 (wd yf 192 64 : Nat)) (.slice ua yn uc)
        have hK5 := (HK1.out.trans' HK2.out).trans hks (T := fun b => b = q8) fun i hi e => by have := HQ8.out; omega
        have hA5 := HA2.out.putT (.int .i64 yk) (.int .u64 (wd yf 0 64 : Nat)) (.int .u64 (wd yf 64 64 : Nat)) (.int .u64 (wd yf 128 64 : Nat)) (.int .u64 (wd yf 192 64 : Nat)) (.slice ua yn uc)
        have hV5 := ReV.kept hks (T := fun b => TZ T z (z + 3) b ∧ b ≠ q8 ∧ v.ownBlock ≠ some b) (fun b hb _ => hb.2.1) _ _ (ReV.wider (fun b hb _ => HTn.out b (by have := HZ1.out; omega) (by have := HZ1.out; omega)) _ _ HV2.out)
        have hgt0 : q8 < W2.heap.size := by have h1 := HZ1.out; have h2 := HK2.out.size; omega
        have hgt1 := Nat.lt_of_lt_of_le hgt0 hks.size
        unfold putT at hK5 hA5 hV5 hgt1
        refine wp_name (fun W => Kp No wr W ∧ PAt W q8 (.int .i64 yk) (.int .u64 (wd yf 0 64 : Nat)) (.int .u64 (wd yf 64 64 : Nat)) (.int .u64 (wd yf 128 64 : Nat)) (.int .u64 (wd yf 192 64 : Nat)) (.slice ua yn uc) (.int .i64 (L : Int)) (.int .i64 (H : Int)) ∧ ReV (fun b => TZ T z (z + 3) b ∧ b ≠ q8 ∧ v.ownBlock ≠ some b) W t (.agg (cellsR yk yf ua yn uc)) ∧ q8 < W.heap.size) ⟨hK5, hA5, hV5, hgt1⟩ ?_
        clear hks hK5 hA5 hV5 hgt1 hgt0 p0 p1 p2 p3 p4 p5 p6 p7 pw
        rintro W5 ⟨hK5, hA5, hV5, hgt⟩
        have HK5 := Hid_mk hK5
        have HV5 := Hid_mk hV5
        have HA5 := Hid_mk hA5
        clear hK5 hA5 hV5 hjg
        have hL5 : LsAt (fun b => (TZ T z (z + 3) b ∧ b ≠ q8 ∧ v.ownBlock ≠ some b) ∧ b < W5.heap.size) W5 (z + 3) 0 v es ((rowT t (m, n, false)).take j) :=
          (HLl.out.no HK5.out).wid (fun b hb => ⟨⟨hb.1, by have h1 := hb.2.1; have h2 := HQ8.out; omega, hb.2.2⟩, by have h1 := hb.2.1; have h2 := HQ8.out; omega⟩) (fun g hg h => h.1.2.2 hg) (fun b hb => ⟨Nat.zero_le _, hb.2⟩) (fun h => by rcases h.1.1 with h | h <;> omega)
        have HL5 := Hid_mk hL5
        have HQL := Hid_mk hgt
        have c0 := HK5.out.cell' HTr0.out id
        have c2 := HK5.out.cell' HTr2.out id
        obtain ⟨p0, p1, p2, p3, p4, p5, p6, p7, pw⟩ := HA5.out
        have hab : (absP t).t = t := by rw [absP_fits HFit.out]
        have hlen : ((rowT t (m, n, false)).take j).length ≤ 1000000000 := by have h1 := HRl.out; have h2 := List.length_take_le j (rowT t (m, n, false)); omega
        have hx5 : PtV (fun b => TZ T z (z + 3) b ∧ b ≠ q8 ∧ v.ownBlock ≠ some b) W5 (absP t) (.agg (cellsP yk yf ua yn uc L H)) := ⟨yk, yf, ua, yn, uc, by rw [HL.out, HH.out], by rw [hab]; exact HV5.out⟩
        have hkw6 : Kp (fun b => z + 3 ≤ b) W7 W5 := HKr.out.trans' HK5.out.to
        have HKW := Hid_mk hkw6
        have HX5 := Hid_mk hx5
        have HLen := Hid_mk hlen
        clear hL5 hgt hab hlen hx5 hkw6
        by_cases hjm : j < m
        case pos =>
          have hjmi : (j : Int) < (m : Int) := by omega
          have hadd := add_own _ W5 (z + 3) 0 v es _ HL5.out t _ (HX5.out.wider (fun b hb hlt => ⟨hb, hlt⟩)) HLen.out
          have hu : (rowT t (m, n, false))[j]'(by rw [HRl.out]; exact HJn.out) = t := by rw [row_get t _ h1 (fun e => (by cases e)) j, if_pos hjm]
          have HU := Hid_mk hu
          unfold cellsP at hadd
          have HAdd := Hid_mk hadd
          clear hadd hu hjm
          go_wp2_with fail
          with_reducible refine HAdd.out.mono ?_
          rintro e w7 ⟨rfl, ⟨v', es', hl', hloc⟩, hk7⟩
          have HL7 := Hid_mk hl'
          have HLoc := Hid_mk hloc
          have HK7' := Hid_mk hk7
          clear hl' hloc hk7 c0 c2 p0 p1 p2 p3 p4 p5 p6 p7 pw hjmi
          go_wp2
          go_roundw
          case rel => exact AgRel.next (by omega) HL7.out HJn.out (by rw [HRl.out]; exact HJn.out) HU.out (fun b hb => hb.1.1) HVg.out HLoc.out (by have := HQL.out; have := HSz.out; have := HQ8.out; omega) HKW.out HK7'.out
          case measure => have := HJn.out; simp only [intOf]; omega
        case neg =>
          have hjmi : ¬ (j : Int) < (m : Int) := by omega
          have hone : Calls Try.prog 103 #[.int .i64 6, .agg (cellsP yk yf ua yn uc L H)] W5 fun e w' => ∃ uk uf ua un uc up, e = .returned (.agg (cellsP uk uf ua un uc (Pt.n up) (Pt.h up))) ∧ up = absP (kid1 6 t) ∧ ReV (fun b => TZ T z (z + 3) b ∧ b ≠ q8 ∧ v.ownBlock ≠ some b) w' up.t (.agg (cellsR uk uf ua un uc)) ∧ Kp No W5 w' := by
            have h9 := one_any _ W5 6 _ _ HX5.out (fun b hb => HTn.out b (by have := HQL.out; omega) (by have := HQL.out; omega)) ⟨absP_n t, absP_h t⟩
            rw [← abs1] at h9
            refine h9.mono ?_
            rintro e w' ⟨v, rfl, ⟨k, f, a, n, c, rfl, hv⟩, hk⟩
            exact ⟨k, f, a, n, c, _, rfl, rfl, hv, hk⟩
          have hu : (rowT t (m, n, false))[j]'(by rw [HRl.out]; exact HJn.out) = kid1 6 t := by rw [row_get t _ h1 (fun e => (by cases e)) j, if_neg hjm]; rfl
          have HU := Hid_mk hu
          unfold cellsP at hone
          have HOne := Hid_mk hone
          clear hone hu hjm
          go_wp2_with fail
          with_reducible refine HOne.out.mono ?_
          rintro e W6 ⟨uk, uf, ua', un, uc', up, rfl, hup, huo, hk6⟩
          have hL6 := (HL5.out.no hk6).wid (T' := fun b => (TZ T z (z + 3) b ∧ b ≠ q8 ∧ v.ownBlock ≠ some b) ∧ b < W6.heap.size) (fun b hb => ⟨hb.1, by have h1 := hb.2; have h2 := hk6.size; omega⟩) (fun g hg h => h.1.2.2 hg) (fun b hb => ⟨Nat.zero_le _, hb.2⟩) (fun h => by rcases h.1.1 with h | h <;> omega)
          have hx6 : PtV (fun b => (TZ T z (z + 3) b ∧ b ≠ q8 ∧ v.ownBlock ≠ some b) ∧ b < W6.heap.size) W6 (absP (kid1 6 t)) (.agg (cellsP uk uf ua' un uc' up.n up.h)) := by
            rw [← hup]
            exact ⟨uk, uf, ua', un, uc', rfl, ReV.wider (fun b hb hlt => ⟨hb, hlt⟩) _ _ huo⟩
          have hadd := add_own _ W6 (z + 3) 0 v es _ hL6 (kid1 6 t) _ hx6 HLen.out
          unfold cellsP at hadd
          have HAdd := Hid_mk hadd
          have HK6 := Hid_mk hk6
          clear hadd hx6 hL6 hup huo hk6 c0 c2 p0 p1 p2 p3 p4 p5 p6 p7 pw
          go_wp2_with fail
          with_reducible refine HAdd.out.mono ?_
          rintro e w7 ⟨rfl, ⟨v', es', hl', hloc⟩, hk7⟩
          have HL7 := Hid_mk hl'
          have HLoc := Hid_mk hloc
          have HK7' := Hid_mk hk7
          clear hl' hloc hk7 hjmi
          go_wp2
          go_roundw
          case rel => exact AgRel.next (by omega) HL7.out HJn.out (by rw [HRl.out]; exact HJn.out) HU.out (fun b hb => hb.1.1) HVg.out HLoc.out (by have := HQL.out; have := HK6.out.size; have := HSz.out; have := HQ8.out; omega) (HKW.out.trans' HK6.out.to) HK7'.out
          case measure => have := HJn.out; simp only [intOf]; omega


theorem again_any : AgC := by
  intro T w t v x hv h1 h2 h3
  obtain ⟨m, M, en⟩ := x
  cases en with
  | true =>
    obtain rfl : M = m := h3 rfl
    exact again_true T w t v M hv h1 h2
  | false => exact again_false T w t v m M hv h1 h2

end Go.Proofs.Ytaneblecgjahbab.ere
