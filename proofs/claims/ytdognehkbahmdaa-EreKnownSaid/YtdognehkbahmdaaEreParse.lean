/- Package ere: Parse itself. -/
import Derived.Test.YtdognehkbahmdaaEreAtom
namespace Go.Proofs.Ytdognehkbahmdaa.ere
open Go.RowKit Go.Proofs.Ytdognehkbahmdaa.sum Go.Proofs.Ytdognehkbahmdaa.kept Go.Proofs.Ytdognehkbahmdaa.pop Go.Proofs.Ytdognehkbahmdaa.cls Go.Proofs.Ytdognehkbahmdaa.tre Go.Proofs.Ytdognehkbahmdaa.str
set_option linter.unusedVariables false

/-- what Parse leaves -/
def PrPost (w : World) (x : Tr × Nat × Nat) (e : Ending) (w' : World) : Prop :=
  ∃ v, e = .returned (.tuple #[v, .int .i64 (x.2.1 : Int), .int .i64 (x.2.2 : Int)]) ∧ ReV (fun b => w.heap.size ≤ b) w' x.1 v ∧ Kp No w w'
/-- six cells of a tree at a block -/
structure RAt (w : World) (q : Nat) (x0 x1 x2 x3 x4 x5 : Value) : Prop where
  c0 : w.cell? ⟨q, 0, none⟩ = some x0
  c1 : w.cell? ⟨q, 1, none⟩ = some x1
  c2 : w.cell? ⟨q, 2, none⟩ = some x2
  c3 : w.cell? ⟨q, 3, none⟩ = some x3
  c4 : w.cell? ⟨q, 4, none⟩ = some x4
  c5 : w.cell? ⟨q, 5, none⟩ = some x5
  warm : ∀ i, w.frozen? ⟨q, i, none⟩ = false
theorem RAt.lt {w : World} {q : Nat} {x0 x1 x2 x3 x4 x5 : Value} (h : RAt w q x0 x1 x2 x3 x4 x5) : q < w.heap.size := World.block_lt_of_cell? w ⟨q, 0, none⟩ h.c0
theorem RAt.new (w : World) (x0 x1 x2 x3 x4 x5 : Value) (ty : TypeId) : RAt (w.alloc (.cells #[x0, x1, x2, x3, x4, x5] ty)) w.heap.size x0 x1 x2 x3 x4 x5 :=
  ⟨by simp, by simp, by simp, by simp, by simp, by simp, fun i => by simp⟩
theorem RAt.kept {S : Nat → Prop} {w w' : World} {q : Nat} {x0 x1 x2 x3 x4 x5 : Value} (h : RAt w q x0 x1 x2 x3 x4 x5) (hk : Kp S w w') (hq : ¬ S q) : RAt w' q x0 x1 x2 x3 x4 x5 :=
  ⟨hk.cell' h.c0 hq, hk.cell' h.c1 hq, hk.cell' h.c2 hq, hk.cell' h.c3 hq, hk.cell' h.c4 hq, hk.cell' h.c5 hq, fun i => (hk.frozen (p := ⟨q, i, none⟩) h.lt hq).trans (h.warm i)⟩
theorem fits_abs (t : Tr) : (decide ((absP t).n ≤ 400) && decide ((absP t).h ≤ 40)) = fitsB t := by
  cases h : fitsB t with
  | true =>
    rw [absP_fits h]
    exact h
  | false =>
    rw [absP_over h]
    rfl
theorem zero_val (T : Nat → Prop) (w : World) : ReV T w (leafT 0) (.agg #[.int .i64 0, .int .u64 0, .int .u64 0, .int .u64 0, .int .u64 0, .slice none 0 0]) := by
  have h := leaf_val T w 0 nul 0 (by decide) none
  simp only [cellsR, wd_nul] at h
  exact h

set_option maxRecDepth 100000 in
set_option maxHeartbeats 8000000 in
theorem parse_any (w : World) (l : List UInt8) (bk : Nat → Option ((Nat → Bool) × Nat)) (hl : l.length < 1000000000) (hbr : ∀ q, BrktC w q l bk) (hsg : ∀ q, SignC w q l) :
    Calls Try.prog 10 #[.string (st l)] w (PrPost w (parseS l bk (8 * l.length + 8))) := by
  obtain ⟨W0, hW0⟩ : ∃ W0, w.alloc (.cells #[.int .i64 0, .int .u64 0, .int .u64 0, .int .u64 0, .int .u64 0, .slice none 0 0] 27) = W0 := ⟨_, rfl⟩
  obtain ⟨r, hr⟩ : ∃ r, w.heap.size = r := ⟨_, rfl⟩
  have hK0 : Kp No w W0 := by rw [← hW0]; exact (Kp.refl No w).alloc _
  have hz : W0.heap.size = r + 1 := by rw [← hW0, ← hr]; simp
  have hB : RAt W0 r (.int .i64 0) (.int .u64 0) (.int .u64 0) (.int .u64 0) (.int .u64 0) (.slice none 0 0) := by
    rw [← hW0, ← hr]
    exact RAt.new _ _ _ _ _ _ _ _
  have hsz := st_size l
  have hst := st_list l
  have HW0 := Hid_mk hW0
  have HR := Hid_mk hr
  have HB := Hid_mk hB
  have HK0 := Hid_mk hK0
  have HZ := Hid_mk hz
  have HLn := Hid_mk hl
  have hnq : r < w.heap.size → No r := fun h => by omega
  have HNq := Hid_mk hnq
  obtain ⟨X, hX⟩ : ∃ X, parseS l bk (8 * l.length + 8) = X := ⟨_, rfl⟩
  rw [hX]
  unfold parseS at hX
  by_cases hnil : l = []
  · subst hnil
    rw [if_pos rfl] at hX
    have HX := Hid_mk hX
    obtain ⟨r0, r1, r2, r3, r4, r5, rw'⟩ := hB
    clear hX hW0 hr hK0 hz hsg hbr hnq
    go_enter Try.func10, Try.ntmps10
    go_upto_region 1 with fail
    rw [HR.out, HW0.out]
    clear HW0
    go_wp2
    have hkf := kp_putT (HK0.out) HNq.out (.int .i64 0) (.int .u64 0) (.int .u64 0) (.int .u64 0) (.int .u64 0) (.slice none 0 0)
    refine bodyPost_ret (v := .tuple #[.agg #[.int .i64 0, .int .u64 0, .int .u64 0, .int .u64 0, .int .u64 0, .slice none 0 0], .int .i64 0, .int .i64 0]) ?_ rfl ?_
    · simp [results, Try.results10, go_sem, r0, r1, r2, r3, r4, r5]
    · rw [← HX.out]
      exact ⟨_, rfl, zero_val _ _, hkf⟩
  · rw [if_neg hnil] at hX
    obtain ⟨W1, hW1⟩ : ∃ W1, W0.alloc (.cells #[.string (st l), .int .i64 0, .int .i64 0] 58) = W1 := ⟨_, rfl⟩
    have hk1 : Kp No W0 W1 := by rw [← hW1]; exact (Kp.refl No W0).alloc _
    have hRd : RdAt w W1 (r + 1) l 0 0 := by
      rw [← hW1, ← hz]
      exact ⟨by simp, by simp, by simp, fun i => by simp, hK0.size, hK0.alloc _⟩
    have hac := alt_any hl (hbr (r + 1)) (hsg (r + 1)) (8 * l.length + 8) W1 0 0 hRd (Nat.zero_le _) (by omega) (by omega)
    have hlz : (l == []) = false := by cases l with
      | nil => exact absurd rfl hnil
      | cons a l => rfl
    have HW1 := Hid_mk hW1
    have HB1 := Hid_mk (hB.kept hk1 id)
    have HK1 := Hid_mk (hK0.trans' hk1)
    have HS1 := Hid_mk (show r + 2 ≤ W1.heap.size by rw [← hW1]; simp; omega)
    clear hW0 hr hK0 hz hB hW1 hRd hnq hsg hbr hk1 hl
    rcases hpf : (altsF l bk (8 * l.length + 8) 0 0).join 3 with ⟨t, k⟩ | ⟨c, k⟩
    · rw [hpf] at hac hX
      have hac2 : Calls Try.prog 28 #[.pointer (some ⟨r + 1, 0, none⟩)] W1 fun e w' => ∃ xk xf xa xn xc xp, e = .returned (.tuple #[.agg (cellsP xk xf xa xn xc (Pt.n xp) (Pt.h xp)), .int .i64 0]) ∧ xp = absP t ∧ ReV (fun b => W1.heap.size ≤ b) w' xp.t (.agg (cellsR xk xf xa xn xc)) ∧ RdAt w w' (r + 1) l k 0 ∧ Kp (fun b => b = r + 1) W1 w' ∧ k ≤ l.length := by
        refine hac.mono ?_
        rintro e w' ⟨_, rfl, ⟨xk, xf, xa, xn, xc, rfl, hv⟩, h1, h2, h3, h4⟩
        exact ⟨xk, xf, xa, xn, xc, _, rfl, rfl, hv, h1, h2, h4⟩
      unfold cellsP at hac2
      have HAc := Hid_mk hac2
      have HX := Hid_mk hX
      clear hac hac2 hpf hX
      go_enter Try.func10, Try.ntmps10
      go_upto_region 1 with fail
      rw [HR.out, HW0.out]
      clear HW0
      go_upto_region 4 with fail
      rw [HZ.out, HW1.out]
      clear HW1
      go_wp2_with fail
      with_reducible refine HAc.out.mono ?_
      rintro e w1 ⟨xk, xf, xa, xn, xc, xp, rfl, hxp, hxv, hR1, hk1, hk3⟩
      have HXp := Hid_mk hxp
      have HXv := Hid_mk hxv
      have HR1 := Hid_mk hR1
      have HK2 := Hid_mk (HK1.out.trans hk1 (T := fun b => b = r + 1) fun i hi e => by have := HR.out; omega)
      have HK3 := Hid_mk hk3
      have HB2 := Hid_mk (HB1.out.kept hk1 (by show ¬ r = r + 1; omega))
      have HS2 := Hid_mk (Nat.le_trans HS1.out hk1.size)
      clear hxp hxv hR1 hk1 hk3 HAc
      go_upto_region 5 with fail
      obtain ⟨g, hg⟩ : ∃ g, w1.heap.size = g := ⟨_, rfl⟩
      rw [hg]
      have hp5 : PAt (w1.alloc (.cells #[.int .i64 xk, .int .u64 (wd xf 0 64 : Nat), .int .u64 (wd xf 64 64 : Nat), .int .u64 (wd xf 128 64 : Nat), .int .u64 (wd xf 192 64 : Nat), .slice xa xn xc, .int .i64 (xp.n : Int), .int .i64 (xp.h : Int)] 60)) g (.int .i64 xk) (.int .u64 (wd xf 0 64 : Nat)) (.int .u64 (wd xf 64 64 : Nat)) (.int .u64 (wd xf 128 64 : Nat)) (.int .u64 (wd xf 192 64 : Nat)) (.slice xa xn xc) (.int .i64 (xp.n : Int)) (.int .i64 (xp.h : Int)) := by
        rw [← hg]
        exact PAt.new _ _ _ _ _ _ _ _ _ _
      have hk5 : Kp No w1 (w1.alloc (.cells #[.int .i64 xk, .int .u64 (wd xf 0 64 : Nat), .int .u64 (wd xf 64 64 : Nat), .int .u64 (wd xf 128 64 : Nat), .int .u64 (wd xf 192 64 : Nat), .slice xa xn xc, .int .i64 (xp.n : Int), .int .i64 (xp.h : Int)] 60)) := (Kp.refl No w1).alloc _
      have hgr : r + 2 ≤ g := by have := HS2.out; omega
      have HGr := Hid_mk hgr
      refine wp_name (fun W => PAt W g (.int .i64 xk) (.int .u64 (wd xf 0 64 : Nat)) (.int .u64 (wd xf 64 64 : Nat)) (.int .u64 (wd xf 128 64 : Nat)) (.int .u64 (wd xf 192 64 : Nat)) (.slice xa xn xc) (.int .i64 (xp.n : Int)) (.int .i64 (xp.h : Int)) ∧ Kp No w1 W) ⟨hp5, hk5⟩ ?_
      clear hp5 hk5 hgr hg
      rintro W5 ⟨hp5, hk5⟩
      have HP5 := Hid_mk hp5
      have HK5 := Hid_mk (HK2.out.trans' hk5)
      have HB5 := Hid_mk (HB2.out.kept hk5 id)
      have HV5 := Hid_mk (ReV.no hk5 _ _ HXv.out)
      have hR5 := HR1.out.no hk5
      have c1 := hR5.c1
      have C1 := Hid_mk c1
      clear hp5 hk5 hR5 HXv HB2
      have hki0 : (0 : Int) ≤ (k : Int) := Int.natCast_nonneg _
      by_cases hkl : k < l.length
      · have hkli : (k : Int) < (l.length : Int) := by omega
        have HX2 := Hid_mk (show (leafT 0, k, 24) = X from by rw [← HX.out]; show _ = if k < l.length then (leafT 0, k, 24) else _; rw [if_pos hkl])
        clear hkl
        obtain ⟨r0, r1, r2, r3, r4, r5, rw'⟩ := id HB5.out
        go_upto_region 8 with fail
        go_region
        all_goals
          go_wp2
          have hkf := (kp_putT HK5.out HNq.out (.int .i64 0) (.int .u64 0) (.int .u64 0) (.int .u64 0) (.int .u64 0) (.slice none 0 0)).drew
          refine bodyPost_ret (v := .tuple #[.agg #[.int .i64 0, .int .u64 0, .int .u64 0, .int .u64 0, .int .u64 0, .slice none 0 0], .int .i64 (k : Int), .int .i64 24]) ?_ rfl ?_
          · simp [results, Try.results10, go_sem, r0, r1, r2, r3, r4, r5]
          · rw [← HX2.out]
            exact ⟨_, rfl, zero_val _ _, hkf⟩
      · have hkli : ¬ (k : Int) < (l.length : Int) := by omega
        have hX3 : (if fitsB t = true then (t, 0, 0) else (leafT 0, 0, 24)) = X := by rw [← HX.out]; show _ = if k < l.length then (leafT 0, k, 24) else _; rw [if_neg hkl]
        have HX3 := Hid_mk hX3
        have hfi := fits_any W5 xk xf xa xn xc xp.n xp.h
        rw [HXp.out, fits_abs, ← HXp.out] at hfi
        unfold cellsP at hfi
        have HFi := Hid_mk hfi
        obtain ⟨p0, p1, p2, p3, p4, p5, p6, p7, pw⟩ := id HP5.out
        clear hkl hX3 hfi
        go_wp2_with fail
        with_reducible refine HFi.out.mono ?_
        rintro e W6 ⟨rfl, hk6⟩
        have hb6 := HB5.out.kept hk6 id
        have hp6 := HP5.out.kept hk6 id
        have HK6 := Hid_mk (HK5.out.trans' hk6)
        have HV6 := Hid_mk (ReV.no hk6 _ _ HV5.out)
        obtain ⟨r0, r1, r2, r3, r4, r5, rw'⟩ := hb6
        clear p0 p1 p2 p3 p4 p5 p6 p7 pw hk6 HFi
        obtain ⟨p0, p1, p2, p3, p4, p5, p6, p7, pw⟩ := hp6
        rcases hf : fitsB t with _ | _
        · have HX4 := Hid_mk (show (leafT 0, 0, 24) = X from by rw [← HX3.out, if_neg (by rw [hf]; simp)])
          clear hf
          go_wp2
          have hkf := kp_putT HK6.out HNq.out (.int .i64 0) (.int .u64 0) (.int .u64 0) (.int .u64 0) (.int .u64 0) (.slice none 0 0)
          refine bodyPost_ret (v := .tuple #[.agg #[.int .i64 0, .int .u64 0, .int .u64 0, .int .u64 0, .int .u64 0, .slice none 0 0], .int .i64 0, .int .i64 24]) ?_ rfl ?_
          · simp [results, Try.results10, go_sem, r0, r1, r2, r3, r4, r5]
          · rw [← HX4.out]
            exact ⟨_, rfl, zero_val _ _, hkf⟩
        · have HX4 := Hid_mk (show (t, 0, 0) = X from by rw [← HX3.out, if_pos hf])
          have HXt := Hid_mk (show xp.t = t from by rw [HXp.out, absP_fits hf])
          clear hf
          go_wp2
          have hkz : Kp (fun b => b = r) W6 (ere.putT W6 r (.int .i64 xk) (.int .u64 (wd xf 0 64 : Nat)) (.int .u64 (wd xf 64 64 : Nat)) (.int .u64 (wd xf 128 64 : Nat)) (.int .u64 (wd xf 192 64 : Nat)) (.slice xa xn xc)) := kp_putT (q := r) (Kp.refl (fun b => b = r) W6) (fun _ => rfl) _ _ _ _ _ _
          have hkf := kp_putT HK6.out HNq.out (.int .i64 xk) (.int .u64 (wd xf 0 64 : Nat)) (.int .u64 (wd xf 64 64 : Nat)) (.int .u64 (wd xf 128 64 : Nat)) (.int .u64 (wd xf 192 64 : Nat)) (.slice xa xn xc)
          have hvz := ReV.wider (T' := fun b => w.heap.size ≤ b) (fun b hb _ => by have hb : W1.heap.size ≤ b := hb; have := HS1.out; have := HR.out; omega) _ _ (ReV.kept hkz (fun b hb _ => by have hb : W1.heap.size ≤ b := hb; have := HS1.out; show ¬ b = r; omega) _ _ HV6.out)
          rw [HXt.out] at hvz
          refine bodyPost_ret (v := .tuple #[.agg (cellsR xk xf xa xn xc), .int .i64 0, .int .i64 0]) ?_ rfl ?_
          · simp [results, Try.results10, go_sem, cellsR, r0, r1, r2, r3, r4, r5]
          · rw [← HX4.out]
            exact ⟨_, rfl, hvz, hkf⟩
    · rw [hpf] at hac hX
      have hac2 : Calls Try.prog 28 #[.pointer (some ⟨r + 1, 0, none⟩)] W1 fun e w' => ∃ o', e = .returned (.tuple #[.agg #[.int .i64 0, .int .u64 0, .int .u64 0, .int .u64 0, .int .u64 0, .slice none 0 0, .int .i64 0, .int .i64 0], .int .i64 (c : Int)]) ∧ RdAt w w' (r + 1) l k o' ∧ Kp (fun b => b = r + 1) W1 w' ∧ k ≤ l.length ∧ 0 < c := hac
      have HAc := Hid_mk hac2
      have HX2 := Hid_mk (show (leafT 0, k, c) = X from hX)
      clear hac hac2 hpf hX
      go_enter Try.func10, Try.ntmps10
      go_upto_region 1 with fail
      rw [HR.out, HW0.out]
      clear HW0
      go_upto_region 4 with fail
      rw [HZ.out, HW1.out]
      clear HW1
      go_wp2_with fail
      with_reducible refine HAc.out.mono ?_
      rintro e w1 ⟨o', rfl, hR1, hk1, hk3, hc⟩
      have hcn : ((c : Int) != 0) = true := by simp; omega
      have hcf : ((c : Int) == 0) = false := by rw [beq_eq_false_iff_ne]; omega
      have HR1 := Hid_mk hR1
      have HK2 := Hid_mk (HK1.out.trans hk1 (T := fun b => b = r + 1) fun i hi e => by have := HR.out; omega)
      have HB2 := Hid_mk (HB1.out.kept hk1 (by show ¬ r = r + 1; omega))
      clear hR1 hk1 hk3 HAc hc
      go_upto_region 7 with fail
      refine wp_name (fun W => Kp No w1 W) ((Kp.refl No w1).alloc _) ?_
      rintro W5 hk5
      have hR5 := HR1.out.no hk5
      have c1 := hR5.c1
      have HK5 := Hid_mk (HK2.out.trans' hk5)
      have HB5 := Hid_mk (HB2.out.kept hk5 id)
      clear hR5 hk5 HB2
      obtain ⟨r0, r1, r2, r3, r4, r5, rw'⟩ := id HB5.out
      go_upto_region 8 with fail
      go_region
      all_goals
        go_wp2
        have hkf := (kp_putT HK5.out HNq.out (.int .i64 0) (.int .u64 0) (.int .u64 0) (.int .u64 0) (.int .u64 0) (.slice none 0 0)).drew
        refine bodyPost_ret (v := .tuple #[.agg #[.int .i64 0, .int .u64 0, .int .u64 0, .int .u64 0, .int .u64 0, .slice none 0 0], .int .i64 (k : Int), .int .i64 (c : Int)]) ?_ rfl ?_
        · simp [results, Try.results10, go_sem, r0, r1, r2, r3, r4, r5]
        · rw [← HX2.out]
          exact ⟨_, rfl, zero_val _ _, hkf⟩

end Go.Proofs.Ytdognehkbahmdaa.ere
