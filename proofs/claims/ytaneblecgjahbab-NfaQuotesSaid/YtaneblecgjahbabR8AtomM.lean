/- The reference's reader: an atom, over texts of few bytes. Regular expressions, plain: how deep; what is parsed of a text of few bytes is shaped and has no more leaves than bytes; each tree is the same as itself. -/
import Derived.Test.YtaneblecgjahbabNfaQuotesPM
import Derived.Test.YtaneblecgjahbabR8List
import Derived.Test.YtaneblecgjahbabEreAtomM
import Derived.Test.YtaneblecgjahbabErePureM
import Derived.BigQuiet
import Derived.Test.YtaneblecgjahbabRefSameM
import Derived.Test.YtaneblecgjahbabRefRightM

namespace Go.Proofs.Ytaneblecgjahbab.ere
open Go.RowKit Go.Proofs.Ytaneblecgjahbab.sum Go.Proofs.Ytaneblecgjahbab.kept Go.Proofs.Ytaneblecgjahbab.pop Go.Proofs.Ytaneblecgjahbab.cls Go.Proofs.Ytaneblecgjahbab.tre Go.Proofs.Ytaneblecgjahbab.str
set_option linter.unusedVariables false

/-- what the reference's reader holds, by what is read -/
def Is8 (l : List UInt8) (k o : Nat) (r : Rs) (t' : Tr) (x1 x2 be tt : Int) : Prop :=
  match r with
  | .ok t n => t' = t ∧ x1 = (n : Int) ∧ x2 = (o : Int) ∧ be = 0 ∧ tt = 0 ∧ k < n ∧ n ≤ l.length
  | .bad c n => be = (c : Int) ∧ tt = (n : Int) ∧ 0 < c
def R8Post (w0 w : World) (q : Nat) (l : List UInt8) (k o : Nat) (r : Rs) (e : Ending) (w' : World) : Prop :=
  ∃ (t' : Tr) (vk : Int) (vf : Nat → Bool) (va : Option Addr) (vn vc : Nat) (x1 x2 be tt : Int), e = .returned (.agg (cellsR vk vf va vn vc)) ∧ ReV (fun b => w.heap.size ≤ b) w' t' (.agg (cellsR vk vf va vn vc)) ∧ RC w0 w' q l x1 x2 be tt ∧ Kp (fun b => b = q) w w' ∧ Is8 l k o r t' x1 x2 be tt
section
variable (w0 : World) (q : Nat) (l : List UInt8) (bk : Nat → Option ((Nat → Bool) × Nat))
def Alt8 (m : Nat) : Prop := ∀ (w : World) (k o : Nat), RC w0 w q l k o 0 0 → k ≤ l.length → o ≤ 10 → 8 * (l.length - k) + 8 ≤ m →
  Calls Try.prog 49 #[.pointer (some ⟨q, 0, none⟩)] w (R8Post w0 w q l k o ((altsF l bk m o k).join 3))
def Cat8 (m : Nat) : Prop := ∀ (w : World) (k o : Nat), RC w0 w q l k o 0 0 → k ≤ l.length → o ≤ 10 → 8 * (l.length - k) + 7 ≤ m →
  Calls Try.prog 67 #[.pointer (some ⟨q, 0, none⟩)] w (R8Post w0 w q l k o (rowF l bk m o k))
def Piece8 (m : Nat) : Prop := ∀ (w : World) (k o : Nat), RC w0 w q l k o 0 0 → k ≤ l.length → o ≤ 10 → 8 * (l.length - k) + 5 ≤ m →
  Calls Try.prog 86 #[.pointer (some ⟨q, 0, none⟩)] w (R8Post w0 w q l k o (pieceF l bk m o k))
def Atom8 (m : Nat) : Prop := ∀ (w : World) (k o : Nat), RC w0 w q l k o 0 0 → k ≤ l.length → o ≤ 10 → 8 * (l.length - k) + 4 ≤ m →
  Calls Try.prog 93 #[.pointer (some ⟨q, 0, none⟩)] w (R8Post w0 w q l k o (atomF l bk m o k))
end
/-- the bytes ( ) * | a b c -/
def Few (l : List UInt8) : Prop := ∀ k, k < l.length → atB l k = 40 ∨ atB l k = 41 ∨ atB l k = 42 ∨ atB l k = 124 ∨ atB l k = 97 ∨ atB l k = 98 ∨ atB l k = 99
section
variable {l : List UInt8} {bk : Nat → Option ((Nat → Bool) × Nat)} {n o k : Nat}
theorem atom_end (h : k = l.length) : atomF l bk (n + 1) o k = .bad 24 k := by rw [atomF, if_pos (.inl h)]
theorem atom_bad (h : k < l.length) (hy : atB l k = 41 ∨ atB l k = 42 ∨ atB l k = 124) : atomF l bk (n + 1) o k = .bad 24 k := by
  have hs : seesB l k [42, 43, 63, 123, 124, 41] = true := by
    unfold seesB
    rw [decide_eq_true h]
    rcases hy with e | e | e <;> rw [e] <;> rfl
  rw [atom_eq, if_pos (.inr hs)]
theorem sees_no (h : k < l.length) (hy : atB l k = 40 ∨ atB l k = 97 ∨ atB l k = 98 ∨ atB l k = 99) : ¬ (k = l.length ∨ seesB l k [42, 43, 63, 123, 124, 41] = true) := by
  rintro (e | e)
  · omega
  · unfold seesB at e
    rcases hy with e' | e' | e' | e' <;> rw [e'] at e <;> simp at e
theorem atom_par (h : k < l.length) (hy : atB l k = 40) : atomF l bk (n + 1) o k = grpR l bk n o k := by rw [atom_eq, if_neg (sees_no h (.inl hy)), if_pos hy]
theorem atom_one (h : k < l.length) (hy : atB l k = 97 ∨ atB l k = 98 ∨ atB l k = 99) : atomF l bk (n + 1) o k = .ok (setT (ofL [l.getD k 0])) (k + 1) := by
  rw [atom_eq, if_neg (sees_no h (.inr hy)), if_neg (by omega), if_neg (by omega), if_neg (by omega), if_neg (by omega), if_neg (by omega), if_neg (by omega)]
end
theorem one_cells {T : Nat → Prop} {w : World} (x : UInt8) : ReV T w (setT (ofL [x])) (.agg (cellsR 1 (oneS x.toNat) none 0 0)) := by
  have e : ∀ o, wd (oneS x.toNat) o 64 = wd (ofL [x]) o 64 := fun o => wd_congr fun j hj => by unfold oneS ofL; simp [Bool.beq_comm]
  have := leaf_val T w 1 (ofL [x]) 0 (by decide) none
  unfold cellsR at this ⊢
  rw [e, e, e, e]
  exact this

set_option maxRecDepth 100000 in
set_option maxHeartbeats 8000000 in
theorem r8atom_any {w0 : World} {q : Nat} {l : List UInt8} {bk : Nat → Option ((Nat → Bool) × Nat)} (hl : l.length < 1000000000) (hA : Few l) (n : Nat) (hal : Alt8 w0 q l bk n) : Atom8 w0 q l bk (n + 1) := by
  intro w k o h hkl ho hn
  obtain ⟨W0, hW0⟩ : ∃ W0, w.alloc (.cells #[.int .i64 0, .int .u64 0, .int .u64 0, .int .u64 0, .int .u64 0, .slice none 0 0] 30) = W0 := ⟨_, rfl⟩
  obtain ⟨r, hr⟩ : ∃ r, w.heap.size = r := ⟨_, rfl⟩
  have hK0 : Kp No w W0 := by rw [← hW0]; exact (Kp.refl No w).alloc _
  have hz : W0.heap.size = r + 1 := by rw [← hW0, ← hr]; simp
  have hB : RAt W0 r (.int .i64 0) (.int .u64 0) (.int .u64 0) (.int .u64 0) (.int .u64 0) (.slice none 0 0) := by
    rw [← hW0, ← hr]
    exact RAt.new w _ _ _ _ _ _ _
  have hR0 := h.no hK0
  have hqr : q < r := by have := h.lt; omega
  have hsz := st_size l
  have hki0 : (0 : Int) ≤ (k : Int) := Int.natCast_nonneg _
  have hwk : IntKind.i64.wrap ((k : Int) + 1) = ((k + 1 : Nat) : Int) := by rw [IntWalk.i64_in _ (by omega)]; push_cast; rfl
  have hwo : IntKind.i64.wrap ((o : Int) + 1) = ((o + 1 : Nat) : Int) := by rw [IntWalk.i64_in _ (by omega)]; push_cast; rfl
  have HWo := Hid_mk hwo
  clear hwo
  have HW0 := Hid_mk hW0
  have HR := Hid_mk hr
  have HQr := Hid_mk hqr
  have HB := Hid_mk hB
  have HR0 := Hid_mk hR0
  have HK0 := Hid_mk hK0
  have HZ := Hid_mk hz
  have HLn := Hid_mk hl
  have HO := Hid_mk ho
  have HAl := Hid_mk hal
  have HN := Hid_mk hn
  have HKl := Hid_mk hkl
  obtain ⟨R, hRs⟩ : ∃ R, atomF l bk (n + 1) o k = R := ⟨_, rfl⟩
  rw [hRs]
  have c0 := hR0.c0
  have c1 := hR0.c1
  clear hW0 hr hK0 hB h hqr hal hn hz ho
  by_cases he : k = l.length
  · have hszk : (st l).size = k := by rw [hsz, he]
    have HR2 := Hid_mk (show R = .bad 24 k from by rw [← hRs, atom_end he])
    clear hRs he hsz hl hkl hwk hR0
    go_enter Try.func93, Try.ntmps93
    go_upto_region 1 with fail
    rw [HR.out, HW0.out]
    clear HW0
    go_wp2
    go_quiet (fail)
    go_upto_region 2 with fail
    refine wp_name (fun W => Kp No W0 W) ((Kp.refl No W0).drewN _) ?_
    clear c0 c1
    rintro W1 hk1
    have HK1 := Hid_mk hk1
    have HR1 := Hid_mk (HR0.out.no hk1)
    have c1 := HR1.out.c1
    clear hk1
    have HFa := Hid_mk (fails_any HR1.out 24 (k : Int))
    go_wp2_with fail
    with_reducible refine HFa.out.mono ?_
    rintro e W8 ⟨rfl, hr8, hk8⟩
    have HR8 := Hid_mk hr8
    have HK8 := Hid_mk hk8
    have hb8 := (HB.out.kept HK1.out id).kept hk8 (by show ¬ r = q; have := HQr.out; omega)
    obtain ⟨r0, r1, r2, r3, r4, r5, rw'⟩ := hb8
    clear hr8 hk8 c1
    go_wp2
    have hkz : Kp (fun b => b = r) W8 (putR W8 r (.int .i64 0) (.int .u64 0) (.int .u64 0) (.int .u64 0) (.int .u64 0) (.slice none 0 0)) := kp_putR (q := r) (Kp.refl (fun b => b = r) W8) (fun _ => rfl) _ _ _ _ _ _
    have hRz := HR8.out.kept hkz (by show ¬ q = r; have := HQr.out; omega) (fun i e _ => by have h1 := HR8.out.ge; have h2 := HQr.out; show w0.heap.size ≤ i; have e : i = r := e; omega)
    have hkf := (((HK0.out.trans' HK1.out).to (S := fun b => b = q)).trans' HK8.out).trans hkz (T := fun b => b = r) fun i hi e => by have := HR.out; omega
    refine bodyPost_ret (v := .agg #[.int .i64 0, .int .u64 0, .int .u64 0, .int .u64 0, .int .u64 0, .slice none 0 0]) ?_ rfl ?_
    · simp [results, Try.results93, go_sem, r0, r1, r2, r3, r4, r5]
    · refine ⟨leafT 0, 0, nul, none, 0, 0, _, _, _, _, by simp [cellsR, wd_nul], ?_, hRz, hkf, ?_⟩
      · exact leaf_val _ _ 0 nul 0 (by decide) none
      · rw [HR2.out]
        exact ⟨rfl, rfl, by decide⟩
  · have hlt : k < l.length := by omega
    have hki : (k : Int) < (l.length : Int) := by omega
    have hnge : ¬ (k : Int) ≥ (l.length : Int) := by omega
    have hkd : decide (l.length ≤ k) = false := decide_eq_false (by omega)
    have hg := fun hh => st_get l k hh
    obtain ⟨y, hy⟩ : ∃ y, atB l k = y := ⟨_, rfl⟩
    have hg2 : ∀ hh : k < (st l).size, ((st l)[k]).toNat = y := fun hh => (hg hh).trans hy
    have hAk := hA k hlt
    rw [hy] at hAk
    have HY := Hid_mk hy
    have HLt := Hid_mk hlt
    have HRs := Hid_mk hRs
    clear hRs he hl hkl hR0 hlt hy hg hA
    go_enter Try.func93, Try.ntmps93
    go_upto_region 1 with fail
    rw [HR.out, HW0.out]
    clear HW0
    go_wp2
    go_quiet (fail)
    go_upto_region 3 with fail
    refine wp_name (fun W => Kp No W0 W) ((Kp.refl No W0).drewN _) ?_
    clear c0 c1
    rintro W1 hk1
    have HK1 := Hid_mk hk1
    have HR1 := Hid_mk (HR0.out.no hk1)
    have c0 := HR1.out.c0
    have c1 := HR1.out.c1
    have cw := HR1.out.warm
    clear hk1 hnge hkd
    go_upto_region 6 with fail
    have hs2 : Kp (fun b => b = q) W1 (W1.setCell ⟨q, 1, none⟩ (.int .i64 ((k + 1 : Nat) : Int))) := (Kp.refl (fun b => b = q) W1).setCell (p := ⟨q, 1, none⟩) (fun _ => rfl) _
    refine wp_name (fun W => RC w0 W q l ((k + 1 : Nat) : Int) (o : Int) 0 0 ∧ Kp (fun b => b = q) w W ∧ RAt W r (.int .i64 0) (.int .u64 0) (.int .u64 0) (.int .u64 0) (.int .u64 0) (.slice none 0 0) ∧ r < W.heap.size) ⟨HR1.out.at' _, ((HK0.out.trans' HK1.out).to (S := fun b => b = q)).trans' hs2, (HB.out.kept HK1.out id).kept hs2 (by show ¬ r = q; have := HQr.out; omega), Nat.lt_of_lt_of_le (show r < W1.heap.size by have h7 := HZ.out; have h8 := HK1.out.size; omega) hs2.size⟩ ?_
    clear hs2 c0 c1 cw hwk
    rintro W2 ⟨hr2, hk2, hb2, hz2⟩
    have HR2 := Hid_mk hr2
    have HK2 := Hid_mk hk2
    have HB2 := Hid_mk hb2
    have HZ2 := Hid_mk hz2
    clear hr2 hk2 hb2 hz2 hg2 hki hki0 hsz
    have hcase : y = 40 ∨ (y = 41 ∨ y = 42 ∨ y = 124) ∨ (y = 97 ∨ y = 98 ∨ y = 99) := by omega
    clear hAk
    rcases hcase with hy40 | hyb | hyo
    · subst hy40
      have hRp : grpR l bk n o k = R := by rw [← HRs.out, atom_par HLt.out HY.out]
      unfold grpR at hRp
      have c2 := HR2.out.c2
      have cw := HR2.out.warm
      have hwo := HWo.out
      have hoi : (0 : Int) ≤ (o : Int) := Int.natCast_nonneg _
      have hoi2 : (o : Int) ≤ 10 := by have := HO.out; omega
      by_cases ho10 : o = 10
      · have HRR := Hid_mk (show R = .bad 26 k from by rw [← hRp, if_pos ho10])
        have HO10 := Hid_mk ho10
        clear hRp ho10
        go_upto_region 9 with fail
        have hs3 : Kp (fun b => b = q) W2 (W2.setCell ⟨q, 2, none⟩ (.int .i64 ((o + 1 : Nat) : Int))) := (Kp.refl (fun b => b = q) W2).setCell (p := ⟨q, 2, none⟩) (fun _ => rfl) _
        refine wp_name (fun W => RC w0 W q l ((k + 1 : Nat) : Int) ((o + 1 : Nat) : Int) 0 0 ∧ Kp (fun b => b = q) w W ∧ RAt W r (.int .i64 0) (.int .u64 0) (.int .u64 0) (.int .u64 0) (.int .u64 0) (.slice none 0 0)) ⟨HR2.out.open' _, HK2.out.trans' hs3, HB2.out.kept hs3 (by show ¬ r = q; have := HQr.out; omega)⟩ ?_
        clear hs3 c2 cw hwo hoi hoi2
        rintro W3 ⟨hr3, hk3, hb3⟩
        have HR3 := Hid_mk hr3
        have HK3 := Hid_mk hk3
        have HB3 := Hid_mk hb3
        have c2 := hr3.c2
        have hgt : ((o + 1 : Nat) : Int) > 10 := by have := HO10.out; omega
        clear hr3 hk3 hb3
        have HFa := Hid_mk (fails_any HR3.out 26 (k : Int))
        go_wp2_with fail
        with_reducible refine HFa.out.mono ?_
        rintro e W8 ⟨rfl, hr8, hk8⟩
        have HR8 := Hid_mk hr8
        have HK8 := Hid_mk hk8
        have hb8 := (HB3.out.kept (Kp.refl No W3) id).kept hk8 (by show ¬ r = q; have := HQr.out; omega)
        obtain ⟨r0, r1, r2, r3, r4, r5, rw'⟩ := hb8
        clear hr8 hk8 c2 hgt
        go_wp2
        have hkz : Kp (fun b => b = r) W8 (putR W8 r (.int .i64 0) (.int .u64 0) (.int .u64 0) (.int .u64 0) (.int .u64 0) (.slice none 0 0)) := kp_putR (q := r) (Kp.refl (fun b => b = r) W8) (fun _ => rfl) _ _ _ _ _ _
        have hRz := HR8.out.kept hkz (by show ¬ q = r; have := HQr.out; omega) (fun i e _ => by have h1 := HR8.out.ge; have h2 := HQr.out; show w0.heap.size ≤ i; have e : i = r := e; omega)
        have hkf := (HK3.out.trans' HK8.out).trans hkz (T := fun b => b = r) fun i hi e => by have := HR.out; omega
        refine bodyPost_ret (v := .agg #[.int .i64 0, .int .u64 0, .int .u64 0, .int .u64 0, .int .u64 0, .slice none 0 0]) ?_ rfl ?_
        · simp [results, Try.results93, go_sem, r0, r1, r2, r3, r4, r5]
        · refine ⟨leafT 0, 0, nul, none, 0, 0, _, _, _, _, by simp [cellsR, wd_nul], ?_, hRz, hkf, ?_⟩
          · exact leaf_val _ _ 0 nul 0 (by decide) none
          · rw [HRR.out]
            exact ⟨rfl, rfl, by decide⟩
      · have hRq := hRp
        rw [if_neg ho10] at hRq
        have HRq := Hid_mk hRq
        have HO10 := Hid_mk ho10
        clear hRp hRq ho10
        go_upto_region 9 with fail
        have hs3 : Kp (fun b => b = q) W2 (W2.setCell ⟨q, 2, none⟩ (.int .i64 ((o + 1 : Nat) : Int))) := (Kp.refl (fun b => b = q) W2).setCell (p := ⟨q, 2, none⟩) (fun _ => rfl) _
        refine wp_name (fun W => RC w0 W q l ((k + 1 : Nat) : Int) ((o + 1 : Nat) : Int) 0 0 ∧ Kp (fun b => b = q) w W ∧ RAt W r (.int .i64 0) (.int .u64 0) (.int .u64 0) (.int .u64 0) (.int .u64 0) (.slice none 0 0) ∧ r < W.heap.size) ⟨HR2.out.open' _, HK2.out.trans' hs3, HB2.out.kept hs3 (by show ¬ r = q; have := HQr.out; omega), Nat.lt_of_lt_of_le HZ2.out hs3.size⟩ ?_
        clear hs3 c2 cw hwo hoi hoi2
        rintro W3 ⟨hr3, hk3, hb3, hz3⟩
        have HR3 := Hid_mk hr3
        have HK3 := Hid_mk hk3
        have HB3 := Hid_mk hb3
        have HZ3 := Hid_mk hz3
        have c2 := hr3.c2
        have hgt : ¬ ((o + 1 : Nat) : Int) > 10 := by have h8 := HO10.out; have h9 := HO.out; omega
        have hcl := HAl.out W3 (k + 1) (o + 1) hr3 (by have := HLt.out; omega) (by have h8 := HO10.out; have h9 := HO.out; omega) (by have := HN.out; have := HLt.out; omega)
        have HCl := Hid_mk hcl
        clear hr3 hk3 hb3 hz3 hcl
        go_wp2_with fail
        clear hgt
        with_reducible refine HCl.out.mono ?_
        rintro e W4 ⟨t', vk, vf, va, vn, vc, x1, x2, be, tt, rfl, hv4, hr4, hk4, his⟩
        obtain ⟨g, hg⟩ : ∃ g, W4.heap.size = g := ⟨_, rfl⟩
        have HG := Hid_mk hg
        have HV4 := Hid_mk hv4
        have HR4 := Hid_mk hr4
        have HK4 := Hid_mk hk4
        have HIs := Hid_mk his
        clear hv4 hr4 hk4 his c2
        unfold cellsR
        go_upto_region 12 with fail
        refine wp_name (fun W => Kp No W4 W ∧ RAt W g (.int .i64 vk) (.int .u64 (wd vf 0 64 : Nat)) (.int .u64 (wd vf 64 64 : Nat)) (.int .u64 (wd vf 128 64 : Nat)) (.int .u64 (wd vf 192 64 : Nat)) (.slice va vn vc)) ⟨(Kp.refl No W4).alloc _, by rw [← hg]; exact RAt.new _ _ _ _ _ _ _ _⟩ ?_
        clear hg
        rintro W5 ⟨hk5, hb5⟩
        have HK5 := Hid_mk hk5
        have HB5 := Hid_mk hb5
        have HR5 := Hid_mk (HR4.out.no hk5)
        clear hk5 hb5
        have hrg : r < g := by have h7 := HZ3.out; have h8 := HK4.out.size; have h9 := HG.out; omega
        have HRg := Hid_mk hrg
        clear hrg
        rcases hra : (altsF l bk n (o + 1) (k + 1)).join 3 with ⟨tr, n2⟩ | ⟨cc, n2⟩
        · have his := HIs.out
          have hRq := HRq.out
          rw [hra] at his hRq
          obtain ⟨rfl, rfl, rfl, rfl, rfl, hn1, hn2⟩ := his
          simp only at hRq
          have HN1 := Hid_mk hn1
          have HN2 := Hid_mk hn2
          have hisc : Calls Try.prog 68 #[.pointer (some ⟨q, 0, none⟩), .int .u8 41] W5 fun e w' => e = .returned (.bool (seesB l n2 [41])) ∧ ∃ n, w' = W5.drewN n := ris_any HR5.out hn2 HLn.out 41
          clear HRq HIs hra hn1 hn2
          by_cases hs41 : seesB l n2 [41] = true
          · have HRR := Hid_mk (show R = .ok t' (n2 + 1) from by rw [← hRq, if_pos hs41])
            have hlt2 : n2 < l.length := sees_lt hs41
            have HLt2 := Hid_mk hlt2
            rw [hs41] at hisc
            have HIsc := Hid_mk hisc
            have c3 := HR5.out.c3
            clear hRq hs41 hisc hlt2
            go_wp2_with fail
            with_reducible refine HIsc.out.mono ?_
            rintro e W6 ⟨rfl, nd, rfl⟩
            go_upto_region 14 with fail
            refine wp_name (fun W => Kp No W5 W) ((Kp.refl No W5).drewN _) ?_
            clear c3 HIsc
            rintro W6 hk6
            have HK6 := Hid_mk hk6
            have hr6 := HR5.out.no hk6
            have HR6 := Hid_mk hr6
            have c1 := hr6.c1
            have c2 := hr6.c2
            have cw := hr6.warm
            have hwn : IntKind.i64.wrap ((n2 : Int) + 1) = ((n2 + 1 : Nat) : Int) := by rw [IntWalk.i64_in _ (by have h7 := HLt2.out; have h8 := HLn.out; omega)]; push_cast; rfl
            have hwo2 : IntKind.i64.wrap (((o + 1 : Nat) : Int) - 1) = (o : Int) := by rw [IntWalk.i64_in _ (by have h8 := HO.out; omega)]; push_cast; omega
            clear hk6 hr6
            go_upto_region 16 with fail
            have hs7 : Kp (fun b => b = q) W6 ((W6.setCell ⟨q, 2, none⟩ (.int .i64 (o : Int))).setCell ⟨q, 1, none⟩ (.int .i64 ((n2 + 1 : Nat) : Int))) := ((Kp.refl (fun b => b = q) W6).setCell (p := ⟨q, 2, none⟩) (fun _ => rfl) _).setCell (p := ⟨q, 1, none⟩) (fun _ => rfl) _
            have hr7 := (HR6.out.open' (o : Int)).at' ((n2 + 1 : Nat) : Int)
            clear hwn hwo2
            refine wp_name (fun W => RC w0 W q l ((n2 + 1 : Nat) : Int) (o : Int) 0 0 ∧ Kp (fun b => b = q) w W ∧ RAt W g (.int .i64 vk) (.int .u64 (wd vf 0 64 : Nat)) (.int .u64 (wd vf 64 64 : Nat)) (.int .u64 (wd vf 128 64 : Nat)) (.int .u64 (wd vf 192 64 : Nat)) (.slice va vn vc) ∧ RAt W r (.int .i64 0) (.int .u64 0) (.int .u64 0) (.int .u64 0) (.int .u64 0) (.slice none 0 0) ∧ ReV (fun b => W3.heap.size ≤ b) W t' (.agg (cellsR vk vf va vn vc))) ⟨hr7, ((HK3.out.trans' HK4.out).trans (show Kp No W4 W6 from HK5.out.trans' HK6.out) (T := No) fun _ _ e => e.elim).trans' hs7, (HB5.out.kept HK6.out id).kept hs7 (by show ¬ g = q; have h8 := HRg.out; have h9 := HQr.out; omega), (((HB3.out.kept HK4.out (by show ¬ r = q; have := HQr.out; omega)).kept (show Kp No W4 W6 from HK5.out.trans' HK6.out) id)).kept hs7 (by show ¬ r = q; have := HQr.out; omega), ReV.kept hs7 (fun b hb _ => by have h8 := HZ3.out; have h9 := HQr.out; show ¬ b = q; omega) _ _ (ReV.no (show Kp No W4 W6 from HK5.out.trans' HK6.out) _ _ HV4.out)⟩ ?_
            clear hr7 hs7 c1 c2 cw
            rintro W7 ⟨hr7, hk7, hb7, hbr7, hv7⟩
            have HR7 := Hid_mk hr7
            have HK7 := Hid_mk hk7
            have HV7 := Hid_mk hv7
            clear hr7 hk7 hv7
            obtain ⟨q0, q1, q2, q3, q4, q5, qw⟩ := hb7
            obtain ⟨r0, r1, r2, r3, r4, r5, rw'⟩ := hbr7
            go_wp2
            have hkz : Kp (fun b => b = r) W7 (putR W7 r (.int .i64 vk) (.int .u64 (wd vf 0 64 : Nat)) (.int .u64 (wd vf 64 64 : Nat)) (.int .u64 (wd vf 128 64 : Nat)) (.int .u64 (wd vf 192 64 : Nat)) (.slice va vn vc)) := kp_putR (q := r) (Kp.refl (fun b => b = r) W7) (fun _ => rfl) _ _ _ _ _ _
            have hRz := HR7.out.kept hkz (by show ¬ q = r; have := HQr.out; omega) (fun i e _ => by have h1 := HR7.out.ge; have h2 := HQr.out; show w0.heap.size ≤ i; have e : i = r := e; omega)
            have hkf := HK7.out.trans hkz (T := fun b => b = r) fun i hi e => by have := HR.out; omega
            refine bodyPost_ret (v := .agg (cellsR vk vf va vn vc)) ?_ rfl ?_
            · simp [results, Try.results93, go_sem, r0, r1, r2, r3, r4, r5]
            · refine ⟨t', vk, vf, va, vn, vc, _, _, _, _, rfl, ReV.wider (fun b hb _ => by have h8 := HZ3.out; have h9 := HR.out; omega) _ _ (ReV.kept hkz (fun b hb _ => by have h8 := HZ3.out; show ¬ b = r; omega) _ _ HV7.out), hRz, hkf, ?_⟩
              rw [HRR.out]
              exact ⟨rfl, rfl, rfl, rfl, rfl, by have := HN1.out; omega, HLt2.out⟩
          · have hs41' : seesB l n2 [41] = false := by simpa using hs41
            have HRR := Hid_mk (show R = .bad 24 n2 from by rw [← hRq, if_neg hs41])
            rw [hs41'] at hisc
            have HIsc := Hid_mk hisc
            have c3 := HR5.out.c3
            clear hRq hs41 hs41' hisc
            go_wp2_with fail
            with_reducible refine HIsc.out.mono ?_
            rintro e W6 ⟨rfl, nd, rfl⟩
            go_upto_region 13 with fail
            refine wp_name (fun W => Kp No W5 W) ((Kp.refl No W5).drewN _) ?_
            clear c3 HIsc
            rintro W6 hk6
            have HK6 := Hid_mk hk6
            have HR6 := Hid_mk (HR5.out.no hk6)
            have c1 := HR6.out.c1
            have HB6 := Hid_mk (((HB3.out.kept HK4.out (by show ¬ r = q; have := HQr.out; omega)).kept HK5.out id).kept hk6 id)
            have HK36 := Hid_mk ((HK3.out.trans' HK4.out).trans (HK5.out.trans' hk6) (T := No) fun _ _ e => e.elim)
            clear hk6
            have HFa := Hid_mk (fails_any HR6.out 24 (n2 : Int))
            go_wp2_with fail
            with_reducible refine HFa.out.mono ?_
            rintro e W8 ⟨rfl, hr8, hk8⟩
            have HR8 := Hid_mk hr8
            have HK8 := Hid_mk hk8
            have hb8 := (HB6.out.kept (Kp.refl No W6) id).kept hk8 (by show ¬ r = q; have := HQr.out; omega)
            obtain ⟨r0, r1, r2, r3, r4, r5, rw'⟩ := hb8
            clear hr8 hk8 c1
            go_wp2
            have hkz : Kp (fun b => b = r) W8 (putR W8 r (.int .i64 0) (.int .u64 0) (.int .u64 0) (.int .u64 0) (.int .u64 0) (.slice none 0 0)) := kp_putR (q := r) (Kp.refl (fun b => b = r) W8) (fun _ => rfl) _ _ _ _ _ _
            have hRz := HR8.out.kept hkz (by show ¬ q = r; have := HQr.out; omega) (fun i e _ => by have h1 := HR8.out.ge; have h2 := HQr.out; show w0.heap.size ≤ i; have e : i = r := e; omega)
            have hkf := (HK36.out.trans' HK8.out).trans hkz (T := fun b => b = r) fun i hi e => by have := HR.out; omega
            refine bodyPost_ret (v := .agg #[.int .i64 0, .int .u64 0, .int .u64 0, .int .u64 0, .int .u64 0, .slice none 0 0]) ?_ rfl ?_
            · simp [results, Try.results93, go_sem, r0, r1, r2, r3, r4, r5]
            · refine ⟨leafT 0, 0, nul, none, 0, 0, _, _, _, _, by simp [cellsR, wd_nul], ?_, hRz, hkf, ?_⟩
              · exact leaf_val _ _ 0 nul 0 (by decide) none
              · rw [HRR.out]
                exact ⟨rfl, rfl, by decide⟩
        · have his := HIs.out
          have hRq := HRq.out
          rw [hra] at his hRq
          obtain ⟨rfl, rfl, hcc⟩ := his
          simp only at hRq
          have HRR := Hid_mk hRq.symm
          have hc0 : ((cc : Int) == 0) = false := by rw [beq_eq_false_iff_ne]; omega
          have c3 := HR5.out.c3
          have c2 := HR5.out.c2
          have c1 := HR5.out.c1
          have cw := HR5.out.warm
          have HCc := Hid_mk hcc
          clear HRq HIs hra hRq hcc
          go_upto_region 16 with fail
          have hr7 := (HR5.out.open' (wrap64 (x2 - 1))).at' (wrap64 (x1 + 1))
          have hs7 : Kp (fun b => b = q) W5 ((W5.setCell ⟨q, 2, none⟩ (.int .i64 (wrap64 (x2 - 1)))).setCell ⟨q, 1, none⟩ (.int .i64 (wrap64 (x1 + 1)))) := ((Kp.refl (fun b => b = q) W5).setCell (p := ⟨q, 2, none⟩) (fun _ => rfl) _).setCell (p := ⟨q, 1, none⟩) (fun _ => rfl) _
          clear hc0 c3
          generalize wrap64 (x2 - 1) = X2 at hr7 hs7 ⊢
          generalize wrap64 (x1 + 1) = X1 at hr7 hs7 ⊢
          refine wp_name (fun W => RC w0 W q l X1 X2 (cc : Int) (n2 : Int) ∧ Kp (fun b => b = q) w W ∧ RAt W g (.int .i64 vk) (.int .u64 (wd vf 0 64 : Nat)) (.int .u64 (wd vf 64 64 : Nat)) (.int .u64 (wd vf 128 64 : Nat)) (.int .u64 (wd vf 192 64 : Nat)) (.slice va vn vc) ∧ RAt W r (.int .i64 0) (.int .u64 0) (.int .u64 0) (.int .u64 0) (.int .u64 0) (.slice none 0 0) ∧ ReV (fun b => W3.heap.size ≤ b) W t' (.agg (cellsR vk vf va vn vc))) ⟨hr7, ((HK3.out.trans' HK4.out).trans HK5.out (T := No) fun _ _ e => e.elim).trans' hs7, (HB5.out).kept hs7 (by show ¬ g = q; have h8 := HRg.out; have h9 := HQr.out; omega), (((HB3.out.kept HK4.out (by show ¬ r = q; have := HQr.out; omega)).kept HK5.out id)).kept hs7 (by show ¬ r = q; have := HQr.out; omega), ReV.kept hs7 (fun b hb _ => by have h8 := HZ3.out; have h9 := HQr.out; show ¬ b = q; omega) _ _ (ReV.no HK5.out _ _ HV4.out)⟩ ?_
          clear hr7 hs7 c1 c2 cw
          rintro W7 ⟨hr7, hk7, hb7, hbr7, hv7⟩
          have HR7 := Hid_mk hr7
          have HK7 := Hid_mk hk7
          have HV7 := Hid_mk hv7
          clear hr7 hk7 hv7
          obtain ⟨q0, q1, q2, q3, q4, q5, qw⟩ := hb7
          obtain ⟨r0, r1, r2, r3, r4, r5, rw'⟩ := hbr7
          go_wp2
          have hkz : Kp (fun b => b = r) W7 (putR W7 r (.int .i64 vk) (.int .u64 (wd vf 0 64 : Nat)) (.int .u64 (wd vf 64 64 : Nat)) (.int .u64 (wd vf 128 64 : Nat)) (.int .u64 (wd vf 192 64 : Nat)) (.slice va vn vc)) := kp_putR (q := r) (Kp.refl (fun b => b = r) W7) (fun _ => rfl) _ _ _ _ _ _
          have hRz := HR7.out.kept hkz (by show ¬ q = r; have := HQr.out; omega) (fun i e _ => by have h1 := HR7.out.ge; have h2 := HQr.out; show w0.heap.size ≤ i; have e : i = r := e; omega)
          have hkf := HK7.out.trans hkz (T := fun b => b = r) fun i hi e => by have := HR.out; omega
          refine bodyPost_ret (v := .agg (cellsR vk vf va vn vc)) ?_ rfl ?_
          · simp [results, Try.results93, go_sem, r0, r1, r2, r3, r4, r5]
          · refine ⟨t', vk, vf, va, vn, vc, _, _, _, _, rfl, ReV.wider (fun b hb _ => by have h8 := HZ3.out; have h9 := HR.out; omega) _ _ (ReV.kept hkz (fun b hb _ => by have h8 := HZ3.out; show ¬ b = r; omega) _ _ HV7.out), hRz, hkf, ?_⟩
            rw [HRR.out]
            exact ⟨rfl, rfl, HCc.out⟩
    · have HRR := Hid_mk (show R = .bad 24 k from by rw [← HRs.out, atom_bad HLt.out (by rw [HY.out]; exact hyb)])
      have HB2b := HB2
      rcases hyb with rfl | rfl | rfl
      all_goals
        have HFa := Hid_mk (fails_any HR2.out 24 (k : Int))
        go_wp2_with fail
        with_reducible refine HFa.out.mono ?_
        rintro e W8 ⟨rfl, hr8, hk8⟩
        have HR8 := Hid_mk hr8
        have HK8 := Hid_mk hk8
        have hb8 := (HB2b.out.kept (Kp.refl No W2) id).kept hk8 (by show ¬ r = q; have := HQr.out; omega)
        obtain ⟨r0, r1, r2, r3, r4, r5, rw'⟩ := hb8
        clear hr8 hk8
        go_wp2
        have hkz : Kp (fun b => b = r) W8 (putR W8 r (.int .i64 0) (.int .u64 0) (.int .u64 0) (.int .u64 0) (.int .u64 0) (.slice none 0 0)) := kp_putR (q := r) (Kp.refl (fun b => b = r) W8) (fun _ => rfl) _ _ _ _ _ _
        have hRz := HR8.out.kept hkz (by show ¬ q = r; have := HQr.out; omega) (fun i e _ => by have h1 := HR8.out.ge; have h2 := HQr.out; show w0.heap.size ≤ i; have e : i = r := e; omega)
        have hkf := (HK2.out.trans' HK8.out).trans hkz (T := fun b => b = r) fun i hi e => by have := HR.out; omega
        refine bodyPost_ret (v := .agg #[.int .i64 0, .int .u64 0, .int .u64 0, .int .u64 0, .int .u64 0, .slice none 0 0]) ?_ rfl ?_
        · simp [results, Try.results93, go_sem, r0, r1, r2, r3, r4, r5]
        · refine ⟨leafT 0, 0, nul, none, 0, 0, _, _, _, _, by simp [cellsR, wd_nul], ?_, hRz, hkf, ?_⟩
          · exact leaf_val _ _ 0 nul 0 (by decide) none
          · rw [HRR.out]
            exact ⟨rfl, rfl, by decide⟩
    · have HRR := Hid_mk (show R = .ok (setT (ofL [l.getD k 0])) (k + 1) from by rw [← HRs.out, atom_one HLt.out (by rw [HY.out]; exact hyo)])
      have hcell := fun (T : Nat → Prop) (w : World) => @one_cells T w (l.getD k 0)
      have hxy : (l.getD k 0).toNat = y := HY.out
      rw [hxy] at hcell
      have HCell := Hid_mk hcell
      have hone := tre.one_any W2 y (by omega)
      have e40 : ((y : Int) == 40) = false := by rw [beq_eq_false_iff_ne]; omega
      have e46 : ((y : Int) == 46) = false := by rw [beq_eq_false_iff_ne]; omega
      have e91 : ((y : Int) == 91) = false := by rw [beq_eq_false_iff_ne]; omega
      have e94 : ((y : Int) == 94) = false := by rw [beq_eq_false_iff_ne]; omega
      have e36 : ((y : Int) == 36) = false := by rw [beq_eq_false_iff_ne]; omega
      have e92 : ((y : Int) == 92) = false := by rw [beq_eq_false_iff_ne]; omega
      have e42 : ((y : Int) == 42) = false := by rw [beq_eq_false_iff_ne]; omega
      have e43 : ((y : Int) == 43) = false := by rw [beq_eq_false_iff_ne]; omega
      have e63 : ((y : Int) == 63) = false := by rw [beq_eq_false_iff_ne]; omega
      have e123 : ((y : Int) == 123) = false := by rw [beq_eq_false_iff_ne]; omega
      have e124 : ((y : Int) == 124) = false := by rw [beq_eq_false_iff_ne]; omega
      have e41 : ((y : Int) == 41) = false := by rw [beq_eq_false_iff_ne]; omega
      unfold cellsR at hone
      have HOne := Hid_mk hone
      clear hcell hxy hone hyo
      go_wp2_with fail
      with_reducible refine HOne.out.mono ?_
      rintro e W8 ⟨rfl, hk8⟩
      have HK8 := Hid_mk hk8
      obtain ⟨r0, r1, r2, r3, r4, r5, rw'⟩ := HB2.out.kept hk8 id
      clear hk8
      go_wp2
      have hkz : Kp (fun b => b = r) W8 (putR W8 r (.int .i64 1) (.int .u64 (wd (oneS y) 0 64 : Nat)) (.int .u64 (wd (oneS y) 64 64 : Nat)) (.int .u64 (wd (oneS y) 128 64 : Nat)) (.int .u64 (wd (oneS y) 192 64 : Nat)) (.slice none 0 0)) := kp_putR (q := r) (Kp.refl (fun b => b = r) W8) (fun _ => rfl) _ _ _ _ _ _
      have hRz := (HR2.out.no HK8.out).kept hkz (by show ¬ q = r; have := HQr.out; omega) (fun i e _ => by have h1 := HR2.out.ge; have h2 := HQr.out; show w0.heap.size ≤ i; have e : i = r := e; omega)
      have hkf := (HK2.out.trans HK8.out (T := No) fun _ _ e => e.elim).trans hkz (T := fun b => b = r) fun i hi e => by have := HR.out; omega
      refine bodyPost_ret (v := .agg (cellsR 1 (oneS y) none 0 0)) ?_ rfl ?_
      · simp [results, Try.results93, go_sem, r0, r1, r2, r3, r4, r5]
      · refine ⟨_, _, _, _, _, _, _, _, _, _, rfl, HCell.out _ _, hRz, hkf, ?_⟩
        rw [HRR.out]
        exact ⟨rfl, rfl, rfl, rfl, rfl, Nat.lt_succ_self _, HLt.out⟩

end Go.Proofs.Ytaneblecgjahbab.ere

namespace Go.Proofs.Ytaneblecgjahbab.ere
open Go.RowKit Go.Proofs.Ytaneblecgjahbab.sum Go.Proofs.Ytaneblecgjahbab.kept Go.Proofs.Ytaneblecgjahbab.pop Go.Proofs.Ytaneblecgjahbab.cls Go.Proofs.Ytaneblecgjahbab.tre Go.Proofs.Ytaneblecgjahbab.str
set_option linter.unusedVariables false

mutual
theorem deep_high : ∀ (t : Tr) (n : Nat), deepS t n = decide (highS t ≤ n)
  | .mk k f l, 0 => by
    rw [deepS, highS]
    symm
    exact decide_eq_false (by omega)
  | .mk k f l, n + 1 => by
    rw [deepS, highS, deepL_high k l 0 (n + 1) (by omega)]
    rw [Bool.eq_iff_iff]
    simp
    omega
theorem deepL_high (k : Int) : ∀ (l : List Tr) (i n : Nat), 1 ≤ n → deepL k n i l = decide (highL k i l ≤ n)
  | [], i, n, _ => by simp [deepL, highL]
  | t :: l, i, n, hn => by
    rw [deepL, highL, deep_high t, deepL_high k l (i + 1) n hn, Bool.eq_iff_iff]
    by_cases h : sameB k i = true
    · rw [if_pos h, if_pos h]
      simp
      omega
    · rw [if_neg h, if_neg h]
      simp
      omega
end
theorem right_fits {t : Tr} (h : shapedS t = true) : rightS t = fitsB t := by
  unfold rightS fitsB
  rw [h, deep_high, Bool.true_and, Bool.and_comm]
mutual
theorem same_self : ∀ t : Tr, sameS t t = true
  | .mk k f l => by
    simp [sameS, sameL_self l, eqB]
theorem sameL_self : ∀ l : List Tr, sameL l l = true
  | [] => by simp [sameL]
  | t :: l => by simp [sameL, same_self t, sameL_self l]
end
theorem zero_nul : zeroB nul = true := by simp [zeroB, wd_nul]
theorem shaped1 {k : Int} {t : Tr} (hk : k = 4 ∨ k = 5 ∨ k = 6) (h : shapedS t = true) : shapedS (kid1 k t) = true := by
  unfold kid1
  rw [shapedS, shapedL, shapedL, h, zero_nul]
  rcases hk with rfl | rfl | rfl <;> rfl
theorem shaped2 {k : Int} {t u : Tr} (hk : k = 2 ∨ k = 3) (h : shapedS t = true) (h' : shapedS u = true) : shapedS (kid2 k t u) = true := by
  unfold kid2
  rw [shapedS, shapedL, shapedL, shapedL, h, h', zero_nul]
  rcases hk with rfl | rfl <;> rfl
theorem shapedJ {k : Int} (hk : k = 2 ∨ k = 3) : ∀ l : List Tr, l ≠ [] → shapedL l = true → shapedS (joinT k l) = true
  | [], h, _ => absurd rfl h
  | [t], _, h => by simpa [shapedL, joinT] using h
  | t :: u :: l, _, h => by
    rw [shapedL, Bool.and_eq_true] at h
    rw [joinT]
    exact shaped2 hk h.1 (shapedJ hk (u :: l) (by simp) h.2)
/-- shaped, and of so many leaves at most -/
def Gd (t : Tr) (m : Nat) : Prop := shapedS t = true ∧ setsS t ≤ m
def GdL (ts : List Tr) (m : Nat) : Prop := ts ≠ [] ∧ shapedL ts = true ∧ setsL ts ≤ m
theorem GdL.join {k : Int} (hk : k = 2 ∨ k = 3) {ts : List Tr} {m : Nat} (h : GdL ts m) : Gd (joinT k ts) m := ⟨shapedJ hk ts h.1 h.2.1, by rw [setsJ k ts h.1]; exact h.2.2⟩
theorem GdL.cons {t : Tr} {ts : List Tr} {a b : Nat} (h : Gd t a) (h' : GdL ts b) : GdL (t :: ts) (a + b) := ⟨by simp, by rw [shapedL, h.1, h'.2.1]; rfl, by rw [setsL]; have := h.2; have := h'.2.2; omega⟩
theorem GdL.one {t : Tr} {a : Nat} (h : Gd t a) : GdL [t] a := ⟨by simp, by rw [shapedL, shapedL, h.1]; rfl, by rw [setsL, setsL]; exact h.2⟩
theorem Gd.mono {t : Tr} {a b : Nat} (h : Gd t a) (hb : a ≤ b) : Gd t b := ⟨h.1, Nat.le_trans h.2 hb⟩
theorem GdL.mono {t : List Tr} {a b : Nat} (h : GdL t a) (hb : a ≤ b) : GdL t b := ⟨h.1, h.2.1, Nat.le_trans h.2.2 hb⟩
theorem Gd.set (f : Nat → Bool) : Gd (setT f) 1 := ⟨by simp [setT, shapedS, shapedL, kidsS], by simp [setT, setsS]⟩

theorem signs_gd {l : List UInt8} (hA : Few l) : ∀ (n : Nat) (t : Tr) (k m : Nat) (t' : Tr) (k' : Nat), Gd t m → k ≤ l.length → signsF l n t k = .ok t' k' → Gd t' m ∧ k ≤ k' ∧ k' ≤ l.length
  | 0, _, _, _, _, _, _, _, h => by cases h
  | n + 1, t, k, m, t', k', hg, hk, h => by
    rw [signsF] at h
    split at h
    · rename_i hs
      have hlt := sees_lt hs
      have hy := hA k hlt
      have h42 : atB l k = 42 := by
        unfold seesB at hs
        simp only [Bool.and_eq_true, List.contains_cons, List.contains_nil, Bool.or_false, Bool.or_eq_true, beq_iff_eq] at hs
        omega
      rw [if_pos h42] at h
      have := signs_gd hA n (kid1 4 t) (k + 1) m t' k' ⟨shaped1 (.inl rfl) hg.1, by rw [sets1]; exact hg.2⟩ hlt h
      exact ⟨this.1, by omega, this.2.2⟩
    · cases h
      exact ⟨hg, Nat.le_refl _, hk⟩
theorem few_gd {l : List UInt8} (hA : Few l) (bk : Nat → Option ((Nat → Bool) × Nat)) : ∀ n : Nat,
    (∀ o k ts k', k ≤ l.length → altsF l bk n o k = .ok ts k' → GdL ts (k' - k) ∧ k < k' ∧ k' ≤ l.length) ∧
    (∀ o k t k', k ≤ l.length → rowF l bk n o k = .ok t k' → Gd t (k' - k) ∧ k < k' ∧ k' ≤ l.length) ∧
    (∀ o k ts k', k ≤ l.length → piecesF l bk n o k = .ok ts k' → GdL ts (k' - k) ∧ k < k' ∧ k' ≤ l.length) ∧
    (∀ o k t k', k ≤ l.length → pieceF l bk n o k = .ok t k' → Gd t (k' - k) ∧ k < k' ∧ k' ≤ l.length) ∧
    (∀ o k t k', k ≤ l.length → atomF l bk n o k = .ok t k' → Gd t (k' - k) ∧ k < k' ∧ k' ≤ l.length)
  | 0 => by
    refine ⟨?_, ?_, ?_, ?_, ?_⟩ <;> (intro o k t k' _ h; simp [altsF, rowF, piecesF, pieceF, atomF] at h)
  | n + 1 => by
    obtain ⟨i1, i2, i3, i4, i5⟩ := few_gd hA bk n
    refine ⟨?_, ?_, ?_, ?_, ?_⟩
    · intro o k ts k' hk h
      rw [altsF] at h
      split at h
      · cases h
      · rename_i t k2 he
        have h2 := i2 o k t k2 hk he
        split at h
        · rename_i hs
          have hlt := sees_lt hs
          rcases ha : altsF l bk n o (k2 + 1) with ⟨us, k3⟩ | ⟨c, k3⟩
          · rw [ha] at h
            cases h
            have h3 := i1 o (k2 + 1) us k' (by omega) ha
            exact ⟨(GdL.cons h2.1 h3.1).mono (by omega), by omega, h3.2.2⟩
          · rw [ha] at h; cases h
        · cases h
          exact ⟨GdL.one h2.1, h2.2⟩
    · intro o k t k' hk h
      rw [rowF] at h
      rcases ha : piecesF l bk n o k with ⟨us, k3⟩ | ⟨c, k3⟩
      · rw [ha] at h
        cases h
        have h3 := i3 o k us k' hk ha
        exact ⟨h3.1.join (.inl rfl), h3.2⟩
      · rw [ha] at h; cases h
    · intro o k ts k' hk h
      rw [piecesF] at h
      split at h
      · cases h
      · rename_i t k2 he
        have h2 := i4 o k t k2 hk he
        split at h
        · cases h
          exact ⟨GdL.one h2.1, h2.2⟩
        · rcases ha : piecesF l bk n o k2 with ⟨us, k3⟩ | ⟨c, k3⟩
          · rw [ha] at h
            cases h
            have h3 := i3 o k2 us k' h2.2.2 ha
            exact ⟨(GdL.cons h2.1 h3.1).mono (by omega), by omega, h3.2.2⟩
          · rw [ha] at h; cases h
    · intro o k t k' hk h
      rw [pieceF] at h
      split at h
      · cases h
      · rename_i t2 k2 he
        have h2 := i5 o k t2 k2 hk he
        have h3 := signs_gd hA _ t2 k2 (k2 - k) t k' h2.1 h2.2.2 h
        exact ⟨h3.1.mono (by omega), by omega, h3.2.2⟩
    · intro o k t k' hk h
      by_cases he : k = l.length
      · rw [atom_end he] at h; cases h
      · have hlt : k < l.length := by omega
        have hy := hA k hlt
        have hcase : atB l k = 40 ∨ (atB l k = 41 ∨ atB l k = 42 ∨ atB l k = 124) ∨ (atB l k = 97 ∨ atB l k = 98 ∨ atB l k = 99) := by omega
        rcases hcase with h40 | hb | ho
        · rw [atom_par hlt h40] at h
          unfold grpR at h
          split at h
          · cases h
          · rcases ha : altsF l bk n (o + 1) (k + 1) with ⟨us, k3⟩ | ⟨c, k3⟩
            · rw [ha] at h
              have h3 := i1 (o + 1) (k + 1) us k3 hlt ha
              simp only [Ls.join] at h
              split at h
              · rename_i hs
                have hlt3 := sees_lt hs
                cases h
                exact ⟨(h3.1.join (.inr rfl)).mono (by omega), by omega, hlt3⟩
              · cases h
            · rw [ha] at h; cases h
        · rw [atom_bad hlt hb] at h; cases h
        · rw [atom_one hlt ho] at h
          cases h
          exact ⟨(Gd.set _).mono (by omega), by omega, hlt⟩

end Go.Proofs.Ytaneblecgjahbab.ere
