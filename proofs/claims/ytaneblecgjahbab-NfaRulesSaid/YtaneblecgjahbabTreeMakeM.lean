/- tailracehand.Re: a tree that is right, of a raw one: its kid, a closure. tailracehand.Re of a raw tree whose kind is the set's: a leaf of 256 bools, packed. -/
import Derived.Test.YtaneblecgjahbabTwisted
import Derived.Test.YtaneblecgjahbabErePureM

namespace Go.Proofs.Ytaneblecgjahbab.ere
open Go.RowKit Go.Proofs.Ytaneblecgjahbab.sum Go.Proofs.Ytaneblecgjahbab.kept Go.Proofs.Ytaneblecgjahbab.pop Go.Proofs.Ytaneblecgjahbab.cls Go.Proofs.Ytaneblecgjahbab.tre Go.Proofs.Ytaneblecgjahbab.str Go.Proofs.Ytaneblecgjahbab.turned Go.Proofs.Ytaneblecgjahbab.treeArg
set_option linter.unusedVariables false

theorem znul : zeroB nul = true := by simp [zeroB, wd_nul]
/-- a tree of its shape, not too high, with not too many leaves -/
def Gdt (m : Nat) (t : Tr) : Prop := setsS t ≤ 2 ^ m ∧ shapedS t = true ∧ highS t ≤ m + 1
theorem gdt_set (m : Nat) (f : Nat → Bool) : Gdt m (.mk 1 f []) := by
  refine ⟨by rw [setsS]; exact Nat.one_le_two_pow, ?_, ?_⟩
  · rw [shapedS, shapedL]; simp [kidsS]
  · rw [highS, highL]; omega
theorem gdt_leaf (m : Nat) (k : Int) (hk : k = 0 ∨ k = 7 ∨ k = 8) : Gdt m (.mk k nul []) := by
  refine ⟨by rw [setsS]; exact Nat.one_le_two_pow, ?_, ?_⟩
  · rw [shapedS, shapedL, znul]; rcases hk with rfl | rfl | rfl <;> simp [kidsS]
  · rw [highS, highL]; omega
theorem gdt_one {d : Nat} {t : Tr} (h : Gdt (d - 1) t) (hd : ¬ d = 0) (k : Int) (hk : k = 4 ∨ k = 5 ∨ k = 6) : Gdt d (.mk k nul [t]) := by
  refine ⟨?_, ?_, ?_⟩
  · rw [setsS, setsL, Nat.add_zero]; exact Nat.le_trans h.1 (Nat.pow_le_pow_right (by decide) (Nat.sub_le _ _))
  · rw [shapedS, shapedL, shapedL, znul, h.2.1]; rcases hk with rfl | rfl | rfl <;> simp [kidsS]
  · have e := high1 k t
    unfold kid1 at e
    rw [e]
    have := h.2.2
    omega
theorem pow_twice {d : Nat} (h : ¬ d = 0) : 2 ^ d = 2 ^ (d - 1) + 2 ^ (d - 1) := by
  obtain ⟨e, rfl⟩ : ∃ e, d = e + 1 := ⟨d - 1, by omega⟩
  rw [Nat.add_sub_cancel, Nat.pow_succ]
  omega
theorem gdt_two {d : Nat} {t u : Tr} (h : Gdt (d - 1) t) (h2 : Gdt (d - 1) u) (hd : ¬ d = 0) (k : Int) (hk : k = 2 ∨ k = 3) : Gdt d (.mk k nul [t, u]) := by
  refine ⟨?_, ?_, ?_⟩
  · rw [setsS, setsL, setsL]
    have h3 := pow_twice hd
    have h4 := h.1
    have h5 := h2.1
    omega
  · rw [shapedS, shapedL, shapedL, shapedL, znul, h.2.1, h2.2.1]; rcases hk with rfl | rfl <;> simp [kidsS]
  · have e := high2 k hk t u
    unfold kid2 at e
    rw [e]
    have h4 := h.2.2
    have h5 := h2.2.2
    omega
/-- what it leaves: some tree in new memory, of at most so many leaves -/
def MkPost (w : World) (n : Nat) (e : Ending) (w' : World) : Prop :=
  ∃ (vk : Int) (vf : Nat → Bool) (va : Option Addr) (vn vc : Nat) (tr : Tr), e = .returned (.agg (cellsR vk vf va vn vc)) ∧ ReV (fun b => w.heap.size ≤ b) w' tr (.agg (cellsR vk vf va vn vc)) ∧ Kp No w w' ∧ Gdt n tr
/-- made of any raw tree, at most m deep -/
def MkAt (m : Nat) : Prop :=
  ∀ (t : TT) (w : World) (k n : Int) (a : Option Addr) (len c : Nat), AtT w t (.agg #[.int .i64 k, .int .i64 n, .slice a len c]) →
    Calls Try.prog 9 #[.agg #[.int .i64 k, .int .i64 n, .slice a len c], .int .i64 (m : Int)] w (MkPost w m)

set_option maxRecDepth 100000 in
set_option maxHeartbeats 8000000 in
theorem kid_any (d : Nat) (hd : d ≤ 4) (ih : ∀ m, m < d → MkAt m) (l : List TT) (W : World) (q p : Nat) (k n : Int) (a : Option Addr) (c : Nat) (ht : AtT W (.mk k n l) (.agg #[.int .i64 k, .int .i64 n, .slice a l.length c]))
    (h0 : W.cell? ⟨q, 0, none⟩ = some (.int .i64 k)) (h1 : W.cell? ⟨q, 1, none⟩ = some (.int .i64 n)) (h2 : W.cell? ⟨q, 2, none⟩ = some (.slice a l.length c)) (h3 : W.cell? ⟨p, 0, none⟩ = some (.int .i64 (d : Int))) (i : Nat) (hi : i < 2) :
    Calls Try.prog 28 #[.int .i64 (i : Int), .pointer (some ⟨q, 0, none⟩), .pointer (some ⟨p, 0, none⟩)] W (MkPost W (d - 1)) := by
  obtain ⟨z, hz⟩ : ∃ z, W.heap.size = z := ⟨_, rfl⟩
  have HP := Hid_mk fun x V => pick_any x 2 (by decide) (by decide) V
  have HT := Hid_mk ht
  have HIh := Hid_mk ih
  have HD := Hid_mk hd
  have HI := Hid_mk hi
  have HZ := Hid_mk hz
  have HQ0 := Hid_mk h0
  have HQ1 := Hid_mk h1
  have HQ2 := Hid_mk h2
  have HQ3 := Hid_mk h3
  clear ht ih hd hi hz h0 h1 h2 h3
  go_enter Try.func28, Try.ntmps28
  go_upto_region 1 with fail
  rw [HZ.out]
  refine wp_name (fun V => Kp No W V ∧ V.heap.size = z + 1 ∧ RAt V z (.int .i64 0) (.int .u64 0) (.int .u64 0) (.int .u64 0) (.int .u64 0) (.slice none 0 0)) ?_ ?_
  · have hz := HZ.out
    refine ⟨(Kp.refl No W).alloc _, by simp [hz], ?_⟩
    rw [← hz]
    exact RAt.new _ _ _ _ _ _ _ _
  rintro W0 ⟨hk0, hz0, hr0⟩
  have HK0 := Hid_mk hk0
  have HZ0 := Hid_mk hz0
  have HR0 := Hid_mk hr0
  have t1 := hk0.cell' HQ1.out id
  have t2 := hk0.cell' HQ2.out id
  have t3 := hk0.cell' HQ3.out id
  clear hk0 hz0 hr0
  by_cases hlt : i < l.length
  · have hlt' : (i : Int) < (l.length : Int) := by omega
    have hlb : decide ((i : Int) < (l.length : Int)) = true := decide_eq_true hlt'
    have HLt := Hid_mk hlt
    by_cases hd0 : 0 < d
    · have hd0' : (0 : Int) < (d : Int) := by omega
      have hdb : decide ((0 : Int) < (d : Int)) = true := decide_eq_true hd0'
      have HD0 := Hid_mk hd0
      clear hlt hd0
      obtain ⟨b, o, ha, htl⟩ : ∃ b o, a = some ⟨b, o, none⟩ ∧ AtTL W b o l := by
        obtain ⟨a', c', e, -, -, h1, h2, h3⟩ := HT.out
        injection e with e
        simp at e
        obtain ⟨rfl, rfl⟩ := e
        obtain ⟨b, o, e2, hb, h⟩ := h3 (by intro e; have h8 := HLt.out; rw [e] at h8; simp at h8)
        exact ⟨b, o, e2, h⟩
      subst ha
      obtain ⟨x0, x1, x2, g0, g1, g2, hx⟩ := htl.get i HLt.out
      have hnj := nodes_get HLt.out
      obtain ⟨tj, htj⟩ : ∃ tj, l[i]'(HLt.out) = tj := ⟨_, rfl⟩
      rw [htj] at hx hnj
      have hx2 := hx
      obtain ⟨k2, n2, l2⟩ := tj
      obtain ⟨a2, c2, e2, -⟩ := hx
      injection e2 with e2
      simp only [Array.mk.injEq, List.cons.injEq, and_true] at e2
      obtain ⟨rfl, rfl, rfl⟩ := e2
      have y0 := HK0.out.cell' g0 id
      have y1 := HK0.out.cell' g1 id
      have y2 := HK0.out.cell' g2 id
      have hwd : IntKind.i64.wrap ((d : Int) - 1) = ((d - 1 : Nat) : Int) := by rw [IntWalk.i64_in _ (by have h8 := HD.out; omega)]; have := HD0.out; omega
      have hcon : Calls Try.prog 9 #[.agg #[.int .i64 k2, .int .i64 n2, .slice a2 l2.length c2], .int .i64 ((d - 1 : Nat) : Int)] W0.drew (MkPost W0.drew (d - 1)) :=
        HIh.out (d - 1) (by have := HD0.out; omega) (.mk k2 n2 l2) W0.drew k2 n2 a2 l2.length c2 (AtT.no HK0.out.drew _ _ hx2)
      have HCon := Hid_mk hcon
      clear hx2 hnj htj hcon g0 g1 g2 htl
      go_upto_region 2 with fail
      go_still_tail 7, (by kernel_rfl)
      clear y0 y1 y2 t1 t2 t3 hlt' hlb hd0' hdb
      go_wp2_with fail
      with_reducible refine HCon.out.mono ?_
      rintro e w3 ⟨vk, vf, va, vn, vc, tr, rfl, hv3, hk3, hs3⟩
      have hk30 : Kp No W0 w3 := (Kp.refl No W0).drew.trans' hk3
      have HV3 := Hid_mk hv3
      have HK3 := Hid_mk hk30
      have HS3 := Hid_mk hs3
      obtain ⟨r0, r1, r2, r3, r4, r5, rw1⟩ := HR0.out.kept hk30 id
      clear hk30 hv3 hk3 hs3
      unfold cellsR
      go_wp2
      have hz := HZ.out
      have hz2 := HZ0.out
      have hkz : Kp (fun b => b = z) w3 (putR w3 z (.int .i64 vk) (.int .u64 (wd vf 0 64 : Nat)) (.int .u64 (wd vf 64 64 : Nat)) (.int .u64 (wd vf 128 64 : Nat)) (.int .u64 (wd vf 192 64 : Nat)) (.slice va vn vc)) := kp_putR (q := z) (Kp.refl (fun b => b = z) w3) (fun _ => rfl) _ _ _ _ _ _
      refine bodyPost_ret (v := .agg (cellsR vk vf va vn vc)) ?_ rfl ?_
      · simp [results, Try.results28, go_sem, r0, r1, r2, r3, r4, r5]
      · exact ⟨vk, vf, va, vn, vc, tr, rfl, ReV.wider (fun b hb _ => by have hb : W0.heap.size ≤ b := hb; omega) _ _ (ReV.kept hkz (fun b hb _ => by have hb : W0.heap.size ≤ b := hb; show ¬ b = z; omega) _ _ HV3.out), (HK0.out.trans' HK3.out).trans hkz (T := fun b => b = z) fun i hi e => by have e : i = z := e; omega, HS3.out⟩
    · have hd0' : ¬ (0 : Int) < (d : Int) := by omega
      have hdb : decide ((0 : Int) < (d : Int)) = false := decide_eq_false hd0'
      clear hlt hd0
      go_upto_region 3 with fail
      go_wp2_with fail
      have hm : ∃ y : Nat, wrap64 (n + (i : Int)) % 2 = (y : Int) ∧ y < 2 := ⟨(wrap64 (n + (i : Int)) % 2).toNat, by omega, by omega⟩
      obtain ⟨y, hy, hy2⟩ := hm
      have hp := HP.out (wrap64 (n + (i : Int))) W0
      rw [hy] at hp
      have HPy := Hid_mk hp
      have HOne := Hid_mk fun (V : World) (b : Nat) (hb : b < 256) => tre.one_any V b hb
      obtain ⟨r0, r1, r2, r3, r4, r5, rw1⟩ := HR0.out
      clear hp hy
      with_reducible refine HPy.out.mono ?_
      rintro e w1 ⟨rfl, rfl⟩
      have hyc : y = 0 ∨ y = 1 := by omega
      clear hy2
      rcases hyc with rfl | rfl
      · go_wp2_with fail
        refine (HOne.out W0 97 (by decide)).mono ?_
        rintro e w2 ⟨rfl, hk2⟩
        have HK2 := Hid_mk hk2
        obtain ⟨r0, r1, r2, r3, r4, r5, rw1⟩ := HR0.out.kept hk2 id
        clear hk2
        unfold cellsR
        go_wp2
        have hz := HZ.out
        have hz2 := HZ0.out
        have hkz : Kp (fun b => b = z) w2 (putR w2 z (.int .i64 1) (.int .u64 (wd (oneS 97) 0 64 : Nat)) (.int .u64 (wd (oneS 97) 64 64 : Nat)) (.int .u64 (wd (oneS 97) 128 64 : Nat)) (.int .u64 (wd (oneS 97) 192 64 : Nat)) (.slice none 0 0)) := kp_putR (q := z) (Kp.refl (fun b => b = z) w2) (fun _ => rfl) _ _ _ _ _ _
        refine bodyPost_ret (v := .agg (cellsR 1 (oneS 97) none 0 0)) ?_ rfl ?_
        · simp [results, Try.results28, go_sem, r0, r1, r2, r3, r4, r5]
        · exact ⟨_, _, _, _, _, oneT 97, rfl, ⟨none, 0, rfl, Nat.le_refl _, by decide, fun h => absurd rfl h⟩, (HK0.out.trans' HK2.out).trans hkz (T := fun b => b = z) fun i hi e => by have e : i = z := e; omega, by unfold oneT; exact gdt_set _ _⟩
      · go_wp2_with fail
        refine (HOne.out W0 98 (by decide)).mono ?_
        rintro e w2 ⟨rfl, hk2⟩
        have HK2 := Hid_mk hk2
        obtain ⟨r0, r1, r2, r3, r4, r5, rw1⟩ := HR0.out.kept hk2 id
        clear hk2
        unfold cellsR
        go_wp2
        have hz := HZ.out
        have hz2 := HZ0.out
        have hkz : Kp (fun b => b = z) w2 (putR w2 z (.int .i64 1) (.int .u64 (wd (oneS 98) 0 64 : Nat)) (.int .u64 (wd (oneS 98) 64 64 : Nat)) (.int .u64 (wd (oneS 98) 128 64 : Nat)) (.int .u64 (wd (oneS 98) 192 64 : Nat)) (.slice none 0 0)) := kp_putR (q := z) (Kp.refl (fun b => b = z) w2) (fun _ => rfl) _ _ _ _ _ _
        refine bodyPost_ret (v := .agg (cellsR 1 (oneS 98) none 0 0)) ?_ rfl ?_
        · simp [results, Try.results28, go_sem, r0, r1, r2, r3, r4, r5]
        · exact ⟨_, _, _, _, _, oneT 98, rfl, ⟨none, 0, rfl, Nat.le_refl _, by decide, fun h => absurd rfl h⟩, (HK0.out.trans' HK2.out).trans hkz (T := fun b => b = z) fun i hi e => by have e : i = z := e; omega, by unfold oneT; exact gdt_set _ _⟩
  · have hlt' : ¬ (i : Int) < (l.length : Int) := by omega
    have hlb : decide ((i : Int) < (l.length : Int)) = false := decide_eq_false hlt'
    clear hlt
    go_upto_region 3 with fail
    go_wp2_with fail
    have hm : ∃ y : Nat, wrap64 (n + (i : Int)) % 2 = (y : Int) ∧ y < 2 := ⟨(wrap64 (n + (i : Int)) % 2).toNat, by omega, by omega⟩
    obtain ⟨y, hy, hy2⟩ := hm
    have hp := HP.out (wrap64 (n + (i : Int))) W0
    rw [hy] at hp
    have HPy := Hid_mk hp
    have HOne := Hid_mk fun (V : World) (b : Nat) (hb : b < 256) => tre.one_any V b hb
    obtain ⟨r0, r1, r2, r3, r4, r5, rw1⟩ := HR0.out
    clear hp hy
    with_reducible refine HPy.out.mono ?_
    rintro e w1 ⟨rfl, rfl⟩
    have hyc : y = 0 ∨ y = 1 := by omega
    clear hy2
    rcases hyc with rfl | rfl
    · go_wp2_with fail
      refine (HOne.out W0 97 (by decide)).mono ?_
      rintro e w2 ⟨rfl, hk2⟩
      have HK2 := Hid_mk hk2
      obtain ⟨r0, r1, r2, r3, r4, r5, rw1⟩ := HR0.out.kept hk2 id
      clear hk2
      unfold cellsR
      go_wp2
      have hz := HZ.out
      have hz2 := HZ0.out
      have hkz : Kp (fun b => b = z) w2 (putR w2 z (.int .i64 1) (.int .u64 (wd (oneS 97) 0 64 : Nat)) (.int .u64 (wd (oneS 97) 64 64 : Nat)) (.int .u64 (wd (oneS 97) 128 64 : Nat)) (.int .u64 (wd (oneS 97) 192 64 : Nat)) (.slice none 0 0)) := kp_putR (q := z) (Kp.refl (fun b => b = z) w2) (fun _ => rfl) _ _ _ _ _ _
      refine bodyPost_ret (v := .agg (cellsR 1 (oneS 97) none 0 0)) ?_ rfl ?_
      · simp [results, Try.results28, go_sem, r0, r1, r2, r3, r4, r5]
      · exact ⟨_, _, _, _, _, oneT 97, rfl, ⟨none, 0, rfl, Nat.le_refl _, by decide, fun h => absurd rfl h⟩, (HK0.out.trans' HK2.out).trans hkz (T := fun b => b = z) fun i hi e => by have e : i = z := e; omega, by unfold oneT; exact gdt_set _ _⟩
    · go_wp2_with fail
      refine (HOne.out W0 98 (by decide)).mono ?_
      rintro e w2 ⟨rfl, hk2⟩
      have HK2 := Hid_mk hk2
      obtain ⟨r0, r1, r2, r3, r4, r5, rw1⟩ := HR0.out.kept hk2 id
      clear hk2
      unfold cellsR
      go_wp2
      have hz := HZ.out
      have hz2 := HZ0.out
      have hkz : Kp (fun b => b = z) w2 (putR w2 z (.int .i64 1) (.int .u64 (wd (oneS 98) 0 64 : Nat)) (.int .u64 (wd (oneS 98) 64 64 : Nat)) (.int .u64 (wd (oneS 98) 128 64 : Nat)) (.int .u64 (wd (oneS 98) 192 64 : Nat)) (.slice none 0 0)) := kp_putR (q := z) (Kp.refl (fun b => b = z) w2) (fun _ => rfl) _ _ _ _ _ _
      refine bodyPost_ret (v := .agg (cellsR 1 (oneS 98) none 0 0)) ?_ rfl ?_
      · simp [results, Try.results28, go_sem, r0, r1, r2, r3, r4, r5]
      · exact ⟨_, _, _, _, _, oneT 98, rfl, ⟨none, 0, rfl, Nat.le_refl _, by decide, fun h => absurd rfl h⟩, (HK0.out.trans' HK2.out).trans hkz (T := fun b => b = z) fun i hi e => by have e : i = z := e; omega, by unfold oneT; exact gdt_set _ _⟩

end Go.Proofs.Ytaneblecgjahbab.ere

namespace Go.Proofs.Ytaneblecgjahbab.ere
open Go.RowKit Go.Proofs.Ytaneblecgjahbab.sum Go.Proofs.Ytaneblecgjahbab.kept Go.Proofs.Ytaneblecgjahbab.pop Go.Proofs.Ytaneblecgjahbab.cls Go.Proofs.Ytaneblecgjahbab.tre Go.Proofs.Ytaneblecgjahbab.str Go.Proofs.Ytaneblecgjahbab.turned Go.Proofs.Ytaneblecgjahbab.treeArg
set_option linter.unusedVariables false

/-- the set's members: a; b if the number is even; all if it is divided by five -/
def memF (b2 b5 : Bool) (x : Nat) : Bool := decide (x = 97) || (decide (x = 98) && b2) || b5
theorem upTo_step (f : Nat → Bool) (k : Nat) : ∀ x, x < 256 → x ≠ k → upTo f (k + 1) x = upTo f k x := fun x _ hx => by
  unfold upTo
  rw [Bool.eq_iff_iff]
  simp only [Bool.and_eq_true, decide_eq_true_eq]
  constructor <;> intro ⟨a, b⟩ <;> exact ⟨by omega, b⟩
theorem upTo_here (f : Nat → Bool) (k : Nat) : upTo f (k + 1) k = f k := by simp [upTo]

set_option maxRecDepth 100000 in
set_option maxHeartbeats 8000000 in
theorem re_set (d : Nat) (hd : d ≤ 4) (w : World) (k n : Int) (a : Option Addr) (len c : Nat) (hk : k % 12 = 2) :
    Calls Try.prog 9 #[.agg #[.int .i64 k, .int .i64 n, .slice a len c], .int .i64 (d : Int)] w (MkPost w d) := by
  have HP1 := Hid_mk fun W => pick_any k 12 (by decide) (by decide) W
  obtain ⟨z, hz⟩ : ∃ z, w.heap.size = z := ⟨_, rfl⟩
  have HZ := Hid_mk hz
  have HY := Hid_mk hk
  have hmf : ∀ (fn : Fn) (first cap : Array Value) (w : World), (Instr.makeFunc fn first cap).run Try.prog w = .ok (.func fn first cap) w := fun _ _ _ _ => rfl
  clear hz hk
  go_enter Try.func9, Try.ntmps9
  go_upto_region 1 with fail
  rw [HZ.out, show z + 1 + 1 = z + 2 from rfl]
  refine wp_name (fun V => Kp No w V ∧ V.heap.size = z + 3 ∧ (V.cell? ⟨z, 0, none⟩ = some (.int .i64 k) ∧ V.cell? ⟨z, 1, none⟩ = some (.int .i64 n) ∧ V.cell? ⟨z + 1, 0, none⟩ = some (.int .i64 (d : Int))) ∧ RAt V (z + 2) (.int .i64 0) (.int .u64 0) (.int .u64 0) (.int .u64 0) (.int .u64 0) (.slice none 0 0)) ?_ ?_
  · have hz := HZ.out
    have e1 : z + 1 = (w.alloc (.cells #[.int .i64 k, .int .i64 n, .slice a len c] 24)).heap.size := by simp [hz]
    have e2 : z + 2 = ((w.alloc (.cells #[.int .i64 k, .int .i64 n, .slice a len c] 24)).alloc (.cells #[.int .i64 (d : Int)] 3)).heap.size := by simp [hz]
    refine ⟨(((Kp.refl No w).alloc _).alloc _).alloc _, by simp [hz], ⟨?_, ?_, ?_⟩, ?_⟩
    · refine Kp.cell' (((Kp.refl No _).alloc _).alloc _) ?_ id; rw [← hz]; simp
    · refine Kp.cell' (((Kp.refl No _).alloc _).alloc _) ?_ id; rw [← hz]; simp
    · refine Kp.cell' ((Kp.refl No _).alloc _) ?_ id; rw [e1]; simp
    · rw [e2]; exact RAt.new _ _ _ _ _ _ _ _
  rintro W1 ⟨hk1, hz1, ⟨t0, t1, t3⟩, hr1⟩
  obtain ⟨W2, hW2⟩ : ∃ W2, W1.alloc (.cells (Array.replicate 256 (.bool false)) 68) = W2 := ⟨_, rfl⟩
  have hk2 : Kp No W1 W2 := by rw [← hW2]; exact (Kp.refl No W1).alloc _
  have hb2 : BgAt W2 (z + 3) nul := by rw [← hW2, ← hz1]; exact BgAt.zero W1 _
  have s1 := hk2.cell' t1 id
  have HK1 := Hid_mk hk1
  have HZ1 := Hid_mk hz1
  have HR1 := Hid_mk hr1
  have HT1 := Hid_mk s1
  have HK2 := Hid_mk hk2
  have HB2 := Hid_mk hb2
  have HW2 := Hid_mk hW2
  have zv := zero36.1
  generalize Array.replicate 256 (Value.bool false) = Z at zv HW2
  clear t1 hk1 hz1 hr1 s1 hk2 hb2 hW2
  have hcond : d = 0 ∨ ¬ (d : Int) ≤ 0 := by omega
  go_wp2_with fail
  with_reducible refine (HP1.out _).mono ?_
  rintro e W1 ⟨rfl, rfl⟩
  rw [HY.out]
  obtain ⟨b2, h2⟩ : ∃ b2, (n.tmod 2 == 0) = b2 := ⟨_, rfl⟩
  obtain ⟨b5, h5⟩ : ∃ b5, (n.tmod 5 == 0) = b5 := ⟨_, rfl⟩
  have H2 := Hid_mk h2
  have H5 := Hid_mk h5
  clear h2 h5
  clear hd
  rcases hcond with rfl | hd1
  · have hdb : decide ((0 : Int) ≤ 0) = true := rfl
    go_wp2_with fail
    rw [HW2.out]
    rw [show W1.heap.size = z + 3 from HZ1.out]
    clear t0 t3
    obtain ⟨f, hf⟩ : ∃ f, memF b2 b5 = f := ⟨_, rfl⟩
    have HF := Hid_mk hf
    clear hf
    go_loopw [8] (fun i wr => PnRel W2 (z + 3) f i wr) (fun i _ => 256 - (intOf i).toNat)
    case atStart => exact ⟨0, by omega, rfl, HB2.out.congr fun x _ => by simp [nul, upTo], Kp.refl _ _⟩
    case round =>
      obtain ⟨k, hk, rfl, hs, hkp⟩ := hrel
      have HS := Hid_mk hs
      have HKp := Hid_mk hkp
      have hk0 : (0 : Int) ≤ (k : Int) := Int.natCast_nonneg _
      have ht1 := hkp.cell' HT1.out (by show ¬ z = z + 3; omega)
      by_cases hlt : k < 256
      · have hki : (k : Int) < 256 := by omega
        have hwi : IntKind.i64.wrap ((k : Int) + 1) = (k : Int) + 1 := IntWalk.i64_in _ (by omega)
        have hcq := hs.cell k hlt
        have hwm := hs.warm k
        have HST := Hid_mk (hs.set (g := upTo f (k + 1)) k hlt (upTo_step f k))
        rw [upTo_here] at HST
        have hfk := congrFun HF.out k
        unfold memF at hfk
        have HFk := Hid_mk hfk
        have h2 := H2.out
        have h5 := H5.out
        clear hs hkp hfk
        by_cases h97 : k = 97
        · subst h97
          have e : f 97 = true := by have := HFk.out; simp at this; exact this
          rw [e] at HST
          clear h2 h5 e
          go_wp2
          go_roundw
          case rel => exact ⟨97 + 1, by omega, by rfl, HST.out, HKp.out.setCell (p := ⟨z + 3, 97, none⟩) (fun _ => rfl) _⟩
          case measure => simp only [intOf]; omega
        · by_cases h98 : k = 98
          · subst h98
            cases b2 with
            | true =>
              have e : f 98 = true := by have := HFk.out; simp at this; exact this
              rw [e] at HST
              clear h5 e h97
              go_wp2
              go_roundw
              case rel => exact ⟨98 + 1, by omega, by rfl, HST.out, HKp.out.setCell (p := ⟨z + 3, 98, none⟩) (fun _ => rfl) _⟩
              case measure => simp only [intOf]; omega
            | false =>
              have e : f 98 = b5 := by have := HFk.out; simp at this; exact this.symm
              rw [e] at HST
              clear e h97
              go_wp2
              go_roundw
              case rel => exact ⟨98 + 1, by omega, by rfl, HST.out, HKp.out.setCell (p := ⟨z + 3, 98, none⟩) (fun _ => rfl) _⟩
              case measure => simp only [intOf]; omega
          · have e : f k = b5 := by have := HFk.out; simp [h97, h98] at this; exact this.symm
            rw [e] at HST
            have i97 : ((k : Int) == 97) = false := by simp; omega
            have i98 : ((k : Int) == 98) = false := by simp; omega
            clear e h97 h98 h2
            go_wp2
            go_roundw
            case rel => exact ⟨k + 1, by omega, by push_cast; rfl, HST.out, HKp.out.setCell (p := ⟨z + 3, k, none⟩) (fun _ => rfl) _⟩
            case measure => simp only [intOf]; omega
      · obtain rfl : k = 256 := by omega
        have h1 := hs.congr (upTo_all f)
        have H1 := Hid_mk h1.range
        have hk3 : Kp No W1 wr := HK2.out.trans hkp fun i hi e => by have := HZ1.out; omega
        have HK3 := Hid_mk (HK1.out.trans' hk3)
        have HR3 := Hid_mk (HR1.out.kept hk3 id)
        have HPk := Hid_mk (packed_any wr f)
        unfold bv at HPk
        have hld := h1.range
        clear hs hkp hk3 HS HKp h1 hld HK2 HB2
        go_upto_region 27 with fail
        refine wp_region_lit ?_
        refine wpList_load_mid rfl _ _ rfl (z + 3) 0 rfl (bc f) _ H1.out Try.underlying68 rfl (info_bc f) ?_
        simp only [Act.put, List.setIfInBounds_toArray, List.set_cons_zero, List.set_cons_succ]
        generalize (bc f).toArray = A at HPk ⊢
        go_wp2_with fail
        with_reducible refine HPk.out.mono ?_
        rintro e w5 ⟨rfl, hk5⟩
        have HK5 := Hid_mk hk5
        obtain ⟨r0, r1, r2, r3, r4, r5, rw1⟩ := HR3.out.kept hk5 id
        clear hk5
        unfold sv
        go_wp2
        have hz := HZ.out
        have hkz : Kp (fun b => b = z + 2) w5 (putR w5 (z + 2) (.int .i64 1) (.int .u64 (wd f 0 64 : Nat)) (.int .u64 (wd f 64 64 : Nat)) (.int .u64 (wd f 128 64 : Nat)) (.int .u64 (wd f 192 64 : Nat)) (.slice none 0 0)) := kp_putR (q := z + 2) (Kp.refl (fun b => b = z + 2) w5) (fun _ => rfl) _ _ _ _ _ _
        have hkf : Kp No w (putR w5 (z + 2) (.int .i64 1) (.int .u64 (wd f 0 64 : Nat)) (.int .u64 (wd f 64 64 : Nat)) (.int .u64 (wd f 128 64 : Nat)) (.int .u64 (wd f 192 64 : Nat)) (.slice none 0 0)) := (HK3.out.trans' HK5.out).trans hkz (T := fun b => b = z + 2) fun i hi e => by have e : i = z + 2 := e; omega
        refine bodyPost_ret (v := .agg (cellsR 1 f none 0 0)) ?_ rfl ?_
        · simp [results, Try.results9, go_sem, r0, r1, r2, r3, r4, r5]
        · exact ⟨_, _, _, _, _, .mk 1 f [], rfl, ⟨none, 0, rfl, Nat.le_refl _, by decide, fun h => absurd rfl h⟩, hkf, gdt_set _ _⟩
  · have hdb : decide ((d : Int) ≤ 0) = false := decide_eq_false (by omega)
    go_wp2_with fail
    rw [HW2.out]
    rw [show W1.heap.size = z + 3 from HZ1.out]
    clear t0 t3
    obtain ⟨f, hf⟩ : ∃ f, memF b2 b5 = f := ⟨_, rfl⟩
    have HF := Hid_mk hf
    clear hf
    go_loopw [8] (fun i wr => PnRel W2 (z + 3) f i wr) (fun i _ => 256 - (intOf i).toNat)
    case atStart => exact ⟨0, by omega, rfl, HB2.out.congr fun x _ => by simp [nul, upTo], Kp.refl _ _⟩
    case round =>
      obtain ⟨k, hk, rfl, hs, hkp⟩ := hrel
      have HS := Hid_mk hs
      have HKp := Hid_mk hkp
      have hk0 : (0 : Int) ≤ (k : Int) := Int.natCast_nonneg _
      have ht1 := hkp.cell' HT1.out (by show ¬ z = z + 3; omega)
      by_cases hlt : k < 256
      · have hki : (k : Int) < 256 := by omega
        have hwi : IntKind.i64.wrap ((k : Int) + 1) = (k : Int) + 1 := IntWalk.i64_in _ (by omega)
        have hcq := hs.cell k hlt
        have hwm := hs.warm k
        have HST := Hid_mk (hs.set (g := upTo f (k + 1)) k hlt (upTo_step f k))
        rw [upTo_here] at HST
        have hfk := congrFun HF.out k
        unfold memF at hfk
        have HFk := Hid_mk hfk
        have h2 := H2.out
        have h5 := H5.out
        clear hs hkp hfk
        by_cases h97 : k = 97
        · subst h97
          have e : f 97 = true := by have := HFk.out; simp at this; exact this
          rw [e] at HST
          clear h2 h5 e
          go_wp2
          go_roundw
          case rel => exact ⟨97 + 1, by omega, by rfl, HST.out, HKp.out.setCell (p := ⟨z + 3, 97, none⟩) (fun _ => rfl) _⟩
          case measure => simp only [intOf]; omega
        · by_cases h98 : k = 98
          · subst h98
            cases b2 with
            | true =>
              have e : f 98 = true := by have := HFk.out; simp at this; exact this
              rw [e] at HST
              clear h5 e h97
              go_wp2
              go_roundw
              case rel => exact ⟨98 + 1, by omega, by rfl, HST.out, HKp.out.setCell (p := ⟨z + 3, 98, none⟩) (fun _ => rfl) _⟩
              case measure => simp only [intOf]; omega
            | false =>
              have e : f 98 = b5 := by have := HFk.out; simp at this; exact this.symm
              rw [e] at HST
              clear e h97
              go_wp2
              go_roundw
              case rel => exact ⟨98 + 1, by omega, by rfl, HST.out, HKp.out.setCell (p := ⟨z + 3, 98, none⟩) (fun _ => rfl) _⟩
              case measure => simp only [intOf]; omega
          · have e : f k = b5 := by have := HFk.out; simp [h97, h98] at this; exact this.symm
            rw [e] at HST
            have i97 : ((k : Int) == 97) = false := by simp; omega
            have i98 : ((k : Int) == 98) = false := by simp; omega
            clear e h97 h98 h2
            go_wp2
            go_roundw
            case rel => exact ⟨k + 1, by omega, by push_cast; rfl, HST.out, HKp.out.setCell (p := ⟨z + 3, k, none⟩) (fun _ => rfl) _⟩
            case measure => simp only [intOf]; omega
      · obtain rfl : k = 256 := by omega
        have h1 := hs.congr (upTo_all f)
        have H1 := Hid_mk h1.range
        have hk3 : Kp No W1 wr := HK2.out.trans hkp fun i hi e => by have := HZ1.out; omega
        have HK3 := Hid_mk (HK1.out.trans' hk3)
        have HR3 := Hid_mk (HR1.out.kept hk3 id)
        have HPk := Hid_mk (packed_any wr f)
        unfold bv at HPk
        have hld := h1.range
        clear hs hkp hk3 HS HKp h1 hld HK2 HB2
        go_upto_region 27 with fail
        refine wp_region_lit ?_
        refine wpList_load_mid rfl _ _ rfl (z + 3) 0 rfl (bc f) _ H1.out Try.underlying68 rfl (info_bc f) ?_
        simp only [Act.put, List.setIfInBounds_toArray, List.set_cons_zero, List.set_cons_succ]
        generalize (bc f).toArray = A at HPk ⊢
        go_wp2_with fail
        with_reducible refine HPk.out.mono ?_
        rintro e w5 ⟨rfl, hk5⟩
        have HK5 := Hid_mk hk5
        obtain ⟨r0, r1, r2, r3, r4, r5, rw1⟩ := HR3.out.kept hk5 id
        clear hk5
        unfold sv
        go_wp2
        have hz := HZ.out
        have hkz : Kp (fun b => b = z + 2) w5 (putR w5 (z + 2) (.int .i64 1) (.int .u64 (wd f 0 64 : Nat)) (.int .u64 (wd f 64 64 : Nat)) (.int .u64 (wd f 128 64 : Nat)) (.int .u64 (wd f 192 64 : Nat)) (.slice none 0 0)) := kp_putR (q := z + 2) (Kp.refl (fun b => b = z + 2) w5) (fun _ => rfl) _ _ _ _ _ _
        have hkf : Kp No w (putR w5 (z + 2) (.int .i64 1) (.int .u64 (wd f 0 64 : Nat)) (.int .u64 (wd f 64 64 : Nat)) (.int .u64 (wd f 128 64 : Nat)) (.int .u64 (wd f 192 64 : Nat)) (.slice none 0 0)) := (HK3.out.trans' HK5.out).trans hkz (T := fun b => b = z + 2) fun i hi e => by have e : i = z + 2 := e; omega
        refine bodyPost_ret (v := .agg (cellsR 1 f none 0 0)) ?_ rfl ?_
        · simp [results, Try.results9, go_sem, r0, r1, r2, r3, r4, r5]
        · exact ⟨_, _, _, _, _, .mk 1 f [], rfl, ⟨none, 0, rfl, Nat.le_refl _, by decide, fun h => absurd rfl h⟩, hkf, gdt_set _ _⟩

end Go.Proofs.Ytaneblecgjahbab.ere
