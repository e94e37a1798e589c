/- The reference's Same: two trees compared, by recursion. The law's known: three texts parsed. Package ere: is a tree right, how many leaves has it? -/
import Derived.Test.YtaneblecgjahbabRefTree
import Derived.Test.YtaneblecgjahbabEreAtomM
import Derived.Test.YtaneblecgjahbabErePureM
import Derived.Test.YtaneblecgjahbabRefRightM

namespace Go.Proofs.Ytaneblecgjahbab.tre
open Go.RowKit Go.Proofs.Ytaneblecgjahbab.sum Go.Proofs.Ytaneblecgjahbab.kept Go.Proofs.Ytaneblecgjahbab.pop Go.Proofs.Ytaneblecgjahbab.cls
set_option linter.unusedVariables false

def eqB (f g : Nat → Bool) : Bool := wd f 0 64 == wd g 0 64 && wd f 64 64 == wd g 64 64 && wd f 128 64 == wd g 128 64 && wd f 192 64 == wd g 192 64
mutual
def sameS : Tr → Tr → Bool
  | .mk k f l, .mk k' f' l' => decide (k = k') && eqB f f' && decide (l.length = l'.length) && sameL l l'
def sameL : List Tr → List Tr → Bool
  | t :: l, t' :: l' => sameS t t' && sameL l l'
  | _, _ => true
end
theorem sameL_drop (l l' : List Tr) (j : Nat) (h : j < l.length) (h' : j < l'.length) : sameL (l.drop j) (l'.drop j) = (sameS l[j] l'[j] && sameL (l.drop (j + 1)) (l'.drop (j + 1))) := by
  rw [List.drop_eq_getElem_cons h, List.drop_eq_getElem_cons h', sameL]
theorem eq_sets (f g : Nat → Bool) (W : World) : (Op.equalIn 10000 27 (.agg #[.int .u64 (wd f 0 64 : Nat), .int .u64 (wd f 64 64 : Nat), .int .u64 (wd f 128 64 : Nat), .int .u64 (wd f 192 64 : Nat)]) (.agg #[.int .u64 (wd g 0 64 : Nat), .int .u64 (wd g 64 64 : Nat), .int .u64 (wd g 128 64 : Nat), .int .u64 (wd g 192 64 : Nat)])).run Try.prog W = .ok (eqB f g) W := by
  rw [eq_set]
  unfold eqB
  have e : ∀ n m : Nat, ((n : Int) == (m : Int)) = (n == m) := fun n m => by
    rw [Bool.eq_iff_iff]
    simp only [beq_iff_eq]
    omega
  simp only [e]
def SmRel (w : World) (l l' : List Tr) (i : Value) (wr : World) : Prop :=
  ∃ j : Nat, j ≤ l.length ∧ i = .int .i64 (j : Int) ∧ sameL (l.drop j) (l'.drop j) = sameL l l' ∧ Kp No w wr

set_option maxRecDepth 100000 in
set_option maxHeartbeats 4000000 in
theorem same_any {T : Nat → Prop} : ∀ (n : Nat) (t : Tr), t.size ≤ n → ∀ (t' : Tr) (w : World) (v v' : Value), ReV T w t v → ReV T w t' v' →
    Calls Try.prog 24 #[v, v'] w fun e w' => e = .returned (.bool (sameS t t')) ∧ Kp No w w' := by
  intro n
  induction n with
  | zero => intro t h; obtain ⟨k, f, l⟩ := t; simp only [Tr.size] at h; omega
  | succ n ih =>
    intro t hsz t' w v v' hv hv'
    obtain ⟨k, f, l⟩ := t
    obtain ⟨k', f', l'⟩ := t'
    simp only [Tr.size] at hsz
    obtain ⟨a, c, rfl, h1, h2, h3⟩ := hv
    obtain ⟨a', c', rfl, h1', h2', h3'⟩ := hv'
    have HIh := Hid_mk ih
    have HSz := Hid_mk hsz
    have H3 := Hid_mk h3
    have H3' := Hid_mk h3'
    obtain ⟨L, hL⟩ : ∃ L, l.length = L := ⟨_, rfl⟩
    obtain ⟨L', hL'⟩ : ∃ L, l'.length = L := ⟨_, rfl⟩
    have HLn := Hid_mk hL
    have HLn' := Hid_mk hL'
    have hsd : sameS (.mk k f l) (.mk k' f' l') = (decide (k = k') && eqB f f' && decide (L = L') && sameL l l') := by rw [sameS, hL, hL']
    rw [hsd]
    rw [hL] at h1
    rw [hL'] at h1'
    have hLi : (0 : Int) ≤ (L : Int) := Int.natCast_nonneg _
    obtain ⟨W0, hW0⟩ : ∃ W0, (w.alloc (.cells (cellsR k f a L c) 30)).alloc (.cells (cellsR k' f' a' L' c') 30) = W0 := ⟨_, rfl⟩
    obtain ⟨q, hq⟩ : ∃ q, w.heap.size = q := ⟨_, rfl⟩
    have HK0 : Hid (Kp No w W0) := Hid_mk (by rw [← hW0]; exact ((Kp.refl No w).alloc _).alloc _)
    have x : ∀ i u, (cellsR k f a L c)[i]? = some u → W0.cell? ⟨q, i, none⟩ = some u := fun i u h => by
      rw [← hW0, ← hq]
      refine ((Kp.refl No _).alloc _).cell' ?_ id
      simpa using h
    have x' : ∀ i u, (cellsR k' f' a' L' c')[i]? = some u → W0.cell? ⟨q + 1, i, none⟩ = some u := fun i u h => by
      rw [← hW0, ← hq]
      have := (show ((w.alloc (.cells (cellsR k f a L c) 30)).alloc (.cells (cellsR k' f' a' L' c') 30)).cell? ⟨(w.alloc (.cells (cellsR k f a L c) 30)).heap.size, i, none⟩ = (cellsR k' f' a' L' c')[i]? by simp)
      rw [← h, ← this]
      simp
    have c0 := x 0 _ rfl
    have c1 := x 1 _ rfl
    have c2 := x 2 _ rfl
    have c3 := x 3 _ rfl
    have c4 := x 4 _ rfl
    have c5 := x 5 _ rfl
    have d0 := x' 0 _ rfl
    have d1 := x' 1 _ rfl
    have d2 := x' 2 _ rfl
    have d3 := x' 3 _ rfl
    have d4 := x' 4 _ rfl
    have d5 := x' 5 _ rfl
    have hz := fun W => eq_sets f f' W
    have HW0 := Hid_mk hW0
    have HQ := Hid_mk hq
    unfold cellsR at HW0
    rw [hL, hL']
    clear ih hsz h3 h3' hL hL' hsd hW0 hq x x'
    go_enter Try.func24, Try.ntmps24
    unfold cellsR
    go_upto_region 1 with fail
    rw [HW0.out, HQ.out]
    clear HW0
    obtain ⟨z, hzz⟩ : ∃ z, eqB f f' = z := ⟨_, rfl⟩
    rw [hzz] at hz
    have HZ := Hid_mk hzz
    clear hzz
    by_cases hk : k = k'
    · have hkb : (k == k') = true := by simp [hk]
      have hkb2 : (k != k') = false := by simp [hk]
      have HKk := Hid_mk hk
      clear hk
      cases z with
      | false =>
        go_wp2
        go_ret
        exact ⟨by rw [HZ.out]; simp, HK0.out⟩
      | true =>
        by_cases hlen : L = L'
        · have hlb : ((L : Int) == (L' : Int)) = true := by simp [hlen]
          have hlb2 : ((L : Int) != (L' : Int)) = false := by simp [hlen]
          have HLen := Hid_mk hlen
          clear hlen
          go_wp2
          go_loopw [5] (fun i wr => SmRel W0 l l' i wr) (fun i _ => L - (intOf i).toNat)
          case atStart => exact ⟨0, Nat.zero_le _, rfl, rfl, Kp.refl _ _⟩
          case round =>
            obtain ⟨j, hj, rfl, he, hkp⟩ := hrel
            rw [HLn.out] at hj
            have HKp := Hid_mk hkp
            have HE := Hid_mk he
            have y5 := hkp.cell' c5 id
            have z5 := hkp.cell' d5 id
            have hj0 : (0 : Int) ≤ (j : Int) := Int.natCast_nonneg _
            by_cases hlt : j < L
            · have hji : (j : Int) < (L : Int) := by omega
              have hji' : (j : Int) < (L' : Int) := by have := HLen.out; omega
              have hjl : j < l.length := by rw [HLn.out]; exact hlt
              have hjl' : j < l'.length := by rw [HLn'.out, ← HLen.out]; exact hlt
              have hwi : IntKind.i64.wrap ((j : Int) + 1) = (j : Int) + 1 := IntWalk.i64_in _ (by omega)
              have hd := sameL_drop l l' j hjl hjl'
              rw [he] at hd
              obtain ⟨b, o, rfl, -, hr⟩ := H3.out (by intro e; rw [e] at hjl; simp at hjl)
              obtain ⟨b', o', rfl, -, hr'⟩ := H3'.out (by intro e; rw [e] at hjl'; simp at hjl')
              have hr1 := ReL.no (HK0.out.trans' hkp) b o l hr
              have hr1' := ReL.no (HK0.out.trans' hkp) b' o' l' hr'
              obtain ⟨k2, f2, a2, n2, cc2, g0, g1, g2, g3, g4, g5, hv2⟩ := hr1.get j hjl
              obtain ⟨k3, f3, a3, n3, cc3, e0, e1, e2, e3, e4, e5, hv3⟩ := hr1'.get j hjl'
              have hsz2 := size_get l j hjl
              obtain ⟨B, hB⟩ : ∃ B, sameS l[j] l'[j] = B := ⟨_, rfl⟩
              rw [hB] at hd
              have HD := Hid_mk hd
              have HCn : Hid (∀ W, Kp No wr W → Calls Try.prog 24 #[.agg (cellsR k2 f2 a2 n2 cc2), .agg (cellsR k3 f3 a3 n3 cc3)] W fun e w' => e = .returned (.bool B) ∧ Kp No W w') := Hid_mk fun W hW => by
                rw [← hB]
                exact HIh.out l[j] (by have := HSz.out; omega) l'[j] W _ _ (ReV.no hW _ _ hv2) (ReV.no hW _ _ hv3)
              unfold cellsR at HCn
              have hS : (fun V : World => V.cell? ⟨q, 5, none⟩ = some (.slice (some ⟨b, o, none⟩) L c) ∧ V.cell? ⟨q + 1, 5, none⟩ = some (.slice (some ⟨b', o', none⟩) L' c') ∧ V.cell? ⟨b, o + j * 6, none⟩ = some (.int .i64 k2) ∧ V.cell? ⟨b, o + j * 6 + 1, none⟩ = some (.int .u64 (wd f2 0 64 : Nat)) ∧ V.cell? ⟨b, o + j * 6 + 2, none⟩ = some (.int .u64 (wd f2 64 64 : Nat)) ∧ V.cell? ⟨b, o + j * 6 + 3, none⟩ = some (.int .u64 (wd f2 128 64 : Nat)) ∧ V.cell? ⟨b, o + j * 6 + 4, none⟩ = some (.int .u64 (wd f2 192 64 : Nat)) ∧ V.cell? ⟨b, o + j * 6 + 5, none⟩ = some (.slice a2 n2 cc2) ∧ V.cell? ⟨b', o' + j * 6, none⟩ = some (.int .i64 k3) ∧ V.cell? ⟨b', o' + j * 6 + 1, none⟩ = some (.int .u64 (wd f3 0 64 : Nat)) ∧ V.cell? ⟨b', o' + j * 6 + 2, none⟩ = some (.int .u64 (wd f3 64 64 : Nat)) ∧ V.cell? ⟨b', o' + j * 6 + 3, none⟩ = some (.int .u64 (wd f3 128 64 : Nat)) ∧ V.cell? ⟨b', o' + j * 6 + 4, none⟩ = some (.int .u64 (wd f3 192 64 : Nat)) ∧ V.cell? ⟨b', o' + j * 6 + 5, none⟩ = some (.slice a3 n3 cc3)) wr := ⟨y5, z5, g0, g1, g2, g3, g4, g5, e0, e1, e2, e3, e4, e5⟩
              have HS := Hid_mk fun W (hW : Kp No wr W) => (⟨hW.cell' hS.1 id, hW.cell' hS.2.1 id, hW.cell' hS.2.2.1 id, hW.cell' hS.2.2.2.1 id, hW.cell' hS.2.2.2.2.1 id, hW.cell' hS.2.2.2.2.2.1 id, hW.cell' hS.2.2.2.2.2.2.1 id, hW.cell' hS.2.2.2.2.2.2.2.1 id, hW.cell' hS.2.2.2.2.2.2.2.2.1 id, hW.cell' hS.2.2.2.2.2.2.2.2.2.1 id, hW.cell' hS.2.2.2.2.2.2.2.2.2.2.1 id, hW.cell' hS.2.2.2.2.2.2.2.2.2.2.2.1 id, hW.cell' hS.2.2.2.2.2.2.2.2.2.2.2.2.1 id, hW.cell' hS.2.2.2.2.2.2.2.2.2.2.2.2.2 id⟩ : (fun V : World => V.cell? ⟨q, 5, none⟩ = some (.slice (some ⟨b, o, none⟩) L c) ∧ V.cell? ⟨q + 1, 5, none⟩ = some (.slice (some ⟨b', o', none⟩) L' c') ∧ V.cell? ⟨b, o + j * 6, none⟩ = some (.int .i64 k2) ∧ V.cell? ⟨b, o + j * 6 + 1, none⟩ = some (.int .u64 (wd f2 0 64 : Nat)) ∧ V.cell? ⟨b, o + j * 6 + 2, none⟩ = some (.int .u64 (wd f2 64 64 : Nat)) ∧ V.cell? ⟨b, o + j * 6 + 3, none⟩ = some (.int .u64 (wd f2 128 64 : Nat)) ∧ V.cell? ⟨b, o + j * 6 + 4, none⟩ = some (.int .u64 (wd f2 192 64 : Nat)) ∧ V.cell? ⟨b, o + j * 6 + 5, none⟩ = some (.slice a2 n2 cc2) ∧ V.cell? ⟨b', o' + j * 6, none⟩ = some (.int .i64 k3) ∧ V.cell? ⟨b', o' + j * 6 + 1, none⟩ = some (.int .u64 (wd f3 0 64 : Nat)) ∧ V.cell? ⟨b', o' + j * 6 + 2, none⟩ = some (.int .u64 (wd f3 64 64 : Nat)) ∧ V.cell? ⟨b', o' + j * 6 + 3, none⟩ = some (.int .u64 (wd f3 128 64 : Nat)) ∧ V.cell? ⟨b', o' + j * 6 + 4, none⟩ = some (.int .u64 (wd f3 192 64 : Nat)) ∧ V.cell? ⟨b', o' + j * 6 + 5, none⟩ = some (.slice a3 n3 cc3)) W)
              have hS1 := HS.out wr.drew (Kp.refl No wr).drew
              clear hkp he hd hr hr' hr1 hr1' hv2 hv3 hsz2 hB hS z5 g0 g1 g2 g3 g4 g5 e0 e1 e2 e3 e4 e5
              go_wp2_with fail
              go_region_held3 (fun V : World => V.cell? ⟨q, 5, none⟩ = some (.slice (some ⟨b, o, none⟩) L c) ∧ V.cell? ⟨q + 1, 5, none⟩ = some (.slice (some ⟨b', o', none⟩) L' c') ∧ V.cell? ⟨b, o + j * 6, none⟩ = some (.int .i64 k2) ∧ V.cell? ⟨b, o + j * 6 + 1, none⟩ = some (.int .u64 (wd f2 0 64 : Nat)) ∧ V.cell? ⟨b, o + j * 6 + 2, none⟩ = some (.int .u64 (wd f2 64 64 : Nat)) ∧ V.cell? ⟨b, o + j * 6 + 3, none⟩ = some (.int .u64 (wd f2 128 64 : Nat)) ∧ V.cell? ⟨b, o + j * 6 + 4, none⟩ = some (.int .u64 (wd f2 192 64 : Nat)) ∧ V.cell? ⟨b, o + j * 6 + 5, none⟩ = some (.slice a2 n2 cc2) ∧ V.cell? ⟨b', o' + j * 6, none⟩ = some (.int .i64 k3) ∧ V.cell? ⟨b', o' + j * 6 + 1, none⟩ = some (.int .u64 (wd f3 0 64 : Nat)) ∧ V.cell? ⟨b', o' + j * 6 + 2, none⟩ = some (.int .u64 (wd f3 64 64 : Nat)) ∧ V.cell? ⟨b', o' + j * 6 + 3, none⟩ = some (.int .u64 (wd f3 128 64 : Nat)) ∧ V.cell? ⟨b', o' + j * 6 + 4, none⟩ = some (.int .u64 (wd f3 192 64 : Nat)) ∧ V.cell? ⟨b', o' + j * 6 + 5, none⟩ = some (.slice a3 n3 cc3))
                (first | exact hS1 | (dsimp only; exact hS1))
                (first | (go_at_call 24; with_reducible refine (HCn.out wr.drew (Kp.refl No wr).drew).mono ?_; rintro e w1 ⟨rfl, k1⟩; have HK1 := Hid_mk ((Kp.refl No wr).drew.trans' k1); replace hS1 := HS.out w1 HK1.out; clear k1))
              all_goals
                cases B with
                | false =>
                  go_wp2
                  go_ret
                  exact ⟨by rw [HD.out]; simp, HK0.out.trans' (HKp.out.trans' HK1.out)⟩
                | true =>
                  go_wp2
                  go_roundw
                  case rel => exact ⟨j + 1, by rw [HLn.out]; omega, by push_cast; rfl, by rw [HD.out]; simp, HKp.out.trans' HK1.out⟩
                  case measure => simp only [intOf]; omega
            · obtain rfl : j = L := by omega
              have hji : ¬ ((j : Int) < (j : Int)) := by omega
              have hend : sameL l l' = true := by
                have h := HE.out
                rw [← HLn.out, List.drop_length] at h
                rw [← h]
                rfl
              have HEnd := Hid_mk hend
              clear hend he
              go_wp2
              go_ret
              exact ⟨by rw [HZ.out, HEnd.out, decide_eq_true HKk.out, decide_eq_true HLen.out]; first | rfl | simp, HK0.out.trans' HKp.out⟩
        · have hlb : ((L : Int) == (L' : Int)) = false := by rw [beq_eq_false_iff_ne]; omega
          have hlb2 : ((L : Int) != (L' : Int)) = true := by simp; omega
          have HLen := Hid_mk hlen
          clear hlen
          go_wp2
          go_ret
          exact ⟨by rw [decide_eq_false HLen.out]; simp, HK0.out⟩
    · have hkb : (k == k') = false := by rw [beq_eq_false_iff_ne]; exact hk
      have hkb2 : (k != k') = true := by simp [hk]
      have HKk := Hid_mk hk
      clear hk
      go_wp2
      go_ret
      exact ⟨by rw [decide_eq_false HKk.out]; simp, HK0.out⟩

end Go.Proofs.Ytaneblecgjahbab.tre

namespace Go.Proofs.Ytaneblecgjahbab.ere
open Go.RowKit Go.Proofs.Ytaneblecgjahbab.sum Go.Proofs.Ytaneblecgjahbab.kept Go.Proofs.Ytaneblecgjahbab.pop Go.Proofs.Ytaneblecgjahbab.cls Go.Proofs.Ytaneblecgjahbab.tre Go.Proofs.Ytaneblecgjahbab.str
set_option linter.unusedVariables false

/-- a text without a brace, one without a bracket -/
theorem sign_plain {w0 : World} {q : Nat} {l : List UInt8} (hl : l.length < 4294967281) (h : ∀ k, k < l.length → atB l k ≠ 123) : SignC w0 q l := by
  intro w k o T t v hR hk hv hT hTq hs
  refine sign_any hR hl hk T t v hv hT hTq ?_
  have hn := h k hk
  unfold seesB at hs
  simp only [Bool.and_eq_true, List.contains_cons, List.contains_nil, Bool.or_false, Bool.or_eq_true, beq_iff_eq] at hs
  rcases hs.2 with e | e | e | e
  · exact .inl e
  · exact .inr (.inl e)
  · exact .inr (.inr e)
  · exact absurd e hn
theorem brkt_plain {w0 : World} {q : Nat} {l : List UInt8} {bk : Nat → Option ((Nat → Bool) × Nat)} (h : ∀ k, k < l.length → atB l k ≠ 91) : BrktC w0 q l bk := fun _ k _ _ hk h91 => absurd h91 (h k hk)
theorem no_byte {l : List UInt8} {c : Nat} (h : l.all (fun b => b.toNat != c) = true) : ∀ k, k < l.length → atB l k ≠ c := fun k hk e => by
  have := List.all_eq_true.1 h l[k] (List.getElem_mem hk)
  unfold atB at e
  rw [List.getD_eq_getElem?_getD, List.getElem?_eq_getElem hk] at e
  simp at this e
  exact this e
abbrev All : Nat → Prop := fun _ => True
/-- Parse of a text of known bytes -/
theorem parse_l (w : World) (l : List UInt8) (s : ByteArray) (hs : s = st l) (x : Tr × Nat × Nat) (hx : parseS l (fun _ => none) (8 * l.length + 8) = x) (hl : l.length < 1000000000) (h1 : l.all (fun b => b.toNat != 123) = true) (h2 : l.all (fun b => b.toNat != 91) = true) :
    Calls Try.prog 21 #[.string s] w fun e w' => ∃ k f a n c, e = .returned (.tuple #[.agg (cellsR k f a n c), .int .i64 (x.2.1 : Int), .int .i64 (x.2.2 : Int)]) ∧ ReV All w' x.1 (.agg (cellsR k f a n c)) ∧ Kp No w w' := by
  subst hs
  have h := parse_any w l (fun _ => none) hl (fun q => brkt_plain (no_byte h2)) (fun q => sign_plain (by omega) (no_byte h1))
  rw [hx] at h
  refine h.mono ?_
  rintro e w' ⟨v, rfl, hv, hk⟩
  obtain ⟨⟨K, F, L⟩, y⟩ := x
  obtain ⟨a, c, rfl, h1, h2, h3⟩ := hv
  exact ⟨K, F, a, _, c, rfl, ReV.wider (fun _ _ _ => trivial) _ _ ⟨a, c, rfl, h1, h2, h3⟩, hk⟩
theorem p_abs : parseS [97, 98, 42] (fun _ => none) (8 * [97, 98, 42].length + 8) = (kid2 2 (setT (ofL [97])) (kid1 4 (setT (ofL [98]))), 0, 0) := by kernel_rfl
theorem p_bar : parseS [97, 124, 98] (fun _ => none) (8 * [97, 124, 98].length + 8) = (kid2 3 (setT (ofL [97])) (setT (ofL [98])), 0, 0) := by kernel_rfl
theorem p_bars : parseS [97, 124, 124, 98] (fun _ => none) (8 * [97, 124, 124, 98].length + 8) = (leafT 0, 2, 24) := by kernel_rfl
theorem s_abs : sameS (kid2 2 (setT (ofL [97])) (kid1 4 (setT (ofL [98])))) (kid2 2 (oneT 97) (kid1 4 (oneT 98))) = true := by kernel_rfl
theorem s_bar : sameS (kid2 3 (setT (ofL [97])) (setT (ofL [98]))) (kid2 3 (oneT 97) (oneT 98)) = true := by kernel_rfl
theorem one_val (w : World) (b : Nat) (hb : b < 256) : Calls Try.prog 29 #[.int .u8 (b : Int)] w fun e w' => e = .returned (.agg (cellsR 1 (oneS b) none 0 0)) ∧ ReV All w' (oneT b) (.agg (cellsR 1 (oneS b) none 0 0)) ∧ Kp No w w' := by
  refine (tre.one_any w b hb).mono ?_
  rintro e w' ⟨rfl, hk⟩
  exact ⟨rfl, leaf_val All w' 1 (oneS b) 0 (by decide) none, hk⟩
theorem same_v (w : World) (t t' : Tr) (v v' : Value) (h : ReV All w t v) (h' : ReV All w t' v') (hs : sameS t t' = true) : Calls Try.prog 24 #[v, v'] w fun e w' => e = .returned (.bool true) ∧ Kp No w w' := by
  have := same_any t.size t (Nat.le_refl _) t' w v v' h h'
  rw [hs] at this
  exact this
theorem rat_new (w : World) (k : Int) (f : Nat → Bool) (a : Option Addr) (n c : Nat) (ty : TypeId) : RAt (w.alloc (.cells (cellsR k f a n c) ty)) w.heap.size (.int .i64 k) (.int .u64 (wd f 0 64 : Nat)) (.int .u64 (wd f 64 64 : Nat)) (.int .u64 (wd f 128 64 : Nat)) (.int .u64 (wd f 192 64 : Nat)) (.slice a n c) := RAt.new _ _ _ _ _ _ _ _

set_option maxRecDepth 100000 in
set_option maxHeartbeats 8000000 in
theorem known9_any (w : World) : Calls Try.prog 23 #[] w fun e w' => e = .returned (.bool true) ∧ Kp No w w' := by
  have HP1 := Hid_mk fun W => parse_l W [97, 98, 42] ⟨#[97, 98, 42]⟩ rfl _ p_abs (by decide) (by decide) (by decide)
  have HP2 := Hid_mk fun W => parse_l W [97, 124, 98] ⟨#[97, 124, 98]⟩ rfl _ p_bar (by decide) (by decide) (by decide)
  have HP3 := Hid_mk fun W => parse_l W [97, 124, 124, 98] ⟨#[97, 124, 124, 98]⟩ rfl _ p_bars (by decide) (by decide) (by decide)
  have HO1 := Hid_mk (show ∀ W, Calls Try.prog 29 #[.int .u8 97] W fun e w' => e = .returned (.agg (cellsR 1 (oneS 97) none 0 0)) ∧ ReV All w' (oneT 97) (.agg (cellsR 1 (oneS 97) none 0 0)) ∧ Kp No W w' from fun W => one_val W 97 (by decide))
  have HO2 := Hid_mk (show ∀ W, Calls Try.prog 29 #[.int .u8 98] W fun e w' => e = .returned (.agg (cellsR 1 (oneS 98) none 0 0)) ∧ ReV All w' (oneT 98) (.agg (cellsR 1 (oneS 98) none 0 0)) ∧ Kp No W w' from fun W => one_val W 98 (by decide))
  unfold cellsR at HP1 HP2 HP3 HO1 HO2
  go_enter Try.func23, Try.ntmps23
  go_wp2_with fail
  with_reducible refine (HP1.out _).mono ?_
  rintro e v1 ⟨xk, xf, xa, xn, xc, rfl, hv, hk⟩
  have HV1 := Hid_mk hv
  have HKv1 := Hid_mk hk
  clear hv hk HP1
  go_upto_region 2 with fail
  obtain ⟨b1, hb1⟩ : ∃ b, v1.heap.size = b := ⟨_, rfl⟩
  rw [hb1]
  refine wp_name (fun W => Kp No v1 W ∧ RAt W b1 (.int .i64 xk) (.int .u64 (wd xf 0 64 : Nat)) (.int .u64 (wd xf 64 64 : Nat)) (.int .u64 (wd xf 128 64 : Nat)) (.int .u64 (wd xf 192 64 : Nat)) (.slice xa xn xc)) ⟨(Kp.refl No v1).alloc _, by rw [← hb1]; exact RAt.new _ _ _ _ _ _ _ _⟩ ?_
  clear hb1
  rintro W1 ⟨hk, hr⟩
  have HR1_1 := Hid_mk hr
  have HT1 := Hid_mk (ReV.no hk _ _ HV1.out)
  have HK1 := Hid_mk (HKv1.out.trans' hk)
  clear hk hr
  go_wp2_with fail
  with_reducible refine (HP2.out _).mono ?_
  rintro e v2 ⟨yk, yf, ya, yn, yc, rfl, hv, hk⟩
  have HV2 := Hid_mk hv
  have HKv2 := Hid_mk hk
  clear hv hk HP2
  go_upto_region 3 with fail
  obtain ⟨b2, hb2⟩ : ∃ b, v2.heap.size = b := ⟨_, rfl⟩
  rw [hb2]
  refine wp_name (fun W => Kp No v2 W ∧ RAt W b2 (.int .i64 yk) (.int .u64 (wd yf 0 64 : Nat)) (.int .u64 (wd yf 64 64 : Nat)) (.int .u64 (wd yf 128 64 : Nat)) (.int .u64 (wd yf 192 64 : Nat)) (.slice ya yn yc)) ⟨(Kp.refl No v2).alloc _, by rw [← hb2]; exact RAt.new _ _ _ _ _ _ _ _⟩ ?_
  clear hb2
  rintro W2 ⟨hk, hr⟩
  have HR2_2 := Hid_mk hr
  have HT2 := Hid_mk (ReV.no hk _ _ HV2.out)
  have HS2 := Hid_mk (HKv2.out.trans' hk)
  have HK2 := Hid_mk (HK1.out.trans' HS2.out)
  have HR1_2 := Hid_mk (HR1_1.out.kept HS2.out id)
  clear hk hr
  go_wp2_with fail
  with_reducible refine (HP3.out _).mono ?_
  rintro e v3 ⟨zk, zf, za, zn, zc, rfl, hv, hk⟩
  have HV3 := Hid_mk hv
  have HKv3 := Hid_mk hk
  clear hv hk HP3
  go_upto_region 4 with fail
  obtain ⟨b3, hb3⟩ : ∃ b, v3.heap.size = b := ⟨_, rfl⟩
  rw [hb3]
  refine wp_name (fun W => Kp No v3 W ∧ RAt W b3 (.int .i64 zk) (.int .u64 (wd zf 0 64 : Nat)) (.int .u64 (wd zf 64 64 : Nat)) (.int .u64 (wd zf 128 64 : Nat)) (.int .u64 (wd zf 192 64 : Nat)) (.slice za zn zc)) ⟨(Kp.refl No v3).alloc _, by rw [← hb3]; exact RAt.new _ _ _ _ _ _ _ _⟩ ?_
  clear hb3
  rintro W3 ⟨hk, hr⟩
  have HR3_3 := Hid_mk hr
  have HT3 := Hid_mk (ReV.no hk _ _ HV3.out)
  have HS3 := Hid_mk (HKv3.out.trans' hk)
  have HK3 := Hid_mk (HK2.out.trans' HS3.out)
  have HR1_3 := Hid_mk (HR1_2.out.kept HS3.out id)
  have HR2_3 := Hid_mk (HR2_2.out.kept HS3.out id)
  clear hk hr
  go_wp2_with fail
  with_reducible refine (HO1.out _).mono ?_
  rintro e v4 ⟨rfl, hv, hk⟩
  have HV4 := Hid_mk hv
  have HKv4 := Hid_mk hk
  clear hv hk HO1
  go_upto_region 5 with fail
  obtain ⟨b4, hb4⟩ : ∃ b, v4.heap.size = b := ⟨_, rfl⟩
  rw [hb4]
  refine wp_name (fun W => Kp No v4 W ∧ RAt W b4 (.int .i64 1) (.int .u64 (wd (oneS 97) 0 64 : Nat)) (.int .u64 (wd (oneS 97) 64 64 : Nat)) (.int .u64 (wd (oneS 97) 128 64 : Nat)) (.int .u64 (wd (oneS 97) 192 64 : Nat)) (.slice none 0 0)) ⟨(Kp.refl No v4).alloc _, by rw [← hb4]; exact RAt.new _ _ _ _ _ _ _ _⟩ ?_
  clear hb4
  rintro W4 ⟨hk, hr⟩
  have HR4_4 := Hid_mk hr
  have HT4 := Hid_mk (ReV.no hk _ _ HV4.out)
  have HS4 := Hid_mk (HKv4.out.trans' hk)
  have HK4 := Hid_mk (HK3.out.trans' HS4.out)
  have HR1_4 := Hid_mk (HR1_3.out.kept HS4.out id)
  have HR2_4 := Hid_mk (HR2_3.out.kept HS4.out id)
  have HR3_4 := Hid_mk (HR3_3.out.kept HS4.out id)
  clear hk hr
  go_wp2_with fail
  with_reducible refine (HO2.out _).mono ?_
  rintro e v5 ⟨rfl, hv, hk⟩
  have HV5 := Hid_mk hv
  have HKv5 := Hid_mk hk
  clear hv hk HO2
  go_upto_region 6 with fail
  obtain ⟨b5, hb5⟩ : ∃ b, v5.heap.size = b := ⟨_, rfl⟩
  rw [hb5]
  refine wp_name (fun W => Kp No v5 W ∧ RAt W b5 (.int .i64 1) (.int .u64 (wd (oneS 98) 0 64 : Nat)) (.int .u64 (wd (oneS 98) 64 64 : Nat)) (.int .u64 (wd (oneS 98) 128 64 : Nat)) (.int .u64 (wd (oneS 98) 192 64 : Nat)) (.slice none 0 0)) ⟨(Kp.refl No v5).alloc _, by rw [← hb5]; exact RAt.new _ _ _ _ _ _ _ _⟩ ?_
  clear hb5
  rintro W5 ⟨hk, hr⟩
  have HR5_5 := Hid_mk hr
  have HT5 := Hid_mk (ReV.no hk _ _ HV5.out)
  have HS5 := Hid_mk (HKv5.out.trans' hk)
  have HK5 := Hid_mk (HK4.out.trans' HS5.out)
  have HR1_5 := Hid_mk (HR1_4.out.kept HS5.out id)
  have HR2_5 := Hid_mk (HR2_4.out.kept HS5.out id)
  have HR3_5 := Hid_mk (HR3_4.out.kept HS5.out id)
  have HR4_5 := Hid_mk (HR4_4.out.kept HS5.out id)
  clear hk hr
  have ho97 : ∀ W, ReV All W (oneT 97) (.agg (cellsR 1 (oneS 97) none 0 0)) := fun W => leaf_val All W 1 (oneS 97) 0 (by decide) none
  have ho98 : ∀ W, ReV All W (oneT 98) (.agg (cellsR 1 (oneS 98) none 0 0)) := fun W => leaf_val All W 1 (oneS 98) 0 (by decide) none
  have hA5 := ReV.no (HS2.out.trans' (HS3.out.trans' (HS4.out.trans' HS5.out))) _ _ HT1.out
  have hB5 := ReV.no (HS3.out.trans' (HS4.out.trans' HS5.out)) _ _ HT2.out
  have m1 := made1 (ho98 W5) trivial 4 nul 30
  have m2 := made2 (ho97 _) m1 trivial 2 nul 30
  have hka := ((Kp.refl No W5).alloc (.cells (cellsR 1 (oneS 98) none 0 0) 30)).alloc (.cells (cellsR 1 (oneS 97) none 0 0 ++ cellsR 4 nul (some ⟨W5.heap.size, 0, none⟩) 1 1) 30)
  have sm1 := same_v _ _ _ _ _ (ReV.no hka _ _ hA5) m2 s_abs
  have HKa := Hid_mk hka
  have HB5 := Hid_mk hB5
  have HO97 := Hid_mk ho97
  have HO98 := Hid_mk ho98
  unfold cellsR at sm1 HKa
  simp only [wd_nul, Int.natCast_zero, World.size_alloc, List.append_toArray, List.cons_append, List.nil_append] at sm1 HKa
  have HSm1 := Hid_mk sm1
  clear ho97 ho98 hA5 hB5 m1 m2 hka sm1
  obtain ⟨x0, x1, x2, x3, x4, x5, -⟩ := HR1_5.out
  obtain ⟨y0, y1, y2, y3, y4, y5, -⟩ := HR4_5.out
  obtain ⟨z0, z1, z2, z3, z4, z5, -⟩ := HR5_5.out
  go_wp2_with fail
  with_reducible refine HSm1.out.mono ?_
  rintro e V6 ⟨rfl, hk6⟩
  have HK6 := Hid_mk (HKa.out.trans' hk6)
  clear hk6 HSm1 HKa x0 x1 x2 x3 x4 x5 y0 y1 y2 y3 y4 y5 z0 z1 z2 z3 z4 z5
  have hr2 := HR2_5.out.kept HK6.out id
  have hr4 := HR4_5.out.kept HK6.out id
  have hr5 := HR5_5.out.kept HK6.out id
  have m3 := made2 (HO97.out V6) (HO98.out V6) trivial 3 nul 30
  have hkb := (Kp.refl No V6).alloc (.cells (cellsR 1 (oneS 97) none 0 0 ++ cellsR 1 (oneS 98) none 0 0) 30)
  have sm2 := same_v _ _ _ _ _ (ReV.no hkb _ _ (ReV.no HK6.out _ _ HB5.out)) m3 s_bar
  have HKb := Hid_mk hkb
  unfold cellsR at sm2 HKb
  simp only [wd_nul, Int.natCast_zero, List.append_toArray, List.cons_append, List.nil_append] at sm2 HKb
  have HSm2 := Hid_mk sm2
  clear m3 hkb sm2
  obtain ⟨x0, x1, x2, x3, x4, x5, -⟩ := hr2
  obtain ⟨y0, y1, y2, y3, y4, y5, -⟩ := hr4
  obtain ⟨z0, z1, z2, z3, z4, z5, -⟩ := hr5
  go_wp2_with fail
  with_reducible refine HSm2.out.mono ?_
  rintro e V7 ⟨rfl, hk7⟩
  have HK7 := Hid_mk (HK5.out.trans' (HK6.out.trans' (HKb.out.trans' hk7)))
  clear hk7 HSm2 HKb x0 x1 x2 x3 x4 x5 y0 y1 y2 y3 y4 y5 z0 z1 z2 z3 z4 z5
  go_wp2
  go_ret
  exact ⟨rfl, HK7.out⟩

end Go.Proofs.Ytaneblecgjahbab.ere

namespace Go.Proofs.Ytaneblecgjahbab.ere
open Go.RowKit Go.Proofs.Ytaneblecgjahbab.sum Go.Proofs.Ytaneblecgjahbab.kept Go.Proofs.Ytaneblecgjahbab.pop Go.Proofs.Ytaneblecgjahbab.cls Go.Proofs.Ytaneblecgjahbab.tre Go.Proofs.Ytaneblecgjahbab.str
set_option linter.unusedVariables false

def formedB (k : Int) (f : Nat → Bool) (n : Nat) : Bool := decide ((n : Int) = kidsS k) && (decide (k = 1) || zeroB f)
theorem z_eq (n : Nat) : ((n : Int) == 0) = decide (n = 0) := by by_cases h : n = 0 <;> simp [h]
theorem shaped_mk (k : Int) (f : Nat → Bool) (l : List Tr) : shapedS (.mk k f l) = (formedB k f l.length && shapedL l) := by rw [shapedS]; rfl
theorem nz_set (f : Nat → Bool) (W : World) (z : Bool) (hz : zeroB f = z) : (Op.equalIn 10000 27 (.agg #[.int .u64 (wd f 0 64 : Nat), .int .u64 (wd f 64 64 : Nat), .int .u64 (wd f 128 64 : Nat), .int .u64 (wd f 192 64 : Nat)]) (.agg #[.int .u64 0, .int .u64 0, .int .u64 0, .int .u64 0])).run Try.prog W = .ok z W := by
  rw [← hz]
  exact ne_zero_set f W

set_option maxRecDepth 100000 in
set_option maxHeartbeats 4000000 in
theorem formed_any (w : World) (k : Int) (f : Nat → Bool) (a : Option Addr) (n c : Nat) : Calls Try.prog 76 #[.agg (cellsR k f a n c)] w fun e w' => e = .returned (.bool (formedB k f n)) ∧ Kp No w w' := by
  have HK0 := Hid_mk ((Kp.refl No w).alloc (.cells (cellsR k f a n c) 30))
  unfold cellsR at HK0
  obtain ⟨z, hz⟩ : ∃ z, zeroB f = z := ⟨_, rfl⟩
  have hq := fun W => nz_set f W z hz
  have HZ := Hid_mk hz
  clear hz
  obtain ⟨B, hB⟩ : ∃ B, formedB k f n = B := ⟨_, rfl⟩
  rw [hB]
  unfold formedB at hB
  rw [HZ.out] at hB
  have HB := Hid_mk hB
  clear hB
  by_cases h0 : k = 0
  · subst h0
    cases z
    all_goals
      go_enter Try.func76, Try.ntmps76
      unfold cellsR
      go_wp2
      go_ret
      refine ⟨?_, HK0.out⟩
      rw [← HB.out]
      simp [kidsS]
      first | done | rfl | exact z_eq n
  by_cases h1 : k = 1
  · subst h1
    go_enter Try.func76, Try.ntmps76
    unfold cellsR
    go_wp2
    go_ret
    refine ⟨?_, HK0.out⟩
    rw [← HB.out]
    simp [kidsS]
    first | done | rfl | exact z_eq n
  by_cases h2 : k = 2
  · subst h2
    cases z
    all_goals
      go_enter Try.func76, Try.ntmps76
      unfold cellsR
      go_wp2
      go_ret
      refine ⟨?_, HK0.out⟩
      rw [← HB.out]
      simp [kidsS]
      first | done | rfl | exact z_eq n
  by_cases h3 : k = 3
  · subst h3
    cases z
    all_goals
      go_enter Try.func76, Try.ntmps76
      unfold cellsR
      go_wp2
      go_ret
      refine ⟨?_, HK0.out⟩
      rw [← HB.out]
      simp [kidsS]
      first | done | rfl | exact z_eq n
  by_cases h4 : k = 4
  · subst h4
    cases z
    all_goals
      go_enter Try.func76, Try.ntmps76
      unfold cellsR
      go_wp2
      go_ret
      refine ⟨?_, HK0.out⟩
      rw [← HB.out]
      simp [kidsS]
      first | done | rfl | exact z_eq n
  by_cases h5 : k = 5
  · subst h5
    cases z
    all_goals
      go_enter Try.func76, Try.ntmps76
      unfold cellsR
      go_wp2
      go_ret
      refine ⟨?_, HK0.out⟩
      rw [← HB.out]
      simp [kidsS]
      first | done | rfl | exact z_eq n
  by_cases h6 : k = 6
  · subst h6
    cases z
    all_goals
      go_enter Try.func76, Try.ntmps76
      unfold cellsR
      go_wp2
      go_ret
      refine ⟨?_, HK0.out⟩
      rw [← HB.out]
      simp [kidsS]
      first | done | rfl | exact z_eq n
  by_cases h7 : k = 7
  · subst h7
    cases z
    all_goals
      go_enter Try.func76, Try.ntmps76
      unfold cellsR
      go_wp2
      go_ret
      refine ⟨?_, HK0.out⟩
      rw [← HB.out]
      simp [kidsS]
      first | done | rfl | exact z_eq n
  by_cases h8 : k = 8
  · subst h8
    cases z
    all_goals
      go_enter Try.func76, Try.ntmps76
      unfold cellsR
      go_wp2
      go_ret
      refine ⟨?_, HK0.out⟩
      rw [← HB.out]
      simp [kidsS]
      first | done | rfl | exact z_eq n
  have e0 : (k == 0) = false := by rw [beq_eq_false_iff_ne]; exact h0
  have e1 : (k == 1) = false := by rw [beq_eq_false_iff_ne]; exact h1
  have e2 : (k == 2) = false := by rw [beq_eq_false_iff_ne]; exact h2
  have e3 : (k == 3) = false := by rw [beq_eq_false_iff_ne]; exact h3
  have e4 : (k == 4) = false := by rw [beq_eq_false_iff_ne]; exact h4
  have e5 : (k == 5) = false := by rw [beq_eq_false_iff_ne]; exact h5
  have e6 : (k == 6) = false := by rw [beq_eq_false_iff_ne]; exact h6
  have e7 : (k == 7) = false := by rw [beq_eq_false_iff_ne]; exact h7
  have e8 : (k == 8) = false := by rw [beq_eq_false_iff_ne]; exact h8
  have en : (k != 1) = true := by simp [h1]
  have hB2 : B = false := by
    rw [← HB.out, show kidsS k = -1 from by unfold kidsS; rw [if_neg (by omega), if_neg (by omega), if_neg (by omega)], decide_eq_false (by omega)]
    rfl
  rw [hB2]
  clear hB2 h0 h1 h2 h3 h4 h5 h6 h7 h8
  cases z
  all_goals
    go_enter Try.func76, Try.ntmps76
    unfold cellsR
    go_wp2
    go_ret
    exact ⟨rfl, HK0.out⟩

/-- how many leaves, so deep, at most so many -/
def cntS : Tr → Nat → Nat → Option Nat
  | .mk k f l, d, m =>
    if 40 < d then none
    else if formedB k f l.length = false then none
    else match l with
      | [] => if m = 0 then none else some 1
      | [x] => cntS x (d + 1) m
      | x :: y :: _ => match cntS x (d + 1) m with
        | none => none
        | some n => (cntS y d (m - n)).map (n + ·)
theorem kids_le (k : Int) : kidsS k ≤ 2 := by unfold kidsS; repeat (split; · omega); omega
theorem formed_le {k : Int} {f : Nat → Bool} {n : Nat} (h : formedB k f n = true) : n ≤ 2 := by
  unfold formedB at h
  simp only [Bool.and_eq_true, decide_eq_true_eq] at h
  have := kids_le k
  omega
theorem formed_kids {k : Int} {f : Nat → Bool} {n : Nat} (h : formedB k f n = true) : (n : Int) = kidsS k := by
  unfold formedB at h
  simp only [Bool.and_eq_true, decide_eq_true_eq] at h
  exact h.1
theorem same2 {k : Int} (h : kidsS k = 2) : sameB k 1 = true := by
  unfold kidsS at h
  unfold sameB
  split at h
  · omega
  · split at h
    · omega
    · split at h
      · rename_i hk
        rcases hk with rfl | rfl <;> rfl
      · omega
def okP (t : Tr) (d m : Nat) : Prop := shapedS t = true ∧ deepS t (41 - d) = true ∧ setsS t ≤ m
theorem cnt_is : ∀ (t : Tr) (d m : Nat), d ≤ 41 → (okP t d m → cntS t d m = some (setsS t)) ∧ (¬ okP t d m → cntS t d m = none)
  | .mk k f l, d, m, hd => by
    unfold okP
    rw [cntS.eq_def]
    simp only
    by_cases h40 : 40 < d
    · obtain rfl : d = 41 := by omega
      rw [if_pos h40, show 41 - 41 = 0 from rfl, deepS]
      exact ⟨fun h => by simp at h, fun _ => rfl⟩
    · rw [if_neg h40]
      obtain ⟨e, he⟩ : ∃ e, 41 - d = e + 1 := ⟨40 - d, by omega⟩
      rw [shaped_mk, he, deepS]
      cases hf : formedB k f l.length with
      | false => exact ⟨fun h => by simp at h, fun _ => by simp⟩
      | true =>
        rw [if_neg (by simp)]
        have h2 := formed_le hf
        have hk := formed_kids hf
        have h0 : sameB k 0 = false := by simp [sameB]
        match l, h2, hk, hf with
        | [], _, _, _ =>
          have e1 : setsS (.mk k f []) = 1 := by rw [setsS]
          have e2 : shapedL [] = true := by rw [shapedL]
          have e3 : deepL k (e + 1) 0 [] = true := by rw [deepL]
          rw [e1, e2, e3]
          by_cases hm : m = 0
          · rw [if_pos hm]
            exact ⟨fun h => absurd h.2.2 (by omega), fun _ => rfl⟩
          · rw [if_neg hm]
            exact ⟨fun _ => rfl, fun h => absurd ⟨rfl, rfl, by omega⟩ h⟩
        | [x], _, _, _ =>
          obtain ⟨i1, i2⟩ := cnt_is x (d + 1) m (by omega)
          unfold okP at i1 i2
          rw [show 41 - (d + 1) = e by omega] at i1 i2
          have e1 : setsS (.mk k f [x]) = setsS x := by rw [setsS, setsL, Nat.add_zero]
          have e2 : shapedL [x] = shapedS x := by rw [shapedL, shapedL, Bool.and_true]
          have e3 : deepL k (e + 1) 0 [x] = deepS x e := by rw [deepL, deepL, h0, Bool.and_true]; rfl
          rw [e1, e2, e3, Bool.true_and]
          exact ⟨i1, i2⟩
        | [x, y], _, hk, _ =>
          obtain ⟨i1, i2⟩ := cnt_is x (d + 1) m (by omega)
          obtain ⟨j1, j2⟩ := cnt_is y d (m - setsS x) (by omega)
          unfold okP at i1 i2 j1 j2
          rw [show 41 - (d + 1) = e by omega] at i1 i2
          rw [he] at j1 j2
          have h1 : sameB k 1 = true := same2 (by simpa using hk.symm)
          have e1 : setsS (.mk k f [x, y]) = setsS x + setsS y := by rw [setsS, setsL, setsL, Nat.add_zero]
          have e2 : shapedL [x, y] = (shapedS x && shapedS y) := by rw [shapedL, shapedL, shapedL, Bool.and_true]
          have e3 : deepL k (e + 1) 0 [x, y] = (deepS x e && deepS y (e + 1)) := by rw [deepL, deepL, deepL, h0, h1, Bool.and_true]; rfl
          rw [e1, e2, e3, Bool.true_and]
          simp only [Bool.and_eq_true]
          by_cases hx : shapedS x = true ∧ deepS x e = true ∧ setsS x ≤ m
          · rw [i1 hx]
            simp only
            by_cases hy : shapedS y = true ∧ deepS y (e + 1) = true ∧ setsS y ≤ m - setsS x
            · rw [j1 hy]
              exact ⟨fun _ => rfl, fun h => absurd ⟨⟨hx.1, hy.1⟩, ⟨hx.2.1, hy.2.1⟩, by omega⟩ h⟩
            · rw [j2 hy]
              exact ⟨fun h => absurd ⟨h.1.2, h.2.1.2, by have := h.2.2; omega⟩ hy, fun _ => rfl⟩
          · rw [i2 hx]
            exact ⟨fun h => absurd ⟨h.1.1, h.2.1.1, by have := h.2.2; omega⟩ hx, fun _ => rfl⟩
        | x :: y :: z :: r, h2, _, _ => simp at h2
theorem cnt_right (t : Tr) : cntS t 1 400 = if rightS t = true then some (setsS t) else none := by
  obtain ⟨i1, i2⟩ := cnt_is t 1 400 (by decide)
  by_cases h : rightS t = true
  · rw [if_pos h]
    unfold rightS at h
    simp only [Bool.and_eq_true, decide_eq_true_eq] at h
    exact i1 ⟨h.1.1, h.1.2, h.2⟩
  · rw [if_neg h]
    refine i2 fun hh => h ?_
    unfold rightS
    simp only [Bool.and_eq_true, decide_eq_true_eq]
    exact ⟨⟨hh.1, hh.2.1⟩, hh.2.2⟩

end Go.Proofs.Ytaneblecgjahbab.ere
