/- Package class: what stands between brackets. -/
import Derived.Test.YtaneblecgjahbabNamedM
import Derived.Test.YtaneblecgjahbabShelf
import Derived.Lib.Bytes2

namespace Go.Proofs.Ytaneblecgjahbab.cls
open Go.RowKit Go.Proofs.Ytaneblecgjahbab.sum Go.Proofs.Ytaneblecgjahbab.kept Go.Proofs.Ytaneblecgjahbab.pop Go.Proofs.Ytaneblecgjahbab.str
set_option linter.unusedVariables false

theorem pre_any (w : World) (l pl : List UInt8) (p : ByteArray) (hp : p.data.toList = pl) :
    Calls Try.prog 114 #[.string (st l), .string p] w fun e w' => e = .returned (.bool (Lib.hasPrefix l pl)) ∧ w = w' := by
  refine (Try.strings_HasPrefix (st l) p w).mono ?_
  rintro e w' ⟨rfl, rfl⟩
  rw [st_data, hp]
  exact ⟨rfl, rfl⟩

/-- does a name begin there? -/
def namesB (l : List UInt8) (k : Nat) : Bool := Lib.hasPrefix (l.drop k) [91, 58]
/-- does a range go on there? -/
def rangesB (l : List UInt8) (k : Nat) : Bool := decide (k + 1 < l.length) && ((l.getD k 0).toNat == 45) && !((l.getD (k + 1) 0).toNat == 93)

set_option maxRecDepth 100000 in
theorem names_at (w : World) (l : List UInt8) (k : Nat) (hk : k ≤ l.length) (hl : l.length < 9223372036854775807) :
    Calls Try.prog 126 #[.string (st l), .int .i64 (k : Int)] w fun e w' => e = .returned (.bool (namesB l k)) ∧ w = w' := by
  have hsz := st_size l
  have hx := st_from l k
  have hk0 : (0 : Int) ≤ (k : Int) := Int.natCast_nonneg _
  go_enter Try.func126, Try.ntmps126
  go_wp2_with fail
  with_reducible refine (pre_any _ _ [91, 58] _ rfl).mono ?_
  rintro e w' ⟨rfl, rfl⟩
  go_wp2
  go_ret
  exact ⟨rfl, rfl⟩

set_option maxRecDepth 100000 in
theorem ranges_at (w : World) (l : List UInt8) (k : Nat) (hk : k ≤ l.length) (hl : l.length < 9223372036854775807) :
    Calls Try.prog 129 #[.string (st l), .int .i64 (k : Int)] w fun e w' => e = .returned (.bool (rangesB l k)) ∧ w = w' := by
  have hsz := st_size l
  have hk0 : (0 : Int) ≤ (k : Int) := Int.natCast_nonneg _
  have hw1 : wrap64 ((k : Int) + 1) = (k : Int) + 1 := IntWalk.wrap64_in _ (by omega)
  have hw2 : IntKind.i64.wrap ((k : Int) + 1) = (k : Int) + 1 := IntWalk.i64_in _ (by omega)
  unfold rangesB
  by_cases h1 : k + 1 < l.length
  · have h1i : (k : Int) + 1 < (l.length : Int) := by omega
    have hki : (k : Int) < (l.length : Int) := by omega
    have hg := fun h => st_get l k h
    have hg1 := fun h => st_get l (k + 1) h
    obtain ⟨x, hx⟩ : ∃ x, (l.getD k 0).toNat = x := ⟨_, rfl⟩
    obtain ⟨y, hy⟩ : ∃ y, (l.getD (k + 1) 0).toNat = y := ⟨_, rfl⟩
    rw [hx] at hg
    rw [hy] at hg1
    rw [hx, hy]
    clear hx hy
    have e1 : decide (k + 1 < l.length) = true := decide_eq_true h1
    rw [e1, Bool.true_and]
    by_cases hx : x = 45
    · subst hx
      by_cases hy : y = 93
      · subst hy
        go_enter Try.func129, Try.ntmps129
        go_wp2
        go_ret
        exact ⟨rfl, rfl⟩
      · have hyi : ((y : Int) != 93) = true := by simp; omega
        have e2 : (y == 93) = false := by simp [hy]
        rw [e2]
        go_enter Try.func129, Try.ntmps129
        go_wp2
        go_ret
        exact ⟨rfl, rfl⟩
    · have hxi : ((x : Int) == 45) = false := by simp; omega
      have e2 : (x == 45) = false := by simp [hx]
      rw [e2, Bool.false_and]
      go_enter Try.func129, Try.ntmps129
      go_wp2
      go_ret
      exact ⟨rfl, rfl⟩
  · have h1i : ¬ (k : Int) + 1 < (l.length : Int) := by omega
    have e1 : decide (k + 1 < l.length) = false := decide_eq_false h1
    rw [e1, Bool.false_and, Bool.false_and]
    go_enter Try.func129, Try.ntmps129
    go_wp2
    go_ret
    exact ⟨rfl, rfl⟩

set_option maxRecDepth 100000 in
/-- an end that is a bare byte -/
theorem end_plain (w : World) (l : List UInt8) (k : Nat) (hk : k < l.length) (hl : l.length < 9223372036854775807) (h92 : (l.getD k 0).toNat ≠ 92) :
    Calls Try.prog 128 #[.string (st l), .int .i64 (k : Int)] w fun e w' => e = .returned (.tuple #[.int .u8 ((l.getD k 0).toNat : Int), .int .i64 ((k : Int) + 1), .bool true]) ∧ w = w' := by
  have hsz := st_size l
  have hk0 : (0 : Int) ≤ (k : Int) := Int.natCast_nonneg _
  have hw1 : wrap64 ((k : Int) + 1) = (k : Int) + 1 := IntWalk.wrap64_in _ (by omega)
  have hki : (k : Int) < (l.length : Int) := by omega
  have hg := fun h => st_get l k h
  obtain ⟨x, hx⟩ : ∃ x, (l.getD k 0).toNat = x := ⟨_, rfl⟩
  rw [hx] at hg h92 ⊢
  have hxi : ((x : Int) != 92) = true := by simp; omega
  clear hx
  go_enter Try.func128, Try.ntmps128
  go_wp2
  refine bodyPost_ret (results_tmp3 rfl _ _ _) rfl ?_
  exact ⟨rfl, rfl⟩

/-- a name that stands there: its set, where it ends; without its end, or of no class: none -/
def nameS (l : List UInt8) (k : Nat) : ((Nat → Bool) × Nat) × Bool :=
  (((namedS (Lib.cut (l.drop (k + 2)) [58, 93]).1).1, k + 2 + (Lib.cut (l.drop (k + 2)) [58, 93]).1.length + 2), (Lib.cut (l.drop (k + 2)) [58, 93]).2.2 && (namedS (Lib.cut (l.drop (k + 2)) [58, 93]).1).2)
theorem cut_len (s p : List UInt8) : (Lib.cut s p).1.length ≤ s.length := by
  unfold Lib.cut
  split <;> simp <;> omega

theorem named_l (w : World) (l : List UInt8) (s : ByteArray) (hs : s.toList = l) :
    Calls Try.prog 133 #[.string s] w fun e w' => e = .returned (.tuple #[sv (namedS l).1, .bool (namedS l).2]) ∧ Kp No w w' := by
  subst hs
  exact named_any w s

set_option maxRecDepth 100000 in
theorem name_any (w : World) (l : List UInt8) (k : Nat) (hk : k + 2 ≤ l.length) (hl : l.length < 4294967281) (hm : ∃ m, w.cell? ⟨0, 0, none⟩ = some (.int .i64 m)) :
    Calls Try.prog 127 #[.string (st l), .int .i64 (k : Int)] w fun e w' => e = .returned (.tuple #[sv (nameS l k).1.1, .int .i64 ((nameS l k).1.2 : Nat), .bool (nameS l k).2]) ∧ Kp No w w' := by
  have hsz := st_size l
  have hx := st_from l (k + 2)
  have hk0 : (0 : Int) ≤ (k : Int) := Int.natCast_nonneg _
  have hw1 : wrap64 ((k : Int) + 2) = (k : Int) + 2 := IntWalk.wrap64_in _ (by omega)
  have hcl := cut_len (l.drop (k + 2)) [58, 93]
  rw [List.length_drop] at hcl
  have HCut := Hid_mk fun W m (h : W.cell? ⟨0, 0, none⟩ = some (.int .i64 m)) => Try.strings_Cut (st (l.drop (k + 2))) ⟨#[58, 93]⟩ m W (by rw [st_size, List.length_drop]; omega) h
  simp only [st_data] at HCut
  unfold nameS
  generalize Lib.cut (l.drop (k + 2)) [58, 93] = C at hcl HCut
  obtain ⟨c1, c2, c3⟩ := C
  have HN := Hid_mk fun W => named_l W c1 ⟨c1.toArray⟩ (by rw [ByteArray.toList_eq])
  obtain ⟨G, hG⟩ : ∃ G, namedS c1 = G := ⟨_, rfl⟩
  simp only at hcl HN ⊢
  rw [hG] at HN ⊢
  clear hG
  obtain ⟨g, b⟩ := G
  have HM := Hid_mk hm
  have HZ := Hid_mk (SetAt.zero w)
  have HK0 := Hid_mk ((Kp.refl No w).alloc (.cells #[.int .u64 0, .int .u64 0, .int .u64 0, .int .u64 0] 27))
  clear hm
  go_enter Try.func127, Try.ntmps127
  go_wp2_with fail
  obtain ⟨m, hm⟩ := HM.out
  with_reducible refine (HCut.out _ m (HK0.out.cell' hm id)).mono ?_
  rintro e w1 ⟨rfl, n1, rfl⟩
  have hk1 := HK0.out.drewN n1
  have hz1 := HZ.out.kept ((Kp.refl No _).drewN n1) id
  have HK1 := Hid_mk hk1
  have HZ1 := Hid_mk hz1
  clear hk1 hz1
  go_wp2_with fail
  with_reducible refine (HN.out _).mono ?_
  rintro e w2 ⟨rfl, k2⟩
  have HK2 := Hid_mk (HK1.out.trans' k2)
  have hz2 := HZ1.out.kept k2 id
  have HZ2 := Hid_mk hz2
  clear k2 HK1 HZ1 HK0 HZ
  obtain ⟨z0, z1, z2, z3⟩ := hz2.cells
  have zw := hz2.warm
  have y0 := fun o => ((Kp.refl No w2).alloc o).cell' z0 id
  have y1 := fun o => ((Kp.refl No w2).alloc o).cell' z1 id
  have y2 := fun o => ((Kp.refl No w2).alloc o).cell' z2 id
  have y3 := fun o => ((Kp.refl No w2).alloc o).cell' z3 id
  have yw := fun o => (HZ2.out.kept ((Kp.refl No w2).alloc o) id).warm
  obtain ⟨WR, hWR, hs, hkr⟩ := put_any (HZ2.out.kept ((Kp.refl No w2).alloc (.cells #[.int .u64 (wd g 0 64 : Nat), .int .u64 (wd g 64 64 : Nat), .int .u64 (wd g 128 64 : Nat), .int .u64 (wd g 192 64 : Nat)] 27)) id) g (HK2.out.alloc _) (fun h => Nat.lt_irrefl _ h)
  have HWR := Hid_mk hWR
  have HS := Hid_mk hs
  have HKR := Hid_mk hkr
  clear hWR hs hkr hz2
  cases c3
  all_goals
    go_wp2
    rw [HWR.out]
    obtain ⟨r0, r1, r2, r3⟩ := HS.out.cells
    refine bodyPost_ret (v := .tuple #[sv g, .int .i64 ((k + 2 + c1.length + 2 : Nat) : Int), .bool _]) ?_ rfl ⟨rfl, HKR.out⟩
    simp [results, Try.results127, go_sem, r0, r1, r2, r3]

/-- an item whose ends are bare bytes: its set, and the place behind it -/
def itemS (l : List UInt8) (k : Nat) : Option ((Nat → Bool) × Nat) :=
  if namesB l k = true then (if (nameS l k).2 = true then some (nameS l k).1 else none)
  else if rangesB l (k + 1) = false then some (ofL [l.getD k 0], k + 1)
  else if namesB l (k + 2) = true then none
  else if (l.getD k 0).toNat ≤ (l.getD (k + 2) 0).toNat then some (spn (l.getD k 0).toNat (l.getD (k + 2) 0).toNat, k + 3) else none
theorem names_lt {l : List UInt8} {k : Nat} (h : namesB l k = true) : k + 2 ≤ l.length := by
  have := Lib.hasPrefix_le h
  rw [List.length_drop] at this
  simp at this
  omega
theorem ranges_lt {l : List UInt8} {k : Nat} (h : rangesB l k = true) : k + 1 < l.length := by
  unfold rangesB at h
  simp only [Bool.and_eq_true, decide_eq_true_eq] at h
  exact h.1.1

/-- what is told of an item -/
def ItPost (w : World) (r : Option ((Nat → Bool) × Nat)) (e : Ending) (w' : World) : Prop :=
  ∃ f n, e = .returned (.tuple #[sv f, .int .i64 (n : Nat), .bool r.isSome]) ∧ (∀ x, r = some x → x = (f, n)) ∧ Kp No w w'

set_option maxRecDepth 100000 in
theorem item_name (w : World) (l : List UInt8) (k : Nat) (hn : namesB l k = true) (hl : l.length < 4294967281) (hm : ∃ m, w.cell? ⟨0, 0, none⟩ = some (.int .i64 m)) :
    Calls Try.prog 121 #[.string (st l), .int .i64 (k : Int)] w (ItPost w (itemS l k)) := by
  have hk := names_lt hn
  have HM := Hid_mk hm
  have HZ := Hid_mk (SetAt.zero w)
  have HK0 := Hid_mk ((Kp.refl No w).alloc (.cells #[.int .u64 0, .int .u64 0, .int .u64 0, .int .u64 0] 27))
  have HNa := Hid_mk fun W => names_at W l k (by omega) (by omega)
  rw [hn] at HNa
  have HNm := Hid_mk fun W h => name_any W l k hk hl h
  have hit : itemS l k = if (nameS l k).2 = true then some (nameS l k).1 else none := by unfold itemS; rw [if_pos hn]
  rw [hit]
  generalize nameS l k = X at HNm
  obtain ⟨⟨g, n⟩, b⟩ := X
  obtain ⟨R, hR⟩ : ∃ R : Option ((Nat → Bool) × Nat), (if b = true then some (g, n) else none) = R := ⟨_, rfl⟩
  have hR1 : R.isSome = b := by rw [← hR]; cases b <;> rfl
  have hR2 : ∀ x, R = some x → x = (g, n) := by
    intro x hx
    rw [← hR] at hx
    cases b
    · cases hx
    · cases hx
      rfl
  simp only
  rw [hR]
  have HR1 := Hid_mk hR1
  have HR2 := Hid_mk hR2
  clear hm hit hR hR1 hR2
  go_enter Try.func121, Try.ntmps121
  go_wp2_with fail
  with_reducible refine (HNa.out _).mono ?_
  rintro e w1 ⟨rfl, rfl⟩
  obtain ⟨m, hm⟩ := HM.out
  go_wp2_with fail
  with_reducible refine (HNm.out _ ⟨m, HK0.out.cell' hm id⟩).mono ?_
  rintro e w2 ⟨rfl, k2⟩
  have HK2 := Hid_mk (HK0.out.trans' k2)
  have hz2 := HZ.out.kept k2 id
  obtain ⟨WR, hWR, hs, hkr⟩ := put_any hz2 g HK2.out (fun h => Nat.lt_irrefl _ h)
  have HWR := Hid_mk hWR
  have HS := Hid_mk hs
  have HKR := Hid_mk hkr
  obtain ⟨z0, z1, z2, z3⟩ := hz2.cells
  have zw := hz2.warm
  clear k2 hz2 hWR hs hkr
  go_wp2
  rw [HWR.out]
  obtain ⟨r0, r1, r2, r3⟩ := HS.out.cells
  refine bodyPost_ret (v := .tuple #[sv g, .int .i64 (n : Int), .bool b]) ?_ rfl ⟨g, n, by rw [HR1.out], HR2.out, HKR.out⟩
  simp [results, Try.results121, go_sem, r0, r1, r2, r3]

set_option maxRecDepth 100000 in
theorem item_one (w : World) (l : List UInt8) (k : Nat) (hk : k < l.length) (hn : namesB l k = false) (h92 : (l.getD k 0).toNat ≠ 92) (hr : rangesB l (k + 1) = false) (hl : l.length < 4294967281) :
    Calls Try.prog 121 #[.string (st l), .int .i64 (k : Int)] w (ItPost w (itemS l k)) := by
  have HZ := Hid_mk (SetAt.zero w)
  have HK0 := Hid_mk ((Kp.refl No w).alloc (.cells #[.int .u64 0, .int .u64 0, .int .u64 0, .int .u64 0] 27))
  have HNa := Hid_mk fun W => names_at W l k (by omega) (by omega)
  have HEn := Hid_mk fun W => end_plain W l k hk (by omega) h92
  have HRa := Hid_mk fun W => ranges_at W l (k + 1) (by omega) (by omega)
  rw [hn] at HNa
  rw [hr] at HRa
  have hit : itemS l k = some (ofL [l.getD k 0], k + 1) := by unfold itemS; rw [if_neg (by rw [hn]; simp), if_pos hr]
  rw [hit]
  generalize l.getD k 0 = x at HEn
  clear hit
  go_enter Try.func121, Try.ntmps121
  go_wp2_with fail
  with_reducible refine (HNa.out _).mono ?_
  rintro e w1 ⟨rfl, rfl⟩
  go_wp2_with fail
  with_reducible refine (HEn.out _).mono ?_
  rintro e w1 ⟨rfl, rfl⟩
  go_wp2_with fail
  refine (HRa.out _).mono ?_
  rintro e w1 ⟨rfl, rfl⟩
  have hbs := bs_of1 (w.alloc (.cells #[.int .u64 0, .int .u64 0, .int .u64 0, .int .u64 0] 27)) x
  simp only [World.size_alloc] at hbs
  have HBS := Hid_mk hbs
  clear hbs
  go_wp2_with fail
  refine (of_any _ _ [x] HBS.out).mono ?_
  rintro e w2 ⟨rfl, k2⟩
  replace k2 := ((Kp.refl No _).alloc (.cells #[.int .u8 (x.toNat : Int)] 5)).trans' k2
  have HK2 := Hid_mk (HK0.out.trans' k2)
  have hz2 := HZ.out.kept k2 id
  obtain ⟨WR, hWR, hs, hkr⟩ := put_any hz2 (ofL [x]) HK2.out (fun h => Nat.lt_irrefl _ h)
  have HWR := Hid_mk hWR
  have HS := Hid_mk hs
  have HKR := Hid_mk hkr
  obtain ⟨z0, z1, z2, z3⟩ := hz2.cells
  have zw := hz2.warm
  clear k2 hz2 hWR hs hkr
  go_wp2
  rw [HWR.out]
  obtain ⟨r0, r1, r2, r3⟩ := HS.out.cells
  refine bodyPost_ret (v := .tuple #[sv (ofL [x]), .int .i64 ((k + 1 : Nat) : Int), .bool true]) ?_ rfl ⟨_, _, rfl, ?_, HKR.out⟩
  · simp [results, Try.results121, go_sem, r0, r1, r2, r3]
  · intro x hx
    cases hx
    rfl

set_option maxRecDepth 100000 in
theorem item_range (w : World) (l : List UInt8) (k : Nat) (hn : namesB l k = false) (h92 : (l.getD k 0).toNat ≠ 92) (hr : rangesB l (k + 1) = true) (hl : l.length < 4294967281)
    (h2 : namesB l (k + 2) = false → k + 2 < l.length ∧ (l.getD (k + 2) 0).toNat ≠ 92) :
    Calls Try.prog 121 #[.string (st l), .int .i64 (k : Int)] w (ItPost w (itemS l k)) := by
  have hk := ranges_lt hr
  have hw2 : IntKind.i64.wrap ((k : Int) + 1 + 1) = (k : Int) + 1 + 1 := IntWalk.i64_in _ (by omega)
  have HZ := Hid_mk (SetAt.zero w)
  have HK0 := Hid_mk ((Kp.refl No w).alloc (.cells #[.int .u64 0, .int .u64 0, .int .u64 0, .int .u64 0] 27))
  have HNa := Hid_mk fun W => names_at W l k (by omega) (by omega)
  have HEn := Hid_mk fun W => end_plain W l k (by omega) (by omega) h92
  have HRa := Hid_mk fun W => ranges_at W l (k + 1) (by omega) (by omega)
  have HNb := Hid_mk fun W => names_at W l (k + 2) (by omega) (by omega)
  rw [hn] at HNa
  rw [hr] at HRa
  by_cases hb : namesB l (k + 2) = true
  · have hit : itemS l k = none := by unfold itemS; rw [if_neg (by rw [hn]; simp), if_neg (by rw [hr]; simp), if_pos hb]
    rw [hb] at HNb
    rw [hit]
    generalize l.getD k 0 = x at HEn
    clear hit
    go_enter Try.func121, Try.ntmps121
    go_wp2_with fail
    with_reducible refine (HNa.out _).mono ?_
    rintro e w1 ⟨rfl, rfl⟩
    go_wp2_with fail
    with_reducible refine (HEn.out _).mono ?_
    rintro e w1 ⟨rfl, rfl⟩
    go_wp2_with fail
    refine (HRa.out _).mono ?_
    rintro e w1 ⟨rfl, rfl⟩
    go_wp2_with fail
    refine (HNb.out _).mono ?_
    rintro e w1 ⟨rfl, rfl⟩
    go_wp2
    refine bodyPost_ret (v := .tuple #[sv nul, .int .i64 ((0 : Nat) : Int), .bool false]) ?_ rfl ⟨nul, 0, rfl, (fun x hx => by cases hx), HK0.out⟩
    simp [results, Try.results121, go_sem, wd_nul]
  · have hb' : namesB l (k + 2) = false := by simpa using hb
    obtain ⟨h3, h4⟩ := h2 hb'
    have HEm := Hid_mk fun W => end_plain W l (k + 2) h3 (by omega) h4
    rw [hb'] at HNb
    have hit : itemS l k = if (l.getD k 0).toNat ≤ (l.getD (k + 2) 0).toNat then some (spn (l.getD k 0).toNat (l.getD (k + 2) 0).toNat, k + 3) else none := by
      unfold itemS; rw [if_neg (by rw [hn]; simp), if_neg (by rw [hr]; simp), if_neg hb]
    rw [hit]
    have hx := (l.getD k 0).toNat_lt
    have hy := (l.getD (k + 2) 0).toNat_lt
    generalize (l.getD k 0).toNat = x at HEn hx
    generalize (l.getD (k + 2) 0).toNat = y at HEm hy
    obtain ⟨R, hR⟩ : ∃ R : Option ((Nat → Bool) × Nat), (if x ≤ y then some (spn x y, k + 3) else none) = R := ⟨_, rfl⟩
    rw [hR]
    have HR := Hid_mk hR
    clear hit hb h2 hb' hR
    have hxy : x ≤ y ∨ ¬ x ≤ y := Decidable.em _
    have HSp := Hid_mk fun W => span_any W x y hx hy
    clear hx hy
    go_enter Try.func121, Try.ntmps121
    go_wp2_with fail
    with_reducible refine (HNa.out _).mono ?_
    rintro e w1 ⟨rfl, rfl⟩
    go_wp2_with fail
    with_reducible refine (HEn.out _).mono ?_
    rintro e w1 ⟨rfl, rfl⟩
    go_wp2_with fail
    refine (HRa.out _).mono ?_
    rintro e w1 ⟨rfl, rfl⟩
    go_wp2_with fail
    refine (HNb.out _).mono ?_
    rintro e w1 ⟨rfl, rfl⟩
    go_wp2_with fail
    refine (HEm.out _).mono ?_
    rintro e w1 ⟨rfl, rfl⟩
    go_wp2_with fail
    with_reducible refine (HSp.out _).mono ?_
    rintro e w2 ⟨rfl, k2⟩
    have HK2 := Hid_mk (HK0.out.trans' k2)
    have hz2 := HZ.out.kept k2 id
    obtain ⟨WR, hWR, hs, hkr⟩ := put_any hz2 (spn x y) HK2.out (fun h => Nat.lt_irrefl _ h)
    have HWR := Hid_mk hWR
    have HS := Hid_mk hs
    have HKR := Hid_mk hkr
    obtain ⟨z0, z1, z2, z3⟩ := hz2.cells
    have zw := hz2.warm
    clear k2 hz2 hWR hs hkr
    rcases hxy with h | h
    · have hi : (x : Int) ≤ (y : Int) := by omega
      go_wp2
      rw [HWR.out]
      obtain ⟨r0, r1, r2, r3⟩ := HS.out.cells
      refine bodyPost_ret (v := .tuple #[sv (spn x y), .int .i64 ((k + 3 : Nat) : Int), .bool true]) ?_ rfl ⟨spn x y, k + 3, (by rw [← HR.out, if_pos h]; rfl), (fun z hz => by rw [← HR.out, if_pos h] at hz; cases hz; rfl), HKR.out⟩
      simp [results, Try.results121, go_sem, r0, r1, r2, r3]
      omega
    · have hi : ¬ (x : Int) ≤ (y : Int) := by omega
      go_wp2
      rw [HWR.out]
      obtain ⟨r0, r1, r2, r3⟩ := HS.out.cells
      refine bodyPost_ret (v := .tuple #[sv (spn x y), .int .i64 ((k + 3 : Nat) : Int), .bool false]) ?_ rfl ⟨spn x y, k + 3, (by rw [← HR.out, if_neg h]; rfl), (fun z hz => by rw [← HR.out, if_neg h] at hz; cases hz), HKR.out⟩
      simp [results, Try.results121, go_sem, r0, r1, r2, r3]
      omega

end Go.Proofs.Ytaneblecgjahbab.cls
