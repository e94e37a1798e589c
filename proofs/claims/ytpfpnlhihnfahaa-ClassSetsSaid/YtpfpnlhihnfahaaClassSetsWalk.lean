/- ClassSets: the law's walk. -/
import Derived.Test.YtpfpnlhihnfahaaBigM
import Derived.Test.YtpfpnlhihnfahaaBracket2M
import Derived.Deep.CutRange

namespace Go.Proofs.Ytpfpnlhihnfahaa.cls
open Go.RowKit Go.Proofs.Ytpfpnlhihnfahaa.sum Go.Proofs.Ytpfpnlhihnfahaa.kept Go.Proofs.Ytpfpnlhihnfahaa.pop Go.Proofs.Ytpfpnlhihnfahaa.str
set_option linter.unusedVariables false

/-- behind k bytes -/
def OneRel (w : World) (q : Nat) (bs : List UInt8) (i : Value) (wr : World) : Prop :=
  ∃ k : Nat, k ≤ bs.length ∧ i = .int .i64 (k : Int) ∧ BgAt wr q (ofL (bs.take k)) ∧ Kp (fun b => b = q) w wr
def SpanRel (w : World) (q a b : Nat) (i : Value) (wr : World) : Prop :=
  ∃ k : Nat, a ≤ k ∧ (k ≤ b + 1 ∨ k = a) ∧ i = .int .i64 (k : Int) ∧ BgAt wr q (upS a k) ∧ Kp (fun b => b = q) w wr
/-- behind k of 256 -/
def AllRel (w : World) (q6 q7 : Nat) (f g : Nat → Bool) (n i : Value) (wr : World) : Prop :=
  ∃ k : Nat, k ≤ 256 ∧ i = .int .i64 (k : Int) ∧ n = .int .i64 (cnt f 0 k : Nat) ∧ BgAt wr q6 (upTo (fun x => f x || g x) k) ∧ BgAt wr q7 (upTo (fun x => !f x) k) ∧ Kp (fun b => b = q6 ∨ b = q7) w wr
/-- what is there at the law's end -/
structure CurS (w W : World) (v : Value) (bs : List UInt8) (f g : Nat → Bool) (x y qs qt q1 q3 q6 q7 : Nat) : Prop where
  b : Bs W v bs
  s : SetAt W qs f
  t : SetAt W qt g
  one : BgAt W q1 (ofL bs)
  span : BgAt W q3 (spn x y)
  or : BgAt W q6 (fun x => f x || g x)
  nt : BgAt W q7 (fun x => !f x)
  k : Kp No w W
theorem CurS.no {w W W' : World} {v : Value} {bs : List UInt8} {f g : Nat → Bool} {x y qs qt q1 q3 q6 q7 : Nat} (h : CurS w W v bs f g x y qs qt q1 q3 q6 q7) (hk : Kp No W W') : CurS w W' v bs f g x y qs qt q1 q3 q6 q7 :=
  ⟨bs_no h.b hk, h.s.no hk, h.t.no hk, h.one.no hk, h.span.no hk, h.or.no hk, h.nt.no hk, h.k.trans' hk⟩
/-- the world at hand under a name, with what is known of it -/
theorem wp_name {P : Program} {c : Code} {Q : Exit → Act → World → Prop} {a : Act} {w : World} (p : World → Prop) (hp : p w) (h : ∀ W, p W → c.wp P Q a W) : c.wp P Q a w := h w hp
theorem upTo_next (f : Nat → Bool) (k : Nat) : ∀ x, x < 256 → x ≠ k → upTo f (k + 1) x = upTo f k x := fun x _ hx => by
  unfold upTo
  rw [Bool.eq_iff_iff]
  simp only [Bool.and_eq_true, decide_eq_true_eq]
  constructor <;> intro ⟨a, b⟩ <;> exact ⟨by omega, b⟩
theorem upTo_at (f : Nat → Bool) (k : Nat) : upTo f (k + 1) k = f k := by simp [upTo]
theorem cnt_succ (f : Nat → Bool) (k : Nat) : cnt f 0 (k + 1) = cnt f 0 k + if f k = true then 1 else 0 := by
  simp only [cnt, Nat.zero_add]

set_option maxRecDepth 100000 in
set_option maxHeartbeats 4000000 in
theorem classSets_any (w : World) (v : Value) (bs : List UInt8) (hb : Bs w v bs) (x y : Nat) (hx : x < 256) (hy : y < 256) (f g : Nat → Bool) (hm : Mx w) :
    Calls Try.prog 4 #[v, .int .u8 (x : Int), .int .u8 (y : Int), sv f, sv g] w fun e w' => e = .returned (.bool true) ∧ Kp No w w' := by
  have HM := Hid_mk hm
  have zv := zero36.1
  obtain ⟨Z, hZ⟩ : ∃ Z, Array.replicate 256 (Value.bool false) = Z := ⟨_, rfl⟩
  have hzero : ∀ W : World, BgAt (W.alloc (.cells Z 36)) W.heap.size nul := fun W => by rw [← hZ]; exact BgAt.zero W _
  have HZero := Hid_mk hzero
  have hZs : Z.size = 256 := by rw [← hZ]; simp
  rw [hZ] at zv
  clear hZ hzero
  obtain ⟨W0, hW0⟩ : ∃ W0, ((w.alloc (.cells #[.int .u64 (wd f 0 64 : Nat), .int .u64 (wd f 64 64 : Nat), .int .u64 (wd f 128 64 : Nat), .int .u64 (wd f 192 64 : Nat)] 24)).alloc (.cells #[.int .u64 (wd g 0 64 : Nat), .int .u64 (wd g 64 64 : Nat), .int .u64 (wd g 128 64 : Nat), .int .u64 (wd g 192 64 : Nat)] 24)).alloc (.cells Z 36) = W0 := ⟨_, rfl⟩
  obtain ⟨q, hq⟩ : ∃ q, w.heap.size = q := ⟨_, rfl⟩
  have HK0 : Hid (Kp No w W0) := Hid_mk (by rw [← hW0]; exact (((Kp.refl No w).alloc _).alloc _).alloc _)
  have HS0 : Hid (SetAt W0 q f) := Hid_mk (by rw [← hW0, ← hq]; exact (SetAt.made w f).no (((Kp.refl No _).alloc _).alloc _))
  have HT0 : Hid (SetAt W0 (q + 1) g) := Hid_mk (by
    rw [← hW0, ← hq]
    have := (SetAt.made (w.alloc (.cells #[.int .u64 (wd f 0 64 : Nat), .int .u64 (wd f 64 64 : Nat), .int .u64 (wd f 128 64 : Nat), .int .u64 (wd f 192 64 : Nat)] 24)) g).no ((Kp.refl No _).alloc (.cells Z 36))
    simpa using this)
  have HO0 : Hid (BgAt W0 (q + 1 + 1) nul) := Hid_mk (by
    rw [← hW0, ← hq]
    have := HZero.out ((w.alloc (.cells #[.int .u64 (wd f 0 64 : Nat), .int .u64 (wd f 64 64 : Nat), .int .u64 (wd f 128 64 : Nat), .int .u64 (wd f 192 64 : Nat)] 24)).alloc (.cells #[.int .u64 (wd g 0 64 : Nat), .int .u64 (wd g 64 64 : Nat), .int .u64 (wd g 128 64 : Nat), .int .u64 (wd g 192 64 : Nat)] 24))
    simpa using this)
  have HSz : Hid (W0.heap.size = q + 1 + 1 + 1) := Hid_mk (by rw [← hW0, ← hq]; simp)
  have HBw := Hid_mk hb
  have HW0 := Hid_mk hW0
  have HQ := Hid_mk hq
  obtain ⟨a, c, rfl, l1, l2, l3⟩ := hb
  unfold maxLen at l2
  have H3 := Hid_mk l3
  have hx0 : (0 : Int) ≤ (x : Int) := Int.natCast_nonneg _
  have hy0 : (0 : Int) ≤ (y : Int) := Int.natCast_nonneg _
  have hwx : IntKind.i64.wrap (x : Int) = (x : Int) := IntWalk.i64_in _ (by omega)
  have hwy : IntKind.i64.wrap (y : Int) = (y : Int) := IntWalk.i64_in _ (by omega)
  obtain ⟨A, hA⟩ : ∃ A, (bc f).toArray = A := ⟨_, rfl⟩
  obtain ⟨A', hA'⟩ : ∃ A, (bc g).toArray = A := ⟨_, rfl⟩
  have HPf : Hid (∀ W, Calls Try.prog 14 #[sv f] W fun e w' => e = .returned (.agg A) ∧ Kp No W w') := Hid_mk fun W => by rw [← hA]; exact plain_any W f
  have HPg : Hid (∀ W, Calls Try.prog 14 #[sv g] W fun e w' => e = .returned (.agg A') ∧ Kp No W w') := Hid_mk fun W => by rw [← hA']; exact plain_any W g
  have HBA : Hid (∀ W : World, BgAt (W.alloc (.cells A 36)) W.heap.size f) := Hid_mk fun W => by rw [← hA]; exact BgAt.made W f _
  have HBA' : Hid (∀ W : World, BgAt (W.alloc (.cells A' 36)) W.heap.size g) := Hid_mk fun W => by rw [← hA']; exact BgAt.made W g _
  have hAs : A.size = 256 := by rw [← hA, List.size_toArray, bc_len]
  have hAs' : A'.size = 256 := by rw [← hA', List.size_toArray, bc_len]
  have hsc : ∀ W : World, (storeCells ⟨W.heap.size, 0, none⟩ A.toList 0).run Try.prog (W.alloc (.cells Z 36)) = .ok () (W.alloc (.cells A 36)) := fun W =>
    run_storeCells_new W _ Z A (by rw [← hA]; exact info_bca f) (by rw [hZs, hAs]) (by rw [← hA]; exact all_oneCell_toArray (bc_one f))
  have hsc' : ∀ W : World, (storeCells ⟨W.heap.size, 0, none⟩ A'.toList 0).run Try.prog (W.alloc (.cells Z 36)) = .ok () (W.alloc (.cells A' 36)) := fun W =>
    run_storeCells_new W _ Z A' (by rw [← hA']; exact info_bca g) (by rw [hZs, hAs']) (by rw [← hA']; exact all_oneCell_toArray (bc_one g))
  clear hA hA'
  clear hW0 l3 hm hq
  rw [svd f, svd g]
  go_enter Try.func4, Try.ntmps4
  go_wp2
  rw [HW0.out, HQ.out]
  clear HW0
  go_loopw [12] (fun i wr => OneRel W0 (q + 1 + 1) bs i wr) (fun i _ => bs.length - (intOf i).toNat)
  case atStart => exact ⟨0, Nat.zero_le _, rfl, HO0.out.congr fun x _ => by simp [nul, ofL], Kp.refl _ _⟩
  case round =>
    obtain ⟨k, hk, rfl, hs, hkp⟩ := hrel
    have HKp := Hid_mk hkp
    have hk0 : (0 : Int) ≤ (k : Int) := Int.natCast_nonneg _
    by_cases hlt : k < bs.length
    · have hki : (k : Int) < (bs.length : Int) := by omega
      have hwi : IntKind.i64.wrap ((k : Int) + 1) = (k : Int) + 1 := IntWalk.i64_in _ (by omega)
      obtain ⟨b, o, rfl, hc⟩ := H3.out (by intro e; rw [e] at hlt; simp at hlt)
      have hblt : b < w.heap.size := World.block_lt_of_cell? w _ (hc k hlt)
      have hci : wr.cell? ⟨b, o + k, none⟩ = some (B (bs.getD k 0)) := hkp.cell' (HK0.out.cell' (hc k hlt) id) (by have := HQ.out; show ¬ b = q + 1 + 1; omega)
      have hsn := fun x => ofL_snoc bs k hlt x
      generalize bs.getD k 0 = z at hci hsn
      have hz := z.toNat_lt
      unfold B at hci
      obtain ⟨n, hn⟩ : ∃ n, z.toNat = n := ⟨_, rfl⟩
      rw [hn] at hci hsn hz
      have hn0 : (0 : Int) ≤ (n : Int) := Int.natCast_nonneg _
      have hn256 : (n : Int) < 256 := by omega
      have hcq := hs.cell n hz
      have hwm := hs.warm n
      have hg : ofL (bs.take (k + 1)) n = true := by rw [hsn n]; simp
      have HST := hs.set (g := ofL (bs.take (k + 1))) n hz fun x hx h => by rw [hsn x]; simp [h]
      rw [hg] at HST
      replace HST := Hid_mk HST
      clear hs hkp hc hn hsn hblt hg
      go_wp2
      go_roundw
      case rel => exact ⟨k + 1, by omega, by push_cast; rfl, HST.out, HKp.out.setCell (p := ⟨q + 1 + 1, n, none⟩) (fun _ => rfl) _⟩
      case measure => simp only [intOf]; omega
    · obtain rfl : k = bs.length := by omega
      have hki : ¬ ((bs.length : Nat) : Int) < (bs.length : Int) := by omega
      have HS1 := Hid_mk (HS0.out.kept hkp (by omega))
      have HT1 := Hid_mk (HT0.out.kept hkp (by omega))
      have HK1 : Hid (Kp No w wr) := Hid_mk (HK0.out.trans hkp fun i hi e => by have := HQ.out; omega)
      have HB1 := Hid_mk (bs_no HBw.out HK1.out)
      have HO1 := Hid_mk (hs.congr (g := ofL bs) fun x hx => by rw [List.take_length])
      have HSz1 : Hid (q + 1 + 1 + 1 ≤ wr.heap.size) := Hid_mk (by have := hkp.size; have := HSz.out; omega)
      clear hs hkp HKp HK0 HS0 HT0 HO0 hlt hk hk0
      clear hki
      have hk12 : Kp No wr (wr.alloc (.cells Z 36)) := (Kp.refl No wr).alloc _
      obtain ⟨q3, hq3⟩ : ∃ q3, wr.heap.size = q3 := ⟨_, rfl⟩
      obtain ⟨W2, hW2⟩ : ∃ W2, wr.alloc (.cells Z 36) = W2 := ⟨_, rfl⟩
      have HZ2 : Hid (BgAt W2 q3 nul) := Hid_mk (by rw [← hW2, ← hq3]; exact HZero.out wr)
      rw [hW2] at hk12
      have HS2 := Hid_mk (HS1.out.no hk12)
      have HT2 := Hid_mk (HT1.out.no hk12)
      have HB2 := Hid_mk (bs_no HB1.out hk12)
      have HK2 := Hid_mk (HK1.out.trans' hk12)
      have HO2 := Hid_mk (HO1.out.no hk12)
      have HSz2 : Hid (q + 1 + 1 + 1 ≤ q3) := Hid_mk (by have := HSz1.out; omega)
      have HW2 := Hid_mk hW2
      have HQ3 := Hid_mk hq3
      clear hk12 hW2 hq3 HS1 HT1 HB1 HK1 HO1 HSz1
      go_wp2
      rw [HW2.out, HQ3.out]
      clear HW2 HQ3
      go_loopw [14] (fun i wr => SpanRel W2 q3 x y i wr) (fun i _ => y + 1 - (intOf i).toNat)
      case atStart => exact ⟨x, Nat.le_refl _, .inr rfl, rfl, HZ2.out.congr fun z _ => by simp [nul, upS], Kp.refl _ _⟩
      case round =>
        obtain ⟨k, hak, hk, rfl, hs, hkp⟩ := hrel
        have HKp := Hid_mk hkp
        have hk0 : (0 : Int) ≤ (k : Int) := Int.natCast_nonneg _
        by_cases hlt : k ≤ y
        · have hki : (k : Int) ≤ (y : Int) := by omega
          have hwi : IntKind.i64.wrap ((k : Int) + 1) = (k : Int) + 1 := IntWalk.i64_in _ (by omega)
          have hk256 : (k : Int) < 256 := by omega
          have hcq := hs.cell k (by omega)
          have hwm := hs.warm k
          have HST := hs.set (g := upS x (k + 1)) k (by omega) fun z hz h => by
            unfold upS
            rw [Bool.eq_iff_iff]
            simp only [Bool.and_eq_true, decide_eq_true_eq]
            omega
          rw [show upS x (k + 1) k = true from by simp [upS]; omega] at HST
          replace HST := Hid_mk HST
          clear hs hkp
          go_wp2
          go_roundw
          case rel => exact ⟨k + 1, by omega, by omega, by push_cast; rfl, HST.out, HKp.out.setCell (p := ⟨q3, k, none⟩) (fun _ => rfl) _⟩
          case measure => simp only [intOf]; omega
        · have hki : ¬ (k : Int) ≤ (y : Int) := by omega
          have HS3 := Hid_mk (HS2.out.kept hkp (by have := HSz2.out; omega))
          have HT3 := Hid_mk (HT2.out.kept hkp (by have := HSz2.out; omega))
          have HO3 := Hid_mk (HO2.out.kept hkp (by have := HSz2.out; omega))
          have HK3 : Hid (Kp No w wr) := Hid_mk (HK2.out.trans hkp fun i hi e => by have := HSz2.out; have := HQ.out; omega)
          have HP3 := Hid_mk (hs.congr (g := spn x y) fun z hz => by
            unfold upS spn
            rw [Bool.eq_iff_iff]
            simp only [Bool.and_eq_true, decide_eq_true_eq]
            omega)
          obtain ⟨W3, hW3⟩ : ∃ W3, W3 = wr := ⟨_, rfl⟩
          rw [← hW3] at HS3 HT3 HO3 HK3 HP3 ⊢
          obtain ⟨c0, c1, c2, c3⟩ := HS3.out.cells
          clear hs hkp HKp hak hk hlt hk0 HS2 HT2 HO2 HB2 HK2 HZ2 hW3
          go_wp2_with fail
          with_reducible refine (HPf.out _).mono ?_
          rintro e w4 ⟨rfl, hk4⟩
          obtain ⟨q4, hq4⟩ : ∃ q4, w4.heap.size = q4 := ⟨_, rfl⟩
          obtain ⟨W4, hW4⟩ : ∃ W4, w4.alloc (.cells A 36) = W4 := ⟨_, rfl⟩
          have hk34 : Kp No W3 W4 := by rw [← hW4]; exact hk4.alloc _
          have HF4 : Hid (BgAt W4 q4 f) := Hid_mk (by rw [← hW4, ← hq4]; exact HBA.out w4)
          have HS4 := Hid_mk (HS3.out.no hk34)
          have HT4 := Hid_mk (HT3.out.no hk34)
          have HO4 := Hid_mk (HO3.out.no hk34)
          have HP4 := Hid_mk (HP3.out.no hk34)
          have HK4 := Hid_mk (HK3.out.trans' hk34)
          have HW4 := Hid_mk hW4
          have HQ4 := Hid_mk hq4
          clear hk4 hq4 hW4 hk34 c0 c1 c2 c3 HS3 HT3 HO3 HP3 HK3 HPf HBA
          go_upto_region 12 with fail
          rw [HW4.out, HQ4.out]
          clear HW4 HQ4 hsc
          obtain ⟨c0, c1, c2, c3⟩ := HT4.out.cells
          go_wp2_with fail
          with_reducible refine (HPg.out _).mono ?_
          rintro e w5 ⟨rfl, hk5⟩
          obtain ⟨q5, hq5⟩ : ∃ q5, w5.heap.size = q5 := ⟨_, rfl⟩
          obtain ⟨W5, hW5⟩ : ∃ W5, w5.alloc (.cells A' 36) = W5 := ⟨_, rfl⟩
          have hk45 : Kp No W4 W5 := by rw [← hW5]; exact hk5.alloc _
          have HG5 : Hid (BgAt W5 q5 g) := Hid_mk (by rw [← hW5, ← hq5]; exact HBA'.out w5)
          have HF5 := Hid_mk (HF4.out.no hk45)
          have HS5 := Hid_mk (HS4.out.no hk45)
          have HT5 := Hid_mk (HT4.out.no hk45)
          have HO5 := Hid_mk (HO4.out.no hk45)
          have HP5 := Hid_mk (HP4.out.no hk45)
          have HK5 := Hid_mk (HK4.out.trans' hk45)
          have HW5 := Hid_mk hW5
          have HQ5 := Hid_mk hq5
          clear hk5 hq5 hW5 hk45 c0 c1 c2 c3 HS4 HT4 HO4 HP4 HK4 HF4 HPg HBA'
          go_upto_region 13 with fail
          rw [HW5.out, HQ5.out]
          clear HW5 HQ5 hsc'
          obtain ⟨q6, hq6⟩ : ∃ q6, W5.heap.size = q6 := ⟨_, rfl⟩
          obtain ⟨W6, hW6⟩ : ∃ W6, (W5.alloc (.cells Z 36)).alloc (.cells Z 36) = W6 := ⟨_, rfl⟩
          have hk56 : Kp No W5 W6 := by rw [← hW6]; exact ((Kp.refl No W5).alloc _).alloc _
          have HO6 : Hid (BgAt W6 q6 nul) := Hid_mk (by rw [← hW6, ← hq6]; exact (HZero.out W5).no ((Kp.refl No _).alloc _))
          have HN6 : Hid (BgAt W6 (q6 + 1) nul) := Hid_mk (by
            rw [← hW6, ← hq6]
            have := HZero.out (W5.alloc (.cells Z 36))
            simpa using this)
          have HLow : Hid (W5.heap.size = q6) := Hid_mk hq6
          have HCu : Hid (SetAt W6 q f ∧ SetAt W6 (q + 1) g ∧ BgAt W6 (q + 1 + 1) (ofL bs) ∧ BgAt W6 q3 (spn x y) ∧ BgAt W6 q4 f ∧ BgAt W6 q5 g ∧ Kp No w W6) := Hid_mk
            ⟨HS5.out.no hk56, HT5.out.no hk56, HO5.out.no hk56, HP5.out.no hk56, HF5.out.no hk56, HG5.out.no hk56, HK5.out.trans' hk56⟩
          have HLt : Hid (q < q6 ∧ q + 1 < q6 ∧ q + 1 + 1 < q6 ∧ q3 < q6 ∧ q4 < q6 ∧ q5 < q6 ∧ w.heap.size ≤ q6) := Hid_mk (by
            rw [← hq6]
            have h1 := World.block_lt_of_cell? W5 ⟨q, 0, none⟩ (HS5.out.cell 0 (by omega))
            have h2 := World.block_lt_of_cell? W5 ⟨q + 1, 0, none⟩ (HT5.out.cell 0 (by omega))
            exact ⟨h1, h2, HO5.out.lt, HP5.out.lt, HF5.out.lt, HG5.out.lt, HK5.out.size⟩)
          have HW6 := Hid_mk hW6
          have HQ6 := Hid_mk hq6
          clear hk56 hW6 hq6 HS5 HT5 HO5 HP5 HF5 HG5 HK5 HZero HLow
          go_wp2
          rw [HW6.out, HQ6.out]
          clear HW6 HQ6
          go_loopw [19, 20] (fun n i wr => AllRel W6 q6 (q6 + 1) f g n i wr) (fun _ i _ => 256 - (intOf i).toNat)
          case atStart => exact ⟨0, Nat.zero_le _, rfl, rfl, HO6.out.congr fun z _ => by simp [nul, upTo], HN6.out.congr fun z _ => by simp [nul, upTo], Kp.refl _ _⟩
          case round =>
            clear HO6 HN6
            obtain ⟨k, hk, rfl, rfl, ho, hn, hkp⟩ := hrel
            have HKp := Hid_mk hkp
            have hk0 : (0 : Int) ≤ (k : Int) := Int.natCast_nonneg _
            have HS7 := Hid_mk (HCu.out.1.kept hkp (by have := HLt.out; omega))
            have HF7 := Hid_mk (HCu.out.2.2.2.2.1.kept hkp (by have := HLt.out; omega))
            by_cases hlt : k < 256
            · have hki : (k : Int) < 256 := by omega
              have hwi : IntKind.i64.wrap ((k : Int) + 1) = (k : Int) + 1 := IntWalk.i64_in _ (by omega)
              have hl := HLt.out
              have hcp := HF7.out.cell k hlt
              have hcg := (HCu.out.2.2.2.2.2.1.kept hkp (by omega)).cell k hlt
              have hco := ho.cell k hlt
              have hwo := ho.warm k
              have hkA := fun v => (Kp.refl (fun b => b = q6) wr).setCell (p := ⟨q6, k, none⟩) (fun _ => rfl) v
              have HO8 := ho.set (g := upTo (fun z => f z || g z) (k + 1)) k hlt (upTo_next _ k)
              rw [upTo_at] at HO8
              have HS8 := fun v => HS7.out.kept (hkA v) (by omega)
              have HF8 := fun v => HF7.out.kept (hkA v) (by omega)
              have HN8 := fun v => hn.kept (hkA v) (by omega)
              have HKA := fun v => HKp.out.setCell (p := ⟨q6, k, none⟩) (fun _ => .inl rfl) v
              have hcs := cnt_succ f k
              have hcl := cnt_le f 0 k
              have hwn : IntKind.i64.wrap ((cnt f 0 k : Nat) + 1 : Int) = (cnt f 0 k : Nat) + 1 := IntWalk.i64_in _ (by omega)
              have HHas := Hid_mk fun W => has_any W f k hlt
              have hkm : (k : Int) % 256 = (k : Int) := by omega
              have hku : IntKind.u8.wrap (k : Int) = (k : Int) := by rw [IntKind.wrap_u8]; omega
              replace HS8 := Hid_mk HS8
              replace HF8 := Hid_mk HF8
              replace HN8 := Hid_mk HN8
              replace HKA := Hid_mk HKA
              replace HO8 := Hid_mk HO8
              have HCs := Hid_mk hcs
              have HL := Hid_mk hl
              clear hkp ho hn hkA hcs hcl HKp HS7 HF7
              generalize hN : cnt f 0 k = N at hwn
              cases hP : f k <;> cases hG : g k
              all_goals
                rw [hP] at hcp
                rw [hG] at hcg
                simp only [hP, hG, Bool.or_true, Bool.or_false, Bool.true_or, Bool.false_or] at HO8
                go_upto_region 19 with fail
                refine wp_name (fun W => BgAt W q6 (upTo (fun z => f z || g z) (k + 1)) ∧ SetAt W q f ∧ BgAt W q4 f ∧ BgAt W (q6 + 1) (upTo (fun z => !f z) k) ∧ Kp (fun b => b = q6 ∨ b = q6 + 1) W6 W) ⟨HO8.out, HS8.out _, HF8.out _, HN8.out _, HKA.out _⟩ ?_
                clear HO8 HS8 HF8 HN8 HKA hcp hcg hco hwo
                intro W7 ⟨h1, h2, h3, h4, h5⟩
                have hkB := fun v => (Kp.refl (fun b => b = q6 + 1) W7).setCell (p := ⟨q6 + 1, k, none⟩) (fun _ => rfl) v
                have HO9 := fun v => h1.kept (hkB v) (by omega)
                have HS9 := fun v => h2.kept (hkB v) (by omega)
                have HF9 := fun v => h3.kept (hkB v) (by omega)
                have HN9 := h4.set (g := upTo (fun z => !f z) (k + 1)) k hlt (upTo_next _ k)
                rw [upTo_at] at HN9
                simp only [hP, Bool.not_true, Bool.not_false] at HN9
                have HK9 := fun v => h5.setCell (p := ⟨q6 + 1, k, none⟩) (fun _ => .inr rfl) v
                have hcp := h3.cell k hlt
                rw [hP] at hcp
                have hcn := h4.cell k hlt
                have hwn2 := h4.warm k
                replace HO9 := Hid_mk HO9
                replace HS9 := Hid_mk HS9
                replace HF9 := Hid_mk HF9
                replace HN9 := Hid_mk HN9
                replace HK9 := Hid_mk HK9
                clear h1 h2 h3 h4 h5 hkB
                go_upto_region 20 with fail
                refine wp_name (fun W => BgAt W q6 (upTo (fun z => f z || g z) (k + 1)) ∧ SetAt W q f ∧ BgAt W q4 f ∧ BgAt W (q6 + 1) (upTo (fun z => !f z) (k + 1)) ∧ Kp (fun b => b = q6 ∨ b = q6 + 1) W6 W) ⟨HO9.out _, HS9.out _, HF9.out _, HN9.out, HK9.out _⟩ ?_
                clear HO9 HS9 HF9 HN9 HK9 hcp hcn hwn2
                intro W8 ⟨h1, h2, h3, h4, h5⟩
                have hcp := h3.cell k hlt
                rw [hP] at hcp
                have HE := Hid_mk (And.intro h1 (And.intro h4 h5))
                have h6 := h2.no (Kp.refl No W8).drew
                have h7 := h3.no (Kp.refl No W8).drew
                have hkeep : ∀ W, SetAt W q f → BgAt W q4 f → (W.cell? ⟨q, 0, none⟩ = some (.int .u64 (wd f 0 64 : Nat)) ∧ W.cell? ⟨q, 1, none⟩ = some (.int .u64 (wd f 64 64 : Nat)) ∧ W.cell? ⟨q, 2, none⟩ = some (.int .u64 (wd f 128 64 : Nat)) ∧ W.cell? ⟨q, 3, none⟩ = some (.int .u64 (wd f 192 64 : Nat)) ∧ W.cell? ⟨q4, k, none⟩ = some (.bool (f k))) := fun W h h' =>
                  ⟨h.cell 0 (by decide), h.cell 1 (by decide), h.cell 2 (by decide), h.cell 3 (by decide), h'.cell k hlt⟩
                have hS := hkeep _ h6 h7
                have HKeep := Hid_mk (fun W' (hk : Kp No W8.drew W') => hkeep W' (h6.no hk) (h7.no hk))
                have HP2 := Hid_mk hP
                clear h1 h2 h3 h4 h5 h6 h7 hkeep hP hG
                go_wp2_with fail
                go_region_held3 (fun V => V.cell? ⟨q, 0, none⟩ = some (.int .u64 (wd f 0 64 : Nat)) ∧ V.cell? ⟨q, 1, none⟩ = some (.int .u64 (wd f 64 64 : Nat)) ∧ V.cell? ⟨q, 2, none⟩ = some (.int .u64 (wd f 128 64 : Nat)) ∧ V.cell? ⟨q, 3, none⟩ = some (.int .u64 (wd f 192 64 : Nat)) ∧ V.cell? ⟨q4, k, none⟩ = some (.bool (f k)))
                  (first | exact hS | (dsimp only; exact hS) | go_keep)
                  (first | (go_at_call 13; with_reducible refine (HHas.out _).mono ?_; rintro e w9 ⟨rfl, k9⟩; have HK9 := Hid_mk k9; replace hS := HKeep.out _ k9; clear k9))
                all_goals
                  go_wp2
                  go_roundw
                  case rel =>
                    have hk9 := ((Kp.refl No W8).drew).trans' HK9.out
                    refine ⟨k + 1, by omega, by push_cast; rfl, ?_, HE.out.1.no hk9, HE.out.2.1.no hk9, HE.out.2.2.trans hk9 (fun _ _ h => h.elim)⟩
                    rw [HCs.out, hN, HP2.out]
                    first | rfl | simp
                  case measure => simp only [intOf]; omega
            · obtain rfl : k = 256 := by omega
              have hki : ¬ ((256 : Nat) : Int) < 256 := by omega
              have hl := HLt.out
              have HC0 : Hid (CurS w wr (.slice a bs.length c) bs f g x y q (q + 1) (q + 1 + 1) q3 q6 (q6 + 1)) := Hid_mk (by
                have hkw : Kp No w wr := HCu.out.2.2.2.2.2.2.trans hkp fun i hi e => by omega
                exact ⟨bs_no HBw.out hkw, HS7.out, HCu.out.2.1.kept hkp (by omega), HCu.out.2.2.1.kept hkp (by omega), HCu.out.2.2.2.1.kept hkp (by omega), ho.congr (upTo_all _), hn.congr (upTo_all _), hkw⟩)
              clear hl hkp HKp ho hn HS7 HF7 HLt HCu hk hk0 hlt HBw H3
              obtain ⟨W7, hW7⟩ : ∃ W7, W7 = wr := ⟨_, rfl⟩
              rw [← hW7] at HC0 ⊢
              clear hW7
              have HC := Hid_mk (HC0.out.no (Kp.refl No W7).drew)
              have hkeep : ∀ V, CurS w V (.slice a bs.length c) bs f g x y q (q + 1) (q + 1 + 1) q3 q6 (q6 + 1) → (V.cell? ⟨q, 0, none⟩ = some (.int .u64 (wd f 0 64 : Nat)) ∧ V.cell? ⟨q, 1, none⟩ = some (.int .u64 (wd f 64 64 : Nat)) ∧ V.cell? ⟨q, 2, none⟩ = some (.int .u64 (wd f 128 64 : Nat)) ∧ V.cell? ⟨q, 3, none⟩ = some (.int .u64 (wd f 192 64 : Nat)) ∧ V.cell? ⟨(q + 1), 0, none⟩ = some (.int .u64 (wd g 0 64 : Nat)) ∧ V.cell? ⟨(q + 1), 1, none⟩ = some (.int .u64 (wd g 64 64 : Nat)) ∧ V.cell? ⟨(q + 1), 2, none⟩ = some (.int .u64 (wd g 128 64 : Nat)) ∧ V.cell? ⟨(q + 1), 3, none⟩ = some (.int .u64 (wd g 192 64 : Nat)) ∧ V.rangeAt (q + 1 + 1) 0 (bc (ofL bs)) ∧ V.rangeAt q3 0 (bc (spn x y)) ∧ V.rangeAt q6 0 (bc fun z => f z || g z) ∧ V.rangeAt (q6 + 1) 0 (bc fun z => !f z)) := fun V h =>
                ⟨h.s.cell 0 (by decide), h.s.cell 1 (by decide), h.s.cell 2 (by decide), h.s.cell 3 (by decide), h.t.cell 0 (by decide), h.t.cell 1 (by decide), h.t.cell 2 (by decide), h.t.cell 3 (by decide), h.one.range, h.span.range, h.or.range, h.nt.range⟩
              have HKeep := Hid_mk hkeep
              have hS := hkeep _ HC.out
              clear hkeep HC0
              have HKn := Hid_mk fun W (h : Mx W) => known_any W h
              have HP1 := Hid_mk fun W => packed_any W (ofL bs)
              have HP2 := Hid_mk fun W => packed_any W (spn x y)
              have HP3 := Hid_mk fun W => packed_any W (fun z => f z || g z)
              have HP4 := Hid_mk fun W => packed_any W (fun z => !f z)
              have HSpn := Hid_mk fun W => span_any W x y hx hy
              have HOr := Hid_mk fun W => or_any W f g
              have HNt := Hid_mk fun W => not_any W f
              have HCt := Hid_mk fun W => count_any W f
              have hE1 := fun W => eq_self (ofL bs) W
              have hE2 := fun W => eq_self (spn x y) W
              have hE3 := fun W => eq_self (fun z => f z || g z) W
              have hE4 := fun W => eq_self (fun z => !f z) W
              have hu := Try.underlying36
              have hi1 := info_bc (ofL bs)
              have hi2 := info_bc (spn x y)
              have hi3 := info_bc (fun z => f z || g z)
              have hi4 := info_bc (fun z => !f z)
              generalize cnt f 0 256 = N at HCt ⊢
              clear hZs hAs hAs' hwx hwy hx0 hy0 hx hy zv
              go_wp2_with fail
              refine wp_region_held_drew (S := (fun V => V.cell? ⟨q, 0, none⟩ = some (.int .u64 (wd f 0 64 : Nat)) ∧ V.cell? ⟨q, 1, none⟩ = some (.int .u64 (wd f 64 64 : Nat)) ∧ V.cell? ⟨q, 2, none⟩ = some (.int .u64 (wd f 128 64 : Nat)) ∧ V.cell? ⟨q, 3, none⟩ = some (.int .u64 (wd f 192 64 : Nat)) ∧ V.cell? ⟨(q + 1), 0, none⟩ = some (.int .u64 (wd g 0 64 : Nat)) ∧ V.cell? ⟨(q + 1), 1, none⟩ = some (.int .u64 (wd g 64 64 : Nat)) ∧ V.cell? ⟨(q + 1), 2, none⟩ = some (.int .u64 (wd g 128 64 : Nat)) ∧ V.cell? ⟨(q + 1), 3, none⟩ = some (.int .u64 (wd g 192 64 : Nat)) ∧ V.rangeAt (q + 1 + 1) 0 (bc (ofL bs)) ∧ V.rangeAt q3 0 (bc (spn x y)) ∧ V.rangeAt q6 0 (bc fun z => f z || g z) ∧ V.rangeAt (q6 + 1) 0 (bc fun z => !f z))) (by kernel_rfl) (by first | exact hS | (dsimp only; exact hS)) (fun hHeld => ?_)
              clear hHeld; have hHeld := hS
              refine wpAnyH_ready (rs := [0]) (by kernel_rfl) (by simp) ?_
              refine AllReadyH.cons (o := { dst := some 79, op := Op.call { callee := Callee.value (Operand.func 9), args := #[], argTypes := #[] }, type := 4, pos := "law.go:52", after := #[], guard := none }) rfl (fun K hK => ?_) AllReadyH.nil
              go_simp
              with_reducible refine (HKn.out _ (HM.out.no HC.out.k)).mono ?_
              rintro e wn ⟨rfl, kn⟩
              replace HC := Hid_mk (HC.out.no kn); replace hS := HKeep.out _ HC.out; clear kn
              refine hK.out _ _ hS (fun hHeld => ?_)
              clear hK K hHeld
              have hHeld := hS
              try simp only [Act.put, List.setIfInBounds_toArray, List.set_cons_zero, List.set_cons_succ]
              refine wpAnyH_take (i := 1) (oi := { dst := some 80, op := Op.move (Operand.tmp 79), type := 4, pos := "law.go:52", after := #[{ on := 0, ground := Ground.data }, { on := 0, ground := Ground.chain }], guard := none }) (v := ?_) rfl (by kernel_rfl) (by kernel_rfl) (by kernel_rfl) (fun _ _ _ h => h) (Or.inl ⟨by rfl, ?_⟩) (by assumption) ?_
              rotate_left 1
              · intro w hSw; (try dsimp only at hSw); go_simp; all_goals (with_reducible rfl)
              try simp only [Act.put, List.setIfInBounds_toArray, List.set_cons_zero, List.set_cons_succ]
              refine wpAnyH_take (i := 2) (oi := { dst := some 81, op := Op.move (Operand.tmp 0), type := 34, pos := "law.go:52", after := #[{ on := 1, ground := Ground.guard }], guard := some (1, true) }) (v := ?_) rfl (by kernel_rfl) (by kernel_rfl) (by kernel_rfl) (fun _ _ _ h => h) (Or.inl ⟨by rfl, ?_⟩) (by assumption) ?_
              rotate_left 1
              · intro w hSw; (try dsimp only at hSw); go_simp; all_goals (with_reducible rfl)
              try simp only [Act.put, List.setIfInBounds_toArray, List.set_cons_zero, List.set_cons_succ]
              refine wpAnyH_take (i := 4) (oi := { dst := some 83, op := Op.load 36 (Operand.tmp 11), type := 36, pos := "law.go:52", after := #[{ on := 1, ground := Ground.guard }], guard := some (1, true) }) (v := .agg (bc (ofL bs)).toArray) rfl (by kernel_rfl) (by kernel_rfl) (by kernel_rfl) (fun _ _ _ h => h) (yieldsIf_load_mid (by rfl) _ _ rfl (q + 1 + 1) 0 rfl (bc (ofL bs)) _ (fun w h => h.2.2.2.2.2.2.2.2.1) hu rfl hi1) (by assumption) ?_
              try simp only [Act.put, List.setIfInBounds_toArray, List.set_cons_zero, List.set_cons_succ]
              refine wpAnyH_ready (rs := [3]) (by kernel_rfl) (by simp) ?_
              refine AllReadyH.cons (o := { dst := some 82, op := Op.call { callee := Callee.value (Operand.func 10), args := #[Operand.tmp 81], argTypes := #[34] }, type := 24, pos := "law.go:52", after := #[{ on := 2, ground := Ground.data }, { on := 1, ground := Ground.chain }, { on := 1, ground := Ground.guard }], guard := some (1, true) }) rfl (fun K hK => ?_) AllReadyH.nil
              go_simp
              with_reducible refine (of_any _ _ bs HC.out.b).mono ?_
              rintro e wn ⟨rfl, kn⟩
              replace HC := Hid_mk (HC.out.no kn); replace hS := HKeep.out _ HC.out; clear kn
              refine hK.out _ _ hS (fun hHeld => ?_)
              clear hK K hHeld
              have hHeld := hS
              try simp only [Act.put, List.setIfInBounds_toArray, List.set_cons_zero, List.set_cons_succ]
              refine wpAnyH_ready (rs := [5]) (by kernel_rfl) (by simp) ?_
              refine AllReadyH.cons (o := { dst := some 84, op := Op.call { callee := Callee.value (Operand.func 15), args := #[Operand.tmp 83], argTypes := #[36] }, type := 24, pos := "law.go:52", after := #[{ on := 4, ground := Ground.data }, { on := 3, ground := Ground.chain }, { on := 1, ground := Ground.guard }], guard := some (1, true) }) rfl (fun K hK => ?_) AllReadyH.nil
              go_simp
              with_reducible refine (HP1.out _).mono ?_
              rintro e wn ⟨rfl, kn⟩
              replace HC := Hid_mk (HC.out.no kn); replace hS := HKeep.out _ HC.out; clear kn
              refine hK.out _ _ hS (fun hHeld => ?_)
              clear hK K hHeld
              have hHeld := hS
              try simp only [Act.put, List.setIfInBounds_toArray, List.set_cons_zero, List.set_cons_succ]
              refine wpAnyH_take (i := 6) (oi := { dst := some 85, op := Op.binOp BinOp.eql 24 (Operand.tmp 82) (Operand.tmp 84) 24, type := 4, pos := "law.go:52", after := #[{ on := 3, ground := Ground.data }, { on := 5, ground := Ground.data }, { on := 1, ground := Ground.guard }], guard := some (1, true) }) (v := ?_) rfl (by kernel_rfl) (by kernel_rfl) (by kernel_rfl) (fun _ _ _ h => h) (Or.inl ⟨by rfl, ?_⟩) (by assumption) ?_
              rotate_left 1
              · intro w hSw; (try dsimp only at hSw); go_simp; all_goals (with_reducible rfl)
              try simp only [Act.put, List.setIfInBounds_toArray, List.set_cons_zero, List.set_cons_succ]
              refine wpAnyH_take (i := 7) (oi := { dst := some 86, op := Op.pick (Operand.tmp 80) (Operand.tmp 85) (Operand.const (Value.bool false)), type := 4, pos := "law.go:52", after := #[{ on := 1, ground := Ground.data }, { on := 6, ground := Ground.data }], guard := none }) (v := ?_) rfl (by kernel_rfl) (by kernel_rfl) (by kernel_rfl) (fun _ _ _ h => h) (Or.inl ⟨by rfl, ?_⟩) (by assumption) ?_
              rotate_left 1
              · intro w hSw; (try dsimp only at hSw); go_simp; all_goals (with_reducible rfl)
              try simp only [Act.put, List.setIfInBounds_toArray, List.set_cons_zero, List.set_cons_succ]
              refine wpAnyH_take (i := 8) (oi := { dst := some 87, op := Op.move (Operand.tmp 86), type := 4, pos := "law.go:52", after := #[{ on := 7, ground := Ground.data }, { on := 5, ground := Ground.chain }], guard := none }) (v := ?_) rfl (by kernel_rfl) (by kernel_rfl) (by kernel_rfl) (fun _ _ _ h => h) (Or.inl ⟨by rfl, ?_⟩) (by assumption) ?_
              rotate_left 1
              · intro w hSw; (try dsimp only at hSw); go_simp; all_goals (with_reducible rfl)
              try simp only [Act.put, List.setIfInBounds_toArray, List.set_cons_zero, List.set_cons_succ]
              refine wpAnyH_take (i := 9) (oi := { dst := some 88, op := Op.move (Operand.tmp 1), type := 5, pos := "law.go:52", after := #[{ on := 8, ground := Ground.guard }], guard := some (8, true) }) (v := ?_) rfl (by kernel_rfl) (by kernel_rfl) (by kernel_rfl) (fun _ _ _ h => h) (Or.inl ⟨by rfl, ?_⟩) (by assumption) ?_
              rotate_left 1
              · intro w hSw; (try dsimp only at hSw); go_simp; all_goals (with_reducible rfl)
              try simp only [Act.put, List.setIfInBounds_toArray, List.set_cons_zero, List.set_cons_succ]
              refine wpAnyH_take (i := 10) (oi := { dst := some 89, op := Op.move (Operand.tmp 2), type := 5, pos := "law.go:52", after := #[{ on := 8, ground := Ground.guard }], guard := some (8, true) }) (v := ?_) rfl (by kernel_rfl) (by kernel_rfl) (by kernel_rfl) (fun _ _ _ h => h) (Or.inl ⟨by rfl, ?_⟩) (by assumption) ?_
              rotate_left 1
              · intro w hSw; (try dsimp only at hSw); go_simp; all_goals (with_reducible rfl)
              try simp only [Act.put, List.setIfInBounds_toArray, List.set_cons_zero, List.set_cons_succ]
              refine wpAnyH_take (i := 12) (oi := { dst := some 91, op := Op.load 36 (Operand.tmp 13), type := 36, pos := "law.go:52", after := #[{ on := 8, ground := Ground.guard }], guard := some (8, true) }) (v := .agg (bc (spn x y)).toArray) rfl (by kernel_rfl) (by kernel_rfl) (by kernel_rfl) (fun _ _ _ h => h) (yieldsIf_load_mid (by rfl) _ _ rfl (q3) 0 rfl (bc (spn x y)) _ (fun w h => h.2.2.2.2.2.2.2.2.2.1) hu rfl hi2) (by assumption) ?_
              try simp only [Act.put, List.setIfInBounds_toArray, List.set_cons_zero, List.set_cons_succ]
              refine wpAnyH_ready (rs := [11]) (by kernel_rfl) (by simp) ?_
              refine AllReadyH.cons (o := { dst := some 90, op := Op.call { callee := Callee.value (Operand.func 16), args := #[Operand.tmp 88, Operand.tmp 89], argTypes := #[5, 5] }, type := 24, pos := "law.go:52", after := #[{ on := 9, ground := Ground.data }, { on := 10, ground := Ground.data }, { on := 8, ground := Ground.chain }, { on := 8, ground := Ground.guard }], guard := some (8, true) }) rfl (fun K hK => ?_) AllReadyH.nil
              go_simp
              with_reducible refine (HSpn.out _).mono ?_
              rintro e wn ⟨rfl, kn⟩
              replace HC := Hid_mk (HC.out.no kn); replace hS := HKeep.out _ HC.out; clear kn
              refine hK.out _ _ hS (fun hHeld => ?_)
              clear hK K hHeld
              have hHeld := hS
              try simp only [Act.put, List.setIfInBounds_toArray, List.set_cons_zero, List.set_cons_succ]
              refine wpAnyH_ready (rs := [13]) (by kernel_rfl) (by simp) ?_
              refine AllReadyH.cons (o := { dst := some 92, op := Op.call { callee := Callee.value (Operand.func 15), args := #[Operand.tmp 91], argTypes := #[36] }, type := 24, pos := "law.go:52", after := #[{ on := 12, ground := Ground.data }, { on := 11, ground := Ground.chain }, { on := 8, ground := Ground.guard }], guard := some (8, true) }) rfl (fun K hK => ?_) AllReadyH.nil
              go_simp
              with_reducible refine (HP2.out _).mono ?_
              rintro e wn ⟨rfl, kn⟩
              replace HC := Hid_mk (HC.out.no kn); replace hS := HKeep.out _ HC.out; clear kn
              refine hK.out _ _ hS (fun hHeld => ?_)
              clear hK K hHeld
              have hHeld := hS
              try simp only [Act.put, List.setIfInBounds_toArray, List.set_cons_zero, List.set_cons_succ]
              refine wpAnyH_take (i := 14) (oi := { dst := some 93, op := Op.binOp BinOp.eql 24 (Operand.tmp 90) (Operand.tmp 92) 24, type := 4, pos := "law.go:52", after := #[{ on := 11, ground := Ground.data }, { on := 13, ground := Ground.data }, { on := 8, ground := Ground.guard }], guard := some (8, true) }) (v := ?_) rfl (by kernel_rfl) (by kernel_rfl) (by kernel_rfl) (fun _ _ _ h => h) (Or.inl ⟨by rfl, ?_⟩) (by assumption) ?_
              rotate_left 1
              · intro w hSw; (try dsimp only at hSw); go_simp; all_goals (with_reducible rfl)
              try simp only [Act.put, List.setIfInBounds_toArray, List.set_cons_zero, List.set_cons_succ]
              refine wpAnyH_take (i := 15) (oi := { dst := some 94, op := Op.pick (Operand.tmp 87) (Operand.tmp 93) (Operand.const (Value.bool false)), type := 4, pos := "law.go:52", after := #[{ on := 8, ground := Ground.data }, { on := 14, ground := Ground.data }], guard := none }) (v := ?_) rfl (by kernel_rfl) (by kernel_rfl) (by kernel_rfl) (fun _ _ _ h => h) (Or.inl ⟨by rfl, ?_⟩) (by assumption) ?_
              rotate_left 1
              · intro w hSw; (try dsimp only at hSw); go_simp; all_goals (with_reducible rfl)
              try simp only [Act.put, List.setIfInBounds_toArray, List.set_cons_zero, List.set_cons_succ]
              refine wpAnyH_take (i := 16) (oi := { dst := some 95, op := Op.move (Operand.tmp 94), type := 4, pos := "law.go:52", after := #[{ on := 15, ground := Ground.data }, { on := 13, ground := Ground.chain }], guard := none }) (v := ?_) rfl (by kernel_rfl) (by kernel_rfl) (by kernel_rfl) (fun _ _ _ h => h) (Or.inl ⟨by rfl, ?_⟩) (by assumption) ?_
              rotate_left 1
              · intro w hSw; (try dsimp only at hSw); go_simp; all_goals (with_reducible rfl)
              try simp only [Act.put, List.setIfInBounds_toArray, List.set_cons_zero, List.set_cons_succ]
              refine wpAnyH_take (i := 17) (oi := { dst := some 96, op := Op.load 24 (Operand.tmp 8), type := 24, pos := "law.go:52", after := #[{ on := 16, ground := Ground.guard }], guard := some (16, true) }) (v := ?_) rfl (by kernel_rfl) (by kernel_rfl) (by kernel_rfl) (fun _ _ _ h => h) (Or.inl ⟨by rfl, ?_⟩) (by assumption) ?_
              rotate_left 1
              · intro w hSw; (try dsimp only at hSw); go_simp; all_goals (with_reducible rfl)
              try simp only [Act.put, List.setIfInBounds_toArray, List.set_cons_zero, List.set_cons_succ]
              refine wpAnyH_take (i := 18) (oi := { dst := some 97, op := Op.load 24 (Operand.tmp 9), type := 24, pos := "law.go:52", after := #[{ on := 16, ground := Ground.guard }], guard := some (16, true) }) (v := ?_) rfl (by kernel_rfl) (by kernel_rfl) (by kernel_rfl) (fun _ _ _ h => h) (Or.inl ⟨by rfl, ?_⟩) (by assumption) ?_
              rotate_left 1
              · intro w hSw; (try dsimp only at hSw); go_simp; all_goals (with_reducible rfl)
              try simp only [Act.put, List.setIfInBounds_toArray, List.set_cons_zero, List.set_cons_succ]
              refine wpAnyH_take (i := 20) (oi := { dst := some 99, op := Op.load 36 (Operand.tmp 17), type := 36, pos := "law.go:52", after := #[{ on := 16, ground := Ground.guard }], guard := some (16, true) }) (v := .agg (bc fun z => f z || g z).toArray) rfl (by kernel_rfl) (by kernel_rfl) (by kernel_rfl) (fun _ _ _ h => h) (yieldsIf_load_mid (by rfl) _ _ rfl (q6) 0 rfl (bc fun z => f z || g z) _ (fun w h => h.2.2.2.2.2.2.2.2.2.2.1) hu rfl hi3) (by assumption) ?_
              try simp only [Act.put, List.setIfInBounds_toArray, List.set_cons_zero, List.set_cons_succ]
              refine wpAnyH_ready (rs := [19]) (by kernel_rfl) (by simp) ?_
              refine AllReadyH.cons (o := { dst := some 98, op := Op.call { callee := Callee.value (Operand.func 17), args := #[Operand.tmp 96, Operand.tmp 97], argTypes := #[24, 24] }, type := 24, pos := "law.go:52", after := #[{ on := 17, ground := Ground.data }, { on := 18, ground := Ground.data }, { on := 16, ground := Ground.chain }, { on := 16, ground := Ground.guard }], guard := some (16, true) }) rfl (fun K hK => ?_) AllReadyH.nil
              go_simp
              with_reducible refine (HOr.out _).mono ?_
              rintro e wn ⟨rfl, kn⟩
              replace HC := Hid_mk (HC.out.no kn); replace hS := HKeep.out _ HC.out; clear kn
              refine hK.out _ _ hS (fun hHeld => ?_)
              clear hK K hHeld
              have hHeld := hS
              try simp only [Act.put, List.setIfInBounds_toArray, List.set_cons_zero, List.set_cons_succ]
              refine wpAnyH_ready (rs := [21]) (by kernel_rfl) (by simp) ?_
              refine AllReadyH.cons (o := { dst := some 100, op := Op.call { callee := Callee.value (Operand.func 15), args := #[Operand.tmp 99], argTypes := #[36] }, type := 24, pos := "law.go:52", after := #[{ on := 20, ground := Ground.data }, { on := 19, ground := Ground.chain }, { on := 16, ground := Ground.guard }], guard := some (16, true) }) rfl (fun K hK => ?_) AllReadyH.nil
              go_simp
              with_reducible refine (HP3.out _).mono ?_
              rintro e wn ⟨rfl, kn⟩
              replace HC := Hid_mk (HC.out.no kn); replace hS := HKeep.out _ HC.out; clear kn
              refine hK.out _ _ hS (fun hHeld => ?_)
              clear hK K hHeld
              have hHeld := hS
              try simp only [Act.put, List.setIfInBounds_toArray, List.set_cons_zero, List.set_cons_succ]
              refine wpAnyH_take (i := 22) (oi := { dst := some 101, op := Op.binOp BinOp.eql 24 (Operand.tmp 98) (Operand.tmp 100) 24, type := 4, pos := "law.go:52", after := #[{ on := 19, ground := Ground.data }, { on := 21, ground := Ground.data }, { on := 16, ground := Ground.guard }], guard := some (16, true) }) (v := ?_) rfl (by kernel_rfl) (by kernel_rfl) (by kernel_rfl) (fun _ _ _ h => h) (Or.inl ⟨by rfl, ?_⟩) (by assumption) ?_
              rotate_left 1
              · intro w hSw; (try dsimp only at hSw); go_simp; all_goals (with_reducible rfl)
              try simp only [Act.put, List.setIfInBounds_toArray, List.set_cons_zero, List.set_cons_succ]
              refine wpAnyH_take (i := 23) (oi := { dst := some 102, op := Op.pick (Operand.tmp 95) (Operand.tmp 101) (Operand.const (Value.bool false)), type := 4, pos := "law.go:52", after := #[{ on := 16, ground := Ground.data }, { on := 22, ground := Ground.data }], guard := none }) (v := ?_) rfl (by kernel_rfl) (by kernel_rfl) (by kernel_rfl) (fun _ _ _ h => h) (Or.inl ⟨by rfl, ?_⟩) (by assumption) ?_
              rotate_left 1
              · intro w hSw; (try dsimp only at hSw); go_simp; all_goals (with_reducible rfl)
              try simp only [Act.put, List.setIfInBounds_toArray, List.set_cons_zero, List.set_cons_succ]
              refine wpAnyH_take (i := 24) (oi := { dst := some 103, op := Op.move (Operand.tmp 102), type := 4, pos := "law.go:52", after := #[{ on := 23, ground := Ground.data }, { on := 21, ground := Ground.chain }], guard := none }) (v := ?_) rfl (by kernel_rfl) (by kernel_rfl) (by kernel_rfl) (fun _ _ _ h => h) (Or.inl ⟨by rfl, ?_⟩) (by assumption) ?_
              rotate_left 1
              · intro w hSw; (try dsimp only at hSw); go_simp; all_goals (with_reducible rfl)
              try simp only [Act.put, List.setIfInBounds_toArray, List.set_cons_zero, List.set_cons_succ]
              refine wpAnyH_take (i := 25) (oi := { dst := some 104, op := Op.load 24 (Operand.tmp 8), type := 24, pos := "law.go:52", after := #[{ on := 24, ground := Ground.guard }], guard := some (24, true) }) (v := ?_) rfl (by kernel_rfl) (by kernel_rfl) (by kernel_rfl) (fun _ _ _ h => h) (Or.inl ⟨by rfl, ?_⟩) (by assumption) ?_
              rotate_left 1
              · intro w hSw; (try dsimp only at hSw); go_simp; all_goals (with_reducible rfl)
              try simp only [Act.put, List.setIfInBounds_toArray, List.set_cons_zero, List.set_cons_succ]
              refine wpAnyH_take (i := 27) (oi := { dst := some 106, op := Op.load 36 (Operand.tmp 18), type := 36, pos := "law.go:52", after := #[{ on := 24, ground := Ground.guard }], guard := some (24, true) }) (v := .agg (bc fun z => !f z).toArray) rfl (by kernel_rfl) (by kernel_rfl) (by kernel_rfl) (fun _ _ _ h => h) (yieldsIf_load_mid (by rfl) _ _ rfl (q6 + 1) 0 rfl (bc fun z => !f z) _ (fun w h => h.2.2.2.2.2.2.2.2.2.2.2) hu rfl hi4) (by assumption) ?_
              try simp only [Act.put, List.setIfInBounds_toArray, List.set_cons_zero, List.set_cons_succ]
              refine wpAnyH_ready (rs := [26]) (by kernel_rfl) (by simp) ?_
              refine AllReadyH.cons (o := { dst := some 105, op := Op.call { callee := Callee.value (Operand.func 11), args := #[Operand.tmp 104], argTypes := #[24] }, type := 24, pos := "law.go:52", after := #[{ on := 25, ground := Ground.data }, { on := 24, ground := Ground.chain }, { on := 24, ground := Ground.guard }], guard := some (24, true) }) rfl (fun K hK => ?_) AllReadyH.nil
              go_simp
              with_reducible refine (HNt.out _).mono ?_
              rintro e wn ⟨rfl, kn⟩
              replace HC := Hid_mk (HC.out.no kn); replace hS := HKeep.out _ HC.out; clear kn
              refine hK.out _ _ hS (fun hHeld => ?_)
              clear hK K hHeld
              have hHeld := hS
              try simp only [Act.put, List.setIfInBounds_toArray, List.set_cons_zero, List.set_cons_succ]
              refine wpAnyH_ready (rs := [28]) (by kernel_rfl) (by simp) ?_
              refine AllReadyH.cons (o := { dst := some 107, op := Op.call { callee := Callee.value (Operand.func 15), args := #[Operand.tmp 106], argTypes := #[36] }, type := 24, pos := "law.go:52", after := #[{ on := 27, ground := Ground.data }, { on := 26, ground := Ground.chain }, { on := 24, ground := Ground.guard }], guard := some (24, true) }) rfl (fun K hK => ?_) AllReadyH.nil
              go_simp
              with_reducible refine (HP4.out _).mono ?_
              rintro e wn ⟨rfl, kn⟩
              replace HC := Hid_mk (HC.out.no kn); replace hS := HKeep.out _ HC.out; clear kn
              refine hK.out _ _ hS (fun hHeld => ?_)
              clear hK K hHeld
              have hHeld := hS
              try simp only [Act.put, List.setIfInBounds_toArray, List.set_cons_zero, List.set_cons_succ]
              refine wpAnyH_take (i := 29) (oi := { dst := some 108, op := Op.binOp BinOp.eql 24 (Operand.tmp 105) (Operand.tmp 107) 24, type := 4, pos := "law.go:52", after := #[{ on := 26, ground := Ground.data }, { on := 28, ground := Ground.data }, { on := 24, ground := Ground.guard }], guard := some (24, true) }) (v := ?_) rfl (by kernel_rfl) (by kernel_rfl) (by kernel_rfl) (fun _ _ _ h => h) (Or.inl ⟨by rfl, ?_⟩) (by assumption) ?_
              rotate_left 1
              · intro w hSw; (try dsimp only at hSw); go_simp; all_goals (with_reducible rfl)
              try simp only [Act.put, List.setIfInBounds_toArray, List.set_cons_zero, List.set_cons_succ]
              refine wpAnyH_take (i := 30) (oi := { dst := some 109, op := Op.pick (Operand.tmp 103) (Operand.tmp 108) (Operand.const (Value.bool false)), type := 4, pos := "law.go:52", after := #[{ on := 24, ground := Ground.data }, { on := 29, ground := Ground.data }], guard := none }) (v := ?_) rfl (by kernel_rfl) (by kernel_rfl) (by kernel_rfl) (fun _ _ _ h => h) (Or.inl ⟨by rfl, ?_⟩) (by assumption) ?_
              rotate_left 1
              · intro w hSw; (try dsimp only at hSw); go_simp; all_goals (with_reducible rfl)
              try simp only [Act.put, List.setIfInBounds_toArray, List.set_cons_zero, List.set_cons_succ]
              refine wpAnyH_take (i := 31) (oi := { dst := some 110, op := Op.move (Operand.tmp 109), type := 4, pos := "law.go:52", after := #[{ on := 30, ground := Ground.data }, { on := 28, ground := Ground.chain }], guard := none }) (v := ?_) rfl (by kernel_rfl) (by kernel_rfl) (by kernel_rfl) (fun _ _ _ h => h) (Or.inl ⟨by rfl, ?_⟩) (by assumption) ?_
              rotate_left 1
              · intro w hSw; (try dsimp only at hSw); go_simp; all_goals (with_reducible rfl)
              try simp only [Act.put, List.setIfInBounds_toArray, List.set_cons_zero, List.set_cons_succ]
              refine wpAnyH_take (i := 32) (oi := { dst := some 111, op := Op.load 24 (Operand.tmp 8), type := 24, pos := "law.go:52", after := #[{ on := 31, ground := Ground.guard }], guard := some (31, true) }) (v := ?_) rfl (by kernel_rfl) (by kernel_rfl) (by kernel_rfl) (fun _ _ _ h => h) (Or.inl ⟨by rfl, ?_⟩) (by assumption) ?_
              rotate_left 1
              · intro w hSw; (try dsimp only at hSw); go_simp; all_goals (with_reducible rfl)
              try simp only [Act.put, List.setIfInBounds_toArray, List.set_cons_zero, List.set_cons_succ]
              refine wpAnyH_take (i := 34) (oi := { dst := some 113, op := Op.move (Operand.tmp 19), type := 3, pos := "law.go:52", after := #[{ on := 31, ground := Ground.guard }], guard := some (31, true) }) (v := ?_) rfl (by kernel_rfl) (by kernel_rfl) (by kernel_rfl) (fun _ _ _ h => h) (Or.inl ⟨by rfl, ?_⟩) (by assumption) ?_
              rotate_left 1
              · intro w hSw; (try dsimp only at hSw); go_simp; all_goals (with_reducible rfl)
              try simp only [Act.put, List.setIfInBounds_toArray, List.set_cons_zero, List.set_cons_succ]
              refine wpAnyH_ready (rs := [33]) (by kernel_rfl) (by simp) ?_
              refine AllReadyH.cons (o := { dst := some 112, op := Op.call { callee := Callee.value (Operand.func 12), args := #[Operand.tmp 111], argTypes := #[24] }, type := 3, pos := "law.go:52", after := #[{ on := 32, ground := Ground.data }, { on := 31, ground := Ground.chain }, { on := 31, ground := Ground.guard }], guard := some (31, true) }) rfl (fun K hK => ?_) AllReadyH.nil
              go_simp
              with_reducible refine (HCt.out _).mono ?_
              rintro e wn ⟨rfl, kn⟩
              replace HC := Hid_mk (HC.out.no kn); replace hS := HKeep.out _ HC.out; clear kn
              refine hK.out _ _ hS (fun hHeld => ?_)
              clear hK K hHeld
              have hHeld := hS
              try simp only [Act.put, List.setIfInBounds_toArray, List.set_cons_zero, List.set_cons_succ]
              refine wpAnyH_take (i := 35) (oi := { dst := some 114, op := Op.binOp BinOp.eql 3 (Operand.tmp 112) (Operand.tmp 113) 3, type := 4, pos := "law.go:52", after := #[{ on := 33, ground := Ground.data }, { on := 34, ground := Ground.data }, { on := 31, ground := Ground.guard }], guard := some (31, true) }) (v := ?_) rfl (by kernel_rfl) (by kernel_rfl) (by kernel_rfl) (fun _ _ _ h => h) (Or.inl ⟨by rfl, ?_⟩) (by assumption) ?_
              rotate_left 1
              · intro w hSw; (try dsimp only at hSw); go_simp; all_goals (with_reducible rfl)
              try simp only [Act.put, List.setIfInBounds_toArray, List.set_cons_zero, List.set_cons_succ]
              refine wpAnyH_take (i := 36) (oi := { dst := some 115, op := Op.pick (Operand.tmp 110) (Operand.tmp 114) (Operand.const (Value.bool false)), type := 4, pos := "law.go:52", after := #[{ on := 31, ground := Ground.data }, { on := 35, ground := Ground.data }], guard := none }) (v := ?_) rfl (by kernel_rfl) (by kernel_rfl) (by kernel_rfl) (fun _ _ _ h => h) (Or.inl ⟨by rfl, ?_⟩) (by assumption) ?_
              rotate_left 1
              · intro w hSw; (try dsimp only at hSw); go_simp; all_goals (with_reducible rfl)
              try simp only [Act.put, List.setIfInBounds_toArray, List.set_cons_zero, List.set_cons_succ]
              refine wpAnyH_take (i := 37) (oi := { dst := some 10, op := Op.assign (Operand.tmp 115), type := 4, pos := "law.go:52", after := #[{ on := 36, ground := Ground.data }, { on := 33, ground := Ground.chain }, { on := 0, ground := Ground.phase }, { on := 1, ground := Ground.phase }, { on := 2, ground := Ground.phase }, { on := 3, ground := Ground.phase }, { on := 4, ground := Ground.phase }, { on := 5, ground := Ground.phase }, { on := 6, ground := Ground.phase }, { on := 7, ground := Ground.phase }, { on := 8, ground := Ground.phase }, { on := 9, ground := Ground.phase }, { on := 10, ground := Ground.phase }, { on := 11, ground := Ground.phase }, { on := 12, ground := Ground.phase }, { on := 13, ground := Ground.phase }, { on := 14, ground := Ground.phase }, { on := 15, ground := Ground.phase }, { on := 16, ground := Ground.phase }, { on := 17, ground := Ground.phase }, { on := 18, ground := Ground.phase }, { on := 19, ground := Ground.phase }, { on := 20, ground := Ground.phase }, { on := 21, ground := Ground.phase }, { on := 22, ground := Ground.phase }, { on := 23, ground := Ground.phase }, { on := 24, ground := Ground.phase }, { on := 25, ground := Ground.phase }, { on := 26, ground := Ground.phase }, { on := 27, ground := Ground.phase }, { on := 28, ground := Ground.phase }, { on := 29, ground := Ground.phase }, { on := 30, ground := Ground.phase }, { on := 31, ground := Ground.phase }, { on := 32, ground := Ground.phase }, { on := 33, ground := Ground.phase }, { on := 34, ground := Ground.phase }, { on := 35, ground := Ground.phase }, { on := 36, ground := Ground.phase }], guard := none }) (v := ?_) rfl (by kernel_rfl) (by kernel_rfl) (by kernel_rfl) (fun _ _ _ h => h) (Or.inl ⟨by rfl, ?_⟩) (by assumption) ?_
              rotate_left 1
              · intro w hSw; (try dsimp only at hSw); go_simp; all_goals (with_reducible rfl)
              try simp only [Act.put, List.setIfInBounds_toArray, List.set_cons_zero, List.set_cons_succ]
              refine wpAnyH_done (by kernel_rfl) ?_ _
              go_wp2
              go_ret
              exact ⟨by simp, HC.out.k⟩

end Go.Proofs.Ytpfpnlhihnfahaa.cls
