/- Package ere: a bracket of a text without a backslash. -/
import Derived.Test.YtdognehkbahmdaaEreGroup
import Derived.Test.YtdognehkbahmdaaClassKnown0
import Derived.Deep.RegionHeld3
namespace Go.Proofs.Ytdognehkbahmdaa.ere
open Go.RowKit Go.Proofs.Ytdognehkbahmdaa.sum Go.Proofs.Ytdognehkbahmdaa.kept Go.Proofs.Ytdognehkbahmdaa.pop Go.Proofs.Ytdognehkbahmdaa.cls Go.Proofs.Ytdognehkbahmdaa.tre Go.Proofs.Ytdognehkbahmdaa.str
set_option linter.unusedVariables false

theorem four_put {w : World} {q : Nat} {x0 x1 x2 x3 : Value} (h0 : w.cell? ⟨q, 0, none⟩ = some x0) (h1 : w.cell? ⟨q, 1, none⟩ = some x1) (h2 : w.cell? ⟨q, 2, none⟩ = some x2) (h3 : w.cell? ⟨q, 3, none⟩ = some x3) (y0 y1 y2 y3 : Value) :
    ((((w.setCell ⟨q, 0, none⟩ y0).setCell ⟨q, 1, none⟩ y1).setCell ⟨q, 2, none⟩ y2).setCell ⟨q, 3, none⟩ y3).cell? ⟨q, 0, none⟩ = some y0 ∧ ((((w.setCell ⟨q, 0, none⟩ y0).setCell ⟨q, 1, none⟩ y1).setCell ⟨q, 2, none⟩ y2).setCell ⟨q, 3, none⟩ y3).cell? ⟨q, 1, none⟩ = some y1 ∧ ((((w.setCell ⟨q, 0, none⟩ y0).setCell ⟨q, 1, none⟩ y1).setCell ⟨q, 2, none⟩ y2).setCell ⟨q, 3, none⟩ y3).cell? ⟨q, 2, none⟩ = some y2 ∧ ((((w.setCell ⟨q, 0, none⟩ y0).setCell ⟨q, 1, none⟩ y1).setCell ⟨q, 2, none⟩ y2).setCell ⟨q, 3, none⟩ y3).cell? ⟨q, 3, none⟩ = some y3 := by
  refine ⟨?_, ?_, ?_, ?_⟩
  · rw [World.cell?_setCell_other _ _ _ _ (by intro e; cases e), World.cell?_setCell_other _ _ _ _ (by intro e; cases e), World.cell?_setCell_other _ _ _ _ (by intro e; cases e)]
    exact World.cell?_setCell_same _ _ _ h0
  · rw [World.cell?_setCell_other _ _ _ _ (by intro e; cases e), World.cell?_setCell_other _ _ _ _ (by intro e; cases e)]
    exact World.cell?_setCell_same _ _ _ (by rw [World.cell?_setCell_other _ _ _ _ (by intro e; cases e)]; exact h1)
  · rw [World.cell?_setCell_other _ _ _ _ (by intro e; cases e)]
    exact World.cell?_setCell_same _ _ _ (by rw [World.cell?_setCell_other _ _ _ _ (by intro e; cases e), World.cell?_setCell_other _ _ _ _ (by intro e; cases e)]; exact h2)
  · exact World.cell?_setCell_same _ _ _ (by rw [World.cell?_setCell_other _ _ _ _ (by intro e; cases e), World.cell?_setCell_other _ _ _ _ (by intro e; cases e), World.cell?_setCell_other _ _ _ _ (by intro e; cases e)]; exact h3)
/-- what class.Bracket tells at a place -/
def bkS (l : List UInt8) (k : Nat) : Option ((Nat → Bool) × Nat) :=
  match brS (itemS l) l (if Lib.hasPrefix (l.drop k) [94] = true then k + 1 else k) (l.length + 1) (if Lib.hasPrefix (l.drop k) [94] = true then k + 1 else k) nul with
  | none => none
  | some (f, n) => some (if Lib.hasPrefix (l.drop k) [94] = true then fun x => !f x else f, n)
theorem brS_adv {l : List UInt8} {first : Nat} : ∀ (fu k : Nat) (s : Nat → Bool) (x : (Nat → Bool) × Nat), brS (itemS l) l first fu k s = some x → k ≤ l.length → k < x.2 ∧ x.2 ≤ l.length
  | 0, _, _, _, h, _ => by cases h
  | fu + 1, k, s, x, h, hk => by
    rw [brS] at h
    split at h
    · rename_i h1
      split at h
      · cases h
      · rename_i g n hi
        have h2 := item_adv l k _ h1.1 hi
        have h3 := brS_adv fu n _ x h h2.2
        have h4 : k < n := h2.1
        omega
    · split at h
      · cases h
      · cases h
        simp only
        omega
theorem bkS_adv {l : List UInt8} {k n : Nat} {f : Nat → Bool} (hk : k ≤ l.length) (h : bkS l k = some (f, n)) : k < n ∧ n ≤ l.length := by
  unfold bkS at h
  split at h
  · cases h
  · rename_i g m hb
    cases h
    by_cases hp : Lib.hasPrefix (l.drop k) [94] = true
    · rw [if_pos hp] at hb
      have hl := Lib.hasPrefix_le hp
      rw [List.length_drop] at hl
      simp at hl
      have := brS_adv _ _ _ _ hb (by omega)
      simp only at this
      omega
    · rw [if_neg hp] at hb
      have := brS_adv _ _ _ _ hb hk
      simp only at this
      omega
theorem set_pt (T : Nat → Prop) (w : World) (f : Nat → Bool) : PtV T w (absP (setT f)) (.agg (cellsP 1 f none 0 0 1 1)) := by
  have e : absP (setT f) = ⟨setT f, 1, 1⟩ := by
    have h1 : setsS (setT f) = 1 := by simp [setT, setsS]
    have h2 : highS (setT f) = 1 := by simp [setT, highS, highL]
    rw [absP_fits (by unfold fitsB; rw [h1, h2]; rfl), h1, h2]
  rw [e]
  exact ⟨1, f, none, 0, 0, rfl, leaf_val _ _ 1 f 0 (by decide) none⟩

set_option maxRecDepth 100000 in
set_option maxHeartbeats 4000000 in
theorem brkt_any {w0 : World} {q : Nat} {l : List UInt8} (hl : l.length < 4294967281) (h92 : ∀ k, k < l.length → (l.getD k 0).toNat ≠ 92) (hm : Mx w0) : BrktC w0 q l (bkS l) := by
  intro w k o h hk h91
  obtain ⟨W1, hW1⟩ : ∃ W1, w.alloc (.cells #[.int .i64 0, .int .u64 0, .int .u64 0, .int .u64 0, .int .u64 0, .slice none 0 0, .int .i64 0, .int .i64 0] 60) = W1 := ⟨_, rfl⟩
  obtain ⟨r, hr⟩ : ∃ r, w.heap.size = r := ⟨_, rfl⟩
  have hK0 : Kp No w W1 := by rw [← hW1]; exact (Kp.refl No w).alloc _
  have hz : W1.heap.size = r + 1 := by rw [← hW1, ← hr]; simp
  have hB : PAt W1 r (.int .i64 0) (.int .u64 0) (.int .u64 0) (.int .u64 0) (.int .u64 0) (.slice none 0 0) (.int .i64 0) (.int .i64 0) := by
    rw [← hW1, ← hr]
    exact PAt.new _ _ _ _ _ _ _ _ _ _
  have hR1 := h.no hK0
  have hqr : q < r := by have := h.lt; omega
  have hwk1 : IntKind.i64.wrap ((k : Int) + 1) = (k : Int) + 1 := IntWalk.i64_in _ (by omega)
  have hzk1 : (0 : Int) ≤ (k : Int) + 1 := by omega
  have hke : (k : Int) + 1 = ((k + 1 : Nat) : Int) := by push_cast; rfl
  have htm : ∀ W, Kp No W1 W → Calls Try.prog 91 #[.string (st l), .int .i64 ((k : Int) + 1)] W fun e w' => ∃ (f : Nat → Bool) (tn : Int) (tk : Bool), e = .returned (.tuple #[.agg #[.int .u64 (wd f 0 64 : Nat), .int .u64 (wd f 64 64 : Nat), .int .u64 (wd f 128 64 : Nat), .int .u64 (wd f 192 64 : Nat)], .int .i64 tn, .bool tk]) ∧ Hid (match bkS l (k + 1) with | none => tk = false | some (g, m) => tk = true ∧ f = g ∧ tn = m) ∧ Kp No W w' := by
    intro W hKW
    rw [hke]
    refine (bracket_any W l (k + 1) _ hk hl ((hm.no hR1.kp).no hKW) (itemS l) (fun W j h hj => item_any l h92 hl W j h hj) (item_adv l) rfl).mono ?_
    rintro e w' ⟨rfl, hk'⟩
    unfold bkS
    rcases brS (itemS l) l (if Lib.hasPrefix (l.drop (k + 1)) [94] = true then k + 1 + 1 else k + 1) (l.length + 1) (if Lib.hasPrefix (l.drop (k + 1)) [94] = true then k + 1 + 1 else k + 1) nul with _ | ⟨f, n⟩
    · exact ⟨nul, 0, false, by simp only [brV, svd], Hid_mk rfl, hk'⟩
    · exact ⟨_, n, true, by simp only [brV, svd], Hid_mk ⟨rfl, rfl, rfl⟩, hk'⟩
  obtain ⟨R, hRs⟩ : ∃ R, brkR (bkS l) k = R := ⟨_, rfl⟩
  rw [hRs]
  have HTm := Hid_mk htm
  have HRs := Hid_mk hRs
  have HW1 := Hid_mk hW1
  have HR := Hid_mk hr
  have HK0 := Hid_mk hK0
  have HZ1 := Hid_mk (show r + 1 ≤ W1.heap.size by omega)
  have HB1 := Hid_mk hB
  have HR1 := Hid_mk hR1
  have HQr := Hid_mk hqr
  have HKS := Hid_mk hk
  have c0 := hR1.c0
  have c1 := hR1.c1
  clear hW1 hr hK0 hz hB hR1 hqr hke htm hRs h h91 hm h92 hk hl
  go_enter Try.func78, Try.ntmps78
  go_upto_region 1 with fail
  rw [HR.out, HW1.out]
  clear HW1
  have hKeep : ∀ W, Kp No W1 W → (W.cell? ⟨q, 0, none⟩ = some (.string (st l)) ∧ W.cell? ⟨q, 1, none⟩ = some (.int .i64 (k : Int)) ∧ Hid (Kp No W1 W)) := fun W h => ⟨h.cell' c0 id, h.cell' c1 id, Hid_mk h⟩
  have HKeep := Hid_mk hKeep
  have hS := hKeep W1.drew ((Kp.refl No W1).drew)
  have HKc := Hid_mk ((Kp.refl No W1).drew)
  clear hKeep c0 c1
  refine wp_region_held_drew (S := (fun W => W.cell? ⟨q, 0, none⟩ = some (.string (st l)) ∧ W.cell? ⟨q, 1, none⟩ = some (.int .i64 (k : Int)) ∧ Hid (Kp No W1 W))) (by kernel_rfl) (by first | exact hS | (dsimp only; exact hS)) (fun hHeld => ?_)
  clear hHeld; have hHeld := hS
  refine wpAnyH_take (i := 0) (oi := { dst := some 8, op := Op.move (Operand.tmp 0), type := 86, pos := "parse.go:149", after := #[], guard := none }) (v := ?_) rfl (by kernel_rfl) (by kernel_rfl) (by kernel_rfl) (fun _ _ _ h => h) (Or.inl ⟨by rfl, ?_⟩) (by assumption) ?_
  rotate_left 1
  · intro w hSw; (try dsimp only at hSw); go_simp; all_goals (with_reducible rfl)
  try simp only [Act.put, List.setIfInBounds_toArray, List.set_cons_zero, List.set_cons_succ]
  refine wpAnyH_take (i := 1) (oi := { dst := some 9, op := Op.nilCheck (Operand.tmp 8), type := 0, pos := "parse.go:149", after := #[{ on := 0, ground := Ground.data }], guard := none }) (v := ?_) rfl (by kernel_rfl) (by kernel_rfl) (by kernel_rfl) (fun _ _ _ h => h) (Or.inl ⟨by rfl, ?_⟩) (by assumption) ?_
  rotate_left 1
  · intro w hSw; (try dsimp only at hSw); go_simp; all_goals (with_reducible rfl)
  try simp only [Act.put, List.setIfInBounds_toArray, List.set_cons_zero, List.set_cons_succ]
  refine wpAnyH_take (i := 2) (oi := { dst := some 10, op := Op.fieldAddr 58 (Operand.tmp 9) 0, type := 0, pos := "parse.go:149", after := #[{ on := 1, ground := Ground.data }], guard := none }) (v := ?_) rfl (by kernel_rfl) (by kernel_rfl) (by kernel_rfl) (fun _ _ _ h => h) (Or.inl ⟨by rfl, ?_⟩) (by assumption) ?_
  rotate_left 1
  · intro w hSw; (try dsimp only at hSw); go_simp; all_goals (with_reducible rfl)
  try simp only [Act.put, List.setIfInBounds_toArray, List.set_cons_zero, List.set_cons_succ]
  refine wpAnyH_take (i := 3) (oi := { dst := some 11, op := Op.load 9 (Operand.tmp 10), type := 9, pos := "parse.go:149", after := #[{ on := 2, ground := Ground.data }], guard := none }) (v := ?_) rfl (by kernel_rfl) (by kernel_rfl) (by kernel_rfl) (fun _ _ _ h => h) (Or.inl ⟨by rfl, ?_⟩) (by assumption) ?_
  rotate_left 1
  · intro w hSw; (try dsimp only at hSw); go_simp; all_goals (with_reducible rfl)
  try simp only [Act.put, List.setIfInBounds_toArray, List.set_cons_zero, List.set_cons_succ]
  refine wpAnyH_take (i := 4) (oi := { dst := some 12, op := Op.move (Operand.tmp 0), type := 86, pos := "parse.go:149", after := #[], guard := none }) (v := ?_) rfl (by kernel_rfl) (by kernel_rfl) (by kernel_rfl) (fun _ _ _ h => h) (Or.inl ⟨by rfl, ?_⟩) (by assumption) ?_
  rotate_left 1
  · intro w hSw; (try dsimp only at hSw); go_simp; all_goals (with_reducible rfl)
  try simp only [Act.put, List.setIfInBounds_toArray, List.set_cons_zero, List.set_cons_succ]
  refine wpAnyH_take (i := 5) (oi := { dst := some 13, op := Op.nilCheck (Operand.tmp 12), type := 0, pos := "parse.go:149", after := #[{ on := 4, ground := Ground.data }], guard := none }) (v := ?_) rfl (by kernel_rfl) (by kernel_rfl) (by kernel_rfl) (fun _ _ _ h => h) (Or.inl ⟨by rfl, ?_⟩) (by assumption) ?_
  rotate_left 1
  · intro w hSw; (try dsimp only at hSw); go_simp; all_goals (with_reducible rfl)
  try simp only [Act.put, List.setIfInBounds_toArray, List.set_cons_zero, List.set_cons_succ]
  refine wpAnyH_take (i := 6) (oi := { dst := some 14, op := Op.fieldAddr 58 (Operand.tmp 13) 1, type := 0, pos := "parse.go:149", after := #[{ on := 5, ground := Ground.data }], guard := none }) (v := ?_) rfl (by kernel_rfl) (by kernel_rfl) (by kernel_rfl) (fun _ _ _ h => h) (Or.inl ⟨by rfl, ?_⟩) (by assumption) ?_
  rotate_left 1
  · intro w hSw; (try dsimp only at hSw); go_simp; all_goals (with_reducible rfl)
  try simp only [Act.put, List.setIfInBounds_toArray, List.set_cons_zero, List.set_cons_succ]
  refine wpAnyH_take (i := 7) (oi := { dst := some 15, op := Op.load 3 (Operand.tmp 14), type := 3, pos := "parse.go:149", after := #[{ on := 6, ground := Ground.data }], guard := none }) (v := ?_) rfl (by kernel_rfl) (by kernel_rfl) (by kernel_rfl) (fun _ _ _ h => h) (Or.inl ⟨by rfl, ?_⟩) (by assumption) ?_
  rotate_left 1
  · intro w hSw; (try dsimp only at hSw); go_simp; all_goals (with_reducible rfl)
  try simp only [Act.put, List.setIfInBounds_toArray, List.set_cons_zero, List.set_cons_succ]
  refine wpAnyH_take (i := 8) (oi := { dst := some 16, op := Op.binOp BinOp.add 3 (Operand.tmp 15) (Operand.const (Value.int IntKind.i64 1)) 3, type := 3, pos := "parse.go:149", after := #[{ on := 7, ground := Ground.data }], guard := none }) (v := ?_) rfl (by kernel_rfl) (by kernel_rfl) (by kernel_rfl) (fun _ _ _ h => h) (Or.inl ⟨by rfl, ?_⟩) (by assumption) ?_
  rotate_left 1
  · intro w hSw; (try dsimp only at hSw); go_simp; all_goals (with_reducible rfl)
  try simp only [Act.put, List.setIfInBounds_toArray, List.set_cons_zero, List.set_cons_succ]
  refine wpAnyH_ready (rs := [9, 14]) (by kernel_rfl) (by simp) ?_
  refine AllReadyH.cons (o := { dst := some 17, op := Op.call { callee := Callee.value (Operand.func 91), args := #[Operand.tmp 11, Operand.tmp 16], argTypes := #[9, 3] }, type := 129, pos := "parse.go:149", after := #[{ on := 3, ground := Ground.data }, { on := 8, ground := Ground.data }], guard := none }) rfl (fun K hK => ?_) (AllReadyH.cons (o := { dst := some 4, op := Op.alloc 24, type := 0, pos := "parse.go:149", after := #[], guard := none }) rfl (fun K hK => ?_) AllReadyH.nil)
  · go_simp
    with_reducible refine (HTm.out _ ?_).mono ?_
    · exact HKc.out
    rintro e w2 ⟨f, tn, tk, rfl, hts, kn⟩
    have kn2 : Kp No W1 w2 := HKc.out.trans' kn
    clear HKc
    have HKc := Hid_mk kn2
    have HKn := Hid_mk kn
    have hSn := HKeep.out _ kn2
    clear kn kn2
    refine hK.out _ _ hSn (fun hHeld => ?_)
    clear hK K hHeld
    have hHeld := hSn
    try simp only [Act.put, List.setIfInBounds_toArray, List.set_cons_zero, List.set_cons_succ]
    refine wpAnyH_take (i := 10) (oi := { dst := some 7, op := Op.move (Operand.tmp 17), type := 129, pos := "parse.go:149", after := #[{ on := 9, ground := Ground.data }], guard := none }) (v := ?_) rfl (by kernel_rfl) (by kernel_rfl) (by kernel_rfl) (fun _ _ _ h => h) (Or.inl ⟨by rfl, ?_⟩) (by assumption) ?_
    rotate_left 1
    · intro w hSw; (try dsimp only at hSw); go_simp; all_goals (with_reducible rfl)
    try simp only [Act.put, List.setIfInBounds_toArray, List.set_cons_zero, List.set_cons_succ]
    refine wpAnyH_take (i := 11) (oi := { dst := some 18, op := Op.extract (Operand.tmp 7) 0, type := 24, pos := "parse.go:149", after := #[{ on := 10, ground := Ground.data }], guard := none }) (v := ?_) rfl (by kernel_rfl) (by kernel_rfl) (by kernel_rfl) (fun _ _ _ h => h) (Or.inl ⟨by rfl, ?_⟩) (by assumption) ?_
    rotate_left 1
    · intro w hSw; (try dsimp only at hSw); go_simp; all_goals (with_reducible rfl)
    try simp only [Act.put, List.setIfInBounds_toArray, List.set_cons_zero, List.set_cons_succ]
    refine wpAnyH_take (i := 12) (oi := { dst := some 19, op := Op.extract (Operand.tmp 7) 1, type := 3, pos := "parse.go:149", after := #[{ on := 10, ground := Ground.data }, { on := 15, ground := Ground.gcOnly Departure.lateStores }], guard := none }) (v := ?_) rfl (by kernel_rfl) (by kernel_rfl) (by kernel_rfl) (fun _ _ _ h => h) (Or.inl ⟨by rfl, ?_⟩) (by assumption) ?_
    rotate_left 1
    · intro w hSw; (try dsimp only at hSw); go_simp; all_goals (with_reducible rfl)
    try simp only [Act.put, List.setIfInBounds_toArray, List.set_cons_zero, List.set_cons_succ]
    refine wpAnyH_take (i := 13) (oi := { dst := some 20, op := Op.extract (Operand.tmp 7) 2, type := 4, pos := "parse.go:149", after := #[{ on := 10, ground := Ground.data }, { on := 16, ground := Ground.gcOnly Departure.lateStores }], guard := none }) (v := ?_) rfl (by kernel_rfl) (by kernel_rfl) (by kernel_rfl) (fun _ _ _ h => h) (Or.inl ⟨by rfl, ?_⟩) (by assumption) ?_
    rotate_left 1
    · intro w hSw; (try dsimp only at hSw); go_simp; all_goals (with_reducible rfl)
    try simp only [Act.put, List.setIfInBounds_toArray, List.set_cons_zero, List.set_cons_succ]
    refine wpAnyH_ready (rs := [14]) (by kernel_rfl) (by simp) ?_
    refine AllReadyH.cons (o := { dst := some 4, op := Op.alloc 24, type := 0, pos := "parse.go:149", after := #[], guard := none }) rfl (fun K hK => ?_) AllReadyH.nil
    go_simp
    have hSn := HKeep.out _ (HKc.out.alloc (.cells #[.int .u64 0, .int .u64 0, .int .u64 0, .int .u64 0] 24))
    have kn2 := HKc.out.alloc (.cells #[.int .u64 0, .int .u64 0, .int .u64 0, .int .u64 0] 24)
    clear HKc
    have HKc := Hid_mk kn2
    clear kn2
    refine hK.out _ _ hSn (fun hHeld => ?_)
    clear hK K hHeld
    have hHeld := hSn
    try simp only [Act.put, List.setIfInBounds_toArray, List.set_cons_zero, List.set_cons_succ]
    refine wpAnyH_ready (rs := [15]) (by kernel_rfl) (by simp) ?_
    refine AllReadyH.cons (o := { dst := none, op := Op.store 24 (Operand.tmp 4) (Operand.tmp 18), type := 0, pos := "parse.go:149", after := #[{ on := 14, ground := Ground.data }, { on := 11, ground := Ground.data }, { on := 9, ground := Ground.chain }, { on := 0, ground := Ground.phase }, { on := 1, ground := Ground.phase }, { on := 2, ground := Ground.phase }, { on := 3, ground := Ground.phase }, { on := 4, ground := Ground.phase }, { on := 5, ground := Ground.phase }, { on := 6, ground := Ground.phase }, { on := 7, ground := Ground.phase }, { on := 8, ground := Ground.phase }, { on := 9, ground := Ground.phase }, { on := 10, ground := Ground.phase }, { on := 11, ground := Ground.phase }, { on := 12, ground := Ground.textOnly Departure.lateStores }, { on := 13, ground := Ground.textOnly Departure.lateStores }, { on := 14, ground := Ground.phase }], guard := none }) rfl (fun K hK => ?_) AllReadyH.nil
    go_simp
    have HK2 := Hid_mk ((Kp.refl No W1).drew.trans' HKn.out)
    have hSn := HKeep.out _ (HK2.out.alloc (.cells #[.int .u64 (wd f 0 64 : Nat), .int .u64 (wd f 64 64 : Nat), .int .u64 (wd f 128 64 : Nat), .int .u64 (wd f 192 64 : Nat)] 24))
    refine hK.out _ _ hSn (fun hHeld => ?_)
    clear hK K hHeld
    have hHeld := hSn
    try simp only [Act.put, List.setIfInBounds_toArray, List.set_cons_zero, List.set_cons_succ]
    refine wpAnyH_take (i := 16) (oi := { dst := some 5, op := Op.assign (Operand.tmp 19), type := 3, pos := "parse.go:149", after := #[{ on := 12, ground := Ground.data }, { on := 15, ground := Ground.chain }, { on := 0, ground := Ground.phase }, { on := 1, ground := Ground.phase }, { on := 2, ground := Ground.phase }, { on := 3, ground := Ground.phase }, { on := 4, ground := Ground.phase }, { on := 5, ground := Ground.phase }, { on := 6, ground := Ground.phase }, { on := 7, ground := Ground.phase }, { on := 8, ground := Ground.phase }, { on := 9, ground := Ground.phase }, { on := 10, ground := Ground.phase }, { on := 11, ground := Ground.phase }, { on := 12, ground := Ground.phase }, { on := 13, ground := Ground.textOnly Departure.lateStores }, { on := 14, ground := Ground.phase }, { on := 15, ground := Ground.phase }], guard := none }) (v := ?_) rfl (by kernel_rfl) (by kernel_rfl) (by kernel_rfl) (fun _ _ _ h => h) (Or.inl ⟨by rfl, ?_⟩) (by assumption) ?_
    rotate_left 1
    · intro w hSw; (try dsimp only at hSw); go_simp; all_goals (with_reducible rfl)
    try simp only [Act.put, List.setIfInBounds_toArray, List.set_cons_zero, List.set_cons_succ]
    refine wpAnyH_take (i := 17) (oi := { dst := some 6, op := Op.assign (Operand.tmp 20), type := 4, pos := "parse.go:149", after := #[{ on := 13, ground := Ground.data }, { on := 16, ground := Ground.chain }, { on := 0, ground := Ground.phase }, { on := 1, ground := Ground.phase }, { on := 2, ground := Ground.phase }, { on := 3, ground := Ground.phase }, { on := 4, ground := Ground.phase }, { on := 5, ground := Ground.phase }, { on := 6, ground := Ground.phase }, { on := 7, ground := Ground.phase }, { on := 8, ground := Ground.phase }, { on := 9, ground := Ground.phase }, { on := 10, ground := Ground.phase }, { on := 11, ground := Ground.phase }, { on := 12, ground := Ground.phase }, { on := 13, ground := Ground.phase }, { on := 14, ground := Ground.phase }, { on := 15, ground := Ground.phase }, { on := 16, ground := Ground.phase }], guard := none }) (v := ?_) rfl (by kernel_rfl) (by kernel_rfl) (by kernel_rfl) (fun _ _ _ h => h) (Or.inl ⟨by rfl, ?_⟩) (by assumption) ?_
    rotate_left 1
    · intro w hSw; (try dsimp only at hSw); go_simp; all_goals (with_reducible rfl)
    try simp only [Act.put, List.setIfInBounds_toArray, List.set_cons_zero, List.set_cons_succ]
    refine wpAnyH_done (by kernel_rfl) ?_ _
    clear HKeep hS hSn hHeld HKc HTm hwk1 hzk1
    go_upto_region 2 with fail
    obtain ⟨g, hg⟩ : ∃ g, w2.heap.size = g := ⟨_, rfl⟩
    rw [hg]
    have hgq : r + 1 ≤ g := by have h1 := HZ1.out; have h2 := HK2.out.size; omega
    refine wp_name (fun W => Kp No W1 W ∧ W.cell? ⟨g, 0, none⟩ = some (.int .u64 (wd f 0 64 : Nat)) ∧ W.cell? ⟨g, 1, none⟩ = some (.int .u64 (wd f 64 64 : Nat)) ∧ W.cell? ⟨g, 2, none⟩ = some (.int .u64 (wd f 128 64 : Nat)) ∧ W.cell? ⟨g, 3, none⟩ = some (.int .u64 (wd f 192 64 : Nat))) ⟨HK2.out.alloc _, by rw [← hg]; simp, by rw [← hg]; simp, by rw [← hg]; simp, by rw [← hg]; simp⟩ ?_
    clear hg
    rintro W3 ⟨hk3, z0, z1, z2, z3⟩
    clear HK2 HKn
    have hB3 := HB1.out.kept hk3 id
    have hR3 := HR1.out.no hk3
    have HR3 := Hid_mk hR3
    have HK3 := Hid_mk hk3
    rcases hts0 : bkS l (k + 1) with _ | ⟨xf, n⟩
    · have h8 := hts.out
      rw [hts0] at h8
      obtain rfl : tk = false := h8
      have HR2 := Hid_mk (show R = .bad 24 k from by rw [← HRs.out]; unfold brkR; rw [hts0])
      obtain ⟨r0, r1, r2, r3, r4, r5, r6, r7, rw'⟩ := hB3
      clear hts hts0 HRs z0 z1 z2 z3 hR3 hk3
      go_wp2
      have hkz : Kp (fun b => b = r) W3 (putP W3 r (.int .i64 0) (.int .u64 0) (.int .u64 0) (.int .u64 0) (.int .u64 0) (.slice none 0 0) (.int .i64 0) (.int .i64 0)) := kp_putP (q := r) (Kp.refl (fun b => b = r) W3) (fun _ => rfl) _ _ _ _ _ _ _ _
      have hRz := HR3.out.kept hkz (by show ¬ q = r; have := HQr.out; omega) (fun i e _ => by have h1 := HR3.out.ge; have h2 := HQr.out; show w0.heap.size ≤ i; have e : i = r := e; omega)
      have hkf := ((HK0.out.trans' HK3.out).to (S := fun b => b = q)).trans hkz (T := fun b => b = r) fun i hi e => by have := HR.out; omega
      refine bodyPost_ret (v := .tuple #[.agg #[.int .i64 0, .int .u64 0, .int .u64 0, .int .u64 0, .int .u64 0, .slice none 0 0, .int .i64 0, .int .i64 0], .int .i64 24]) ?_ rfl ?_
      · simp [results, Try.results78, go_sem, r0, r1, r2, r3, r4, r5, r6, r7]
      · rw [HR2.out]
        exact ⟨o, rfl, hRz, hkf, Nat.le_of_lt HKS.out, by decide⟩
    · have h8 := hts.out
      rw [hts0] at h8
      obtain ⟨rfl, hfx, rfl⟩ := h8
      subst hfx
      have HAd := Hid_mk (bkS_adv HKS.out hts0)
      have HR2 := Hid_mk (show R = .ok (setT f) n from by rw [← HRs.out]; unfold brkR; rw [hts0])
      have c1 := hR3.c1
      have cw := hR3.warm
      have HB3 := Hid_mk hB3
      have Z0 := Hid_mk z0
      have Z1 := Hid_mk z1
      have Z2 := Hid_mk z2
      have Z3 := Hid_mk z3
      clear hts hts0 HRs z0 z1 z2 z3 hR3 hk3 hB3
      go_upto_region 5 with fail
      have hks : Kp (fun b => b = q) W3 (W3.setCell ⟨q, 1, none⟩ (.int .i64 (n : Int))) := (Kp.refl (fun b => b = q) W3).setCell (p := ⟨q, 1, none⟩) (fun _ => rfl) _
      have hR4 := HR3.out.at' n
      have hB4 := HB3.out.kept hks (by show ¬ r = q; have := HQr.out; omega)
      have hk4 : Kp (fun b => b = q) w _ := ((HK0.out.trans' HK3.out).to (S := fun b => b = q)).trans hks fun _ _ e => e
      have z0 := hks.cell' Z0.out (by show ¬ g = q; have := HQr.out; omega)
      have z1 := hks.cell' Z1.out (by show ¬ g = q; have := HQr.out; omega)
      have z2 := hks.cell' Z2.out (by show ¬ g = q; have := HQr.out; omega)
      have z3 := hks.cell' Z3.out (by show ¬ g = q; have := HQr.out; omega)
      refine wp_name (fun W => PAt W r (.int .i64 0) (.int .u64 0) (.int .u64 0) (.int .u64 0) (.int .u64 0) (.slice none 0 0) (.int .i64 0) (.int .i64 0) ∧ RdAt w0 W q l n o ∧ Kp (fun b => b = q) w W ∧ W.cell? ⟨g, 0, none⟩ = some (.int .u64 (wd f 0 64 : Nat)) ∧ W.cell? ⟨g, 1, none⟩ = some (.int .u64 (wd f 64 64 : Nat)) ∧ W.cell? ⟨g, 2, none⟩ = some (.int .u64 (wd f 128 64 : Nat)) ∧ W.cell? ⟨g, 3, none⟩ = some (.int .u64 (wd f 192 64 : Nat))) ⟨hB4, hR4, hk4, z0, z1, z2, z3⟩ ?_
      clear hks hB4 hR4 hk4 c1 cw z0 z1 z2 z3
      rintro W4 ⟨hB4, hR4, hk4, z0, z1, z2, z3⟩
      have ham := among_any W4 f
      rw [svd] at ham
      unfold cellsP at ham
      have HAm := Hid_mk ham
      have HB4 := Hid_mk hB4
      have HR4 := Hid_mk hR4
      have HK4 := Hid_mk hk4
      clear ham hB4 hR4 hk4
      go_wp2_with fail
      with_reducible refine HAm.out.mono ?_
      rintro e W5 ⟨rfl, hku⟩
      have HKu := Hid_mk hku
      have hB5 := HB4.out.kept hku id
      obtain ⟨r0, r1, r2, r3, r4, r5, r6, r7, rw'⟩ := hB5
      clear hku z0 z1 z2 z3
      go_wp2
      have hkz : Kp (fun b => b = r) W5 (putP W5 r (.int .i64 1) (.int .u64 (wd f 0 64 : Nat)) (.int .u64 (wd f 64 64 : Nat)) (.int .u64 (wd f 128 64 : Nat)) (.int .u64 (wd f 192 64 : Nat)) (.slice none 0 0) (.int .i64 1) (.int .i64 1)) := kp_putP (q := r) (Kp.refl (fun b => b = r) W5) (fun _ => rfl) _ _ _ _ _ _ _ _
      have hRz := (HR4.out.no HKu.out).kept hkz (by show ¬ q = r; have := HQr.out; omega) (fun i e _ => by have h1 := HR4.out.ge; have h2 := HQr.out; show w0.heap.size ≤ i; have e : i = r := e; omega)
      have hkf := (HK4.out.trans HKu.out (T := No) fun _ _ e => e.elim).trans hkz (T := fun b => b = r) fun i hi e => by have := HR.out; omega
      refine bodyPost_ret (v := .tuple #[.agg (cellsP 1 f none 0 0 1 1), .int .i64 0]) ?_ rfl ?_
      · simp [results, Try.results78, go_sem, cellsP, r0, r1, r2, r3, r4, r5, r6, r7]
      · rw [HR2.out]
        exact ⟨_, rfl, set_pt _ _ f, hRz, hkf, by have := HAd.out; omega, HAd.out.2⟩
  · go_simp
    have hSn := HKeep.out _ (HKc.out.alloc (.cells #[.int .u64 0, .int .u64 0, .int .u64 0, .int .u64 0] 24))
    have kn2 := HKc.out.alloc (.cells #[.int .u64 0, .int .u64 0, .int .u64 0, .int .u64 0] 24)
    clear HKc
    have HKc := Hid_mk kn2
    clear kn2
    refine hK.out _ _ hSn (fun hHeld => ?_)
    clear hK K hHeld
    have hHeld := hSn
    try simp only [Act.put, List.setIfInBounds_toArray, List.set_cons_zero, List.set_cons_succ]
    refine wpAnyH_ready (rs := [9]) (by kernel_rfl) (by simp) ?_
    refine AllReadyH.cons (o := { dst := some 17, op := Op.call { callee := Callee.value (Operand.func 91), args := #[Operand.tmp 11, Operand.tmp 16], argTypes := #[9, 3] }, type := 129, pos := "parse.go:149", after := #[{ on := 3, ground := Ground.data }, { on := 8, ground := Ground.data }], guard := none }) rfl (fun K hK => ?_) AllReadyH.nil
    go_simp
    with_reducible refine (HTm.out _ ?_).mono ?_
    · exact HKc.out
    rintro e w2 ⟨f, tn, tk, rfl, hts, kn⟩
    have kn2 : Kp No W1 w2 := HKc.out.trans' kn
    clear HKc
    have HKc := Hid_mk kn2
    have HKn := Hid_mk kn
    have hSn := HKeep.out _ kn2
    clear kn kn2
    refine hK.out _ _ hSn (fun hHeld => ?_)
    clear hK K hHeld
    have hHeld := hSn
    try simp only [Act.put, List.setIfInBounds_toArray, List.set_cons_zero, List.set_cons_succ]
    refine wpAnyH_take (i := 10) (oi := { dst := some 7, op := Op.move (Operand.tmp 17), type := 129, pos := "parse.go:149", after := #[{ on := 9, ground := Ground.data }], guard := none }) (v := ?_) rfl (by kernel_rfl) (by kernel_rfl) (by kernel_rfl) (fun _ _ _ h => h) (Or.inl ⟨by rfl, ?_⟩) (by assumption) ?_
    rotate_left 1
    · intro w hSw; (try dsimp only at hSw); go_simp; all_goals (with_reducible rfl)
    try simp only [Act.put, List.setIfInBounds_toArray, List.set_cons_zero, List.set_cons_succ]
    refine wpAnyH_take (i := 11) (oi := { dst := some 18, op := Op.extract (Operand.tmp 7) 0, type := 24, pos := "parse.go:149", after := #[{ on := 10, ground := Ground.data }], guard := none }) (v := ?_) rfl (by kernel_rfl) (by kernel_rfl) (by kernel_rfl) (fun _ _ _ h => h) (Or.inl ⟨by rfl, ?_⟩) (by assumption) ?_
    rotate_left 1
    · intro w hSw; (try dsimp only at hSw); go_simp; all_goals (with_reducible rfl)
    try simp only [Act.put, List.setIfInBounds_toArray, List.set_cons_zero, List.set_cons_succ]
    refine wpAnyH_take (i := 12) (oi := { dst := some 19, op := Op.extract (Operand.tmp 7) 1, type := 3, pos := "parse.go:149", after := #[{ on := 10, ground := Ground.data }, { on := 15, ground := Ground.gcOnly Departure.lateStores }], guard := none }) (v := ?_) rfl (by kernel_rfl) (by kernel_rfl) (by kernel_rfl) (fun _ _ _ h => h) (Or.inl ⟨by rfl, ?_⟩) (by assumption) ?_
    rotate_left 1
    · intro w hSw; (try dsimp only at hSw); go_simp; all_goals (with_reducible rfl)
    try simp only [Act.put, List.setIfInBounds_toArray, List.set_cons_zero, List.set_cons_succ]
    refine wpAnyH_take (i := 13) (oi := { dst := some 20, op := Op.extract (Operand.tmp 7) 2, type := 4, pos := "parse.go:149", after := #[{ on := 10, ground := Ground.data }, { on := 16, ground := Ground.gcOnly Departure.lateStores }], guard := none }) (v := ?_) rfl (by kernel_rfl) (by kernel_rfl) (by kernel_rfl) (fun _ _ _ h => h) (Or.inl ⟨by rfl, ?_⟩) (by assumption) ?_
    rotate_left 1
    · intro w hSw; (try dsimp only at hSw); go_simp; all_goals (with_reducible rfl)
    try simp only [Act.put, List.setIfInBounds_toArray, List.set_cons_zero, List.set_cons_succ]
    have y0 := HKn.out.cell' (p := ⟨W1.heap.size, 0, none⟩) (u := .int .u64 0) (by simp) id
    have y1 := HKn.out.cell' (p := ⟨W1.heap.size, 1, none⟩) (u := .int .u64 0) (by simp) id
    have y2 := HKn.out.cell' (p := ⟨W1.heap.size, 2, none⟩) (u := .int .u64 0) (by simp) id
    have y3 := HKn.out.cell' (p := ⟨W1.heap.size, 3, none⟩) (u := .int .u64 0) (by simp) id
    have yw : ∀ i, w2.frozen? ⟨W1.heap.size, i, none⟩ = false := fun i => by rw [HKn.out.frozen (p := ⟨W1.heap.size, i, none⟩) (by simp) id]; simp
    refine wpAnyH_ready (rs := [15]) (by kernel_rfl) (by simp) ?_
    refine AllReadyH.cons (o := { dst := none, op := Op.store 24 (Operand.tmp 4) (Operand.tmp 18), type := 0, pos := "parse.go:149", after := #[{ on := 14, ground := Ground.data }, { on := 11, ground := Ground.data }, { on := 9, ground := Ground.chain }, { on := 0, ground := Ground.phase }, { on := 1, ground := Ground.phase }, { on := 2, ground := Ground.phase }, { on := 3, ground := Ground.phase }, { on := 4, ground := Ground.phase }, { on := 5, ground := Ground.phase }, { on := 6, ground := Ground.phase }, { on := 7, ground := Ground.phase }, { on := 8, ground := Ground.phase }, { on := 9, ground := Ground.phase }, { on := 10, ground := Ground.phase }, { on := 11, ground := Ground.phase }, { on := 12, ground := Ground.textOnly Departure.lateStores }, { on := 13, ground := Ground.textOnly Departure.lateStores }, { on := 14, ground := Ground.phase }], guard := none }) rfl (fun K hK => ?_) AllReadyH.nil
    go_simp
    have HK2 := Hid_mk HKc.out
    have hSn := HKeep.out _ ((((HKc.out.setCell (p := ⟨W1.heap.size, 0, none⟩) (fun h => absurd h (Nat.lt_irrefl _)) (.int .u64 (wd f 0 64 : Nat))).setCell (p := ⟨W1.heap.size, 1, none⟩) (fun h => absurd h (Nat.lt_irrefl _)) (.int .u64 (wd f 64 64 : Nat))).setCell (p := ⟨W1.heap.size, 2, none⟩) (fun h => absurd h (Nat.lt_irrefl _)) (.int .u64 (wd f 128 64 : Nat))).setCell (p := ⟨W1.heap.size, 3, none⟩) (fun h => absurd h (Nat.lt_irrefl _)) (.int .u64 (wd f 192 64 : Nat)))
    refine hK.out _ _ hSn (fun hHeld => ?_)
    clear hK K hHeld
    have hHeld := hSn
    try simp only [Act.put, List.setIfInBounds_toArray, List.set_cons_zero, List.set_cons_succ]
    refine wpAnyH_take (i := 16) (oi := { dst := some 5, op := Op.assign (Operand.tmp 19), type := 3, pos := "parse.go:149", after := #[{ on := 12, ground := Ground.data }, { on := 15, ground := Ground.chain }, { on := 0, ground := Ground.phase }, { on := 1, ground := Ground.phase }, { on := 2, ground := Ground.phase }, { on := 3, ground := Ground.phase }, { on := 4, ground := Ground.phase }, { on := 5, ground := Ground.phase }, { on := 6, ground := Ground.phase }, { on := 7, ground := Ground.phase }, { on := 8, ground := Ground.phase }, { on := 9, ground := Ground.phase }, { on := 10, ground := Ground.phase }, { on := 11, ground := Ground.phase }, { on := 12, ground := Ground.phase }, { on := 13, ground := Ground.textOnly Departure.lateStores }, { on := 14, ground := Ground.phase }, { on := 15, ground := Ground.phase }], guard := none }) (v := ?_) rfl (by kernel_rfl) (by kernel_rfl) (by kernel_rfl) (fun _ _ _ h => h) (Or.inl ⟨by rfl, ?_⟩) (by assumption) ?_
    rotate_left 1
    · intro w hSw; (try dsimp only at hSw); go_simp; all_goals (with_reducible rfl)
    try simp only [Act.put, List.setIfInBounds_toArray, List.set_cons_zero, List.set_cons_succ]
    refine wpAnyH_take (i := 17) (oi := { dst := some 6, op := Op.assign (Operand.tmp 20), type := 4, pos := "parse.go:149", after := #[{ on := 13, ground := Ground.data }, { on := 16, ground := Ground.chain }, { on := 0, ground := Ground.phase }, { on := 1, ground := Ground.phase }, { on := 2, ground := Ground.phase }, { on := 3, ground := Ground.phase }, { on := 4, ground := Ground.phase }, { on := 5, ground := Ground.phase }, { on := 6, ground := Ground.phase }, { on := 7, ground := Ground.phase }, { on := 8, ground := Ground.phase }, { on := 9, ground := Ground.phase }, { on := 10, ground := Ground.phase }, { on := 11, ground := Ground.phase }, { on := 12, ground := Ground.phase }, { on := 13, ground := Ground.phase }, { on := 14, ground := Ground.phase }, { on := 15, ground := Ground.phase }, { on := 16, ground := Ground.phase }], guard := none }) (v := ?_) rfl (by kernel_rfl) (by kernel_rfl) (by kernel_rfl) (fun _ _ _ h => h) (Or.inl ⟨by rfl, ?_⟩) (by assumption) ?_
    rotate_left 1
    · intro w hSw; (try dsimp only at hSw); go_simp; all_goals (with_reducible rfl)
    try simp only [Act.put, List.setIfInBounds_toArray, List.set_cons_zero, List.set_cons_succ]
    refine wpAnyH_done (by kernel_rfl) ?_ _
    clear HKeep hS hSn hHeld HKc HTm hwk1 hzk1
    go_upto_region 2 with fail
    obtain ⟨g, hg⟩ : ∃ g, W1.heap.size = g := ⟨_, rfl⟩
    rw [hg] at y0 y1 y2 y3 ⊢
    have hgq : r + 1 ≤ g := by have h1 := HZ1.out; omega
    have h3 := four_put y0 y1 y2 y3 (.int .u64 (wd f 0 64 : Nat)) (.int .u64 (wd f 64 64 : Nat)) (.int .u64 (wd f 128 64 : Nat)) (.int .u64 (wd f 192 64 : Nat))
    refine wp_name (fun W => Kp No W1 W ∧ W.cell? ⟨g, 0, none⟩ = some (.int .u64 (wd f 0 64 : Nat)) ∧ W.cell? ⟨g, 1, none⟩ = some (.int .u64 (wd f 64 64 : Nat)) ∧ W.cell? ⟨g, 2, none⟩ = some (.int .u64 (wd f 128 64 : Nat)) ∧ W.cell? ⟨g, 3, none⟩ = some (.int .u64 (wd f 192 64 : Nat))) ⟨(((HK2.out.setCell (p := ⟨g, 0, none⟩) (fun h => absurd h (by show ¬ g < _; omega)) _).setCell (p := ⟨g, 1, none⟩) (fun h => absurd h (by show ¬ g < _; omega)) _).setCell (p := ⟨g, 2, none⟩) (fun h => absurd h (by show ¬ g < _; omega)) _).setCell (p := ⟨g, 3, none⟩) (fun h => absurd h (by show ¬ g < _; omega)) _, h3⟩ ?_
    clear hg h3 y0 y1 y2 y3 yw
    rintro W3 ⟨hk3, z0, z1, z2, z3⟩
    clear HK2 HKn
    have hB3 := HB1.out.kept hk3 id
    have hR3 := HR1.out.no hk3
    have HR3 := Hid_mk hR3
    have HK3 := Hid_mk hk3
    rcases hts0 : bkS l (k + 1) with _ | ⟨xf, n⟩
    · have h8 := hts.out
      rw [hts0] at h8
      obtain rfl : tk = false := h8
      have HR2 := Hid_mk (show R = .bad 24 k from by rw [← HRs.out]; unfold brkR; rw [hts0])
      obtain ⟨r0, r1, r2, r3, r4, r5, r6, r7, rw'⟩ := hB3
      clear hts hts0 HRs z0 z1 z2 z3 hR3 hk3
      go_wp2
      have hkz : Kp (fun b => b = r) W3 (putP W3 r (.int .i64 0) (.int .u64 0) (.int .u64 0) (.int .u64 0) (.int .u64 0) (.slice none 0 0) (.int .i64 0) (.int .i64 0)) := kp_putP (q := r) (Kp.refl (fun b => b = r) W3) (fun _ => rfl) _ _ _ _ _ _ _ _
      have hRz := HR3.out.kept hkz (by show ¬ q = r; have := HQr.out; omega) (fun i e _ => by have h1 := HR3.out.ge; have h2 := HQr.out; show w0.heap.size ≤ i; have e : i = r := e; omega)
      have hkf := ((HK0.out.trans' HK3.out).to (S := fun b => b = q)).trans hkz (T := fun b => b = r) fun i hi e => by have := HR.out; omega
      refine bodyPost_ret (v := .tuple #[.agg #[.int .i64 0, .int .u64 0, .int .u64 0, .int .u64 0, .int .u64 0, .slice none 0 0, .int .i64 0, .int .i64 0], .int .i64 24]) ?_ rfl ?_
      · simp [results, Try.results78, go_sem, r0, r1, r2, r3, r4, r5, r6, r7]
      · rw [HR2.out]
        exact ⟨o, rfl, hRz, hkf, Nat.le_of_lt HKS.out, by decide⟩
    · have h8 := hts.out
      rw [hts0] at h8
      obtain ⟨rfl, hfx, rfl⟩ := h8
      subst hfx
      have HAd := Hid_mk (bkS_adv HKS.out hts0)
      have HR2 := Hid_mk (show R = .ok (setT f) n from by rw [← HRs.out]; unfold brkR; rw [hts0])
      have c1 := hR3.c1
      have cw := hR3.warm
      have HB3 := Hid_mk hB3
      have Z0 := Hid_mk z0
      have Z1 := Hid_mk z1
      have Z2 := Hid_mk z2
      have Z3 := Hid_mk z3
      clear hts hts0 HRs z0 z1 z2 z3 hR3 hk3 hB3
      go_upto_region 5 with fail
      have hks : Kp (fun b => b = q) W3 (W3.setCell ⟨q, 1, none⟩ (.int .i64 (n : Int))) := (Kp.refl (fun b => b = q) W3).setCell (p := ⟨q, 1, none⟩) (fun _ => rfl) _
      have hR4 := HR3.out.at' n
      have hB4 := HB3.out.kept hks (by show ¬ r = q; have := HQr.out; omega)
      have hk4 : Kp (fun b => b = q) w _ := ((HK0.out.trans' HK3.out).to (S := fun b => b = q)).trans hks fun _ _ e => e
      have z0 := hks.cell' Z0.out (by show ¬ g = q; have := HQr.out; omega)
      have z1 := hks.cell' Z1.out (by show ¬ g = q; have := HQr.out; omega)
      have z2 := hks.cell' Z2.out (by show ¬ g = q; have := HQr.out; omega)
      have z3 := hks.cell' Z3.out (by show ¬ g = q; have := HQr.out; omega)
      refine wp_name (fun W => PAt W r (.int .i64 0) (.int .u64 0) (.int .u64 0) (.int .u64 0) (.int .u64 0) (.slice none 0 0) (.int .i64 0) (.int .i64 0) ∧ RdAt w0 W q l n o ∧ Kp (fun b => b = q) w W ∧ W.cell? ⟨g, 0, none⟩ = some (.int .u64 (wd f 0 64 : Nat)) ∧ W.cell? ⟨g, 1, none⟩ = some (.int .u64 (wd f 64 64 : Nat)) ∧ W.cell? ⟨g, 2, none⟩ = some (.int .u64 (wd f 128 64 : Nat)) ∧ W.cell? ⟨g, 3, none⟩ = some (.int .u64 (wd f 192 64 : Nat))) ⟨hB4, hR4, hk4, z0, z1, z2, z3⟩ ?_
      clear hks hB4 hR4 hk4 c1 cw z0 z1 z2 z3
      rintro W4 ⟨hB4, hR4, hk4, z0, z1, z2, z3⟩
      have ham := among_any W4 f
      rw [svd] at ham
      unfold cellsP at ham
      have HAm := Hid_mk ham
      have HB4 := Hid_mk hB4
      have HR4 := Hid_mk hR4
      have HK4 := Hid_mk hk4
      clear ham hB4 hR4 hk4
      go_wp2_with fail
      with_reducible refine HAm.out.mono ?_
      rintro e W5 ⟨rfl, hku⟩
      have HKu := Hid_mk hku
      have hB5 := HB4.out.kept hku id
      obtain ⟨r0, r1, r2, r3, r4, r5, r6, r7, rw'⟩ := hB5
      clear hku z0 z1 z2 z3
      go_wp2
      have hkz : Kp (fun b => b = r) W5 (putP W5 r (.int .i64 1) (.int .u64 (wd f 0 64 : Nat)) (.int .u64 (wd f 64 64 : Nat)) (.int .u64 (wd f 128 64 : Nat)) (.int .u64 (wd f 192 64 : Nat)) (.slice none 0 0) (.int .i64 1) (.int .i64 1)) := kp_putP (q := r) (Kp.refl (fun b => b = r) W5) (fun _ => rfl) _ _ _ _ _ _ _ _
      have hRz := (HR4.out.no HKu.out).kept hkz (by show ¬ q = r; have := HQr.out; omega) (fun i e _ => by have h1 := HR4.out.ge; have h2 := HQr.out; show w0.heap.size ≤ i; have e : i = r := e; omega)
      have hkf := (HK4.out.trans HKu.out (T := No) fun _ _ e => e.elim).trans hkz (T := fun b => b = r) fun i hi e => by have := HR.out; omega
      refine bodyPost_ret (v := .tuple #[.agg (cellsP 1 f none 0 0 1 1), .int .i64 0]) ?_ rfl ?_
      · simp [results, Try.results78, go_sem, cellsP, r0, r1, r2, r3, r4, r5, r6, r7]
      · rw [HR2.out]
        exact ⟨_, rfl, set_pt _ _ f, hRz, hkf, by have := HAd.out; omega, HAd.out.2⟩

end Go.Proofs.Ytdognehkbahmdaa.ere
