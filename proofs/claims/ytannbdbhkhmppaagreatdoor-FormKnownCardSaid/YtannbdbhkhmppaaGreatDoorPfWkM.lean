/- Package printf: the walk through a format, in memory; look, skip, add, next. Package printf: the next argument. -/
import Derived.Test.YtannbdbhkhmppaaGreatDoorRow0M
import Derived.BigQuiet
import Derived.Deep.QuietTactic
import Derived.Lib.MinMax
import Derived.Deep.RegionWith
import Derived.Deep.RegionHeld
import Derived.Deep.Cut

namespace Go.Proofs.YtannbdbhkhmppaaGreatDoor.pf
open Go.RowKit Go.Lib Go.Proofs.YtannbdbhkhmppaaGreatDoor.sum Go.Proofs.YtannbdbhkhmppaaGreatDoor.kept Go.Proofs.YtannbdbhkhmppaaGreatDoor.app Go.Proofs.YtannbdbhkhmppaaGreatDoor.writer Go.Proofs.YtannbdbhkhmppaaGreatDoor.known Go.Proofs.YtannbdbhkhmppaaGreatDoor.str
set_option linter.unusedVariables false

theorem step_append_str (w : World) {ops : Array Oper} {o : Oper} {a : Act} {K : Act → World → Prop} {Q : Exit → Act → World → Prop} {E : Prop} (hgd : o.guard = none) (sl x : Operand)
    (ho : o.op = .call { callee := .builtin .append, args := #[sl, x], argTypes := #[32, 9] })
    (base : Nat) (v : Value) (bs : List UInt8) (hs : a.eval sl = v) (hown : w.ownsRow base 5 1 v bs.length (bs.map B)) (s : ByteArray) (hx : a.eval x = .string s)
    (hb : bs.length + s.size ≤ 140737488355328) (hbase : base ≤ w.heap.size)
    (h : ∀ v' w', App base w v bs s.data.toList v' w' → K (a.put o.dst v') w') : if Region.wanted o (yielded ops a.tmps) = true then Oper.wp Tryz.prog o a w K Q else E := by
  have hw : Region.wanted o (yielded ops a.tmps) = true := by simp [Region.wanted, hgd]
  rw [if_pos hw]
  obtain ⟨v', w', hr, h2⟩ := run_append_str w o.type base v bs hown s hb hbase
  unfold Oper.wp execOp
  simp only [ho, resolve, invoke, builtin, Sem.run_bind, Sem.run_pure, Result.andThen_ok, List.map_toArray, List.map_cons, List.map_nil, hs, hx, hr]
  exact h v' w' h2

/-- a walk at block q: what is ahead, the arguments, what is out -/
structure WkAt (w0 w : World) (q : Nat) (l : List UInt8) (A o : Value) (bs : List UInt8) : Prop where
  c0 : w.cell? ⟨q, 0, none⟩ = some (.string (st l))
  c1 : w.cell? ⟨q, 1, none⟩ = some A
  c2 : w.cell? ⟨q, 2, none⟩ = some o
  warm : ∀ i, w.frozen? ⟨q, i, none⟩ = false
  ge : w0.heap.size ≤ q
  owns : w.ownsRow w0.heap.size 5 1 o bs.length (bs.map B)
  apart : o.ownBlock ≠ some q
  kp : Kp No w0 w
theorem WkAt.lt {w0 w : World} {q : Nat} {l : List UInt8} {A o : Value} {bs : List UInt8} (h : WkAt w0 w q l A o bs) : q < w.heap.size := World.block_lt_of_cell? w ⟨q, 0, none⟩ h.c0
theorem WkAt.no {w0 w w' : World} {q : Nat} {l : List UInt8} {A o : Value} {bs : List UInt8} (h : WkAt w0 w q l A o bs) (hk : Kp No w w') : WkAt w0 w' q l A o bs :=
  ⟨hk.cell' h.c0 id, hk.cell' h.c1 id, hk.cell' h.c2 id, fun i => (hk.frozen (p := ⟨q, i, none⟩) h.lt id).trans (h.warm i), h.ge, owns_kept h.owns hk fun _ _ => id, h.apart, h.kp.trans' hk⟩
theorem WkAt.text {w0 w : World} {q : Nat} {l : List UInt8} {A o : Value} {bs : List UInt8} (h : WkAt w0 w q l A o bs) (l' : List UInt8) : WkAt w0 (w.setCell ⟨q, 0, none⟩ (.string (st l'))) q l' A o bs :=
  ⟨World.cell?_setCell_same _ _ _ h.c0, by rw [World.cell?_setCell_other _ _ _ _ (by intro e; cases e)]; exact h.c1, by rw [World.cell?_setCell_other _ _ _ _ (by intro e; cases e)]; exact h.c2, fun i => by simp only [World.frozen?_setCell]; exact h.warm i, h.ge,
   owns_kept h.owns ((Kp.refl (fun k => k = q) w).setCell (p := ⟨q, 0, none⟩) (fun _ => rfl) _) (fun k e => by rintro rfl; exact h.apart e), h.apart, h.kp.setCell (p := ⟨q, 0, none⟩) (fun e => by have := h.ge; simp only at e; omega) _⟩
theorem WkAt.args {w0 w : World} {q : Nat} {l : List UInt8} {A o : Value} {bs : List UInt8} (h : WkAt w0 w q l A o bs) (A' : Value) : WkAt w0 (w.setCell ⟨q, 1, none⟩ A') q l A' o bs :=
  ⟨by rw [World.cell?_setCell_other _ _ _ _ (by intro e; cases e)]; exact h.c0, World.cell?_setCell_same _ _ _ h.c1, by rw [World.cell?_setCell_other _ _ _ _ (by intro e; cases e)]; exact h.c2, fun i => by simp only [World.frozen?_setCell]; exact h.warm i, h.ge,
   owns_kept h.owns ((Kp.refl (fun k => k = q) w).setCell (p := ⟨q, 1, none⟩) (fun _ => rfl) _) (fun k e => by rintro rfl; exact h.apart e), h.apart, h.kp.setCell (p := ⟨q, 1, none⟩) (fun e => by have := h.ge; simp only at e; omega) _⟩
theorem WkAt.app {w0 w w1 : World} {q : Nat} {l : List UInt8} {A o o' : Value} {bs cs : List UInt8} (h : WkAt w0 w q l A o bs) (happ : App w0.heap.size w o bs cs o' w1) : WkAt w0 (w1.setCell ⟨q, 2, none⟩ o') q l A o' (bs ++ cs) := by
  have hp := h.lt
  have hk : Kp (fun k => some k = o.ownBlock) w w1 := app_kept0 happ fun k _ e => e.symm
  have hnq : ¬ (some q = o.ownBlock) := fun e => h.apart e.symm
  have hf := app_fresh0 happ
  have hap : o'.ownBlock ≠ some q := by
    rcases hf with e | e
    · rw [e]; exact h.apart
    · intro e2; have := e q e2; omega
  have hk2 : Kp (fun k => k = q) w1 (w1.setCell ⟨q, 2, none⟩ o') := (Kp.refl (fun k => k = q) _).setCell (fun _ => rfl) _
  have hk01 : Kp No w0 w1 := h.kp.trans hk fun i hi e => by
    have := (h.owns.lt i e.symm).1
    omega
  refine ⟨by rw [World.cell?_setCell_other _ _ _ _ (by intro e; cases e)]; exact hk.cell' h.c0 hnq, by rw [World.cell?_setCell_other _ _ _ _ (by intro e; cases e)]; exact hk.cell' h.c1 hnq, World.cell?_setCell_same w1 _ o' (hk.cell' h.c2 hnq), fun i => ?_, h.ge, owns_kept happ.1 hk2 ?_, hap, hk01.setCell (p := ⟨q, 2, none⟩) (fun e => by have := h.ge; simp only at e; omega) _⟩
  · rw [World.frozen?_setCell]; exact (hk.frozen (p := ⟨q, i, none⟩) hp hnq).trans (h.warm i)
  · rintro k e rfl; exact hap e

theorem WkAt.aside {w0 w : World} {q : Nat} {l : List UInt8} {A o : Value} {bs : List UInt8} (h : WkAt w0 w q l A o bs) (b i : Nat) (hb : q ≠ b) (ho : o.ownBlock ≠ some b) (hg : w0.heap.size ≤ b) (v : Value) : WkAt w0 (w.setCell ⟨b, i, none⟩ v) q l A o bs :=
  ⟨by rw [World.cell?_setCell_other _ _ _ _ (by intro e; cases e; exact hb rfl)]; exact h.c0, by rw [World.cell?_setCell_other _ _ _ _ (by intro e; cases e; exact hb rfl)]; exact h.c1, by rw [World.cell?_setCell_other _ _ _ _ (by intro e; cases e; exact hb rfl)]; exact h.c2, fun i => by simp only [World.frozen?_setCell]; exact h.warm i, h.ge,
   owns_kept h.owns ((Kp.refl (fun k => k = b) w).setCell (p := ⟨b, i, none⟩) (fun _ => rfl) _) (fun k e => by rintro rfl; exact ho e), h.apart, h.kp.setCell (p := ⟨b, i, none⟩) (fun e => by simp only at e; omega) _⟩
theorem WkAt.old {w0 w : World} {q : Nat} {l : List UInt8} {A o : Value} {bs : List UInt8} (h : WkAt w0 w q l A o bs) {b : Nat} (hb : w.heap.size ≤ b) : q ≠ b ∧ o.ownBlock ≠ some b := by
  refine ⟨fun e => by have := h.lt; omega, fun e => ?_⟩
  have := (h.owns.lt b e).2
  omega

theorem run_store_float' {P : Program} {w : World} {a : Addr} {m : Mode} (k : FloatKind) (b : Nat) : (store a (.float k b) m).run P w = stored P w a (.float k b) m := run_store P w a _ m rfl

/-- three cells at a block -/
structure B3 (W : World) (b : Nat) (x0 x1 x2 : Value) : Prop where
  c0 : W.cell? ⟨b, 0, none⟩ = some x0
  c1 : W.cell? ⟨b, 1, none⟩ = some x1
  c2 : W.cell? ⟨b, 2, none⟩ = some x2
  warm : ∀ i, W.frozen? ⟨b, i, none⟩ = false
theorem B3.new (W : World) (x0 x1 x2 : Value) (t : TypeId) : B3 (W.alloc (.cells #[x0, x1, x2] t)) W.heap.size x0 x1 x2 := ⟨by simp, by simp, by simp, fun i => by simp⟩
theorem B3.no {W W' : World} {b : Nat} {x0 x1 x2 : Value} (h : B3 W b x0 x1 x2) (hk : Kp No W W') : B3 W' b x0 x1 x2 :=
  ⟨hk.cell' h.c0 id, hk.cell' h.c1 id, hk.cell' h.c2 id, fun i => (hk.frozen (p := ⟨b, i, none⟩) (World.block_lt_of_cell? W ⟨b, 0, none⟩ h.c0) id).trans (h.warm i)⟩
/-- a name for a world behind an alloc -/
theorem named_alloc (w : World) (o : Obj) : ∃ W, w.alloc o = W ∧ Kp No w W ∧ W.heap.size = w.heap.size + 1 := ⟨_, rfl, (Kp.refl No w).alloc _, by simp⟩

/-- the byte that is next, or 0 -/
def lookS (l : List UInt8) : Nat := (l.getD 0 0).toNat
theorem lookS_lt (l : List UInt8) : lookS l < 256 := UInt8.toNat_lt _
def LkPost (w : World) (l : List UInt8) (e : Ending) (w' : World) : Prop := e = .returned (.int .u8 (lookS l : Int)) ∧ w = w'

theorem st_nil : st [] = ByteArray.empty := rfl
theorem st_cons_ne (x : UInt8) (l : List UInt8) : (st (x :: l)).toList.isEmpty = false := by
  rw [st_list]; rfl

set_option maxRecDepth 100000 in
set_option maxHeartbeats 1000000 in
theorem look_any {w0 w : World} {q : Nat} {l : List UInt8} {A o : Value} {bs : List UInt8} (h : WkAt w0 w q l A o bs) :
    Calls Tryz.prog 18 #[.pointer (some ⟨q, 0, none⟩)] w (LkPost w l) := by
  have c0 := h.c0
  have hl := st_size l
  clear h
  cases l with
  | nil =>
    rw [show st ([] : List UInt8) = ⟨#[]⟩ from rfl] at c0
    go_enter Tryz.func18, Tryz.ntmps18
    go_wp2
    go_ret
    exact ⟨rfl, rfl⟩
  | cons x l =>
    have hne := st_cons_ne x l
    have hg := fun h => st_get (x :: l) 0 h
    rw [show ((x :: l).getD 0 0).toNat = lookS (x :: l) from rfl] at hg
    obtain ⟨y, hy⟩ : ∃ y, lookS (x :: l) = y := ⟨_, rfl⟩
    obtain ⟨s, hs⟩ : ∃ s, st (x :: l) = s := ⟨_, rfl⟩
    unfold LkPost
    rw [hy] at hg ⊢
    simp only [hs] at c0 hl hne hg
    have hl2 : (s.size : Int) = (l.length : Int) + 1 := by rw [hl]; simp
    have hl0 : (0 : Int) ≤ (l.length : Int) := Int.natCast_nonneg _
    clear hl
    go_enter Tryz.func18, Tryz.ntmps18
    go_wp2
    go_ret
    exact ⟨congrArg (fun n : Nat => Ending.returned (.int .u8 (n : Int))) (hg (by omega)), rfl⟩

def SkPost (w0 : World) (q : Nat) (l : List UInt8) (A o : Value) (bs : List UInt8) (w : World) (e : Ending) (w' : World) : Prop := e = .returned (.tuple #[]) ∧ WkAt w0 w' q l A o bs ∧ Kp (fun k => k = q) w w'

set_option maxRecDepth 100000 in
set_option maxHeartbeats 1000000 in
theorem skip_any {w0 w : World} {q : Nat} {l : List UInt8} {A o : Value} {bs : List UInt8} (h : WkAt w0 w q l A o bs) (hl : 0 < l.length) :
    Calls Tryz.prog 19 #[.pointer (some ⟨q, 0, none⟩)] w (SkPost w0 q (l.drop 1) A o bs w) := by
  have c0 := h.c0
  have hw := h.warm
  have hf := h.text (l.drop 1)
  have hx := st_from l 1
  rw [← st_size l] at hx hl
  have hl1 : (1 : Int) ≤ ((st l).size : Int) := by omega
  rw [← hx] at hf
  have HF := Hid_mk hf
  obtain ⟨s, hs⟩ : ∃ s, st l = s := ⟨_, rfl⟩
  rw [hs] at c0 HF hl1
  clear h hf hx hl hs
  go_enter Tryz.func19, Tryz.ntmps19
  go_wp2
  go_end0
  exact ⟨rfl, HF.out, (Kp.refl (fun k => k = q) w).setCell (p := ⟨q, 0, none⟩) (fun _ => rfl) _⟩

/-- a text is put out, up to MaxText + 1 bytes in all -/
def addS (bs s : List UInt8) : List UInt8 := bs ++ s.take (min s.length (257 - bs.length))
def AdPost (w0 : World) (q : Nat) (l : List UInt8) (A : Value) (bs : List UInt8) (w : World) (o0 : Value) (e : Ending) (w' : World) : Prop := e = .returned (.tuple #[]) ∧ ∃ o, WkAt w0 w' q l A o bs ∧ Kp (fun k => k = q ∨ some k = o0.ownBlock) w w' ∧ (o.ownBlock = o0.ownBlock ∨ ∀ g, o.ownBlock = some g → w.heap.size ≤ g)

set_option maxRecDepth 100000 in
set_option maxHeartbeats 1000000 in
theorem add_any {w0 w : World} {q : Nat} {l : List UInt8} {A o : Value} {bs : List UInt8} (h : WkAt w0 w q l A o bs) (hb : bs.length ≤ 257) (s : List UInt8) (hs : s.length ≤ 140737488355327) :
    Calls Tryz.prog 17 #[.pointer (some ⟨q, 0, none⟩), .string (st s)] w (AdPost w0 q l A (addS bs s) w o) := by
  have c2 := h.c2
  have hw := h.warm
  have H := Hid_mk h
  have HB := Hid_mk hb
  obtain ⟨S, hS⟩ : ∃ S, st s = S := ⟨_, rfl⟩
  have hsz : S.size = s.length := by rw [← hS]; exact st_size s
  obtain ⟨M, hM⟩ : ∃ M : Nat, min s.length (257 - bs.length) = M := ⟨_, rfl⟩
  have hMi : min (S.size : Int) (257 - (bs.length : Int)) = (M : Int) := by omega
  have hM0 : (0 : Int) ≤ (M : Int) := Int.natCast_nonneg _
  have hMs : (M : Int) ≤ (S.size : Int) := by omega
  have hx := st_piece s 0 M
  rw [Nat.sub_zero, List.drop_zero, hS] at hx
  have HX := Hid_mk hx
  have HM := Hid_mk hM
  have hlb : (bs.length : Int) ≤ 257 := by omega
  have hlb0 : (0 : Int) ≤ (bs.length : Int) := Int.natCast_nonneg _
  have hMb : M ≤ 257 := by omega
  have HMb : Hid ((S.extract 0 M).size ≤ 257) := Hid_mk (by rw [hx, st_size]; simp; omega)
  have HFin : Hid (∀ o w1, App w0.heap.size w o bs (S.extract 0 M).data.toList o w1 → True) := Hid_mk fun _ _ _ => trivial
  have hroom : w0.heap.size ≤ w.heap.size := h.kp.size
  have HS := Hid_mk hS
  rw [hS]
  clear HFin
  rcases owns_any h.owns with ⟨ho, hn⟩ | ⟨g, cap, ho, hg1, hg2, hg3, hg4⟩
  · subst ho
    have hbs : bs = [] := List.eq_nil_of_length_eq_zero hn
    subst hbs
    simp only [List.length_nil, Int.natCast_zero, Int.sub_zero] at hMi
    have hMi : min (S.size : Int) 257 = (M : Int) := by omega
    clear h hb hM hx hMb hsz hS hlb hlb0 hn
    go_enter Tryz.func17, Tryz.ntmps17
    go_upto_region 1 with fail
    obtain ⟨OV, hO⟩ : ∃ OV, Value.slice none 0 0 = OV := ⟨_, rfl⟩
    have HOB : Hid (OV.ownBlock = (Value.slice none 0 0).ownBlock) := Hid_mk (by subst hO; rfl)
    rw [hO] at c2 H ⊢
    clear hO
    refine wp_region_held_drew (S := fun _ => True) (by kernel_rfl) trivial (fun hHeld => ?_)
    refine wpAnyH_take (i := 0) (oi := { dst := some 11, op := Op.move (Operand.tmp 0), type := 46, pos := "walk.go:153", after := #[], guard := none }) (v := ?_) rfl (by kernel_rfl) (by kernel_rfl) (by kernel_rfl) (fun _ _ _ h => h) (Or.inl ⟨by rfl, ?_⟩) (by assumption) ?_
    rotate_left 1
    · intro w hSw; (try dsimp only at hSw); go_simp; all_goals (with_reducible rfl)
    try simp only [Act.put, List.setIfInBounds_toArray, List.set_cons_zero, List.set_cons_succ]
    refine wpAnyH_take (i := 1) (oi := { dst := some 12, op := Op.move (Operand.tmp 0), type := 46, pos := "walk.go:153", after := #[], guard := none }) (v := ?_) rfl (by kernel_rfl) (by kernel_rfl) (by kernel_rfl) (fun _ _ _ h => h) (Or.inl ⟨by rfl, ?_⟩) (by assumption) ?_
    rotate_left 1
    · intro w hSw; (try dsimp only at hSw); go_simp; all_goals (with_reducible rfl)
    try simp only [Act.put, List.setIfInBounds_toArray, List.set_cons_zero, List.set_cons_succ]
    refine wpAnyH_take (i := 2) (oi := { dst := some 13, op := Op.nilCheck (Operand.tmp 12), type := 0, pos := "walk.go:153", after := #[{ on := 1, ground := Ground.data }], guard := none }) (v := ?_) rfl (by kernel_rfl) (by kernel_rfl) (by kernel_rfl) (fun _ _ _ h => h) (Or.inl ⟨by rfl, ?_⟩) (by assumption) ?_
    rotate_left 1
    · intro w hSw; (try dsimp only at hSw); go_simp; all_goals (with_reducible rfl)
    try simp only [Act.put, List.setIfInBounds_toArray, List.set_cons_zero, List.set_cons_succ]
    refine wpAnyH_take (i := 3) (oi := { dst := some 14, op := Op.fieldAddr 34 (Operand.tmp 13) 2, type := 0, pos := "walk.go:153", after := #[{ on := 2, ground := Ground.data }], guard := none }) (v := ?_) rfl (by kernel_rfl) (by kernel_rfl) (by kernel_rfl) (fun _ _ _ h => h) (Or.inl ⟨by rfl, ?_⟩) (by assumption) ?_
    rotate_left 1
    · intro w hSw; (try dsimp only at hSw); go_simp; all_goals (with_reducible rfl)
    try simp only [Act.put, List.setIfInBounds_toArray, List.set_cons_zero, List.set_cons_succ]
    refine wpAnyH_take (i := 5) (oi := { dst := some 16, op := Op.move (Operand.tmp 1), type := 9, pos := "walk.go:153", after := #[], guard := none }) (v := ?_) rfl (by kernel_rfl) (by kernel_rfl) (by kernel_rfl) (fun _ _ _ h => h) (Or.inl ⟨by rfl, ?_⟩) (by assumption) ?_
    rotate_left 1
    · intro w hSw; (try dsimp only at hSw); go_simp; all_goals (with_reducible rfl)
    try simp only [Act.put, List.setIfInBounds_toArray, List.set_cons_zero, List.set_cons_succ]
    refine wpAnyH_take (i := 6) (oi := { dst := some 17, op := Op.move (Operand.tmp 1), type := 9, pos := "walk.go:153", after := #[], guard := none }) (v := ?_) rfl (by kernel_rfl) (by kernel_rfl) (by kernel_rfl) (fun _ _ _ h => h) (Or.inl ⟨by rfl, ?_⟩) (by assumption) ?_
    rotate_left 1
    · intro w hSw; (try dsimp only at hSw); go_simp; all_goals (with_reducible rfl)
    try simp only [Act.put, List.setIfInBounds_toArray, List.set_cons_zero, List.set_cons_succ]
    refine wpAnyH_take (i := 7) (oi := { dst := some 18, op := Op.call { callee := Callee.builtin Builtin.len, args := #[Operand.tmp 17], argTypes := #[9] }, type := 3, pos := "walk.go:153", after := #[{ on := 6, ground := Ground.data }], guard := none }) (v := ?_) rfl (by kernel_rfl) (by kernel_rfl) (by kernel_rfl) (fun _ _ _ h => h) (Or.inl ⟨by rfl, ?_⟩) (by assumption) ?_
    rotate_left 1
    · intro w hSw; (try dsimp only at hSw); go_simp; all_goals (with_reducible rfl)
    try simp only [Act.put, List.setIfInBounds_toArray, List.set_cons_zero, List.set_cons_succ]
    refine wpAnyH_take (i := 8) (oi := { dst := some 19, op := Op.move (Operand.tmp 4), type := 3, pos := "walk.go:153", after := #[], guard := none }) (v := ?_) rfl (by kernel_rfl) (by kernel_rfl) (by kernel_rfl) (fun _ _ _ h => h) (Or.inl ⟨by rfl, ?_⟩) (by assumption) ?_
    rotate_left 1
    · intro w hSw; (try dsimp only at hSw); go_simp; all_goals (with_reducible rfl)
    try simp only [Act.put, List.setIfInBounds_toArray, List.set_cons_zero, List.set_cons_succ]
    refine wpAnyH_take (i := 9) (oi := { dst := some 20, op := Op.call { callee := Callee.builtin Builtin.min, args := #[Operand.tmp 18, Operand.tmp 19], argTypes := #[3, 3] }, type := 3, pos := "walk.go:153", after := #[{ on := 7, ground := Ground.data }, { on := 8, ground := Ground.data }], guard := none }) (v := ?_) rfl (by kernel_rfl) (by kernel_rfl) (by kernel_rfl) (fun _ _ _ h => h) (Or.inl ⟨by rfl, ?_⟩) (by assumption) ?_
    rotate_left 1
    · intro w hSw; (try dsimp only at hSw); go_simp; all_goals (with_reducible rfl)
    try simp only [Act.put, List.setIfInBounds_toArray, List.set_cons_zero, List.set_cons_succ]
    refine wpAnyH_take (i := 10) (oi := { dst := some 21, op := Op.slice 9 (Operand.tmp 16) none (some (Operand.tmp 20)) none, type := 9, pos := "walk.go:153", after := #[{ on := 5, ground := Ground.data }, { on := 9, ground := Ground.data }], guard := none }) (v := ?_) rfl (by kernel_rfl) (by kernel_rfl) (by kernel_rfl) (fun _ _ _ h => h) (Or.inl ⟨by rfl, ?_⟩) (by assumption) ?_
    rotate_left 1
    · intro w hSw; (try dsimp only at hSw); go_simp; all_goals (with_reducible rfl)
    try simp only [Act.put, List.setIfInBounds_toArray, List.set_cons_zero, List.set_cons_succ]
    refine wpAnyH_ready (rs := [4]) (by kernel_rfl) (by simp) ?_
    refine AllReadyH.cons (o := { dst := some 15, op := Op.load 32 (Operand.tmp 14), type := 32, pos := "walk.go:153", after := #[{ on := 3, ground := Ground.data }], guard := none }) rfl (fun K hK => ?_) AllReadyH.nil
    go_simp
    refine hK _ _ trivial (fun hHeld => ?_)
    clear hK K
    try simp only [Act.put, List.setIfInBounds_toArray, List.set_cons_zero, List.set_cons_succ]
    refine wpAnyH_ready (rs := [11]) (by kernel_rfl) (by simp) ?_
    refine AllReadyH.cons (o := { dst := some 22, op := Op.call { callee := Callee.builtin Builtin.append, args := #[Operand.tmp 15, Operand.tmp 21], argTypes := #[32, 9] }, type := 32, pos := "walk.go:153", after := #[{ on := 4, ground := Ground.data }, { on := 10, ground := Ground.data }], guard := none }) rfl (fun K hK => ?_) AllReadyH.nil
    refine step_append_str _ (by rfl) _ _ (by rfl) w0.heap.size OV [] (by rfl) (H.out.no (Kp.refl No w).drew).owns (S.extract 0 M) (by rfl) (by have := HMb.out; have := HB.out; (try simp only [List.length_nil] at *); omega) hroom ?_
    intro v' w1 happ
    obtain ⟨a7, n7, c7, rfl⟩ : ∃ a n c, v' = Value.slice a n c := by
      obtain ⟨a, c, e, -⟩ := owns_bs happ.1
      exact ⟨_, _, _, e⟩
    have HAp := Hid_mk happ
    have hk : Kp (fun k => some k = OV.ownBlock) w.drew w1 := app_kept0 happ fun k _ e => e.symm
    have hnq : ¬ (some q = OV.ownBlock) := fun e => H.out.apart e.symm
    have c2b := hk.cell' (H.out.no (Kp.refl No w).drew).c2 hnq
    have HKa : Hid (Kp (fun k => k = q ∨ some k = OV.ownBlock) w w1) := Hid_mk ((((Kp.refl No w).drew).to (S := fun k => k = q ∨ some k = OV.ownBlock)).trans' (hk.mono fun k _ e => .inr e))
    have HFr : Hid ((Value.slice a7 n7 c7).ownBlock = OV.ownBlock ∨ ∀ g, (Value.slice a7 n7 c7).ownBlock = some g → w.heap.size ≤ g) := Hid_mk (app_fresh0 (w := w.drew) HAp.out)
    have f2b := (hk.frozen (p := ⟨q, 2, none⟩) H.out.lt hnq).trans (H.out.warm 2)
    clear happ hk hnq
    refine hK _ _ trivial (fun hHeld => ?_)
    clear hK K
    try simp only [Act.put, List.setIfInBounds_toArray, List.set_cons_zero, List.set_cons_succ]
    refine wpAnyH_take (i := 12) (oi := { dst := some 23, op := Op.nilCheck (Operand.tmp 11), type := 0, pos := "walk.go:153", after := #[{ on := 0, ground := Ground.data }, { on := 0, ground := Ground.phase }, { on := 1, ground := Ground.phase }, { on := 2, ground := Ground.phase }, { on := 3, ground := Ground.phase }, { on := 4, ground := Ground.phase }, { on := 5, ground := Ground.phase }, { on := 6, ground := Ground.phase }, { on := 7, ground := Ground.phase }, { on := 8, ground := Ground.phase }, { on := 9, ground := Ground.phase }, { on := 10, ground := Ground.phase }, { on := 11, ground := Ground.phase }], guard := none }) (v := ?_) rfl (by kernel_rfl) (by kernel_rfl) (by kernel_rfl) (fun _ _ _ h => h) (Or.inl ⟨by rfl, ?_⟩) (by assumption) ?_
    rotate_left 1
    · intro w hSw; (try dsimp only at hSw); go_simp; all_goals (with_reducible rfl)
    try simp only [Act.put, List.setIfInBounds_toArray, List.set_cons_zero, List.set_cons_succ]
    refine wpAnyH_take (i := 13) (oi := { dst := some 24, op := Op.fieldAddr 34 (Operand.tmp 23) 2, type := 0, pos := "walk.go:153", after := #[{ on := 12, ground := Ground.data }, { on := 0, ground := Ground.phase }, { on := 1, ground := Ground.phase }, { on := 2, ground := Ground.phase }, { on := 3, ground := Ground.phase }, { on := 4, ground := Ground.phase }, { on := 5, ground := Ground.phase }, { on := 6, ground := Ground.phase }, { on := 7, ground := Ground.phase }, { on := 8, ground := Ground.phase }, { on := 9, ground := Ground.phase }, { on := 10, ground := Ground.phase }, { on := 11, ground := Ground.phase }], guard := none }) (v := ?_) rfl (by kernel_rfl) (by kernel_rfl) (by kernel_rfl) (fun _ _ _ h => h) (Or.inl ⟨by rfl, ?_⟩) (by assumption) ?_
    rotate_left 1
    · intro w hSw; (try dsimp only at hSw); go_simp; all_goals (with_reducible rfl)
    try simp only [Act.put, List.setIfInBounds_toArray, List.set_cons_zero, List.set_cons_succ]
    refine wpAnyH_ready (rs := [14]) (by kernel_rfl) (by simp) ?_
    refine AllReadyH.cons (o := { dst := none, op := Op.store 32 (Operand.tmp 24) (Operand.tmp 22), type := 0, pos := "walk.go:153", after := #[{ on := 13, ground := Ground.data }, { on := 11, ground := Ground.data }, { on := 11, ground := Ground.chain }, { on := 0, ground := Ground.phase }, { on := 1, ground := Ground.phase }, { on := 2, ground := Ground.phase }, { on := 3, ground := Ground.phase }, { on := 4, ground := Ground.phase }, { on := 5, ground := Ground.phase }, { on := 6, ground := Ground.phase }, { on := 7, ground := Ground.phase }, { on := 8, ground := Ground.phase }, { on := 9, ground := Ground.phase }, { on := 10, ground := Ground.phase }, { on := 11, ground := Ground.phase }], guard := none }) rfl (fun K hK => ?_) AllReadyH.nil
    go_simp
    refine hK _ _ trivial (fun hHeld => ?_)
    clear hK K
    try simp only [Act.put, List.setIfInBounds_toArray, List.set_cons_zero, List.set_cons_succ]
    refine wpAnyH_done (by kernel_rfl) ?_ _
    have hF := (H.out.no (Kp.refl No w).drew).app HAp.out
    rw [HX.out, st_data, ← HM.out] at hF
    have HF := Hid_mk hF
    clear hF
    go_wp2
    go_end0
    have HKb := HKa.out.setCell (p := ⟨q, 2, none⟩) (fun _ => .inl rfl) (Value.slice a7 n7 c7)
    exact ⟨rfl, _, HF.out, by first | exact HKb | (rw [← HOB.out]; exact HKb), by first | exact HFr.out | (rw [← HOB.out]; exact HFr.out)⟩
  · subst ho
    obtain ⟨N, hN⟩ : ∃ N, bs.length = N := ⟨_, rfl⟩
    have HN := Hid_mk hN
    rw [hN] at hMi hlb hlb0 hg3 H c2
    rw [hN] at h
    clear h hb hM hx hMb hsz hS hN
    go_enter Tryz.func17, Tryz.ntmps17
    go_upto_region 1 with fail
    obtain ⟨OV, hO⟩ : ∃ OV, Value.slice (some ⟨g, 0, none⟩) N cap = OV := ⟨_, rfl⟩
    have HOB : Hid (OV.ownBlock = (Value.slice (some ⟨g, 0, none⟩) bs.length cap).ownBlock) := Hid_mk (by subst hO; rfl)
    rw [hO] at c2 H ⊢
    clear hO
    refine wp_region_held_drew (S := fun _ => True) (by kernel_rfl) trivial (fun hHeld => ?_)
    refine wpAnyH_take (i := 0) (oi := { dst := some 11, op := Op.move (Operand.tmp 0), type := 46, pos := "walk.go:153", after := #[], guard := none }) (v := ?_) rfl (by kernel_rfl) (by kernel_rfl) (by kernel_rfl) (fun _ _ _ h => h) (Or.inl ⟨by rfl, ?_⟩) (by assumption) ?_
    rotate_left 1
    · intro w hSw; (try dsimp only at hSw); go_simp; all_goals (with_reducible rfl)
    try simp only [Act.put, List.setIfInBounds_toArray, List.set_cons_zero, List.set_cons_succ]
    refine wpAnyH_take (i := 1) (oi := { dst := some 12, op := Op.move (Operand.tmp 0), type := 46, pos := "walk.go:153", after := #[], guard := none }) (v := ?_) rfl (by kernel_rfl) (by kernel_rfl) (by kernel_rfl) (fun _ _ _ h => h) (Or.inl ⟨by rfl, ?_⟩) (by assumption) ?_
    rotate_left 1
    · intro w hSw; (try dsimp only at hSw); go_simp; all_goals (with_reducible rfl)
    try simp only [Act.put, List.setIfInBounds_toArray, List.set_cons_zero, List.set_cons_succ]
    refine wpAnyH_take (i := 2) (oi := { dst := some 13, op := Op.nilCheck (Operand.tmp 12), type := 0, pos := "walk.go:153", after := #[{ on := 1, ground := Ground.data }], guard := none }) (v := ?_) rfl (by kernel_rfl) (by kernel_rfl) (by kernel_rfl) (fun _ _ _ h => h) (Or.inl ⟨by rfl, ?_⟩) (by assumption) ?_
    rotate_left 1
    · intro w hSw; (try dsimp only at hSw); go_simp; all_goals (with_reducible rfl)
    try simp only [Act.put, List.setIfInBounds_toArray, List.set_cons_zero, List.set_cons_succ]
    refine wpAnyH_take (i := 3) (oi := { dst := some 14, op := Op.fieldAddr 34 (Operand.tmp 13) 2, type := 0, pos := "walk.go:153", after := #[{ on := 2, ground := Ground.data }], guard := none }) (v := ?_) rfl (by kernel_rfl) (by kernel_rfl) (by kernel_rfl) (fun _ _ _ h => h) (Or.inl ⟨by rfl, ?_⟩) (by assumption) ?_
    rotate_left 1
    · intro w hSw; (try dsimp only at hSw); go_simp; all_goals (with_reducible rfl)
    try simp only [Act.put, List.setIfInBounds_toArray, List.set_cons_zero, List.set_cons_succ]
    refine wpAnyH_take (i := 5) (oi := { dst := some 16, op := Op.move (Operand.tmp 1), type := 9, pos := "walk.go:153", after := #[], guard := none }) (v := ?_) rfl (by kernel_rfl) (by kernel_rfl) (by kernel_rfl) (fun _ _ _ h => h) (Or.inl ⟨by rfl, ?_⟩) (by assumption) ?_
    rotate_left 1
    · intro w hSw; (try dsimp only at hSw); go_simp; all_goals (with_reducible rfl)
    try simp only [Act.put, List.setIfInBounds_toArray, List.set_cons_zero, List.set_cons_succ]
    refine wpAnyH_take (i := 6) (oi := { dst := some 17, op := Op.move (Operand.tmp 1), type := 9, pos := "walk.go:153", after := #[], guard := none }) (v := ?_) rfl (by kernel_rfl) (by kernel_rfl) (by kernel_rfl) (fun _ _ _ h => h) (Or.inl ⟨by rfl, ?_⟩) (by assumption) ?_
    rotate_left 1
    · intro w hSw; (try dsimp only at hSw); go_simp; all_goals (with_reducible rfl)
    try simp only [Act.put, List.setIfInBounds_toArray, List.set_cons_zero, List.set_cons_succ]
    refine wpAnyH_take (i := 7) (oi := { dst := some 18, op := Op.call { callee := Callee.builtin Builtin.len, args := #[Operand.tmp 17], argTypes := #[9] }, type := 3, pos := "walk.go:153", after := #[{ on := 6, ground := Ground.data }], guard := none }) (v := ?_) rfl (by kernel_rfl) (by kernel_rfl) (by kernel_rfl) (fun _ _ _ h => h) (Or.inl ⟨by rfl, ?_⟩) (by assumption) ?_
    rotate_left 1
    · intro w hSw; (try dsimp only at hSw); go_simp; all_goals (with_reducible rfl)
    try simp only [Act.put, List.setIfInBounds_toArray, List.set_cons_zero, List.set_cons_succ]
    refine wpAnyH_take (i := 8) (oi := { dst := some 19, op := Op.move (Operand.tmp 4), type := 3, pos := "walk.go:153", after := #[], guard := none }) (v := ?_) rfl (by kernel_rfl) (by kernel_rfl) (by kernel_rfl) (fun _ _ _ h => h) (Or.inl ⟨by rfl, ?_⟩) (by assumption) ?_
    rotate_left 1
    · intro w hSw; (try dsimp only at hSw); go_simp; all_goals (with_reducible rfl)
    try simp only [Act.put, List.setIfInBounds_toArray, List.set_cons_zero, List.set_cons_succ]
    refine wpAnyH_take (i := 9) (oi := { dst := some 20, op := Op.call { callee := Callee.builtin Builtin.min, args := #[Operand.tmp 18, Operand.tmp 19], argTypes := #[3, 3] }, type := 3, pos := "walk.go:153", after := #[{ on := 7, ground := Ground.data }, { on := 8, ground := Ground.data }], guard := none }) (v := ?_) rfl (by kernel_rfl) (by kernel_rfl) (by kernel_rfl) (fun _ _ _ h => h) (Or.inl ⟨by rfl, ?_⟩) (by assumption) ?_
    rotate_left 1
    · intro w hSw; (try dsimp only at hSw); go_simp; all_goals (with_reducible rfl)
    try simp only [Act.put, List.setIfInBounds_toArray, List.set_cons_zero, List.set_cons_succ]
    refine wpAnyH_take (i := 10) (oi := { dst := some 21, op := Op.slice 9 (Operand.tmp 16) none (some (Operand.tmp 20)) none, type := 9, pos := "walk.go:153", after := #[{ on := 5, ground := Ground.data }, { on := 9, ground := Ground.data }], guard := none }) (v := ?_) rfl (by kernel_rfl) (by kernel_rfl) (by kernel_rfl) (fun _ _ _ h => h) (Or.inl ⟨by rfl, ?_⟩) (by assumption) ?_
    rotate_left 1
    · intro w hSw; (try dsimp only at hSw); go_simp; all_goals (with_reducible rfl)
    try simp only [Act.put, List.setIfInBounds_toArray, List.set_cons_zero, List.set_cons_succ]
    refine wpAnyH_ready (rs := [4]) (by kernel_rfl) (by simp) ?_
    refine AllReadyH.cons (o := { dst := some 15, op := Op.load 32 (Operand.tmp 14), type := 32, pos := "walk.go:153", after := #[{ on := 3, ground := Ground.data }], guard := none }) rfl (fun K hK => ?_) AllReadyH.nil
    go_simp
    refine hK _ _ trivial (fun hHeld => ?_)
    clear hK K
    try simp only [Act.put, List.setIfInBounds_toArray, List.set_cons_zero, List.set_cons_succ]
    refine wpAnyH_ready (rs := [11]) (by kernel_rfl) (by simp) ?_
    refine AllReadyH.cons (o := { dst := some 22, op := Op.call { callee := Callee.builtin Builtin.append, args := #[Operand.tmp 15, Operand.tmp 21], argTypes := #[32, 9] }, type := 32, pos := "walk.go:153", after := #[{ on := 4, ground := Ground.data }, { on := 10, ground := Ground.data }], guard := none }) rfl (fun K hK => ?_) AllReadyH.nil
    refine step_append_str _ (by rfl) _ _ (by rfl) w0.heap.size OV bs (by rfl) (H.out.no (Kp.refl No w).drew).owns (S.extract 0 M) (by rfl) (by have := HMb.out; have := HB.out; (try simp only [List.length_nil] at *); omega) hroom ?_
    intro v' w1 happ
    obtain ⟨a7, n7, c7, rfl⟩ : ∃ a n c, v' = Value.slice a n c := by
      obtain ⟨a, c, e, -⟩ := owns_bs happ.1
      exact ⟨_, _, _, e⟩
    have HAp := Hid_mk happ
    have hk : Kp (fun k => some k = OV.ownBlock) w.drew w1 := app_kept0 happ fun k _ e => e.symm
    have hnq : ¬ (some q = OV.ownBlock) := fun e => H.out.apart e.symm
    have c2b := hk.cell' (H.out.no (Kp.refl No w).drew).c2 hnq
    have HKa : Hid (Kp (fun k => k = q ∨ some k = OV.ownBlock) w w1) := Hid_mk ((((Kp.refl No w).drew).to (S := fun k => k = q ∨ some k = OV.ownBlock)).trans' (hk.mono fun k _ e => .inr e))
    have HFr : Hid ((Value.slice a7 n7 c7).ownBlock = OV.ownBlock ∨ ∀ g, (Value.slice a7 n7 c7).ownBlock = some g → w.heap.size ≤ g) := Hid_mk (app_fresh0 (w := w.drew) HAp.out)
    have f2b := (hk.frozen (p := ⟨q, 2, none⟩) H.out.lt hnq).trans (H.out.warm 2)
    clear happ hk hnq
    refine hK _ _ trivial (fun hHeld => ?_)
    clear hK K
    try simp only [Act.put, List.setIfInBounds_toArray, List.set_cons_zero, List.set_cons_succ]
    refine wpAnyH_take (i := 12) (oi := { dst := some 23, op := Op.nilCheck (Operand.tmp 11), type := 0, pos := "walk.go:153", after := #[{ on := 0, ground := Ground.data }, { on := 0, ground := Ground.phase }, { on := 1, ground := Ground.phase }, { on := 2, ground := Ground.phase }, { on := 3, ground := Ground.phase }, { on := 4, ground := Ground.phase }, { on := 5, ground := Ground.phase }, { on := 6, ground := Ground.phase }, { on := 7, ground := Ground.phase }, { on := 8, ground := Ground.phase }, { on := 9, ground := Ground.phase }, { on := 10, ground := Ground.phase }, { on := 11, ground := Ground.phase }], guard := none }) (v := ?_) rfl (by kernel_rfl) (by kernel_rfl) (by kernel_rfl) (fun _ _ _ h => h) (Or.inl ⟨by rfl, ?_⟩) (by assumption) ?_
    rotate_left 1
    · intro w hSw; (try dsimp only at hSw); go_simp; all_goals (with_reducible rfl)
    try simp only [Act.put, List.setIfInBounds_toArray, List.set_cons_zero, List.set_cons_succ]
    refine wpAnyH_take (i := 13) (oi := { dst := some 24, op := Op.fieldAddr 34 (Operand.tmp 23) 2, type := 0, pos := "walk.go:153", after := #[{ on := 12, ground := Ground.data }, { on := 0, ground := Ground.phase }, { on := 1, ground := Ground.phase }, { on := 2, ground := Ground.phase }, { on := 3, ground := Ground.phase }, { on := 4, ground := Ground.phase }, { on := 5, ground := Ground.phase }, { on := 6, ground := Ground.phase }, { on := 7, ground := Ground.phase }, { on := 8, ground := Ground.phase }, { on := 9, ground := Ground.phase }, { on := 10, ground := Ground.phase }, { on := 11, ground := Ground.phase }], guard := none }) (v := ?_) rfl (by kernel_rfl) (by kernel_rfl) (by kernel_rfl) (fun _ _ _ h => h) (Or.inl ⟨by rfl, ?_⟩) (by assumption) ?_
    rotate_left 1
    · intro w hSw; (try dsimp only at hSw); go_simp; all_goals (with_reducible rfl)
    try simp only [Act.put, List.setIfInBounds_toArray, List.set_cons_zero, List.set_cons_succ]
    refine wpAnyH_ready (rs := [14]) (by kernel_rfl) (by simp) ?_
    refine AllReadyH.cons (o := { dst := none, op := Op.store 32 (Operand.tmp 24) (Operand.tmp 22), type := 0, pos := "walk.go:153", after := #[{ on := 13, ground := Ground.data }, { on := 11, ground := Ground.data }, { on := 11, ground := Ground.chain }, { on := 0, ground := Ground.phase }, { on := 1, ground := Ground.phase }, { on := 2, ground := Ground.phase }, { on := 3, ground := Ground.phase }, { on := 4, ground := Ground.phase }, { on := 5, ground := Ground.phase }, { on := 6, ground := Ground.phase }, { on := 7, ground := Ground.phase }, { on := 8, ground := Ground.phase }, { on := 9, ground := Ground.phase }, { on := 10, ground := Ground.phase }, { on := 11, ground := Ground.phase }], guard := none }) rfl (fun K hK => ?_) AllReadyH.nil
    go_simp
    refine hK _ _ trivial (fun hHeld => ?_)
    clear hK K
    try simp only [Act.put, List.setIfInBounds_toArray, List.set_cons_zero, List.set_cons_succ]
    refine wpAnyH_done (by kernel_rfl) ?_ _
    have hF := (H.out.no (Kp.refl No w).drew).app HAp.out
    rw [HX.out, st_data, ← HM.out] at hF
    have HF := Hid_mk hF
    clear hF
    go_wp2
    go_end0
    have HKb := HKa.out.setCell (p := ⟨q, 2, none⟩) (fun _ => .inl rfl) (Value.slice a7 n7 c7)
    exact ⟨rfl, _, HF.out, by first | exact HKb | (rw [← HOB.out]; exact HKb), by first | exact HFr.out | (rw [← HOB.out]; exact HFr.out)⟩

end Go.Proofs.YtannbdbhkhmppaaGreatDoor.pf

namespace Go.Proofs.YtannbdbhkhmppaaGreatDoor.pf
open Go.RowKit Go.Lib Go.Proofs.YtannbdbhkhmppaaGreatDoor.sum Go.Proofs.YtannbdbhkhmppaaGreatDoor.kept Go.Proofs.YtannbdbhkhmppaaGreatDoor.app Go.Proofs.YtannbdbhkhmppaaGreatDoor.writer Go.Proofs.YtannbdbhkhmppaaGreatDoor.known Go.Proofs.YtannbdbhkhmppaaGreatDoor.str
set_option linter.unusedVariables false
attribute [local go_sem] run_store_float'

/-- an argument -/
structure Ar where
  n : Nat
  s : List UInt8
  num : Bool
abbrev arV (x : Ar) : Value := .agg #[.float .f64 x.n, .string (st x.s), .bool x.num]
def noAr : Ar := ⟨0, [], false⟩
/-- the arguments that are left -/
def ArgsAt (w0 : World) (A : Value) (l : List Ar) : Prop :=
  ∃ a c, A = .slice a l.length c ∧ l.length ≤ c ∧ c ≤ 140737488355327 ∧ ∀ k (h : k < l.length), ∃ g o, a = some ⟨g, o, none⟩ ∧
    w0.cell? ⟨g, o + 3 * k, none⟩ = some (.float .f64 (l[k]).n) ∧ w0.cell? ⟨g, o + 3 * k + 1, none⟩ = some (.string (st (l[k]).s)) ∧ w0.cell? ⟨g, o + 3 * k + 2, none⟩ = some (.bool (l[k]).num)

def NxPost (w0 : World) (q : Nat) (l : List UInt8) (o : Value) (bs : List UInt8) (ars : List Ar) (w : World) (e : Ending) (w' : World) : Prop :=
  e = .returned (arV (ars.headD noAr)) ∧ ∃ A, WkAt w0 w' q l A o bs ∧ ArgsAt w0 A ars.tail ∧ Kp (fun k => k = q) w w'

set_option maxRecDepth 100000 in
set_option maxHeartbeats 2000000 in
theorem next_any {w0 w : World} {q : Nat} {l : List UInt8} {A o : Value} {bs : List UInt8} (h : WkAt w0 w q l A o bs) (ars : List Ar) (ha : ArgsAt w0 A ars) :
    Calls Tryz.prog 12 #[.pointer (some ⟨q, 0, none⟩)] w (NxPost w0 q l o bs ars w) := by
  have c1 := h.c1
  have hw := h.warm
  have hq := h.lt
  have H := Hid_mk h
  cases ars with
  | nil =>
    obtain ⟨a, c, rfl, hc1, hc2, -⟩ := ha
    simp only [List.length_nil] at c1
    have HA : Hid (ArgsAt w0 (.slice a 0 c) []) := Hid_mk ⟨a, c, rfl, hc1, hc2, fun k hk => absurd hk (Nat.not_lt_zero _)⟩
    clear h hc1 hc2
    go_enter Tryz.func12, Tryz.ntmps12
    go_upto_region 1 with fail
    obtain ⟨W1, hW1, hk1, hz1⟩ := named_alloc w (.cells #[.float .f64 0, .string ⟨#[]⟩, .bool false] 27)
    have hb1 := B3.new w (.float .f64 0) (.string ⟨#[]⟩) (.bool false) 27
    rw [hW1] at hb1 ⊢
    have H1 := Hid_mk (H.out.no hk1)
    obtain ⟨hn1, hn2⟩ := H.out.old (Nat.le_refl _)
    have hn3 : w0.heap.size ≤ w.heap.size := H.out.kp.size
    obtain ⟨Q1, hQ1⟩ : ∃ Q1, w.heap.size = Q1 := ⟨_, rfl⟩
    rw [hQ1] at hb1 hn1 hn2 hn3 ⊢
    have hc1 := hk1.cell' c1 id
    obtain ⟨a0, a1, a2, af⟩ := hb1
    have HN := Hid_mk (And.intro hn1 (And.intro hn2 hn3))
    have HK := Hid_mk (hk1.to (S := fun k => k = q))
    have HQ := Hid_mk (show ¬ Q1 < w.heap.size by omega)
    clear hW1 c1 hw hk1 hz1 hn1 hn2 hn3 H hQ1 hq
    go_wp2
    refine bodyPost_ret (v := arV noAr) ?_ rfl ⟨rfl, _, ((H1.out.aside Q1 0 HN.out.1 HN.out.2.1 HN.out.2.2 _).aside Q1 1 HN.out.1 HN.out.2.1 HN.out.2.2 _).aside Q1 2 HN.out.1 HN.out.2.1 HN.out.2.2 _, HA.out, ((HK.out.setCell (p := ⟨Q1, 0, none⟩) (fun e => absurd e HQ.out) _).setCell (p := ⟨Q1, 1, none⟩) (fun e => absurd e HQ.out) _).setCell (p := ⟨Q1, 2, none⟩) (fun e => absurd e HQ.out) _⟩
    simp [results, Tryz.results12, go_sem, a0, a1, a2, arV, noAr, st]
  | cons x ars =>
    obtain ⟨a, c, rfl, hc1, hc2, hc3⟩ := ha
    obtain ⟨g, k, rfl, d0, d1, d2⟩ := hc3 0 (by simp)
    have HC3 := Hid_mk hc3
    simp only [Nat.mul_zero, Nat.add_zero, List.getElem_cons_zero] at d0 d1 d2
    obtain ⟨n, s, b⟩ := x
    have e0 := h.kp.cell' d0 id
    have e1 := h.kp.cell' d1 id
    have e2 := h.kp.cell' d2 id
    simp only at e0 e1 e2
    have HG : Hid (g < w0.heap.size ∧ g < w.heap.size) := Hid_mk ⟨World.block_lt_of_cell? w0 _ d0, World.block_lt_of_cell? w _ e0⟩
    have hgq : g ≠ q := by
      have := HG.out.1
      have := h.ge
      omega
    obtain ⟨N, hN⟩ : ∃ N, ars.length = N := ⟨_, rfl⟩
    have HN := Hid_mk hN
    simp only [List.length_cons, hN] at c1 hc1 H
    have hN0 : (0 : Int) ≤ (N : Int) := Int.natCast_nonneg _
    have hcc : (c : Int) ≤ 140737488355327 := by omega
    have hNc : (N : Int) + 1 ≤ (c : Int) := by omega
    clear h d0 d1 d2 hN hc3 hc1 hc2
    go_enter Tryz.func12, Tryz.ntmps12
    go_upto_region 1 with fail
    obtain ⟨W1, hW1, hk1, hz1⟩ := named_alloc w (.cells #[.float .f64 0, .string ⟨#[]⟩, .bool false] 27)
    have hb1 := B3.new w (.float .f64 0) (.string ⟨#[]⟩) (.bool false) 27
    rw [hW1] at hb1 ⊢
    have H1 := Hid_mk (H.out.no hk1)
    obtain ⟨hn1, hn2⟩ := H.out.old (Nat.le_refl _)
    have hn3 : w0.heap.size ≤ w.heap.size := H.out.kp.size
    obtain ⟨Q1, hQ1⟩ : ∃ Q1, w.heap.size = Q1 := ⟨_, rfl⟩
    rw [hQ1] at hb1 hn1 hn2 hn3 hz1 hq HG ⊢
    have HN1 := Hid_mk (And.intro hn1 (And.intro hn2 hn3))
    have HB1 := Hid_mk hb1
    have hc1 := hk1.cell' c1 id
    have he0 := hk1.cell' e0 id
    have he1 := hk1.cell' e1 id
    have he2 := hk1.cell' e2 id
    have HZ1 := Hid_mk hz1
    have HQ1 := Hid_mk hq
    have HKa := Hid_mk (hk1.to (S := fun k => k = q))
    have HQ := Hid_mk (show ¬ Q1 < w.heap.size by omega)
    clear hW1 c1 hw hk1 hz1 hn1 hn2 hn3 H hQ1 e0 e1 e2 hb1 hq
    go_upto_region 4 with fail
    obtain ⟨W2, hW2, hk2, hz2⟩ := named_alloc W1 (.cells #[.float .f64 n, .string (st s), .bool b] 27)
    have hb2 := B3.new W1 (.float .f64 n) (.string (st s)) (.bool b) 27
    rw [hW2] at hb2 ⊢
    have H2 := Hid_mk (H1.out.no hk2)
    obtain ⟨Q2, hQ2⟩ : ∃ Q2, W1.heap.size = Q2 := ⟨_, rfl⟩
    rw [hQ2] at hb2 HZ1 ⊢
    obtain ⟨i0, i1, i2, iff⟩ := hb2
    obtain ⟨a0, a1, a2, af⟩ := HB1.out.no hk2
    have hc2 := hk2.cell' hc1 id
    have hw2 := H2.out.warm
    have hne1 : Q2 ≠ q := by have := HQ1.out; have := HZ1.out; omega
    have hne2 : Q2 ≠ Q1 := by have := HZ1.out; omega
    have HKb := Hid_mk (HKa.out.trans' (hk2.to (S := fun k => k = q)))
    have hne3 : q ≠ Q1 := HN1.out.1
    clear hW2 hc1 hk2 hz2 HB1 H1 hQ2 he0 he1 he2 hgq HG
    have HT : Hid (∀ j (h : j < ars.length), ∃ g' o', some (⟨g, k + 3, none⟩ : Addr) = some ⟨g', o', none⟩ ∧
        w0.cell? ⟨g', o' + 3 * j, none⟩ = some (.float .f64 (ars[j]).n) ∧ w0.cell? ⟨g', o' + 3 * j + 1, none⟩ = some (.string (st (ars[j]).s)) ∧ w0.cell? ⟨g', o' + 3 * j + 2, none⟩ = some (.bool (ars[j]).num)) := Hid_mk fun j hj => by
      obtain ⟨g', o', e, r0, r1, r2⟩ := HC3.out (j + 1) (by simpa using hj)
      cases e
      refine ⟨g, k + 3, rfl, ?_⟩
      rw [show k + 3 + 3 * j = k + 3 * (j + 1) by omega]
      exact ⟨by simpa using r0, by simpa using r1, by simpa using r2⟩
    clear HC3
    go_wp2
    all_goals (refine bodyPost_ret (v := arV ⟨n, s, b⟩) ?_ rfl ⟨rfl, _, (((H2.out.args _).aside Q1 0 HN1.out.1 HN1.out.2.1 HN1.out.2.2 _).aside Q1 1 HN1.out.1 HN1.out.2.1 HN1.out.2.2 _).aside Q1 2 HN1.out.1 HN1.out.2.1 HN1.out.2.2 _, ?_, (((HKb.out.setCell (p := ⟨q, 1, none⟩) (fun _ => rfl) _).setCell (p := ⟨Q1, 0, none⟩) (fun e => absurd e HQ.out) _).setCell (p := ⟨Q1, 1, none⟩) (fun e => absurd e HQ.out) _).setCell (p := ⟨Q1, 2, none⟩) (fun e => absurd e HQ.out) _⟩)
    all_goals first
      | (simp [results, Tryz.results12, go_sem, a0, a1, a2, arV, hne3.symm, hne3]; done)
      | exact ⟨_, _, by rw [List.tail_cons, HN.out], by rw [List.tail_cons, HN.out]; omega, by omega, fun j hj => absurd hj (by rw [List.tail_cons, HN.out]; omega)⟩
      | exact ⟨_, _, by rw [List.tail_cons, HN.out], by rw [List.tail_cons, HN.out]; omega, by omega, HT.out⟩

end Go.Proofs.YtannbdbhkhmppaaGreatDoor.pf
