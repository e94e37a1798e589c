/- Batches whose marks are whole numbers: wal.Right, wal.Lay. -/
import Derived.Test.YteekcbbdbciddaaGreatDoorMarkBytes
import Derived.Test.YteekcbbdbciddaaGreatDoorClone2

namespace Go.Proofs.YteekcbbdbciddaaGreatDoor.wal
open Go.RowKit Go.Proofs.YteekcbbdbciddaaGreatDoor.fl Go.Proofs.YteekcbbdbciddaaGreatDoor.sum Go.Proofs.YteekcbbdbciddaaGreatDoor.kept Go.Proofs.YteekcbbdbciddaaGreatDoor.app Go.Proofs.YteekcbbdbciddaaGreatDoor.writer Go.Proofs.YteekcbbdbciddaaGreatDoor.clone Go.Proofs.YteekcbbdbciddaaGreatDoor.known Go.Proofs.YteekcbbdbciddaaGreatDoor.mrk
set_option linter.unusedVariables false

structure Bt where
  epoch : Nat
  time : Nat
  a : Nat
  b : Nat
  c : Nat
  d : Nat
  gap : Bool
  stop : Bool
  bytes : List UInt8

/-- a batch as a value; vb: its bytes' slice -/
def bval (x : Bt) (vb : Value) : Value := .agg #[.int .u64 (x.epoch : Int), .int .u64 (x.time : Int), C (x.a : Int) (x.b : Int), C (x.c : Int) (x.d : Int), .bool x.gap, vb, .bool x.stop]

structure BtOk (x : Bt) : Prop where
  e0 : 1 ≤ x.epoch
  e1 : x.epoch ≤ 1099511627776
  t : x.time ≤ 1099511627776
  a : x.a ≤ 1099511627776
  b : x.b ≤ 1099511627776
  c : x.c ≤ 1099511627776
  d : x.d ≤ 1099511627776
  on : ¬ (x.c < x.a ∨ x.c = x.a ∧ x.d < x.b)
  n : x.bytes.length ≤ 512

set_option maxRecDepth 100000 in
set_option maxHeartbeats 2000000 in
theorem right_ok (x : Bt) (vb : Value) (w : World) (h : BtOk x) (hb : Bs w vb x.bytes) :
    Calls Tryz.prog 14 #[bval x vb] w fun e w' => e = .returned (.bool true) ∧ Kp No w w' := by
  obtain ⟨e0, e1, ht, ha, hbb, hc, hd, hon, hn⟩ := h
  have R1 : ∀ w, Calls Tryz.prog 28 #[C (x.a : Int) (x.b : Int)] w fun e w' => e = .returned (.bool true) ∧ w = w' := fun w => by
    have := right_any (x.a : Int) (x.b : Int) (by unfold Fit; omega) (by unfold Fit; omega) w
    rwa [decide_eq_true (by unfold mw; omega)] at this
  have R2 : ∀ w, Calls Tryz.prog 28 #[C (x.c : Int) (x.d : Int)] w fun e w' => e = .returned (.bool true) ∧ w = w' := fun w => by
    have := right_any (x.c : Int) (x.d : Int) (by unfold Fit; omega) (by unfold Fit; omega) w
    rwa [decide_eq_true (by unfold mw; omega)] at this
  have L : ∀ w, Calls Tryz.prog 29 #[C (x.c : Int) (x.d : Int), C (x.a : Int) (x.b : Int)] w fun e w' => e = .returned (.bool false) ∧ w = w' := fun w => by
    have := less_any (x.c : Int) (x.d : Int) (x.a : Int) (x.b : Int) (by unfold Is mw; omega) (by unfold Is mw; omega) (by unfold Is mw; omega) (by unfold Is mw; omega) w
    rwa [decide_eq_false (by omega)] at this
  have HR1 := Hid_mk R1
  have HR2 := Hid_mk R2
  have HL := Hid_mk L
  obtain ⟨av, cap, rfl, -, -, -⟩ := hb
  have g1 : (1 : Int) ≤ (x.epoch : Int) := by omega
  have g2 : (x.epoch : Int) ≤ 1099511627776 := by omega
  have g3 : (x.time : Int) ≤ 1099511627776 := by omega
  have g4 : (x.bytes.length : Int) ≤ 512 := by omega
  unfold bval
  clear R1 R2 L e0 e1 ht ha hbb hc hd hon hn
  generalize C (x.a : Int) (x.b : Int) = m1 at *
  generalize C (x.c : Int) (x.d : Int) = m2 at *
  go_enter Tryz.func14, Tryz.ntmps14
  go_wp2_with (first
    | (go_at_call 28; with_reducible refine (HR1.out _).mono ?_; rintro e w' ⟨rfl, rfl⟩)
    | (go_at_call 28; with_reducible refine (HR2.out _).mono ?_; rintro e w' ⟨rfl, rfl⟩)
    | (go_at_call 29; with_reducible refine (HL.out _).mono ?_; rintro e w' ⟨rfl, rfl⟩))
  go_ret
  exact ⟨rfl, (Kp.refl No w).alloc _⟩

def flagOf (x : Bt) : Nat := (if x.gap then 1 else 0) + (if x.stop then 2 else 0)

set_option maxRecDepth 100000 in
set_option maxHeartbeats 2000000 in
theorem flags_any (x : Bt) (vb : Value) (w : World) :
    Calls Tryz.prog 46 #[bval x vb] w fun e w' => e = .returned (.int .u8 (flagOf x : Int)) ∧ Kp No w w' := by
  have q1 : bits .or .u8 0 1 = 1 := by decide +kernel
  have q2 : bits .or .u8 0 2 = 2 := by decide +kernel
  have q3 : bits .or .u8 1 2 = 3 := by decide +kernel
  unfold bval flagOf
  generalize C (x.a : Int) (x.b : Int) = m1 at *
  generalize C (x.c : Int) (x.d : Int) = m2 at *
  generalize x.gap = g at *
  generalize x.stop = s at *
  cases g <;> cases s
  all_goals
    go_enter Tryz.func46, Tryz.ntmps46
    go_wp2
    go_ret
    exact ⟨rfl, (Kp.refl No w).alloc _⟩

def laid (x : Bt) : List UInt8 := num x.epoch ++ (num x.time ++ ((num x.a ++ num x.b) ++ ((num x.c ++ num x.d) ++ ([(flagOf x).toUInt8] ++ (num x.bytes.length ++ x.bytes)))))

/-- a Writer that is new since w0 -/
theorem wr_step {w0 w w' : World} {base p : Nat} {v : Value} {bs cs : List UInt8} {e : Ending} (hb : w0.heap.size ≤ base) (hp : w0.heap.size ≤ p) (hw : Wr base w p v bs) (hk : Kp No w0 w) (h : WrPost base p v cs w e w') :
    e = .returned (.tuple #[]) ∧ ∃ v', Wr base w' p v' cs ∧ Kp No w0 w' := by
  obtain ⟨he, v', h1, h2, h3⟩ := h
  refine ⟨he, v', h1, hk.trans h2 fun i hi hs => ?_⟩
  rcases hs with rfl | hs
  · omega
  · have := (hw.owns.lt i hs.symm).1
    omega

theorem num_le (n : Nat) (hn : n ≤ 1099511627776) : (num n).length ≤ 6 := num_len n 6 (by omega) (by omega)
theorem laid_len (x : Bt) (h : BtOk x) : (laid x).length ≤ 563 := by
  have h1 := num_le _ h.e1
  have h2 := num_le _ h.t
  have h3 := num_le _ h.a
  have h4 := num_le _ h.b
  have h5 := num_le _ h.c
  have h6 := num_le _ h.d
  have h7 := num_len x.bytes.length 2 (by have := h.n; omega) (by omega)
  have h8 := h.n
  simp only [laid, List.length_append, List.length_singleton]
  omega

/-- a batch that lies at block q -/
structure Box (w : World) (q : Nat) (x : Bt) (vb : Value) : Prop where
  c0 : w.cell? ⟨q, 0, none⟩ = some (.int .u64 (x.epoch : Int))
  c1 : w.cell? ⟨q, 1, none⟩ = some (.int .u64 (x.time : Int))
  c2 : w.cell? ⟨q, 2, none⟩ = some (C (x.a : Int) (x.b : Int))
  c3 : w.cell? ⟨q, 3, none⟩ = some (C (x.c : Int) (x.d : Int))
  c4 : w.cell? ⟨q, 4, none⟩ = some (.bool x.gap)
  c5 : w.cell? ⟨q, 5, none⟩ = some vb
  c6 : w.cell? ⟨q, 6, none⟩ = some (.bool x.stop)
def boxObj (x : Bt) (vb : Value) : Obj := Obj.cells #[.int .u64 (x.epoch : Int), .int .u64 (x.time : Int), C (x.a : Int) (x.b : Int), C (x.c : Int) (x.d : Int), .bool x.gap, vb, .bool x.stop] 36
theorem Box.new (w : World) (x : Bt) (vb : Value) : Box (w.alloc (boxObj x vb)) w.heap.size x vb := by
  constructor <;> (unfold boxObj; rw [World.cell?_alloc_mark]; simp)
theorem Box.kept {S : Nat → Prop} {w w' : World} {q : Nat} {x : Bt} {vb : Value} (h : Box w q x vb) (hk : Kp S w w') (hs : ¬ S q) : Box w' q x vb :=
  ⟨hk.cell' h.c0 hs, hk.cell' h.c1 hs, hk.cell' h.c2 hs, hk.cell' h.c3 hs, hk.cell' h.c4 hs, hk.cell' h.c5 hs, hk.cell' h.c6 hs⟩
theorem Box.no {w w' : World} {q : Nat} {x : Bt} {vb : Value} (h : Box w q x vb) (hk : Kp No w w') : Box w' q x vb := h.kept hk id

set_option maxRecDepth 100000 in
set_option maxHeartbeats 4000000 in
theorem lay_ok (x : Bt) (vb : Value) (w : World) (h : BtOk x) (hb : Bs w vb x.bytes) :
    Calls Tryz.prog 22 #[bval x vb] w fun e w' => ∃ v', e = .returned (.tuple #[v', .int .i64 0]) ∧ w'.ownsRow w.heap.size 5 1 v' (laid x).length ((laid x).map B) ∧ Kp No w w' := by
  have HO := Hid_mk h
  have HF := Hid_mk fun w => flags_any x vb w
  have h0 : Kp No w (w.alloc (boxObj x vb)) := (Kp.refl No w).alloc _
  have hr := right_ok x vb _ h (bs_no hb h0)
  have hbox := Box.new w x vb
  have hb1 := bs_no hb h0
  obtain ⟨av, cap, rfl, -, -, -⟩ := id hb
  have HU := Hid_mk u64_eq
  have HL := Hid_mk (laid_len x h)
  have hq : w.heap.size < (w.alloc (boxObj x (.slice av x.bytes.length cap))).heap.size := by simp
  clear h hb
  unfold bval at hr HF ⊢
  go_enter Tryz.func22, Tryz.ntmps22
  go_wp2_with fail
  obtain ⟨wb, hwb⟩ : ∃ wb, wb = w.alloc (boxObj x (.slice av x.bytes.length cap)) := ⟨_, rfl⟩
  have hwb' : wb = w.alloc (Obj.cells #[.int .u64 (x.epoch : Int), .int .u64 (x.time : Int), C (x.a : Int) (x.b : Int), C (x.c : Int) (x.d : Int), .bool x.gap, .slice av x.bytes.length cap, .bool x.stop] 36) := hwb
  rw [← hwb'] at ⊢
  rw [← hwb] at hr hbox hb1 h0 hq
  clear hwb hwb'
  obtain ⟨q, hq0⟩ : ∃ q, q = w.heap.size := ⟨_, rfl⟩
  rw [← hq0] at hbox hq ⊢
  have HQ := Hid_mk hq0
  have HBox := Hid_mk hbox
  have HB := Hid_mk hb1
  have H0 := Hid_mk h0
  have HQL := Hid_mk hq
  clear hbox hb1 h0 hq0 hq
  with_reducible refine hr.mono ?_
  rintro e w1 ⟨rfl, hk1⟩
  have HK1 := Hid_mk hk1
  clear hk1 hr
  go_wp2_with fail
  refine (writer.new_any w1).mono ?_
  rintro e w2 ⟨rfl, hw2, hk2⟩
  have hp := HK1.out.size
  obtain ⟨p, hpe⟩ : ∃ p, p = w1.heap.size := ⟨_, rfl⟩
  rw [← hpe] at hw2 hp ⊢
  have HP := Hid_mk hp
  have HW := Hid_mk hw2
  have HK := Hid_mk (HK1.out.trans' hk2)
  clear hw2 hk2 hpe hp
  have c := (HBox.out.no HK.out).c0
  go_wp2_with fail
  refine (writer.num_any p p _ _ _ x.epoch (by have := HO.out.e1; rw [HU.out]; omega) HW.out (by simp)).mono ?_
  rintro e w3 hpost
  obtain ⟨rfl, v3, hw3, hk3⟩ := wr_step HP.out HP.out HW.out HK.out hpost
  have HW := Hid_mk hw3
  have HK := Hid_mk hk3
  clear hw3 hk3 hpost c
  have c := (HBox.out.no HK.out).c1
  go_wp2_with fail
  refine (writer.num_any p p _ _ _ x.time (by have := HO.out.t; rw [HU.out]; omega) HW.out (by have := HL.out; simp [laid] at this ⊢; omega)).mono ?_
  rintro e w4 hpost
  obtain ⟨rfl, v4, hw4, hk4⟩ := wr_step HP.out HP.out HW.out HK.out hpost
  have HW := Hid_mk hw4
  have HK := Hid_mk hk4
  clear hw4 hk4 hpost c
  have c := (HBox.out.no HK.out).c2
  go_wp2_with fail
  refine (mrk.lay_any p p _ _ _ x.a x.b HO.out.a HO.out.b HW.out (by have := HL.out; simp [laid] at this ⊢; omega)).mono ?_
  rintro e w5 hpost
  obtain ⟨rfl, v5, hw5, hk5⟩ := wr_step HP.out HP.out HW.out HK.out hpost
  have HW := Hid_mk hw5
  have HK := Hid_mk hk5
  clear hw5 hk5 hpost c
  have c := (HBox.out.no HK.out).c3
  go_wp2_with fail
  refine (mrk.lay_any p p _ _ _ x.c x.d HO.out.c HO.out.d HW.out (by have := HL.out; simp [laid] at this ⊢; omega)).mono ?_
  rintro e w6 hpost
  obtain ⟨rfl, v6, hw6, hk6⟩ := wr_step HP.out HP.out HW.out HK.out hpost
  have HW := Hid_mk hw6
  have HK := Hid_mk hk6
  clear hw6 hk6 hpost c
  have c0 := (HBox.out.no HK.out).c0
  have c1 := (HBox.out.no HK.out).c1
  have c2 := (HBox.out.no HK.out).c2
  have c3 := (HBox.out.no HK.out).c3
  have c4 := (HBox.out.no HK.out).c4
  have c5 := (HBox.out.no HK.out).c5
  have c6 := (HBox.out.no HK.out).c6
  go_wp2_with fail
  refine (HF.out _).mono ?_
  rintro e w7 ⟨rfl, hk7⟩
  clear c0 c1 c2 c3 c4 c5 c6
  have HW := Hid_mk (HW.out.kept hk7 id fun _ _ => id)
  have HK := Hid_mk (HK.out.trans' hk7)
  clear hk7
  go_wp2_with fail
  refine (writer.byte_nat p p _ _ _ (flagOf x) (by unfold flagOf; split <;> split <;> omega) HW.out (by have := HL.out; simp [laid] at this ⊢; omega)).mono ?_
  rintro e w8 hpost
  obtain ⟨rfl, v8, hw8, hk8⟩ := wr_step HP.out HP.out HW.out HK.out hpost
  have HW := Hid_mk hw8
  have HK := Hid_mk hk8
  clear hw8 hk8 hpost
  have c := (HBox.out.no HK.out).c5
  have hcv := conv_bs (bs_no HB.out HK.out)
  go_wp2_with fail
  refine (clone.text_any p p _ _ _ _ HW.out (by have := HL.out; have e : (⟨x.bytes.toArray⟩ : ByteArray).size = x.bytes.length := rfl; rw [e]; simp [laid] at this ⊢; omega)).mono ?_
  rintro e w9 hpost
  have hacc : [] ++ num x.epoch ++ num x.time ++ (num x.a ++ num x.b) ++ (num x.c ++ num x.d) ++ [(flagOf x).toUInt8] ++ (num (⟨x.bytes.toArray⟩ : ByteArray).size ++ (⟨x.bytes.toArray⟩ : ByteArray).data.toList) = laid x := by
    have e : (⟨x.bytes.toArray⟩ : ByteArray).size = x.bytes.length := rfl
    rw [e]; simp [laid]
  rw [hacc] at hpost
  clear hacc
  obtain ⟨rfl, v9, hw9, hk9⟩ := wr_step HP.out HP.out HW.out HK.out hpost
  have HW := Hid_mk hw9
  have HK := Hid_mk hk9
  clear hw9 hk9 hpost c hcv
  go_wp2_with fail
  refine (clone.bytes_any p p _ _ _ HW.out (by have := HL.out; omega)).mono ?_
  rintro e w10 ⟨v10, rfl, ho, hk10⟩
  have HK9 := Hid_mk (show wb.heap.size ≤ w9.heap.size from HK.out.size)
  have HO10 := Hid_mk ho
  have HK := Hid_mk (H0.out.trans' (HK.out.trans' hk10))
  clear ho hk10
  have hfin : w10.ownsRow w.heap.size 5 1 v10 (laid x).length ((laid x).map B) := owns_base HO10.out (by have := HQL.out; have := HQ.out; have := HP.out; have := HK.out.size; have := HK9.out; omega)
  have HFin := Hid_mk hfin
  clear hfin
  go_wp2
  go_ret2
  exact ⟨v10, rfl, HFin.out, HK.out⟩

end Go.Proofs.YteekcbbdbciddaaGreatDoor.wal
