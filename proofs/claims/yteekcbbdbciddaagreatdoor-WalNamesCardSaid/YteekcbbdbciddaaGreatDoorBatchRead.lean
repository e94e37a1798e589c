/- wal.Read of what was laid. -/
import Derived.Test.YteekcbbdbciddaaGreatDoorBatch
import Derived.Test.YteekcbbdbciddaaGreatDoorBackNum
import Derived.Test.YteekcbbdbciddaaGreatDoorHexM

namespace Go.Proofs.YteekcbbdbciddaaGreatDoor.wal
open Go.RowKit Go.Proofs.YteekcbbdbciddaaGreatDoor.fl Go.Proofs.YteekcbbdbciddaaGreatDoor.sum Go.Proofs.YteekcbbdbciddaaGreatDoor.kept Go.Proofs.YteekcbbdbciddaaGreatDoor.app Go.Proofs.YteekcbbdbciddaaGreatDoor.writer Go.Proofs.YteekcbbdbciddaaGreatDoor.clone Go.Proofs.YteekcbbdbciddaaGreatDoor.known Go.Proofs.YteekcbbdbciddaaGreatDoor.mrk Go.Proofs.YteekcbbdbciddaaGreatDoor.reader Go.Proofs.YteekcbbdbciddaaGreatDoor.back
set_option linter.unusedVariables false

def zeroB : Bt := ⟨0, 0, 0, 0, 0, 0, false, false, []⟩
theorem c_zero : Value.complex .f64 0 0 = C ((0 : Nat) : Int) ((0 : Nat) : Int) := by unfold C; rw [show ((0 : Nat) : Int) = 0 from rfl, mrk.zero_word]

/-- a batch at block q that can be written -/
structure BoxW (w : World) (q : Nat) (x : Bt) (vb : Value) : Prop where
  box : Box w q x vb
  warm : ∀ o, w.frozen? ⟨q, o, none⟩ = false
theorem BoxW.kept {S : Nat → Prop} {w w' : World} {q : Nat} {x : Bt} {vb : Value} (h : BoxW w q x vb) (hk : Kp S w w') (hs : ¬ S q) : BoxW w' q x vb :=
  ⟨h.box.kept hk hs, fun o => (hk.frozen (p := ⟨q, o, none⟩) (show q < w.heap.size from World.block_lt_of_cell? w ⟨q, 0, none⟩ h.box.c0) hs).trans (h.warm o)⟩
theorem cell_off {w : World} {q o o' : Nat} {u v : Value} (h : w.cell? ⟨q, o, none⟩ = some v) (hne : o ≠ o') : (w.setCell ⟨q, o', none⟩ u).cell? ⟨q, o, none⟩ = some v :=
  (World.cell?_setCell_other w _ _ u (fun e => by injection e with _ e2 _; omega)).trans h
theorem BoxW.set0 {w : World} {q : Nat} {x : Bt} {vb : Value} (h : BoxW w q x vb) (n : Nat) : BoxW (w.setCell ⟨q, 0, none⟩ (.int .u64 (n : Int))) q { x with epoch := n } vb :=
  ⟨⟨World.cell?_setCell_same w _ _ h.box.c0, cell_off h.box.c1 (by omega), cell_off h.box.c2 (by omega), cell_off h.box.c3 (by omega), cell_off h.box.c4 (by omega), cell_off h.box.c5 (by omega), cell_off h.box.c6 (by omega)⟩, fun o => by rw [World.frozen?_setCell]; exact h.warm o⟩
theorem BoxW.set1 {w : World} {q : Nat} {x : Bt} {vb : Value} (h : BoxW w q x vb) (n : Nat) : BoxW (w.setCell ⟨q, 1, none⟩ (.int .u64 (n : Int))) q { x with time := n } vb :=
  ⟨⟨cell_off h.box.c0 (by omega), World.cell?_setCell_same w _ _ h.box.c1, cell_off h.box.c2 (by omega), cell_off h.box.c3 (by omega), cell_off h.box.c4 (by omega), cell_off h.box.c5 (by omega), cell_off h.box.c6 (by omega)⟩, fun o => by rw [World.frozen?_setCell]; exact h.warm o⟩
theorem BoxW.set2 {w : World} {q : Nat} {x : Bt} {vb : Value} (h : BoxW w q x vb) (n m : Nat) : BoxW (w.setCell ⟨q, 2, none⟩ (C (n : Int) (m : Int))) q { x with a := n, b := m } vb :=
  ⟨⟨cell_off h.box.c0 (by omega), cell_off h.box.c1 (by omega), World.cell?_setCell_same w _ _ h.box.c2, cell_off h.box.c3 (by omega), cell_off h.box.c4 (by omega), cell_off h.box.c5 (by omega), cell_off h.box.c6 (by omega)⟩, fun o => by rw [World.frozen?_setCell]; exact h.warm o⟩
theorem BoxW.set3 {w : World} {q : Nat} {x : Bt} {vb : Value} (h : BoxW w q x vb) (n m : Nat) : BoxW (w.setCell ⟨q, 3, none⟩ (C (n : Int) (m : Int))) q { x with c := n, d := m } vb :=
  ⟨⟨cell_off h.box.c0 (by omega), cell_off h.box.c1 (by omega), cell_off h.box.c2 (by omega), World.cell?_setCell_same w _ _ h.box.c3, cell_off h.box.c4 (by omega), cell_off h.box.c5 (by omega), cell_off h.box.c6 (by omega)⟩, fun o => by rw [World.frozen?_setCell]; exact h.warm o⟩
theorem BoxW.set4 {w : World} {q : Nat} {x : Bt} {vb : Value} (h : BoxW w q x vb) (g : Bool) : BoxW (w.setCell ⟨q, 4, none⟩ (.bool g)) q { x with gap := g } vb :=
  ⟨⟨cell_off h.box.c0 (by omega), cell_off h.box.c1 (by omega), cell_off h.box.c2 (by omega), cell_off h.box.c3 (by omega), World.cell?_setCell_same w _ _ h.box.c4, cell_off h.box.c5 (by omega), cell_off h.box.c6 (by omega)⟩, fun o => by rw [World.frozen?_setCell]; exact h.warm o⟩
theorem BoxW.set5 {w : World} {q : Nat} {x : Bt} {vb : Value} (h : BoxW w q x vb) (vb' : Value) (l : List UInt8) : BoxW (w.setCell ⟨q, 5, none⟩ vb') q { x with bytes := l } vb' :=
  ⟨⟨cell_off h.box.c0 (by omega), cell_off h.box.c1 (by omega), cell_off h.box.c2 (by omega), cell_off h.box.c3 (by omega), cell_off h.box.c4 (by omega), World.cell?_setCell_same w _ _ h.box.c5, cell_off h.box.c6 (by omega)⟩, fun o => by rw [World.frozen?_setCell]; exact h.warm o⟩
theorem BoxW.set6 {w : World} {q : Nat} {x : Bt} {vb : Value} (h : BoxW w q x vb) (g : Bool) : BoxW (w.setCell ⟨q, 6, none⟩ (.bool g)) q { x with stop := g } vb :=
  ⟨⟨cell_off h.box.c0 (by omega), cell_off h.box.c1 (by omega), cell_off h.box.c2 (by omega), cell_off h.box.c3 (by omega), cell_off h.box.c4 (by omega), cell_off h.box.c5 (by omega), World.cell?_setCell_same w _ _ h.box.c6⟩, fun o => by rw [World.frozen?_setCell]; exact h.warm o⟩
theorem BoxW.zero (w : World) : BoxW (w.alloc (Obj.cells #[.int .u64 0, .int .u64 0, .complex .f64 0 0, .complex .f64 0 0, .bool false, .slice none 0 0, .bool false] 36)) w.heap.size zeroB (.slice none 0 0) := by
  rw [c_zero]
  exact ⟨Box.new w zeroB (.slice none 0 0), fun o => by simp⟩

/-- in the midst of Read: the Reader at p, the batch at q, the result at q0 -/
structure St (w W : World) (p q q0 : Nat) (v1 : Value) (bs : List UInt8) (at_ : Nat) (y : Bt) (vb : Value) : Prop where
  rd : Rd W p v1 bs at_ 0
  box : BoxW W q y vb
  res : BoxW W q0 zeroB (.slice none 0 0)
  pq : p ≠ q
  pr : p ≠ q0
  qr : q ≠ q0
  vq : ∀ b o n c, v1 = .slice (some ⟨b, o, none⟩) n c → b ≠ q
  lp : w.heap.size ≤ p
  lq : w.heap.size ≤ q
  lr : w.heap.size ≤ q0
  kp : Kp No w W
theorem St.call {w W W' : World} {p q q0 : Nat} {v1 : Value} {bs : List UInt8} {at_ at' : Nat} {y : Bt} {vb : Value} (h : St w W p q q0 v1 bs at_ y vb) (hR : Rd W' p v1 bs at' 0) (hK : Kp (fun k => k = p) W W') : St w W' p q q0 v1 bs at' y vb :=
  ⟨hR, h.box.kept hK (fun e => h.pq e.symm), h.res.kept hK (fun e => h.pr e.symm), h.pq, h.pr, h.qr, h.vq, h.lp, h.lq, h.lr, h.kp.trans hK fun i hi e => by have := h.lp; omega⟩
theorem St.no {w W W' : World} {p q q0 : Nat} {v1 : Value} {bs : List UInt8} {at_ : Nat} {y : Bt} {vb : Value} (h : St w W p q q0 v1 bs at_ y vb) (hK : Kp No W W') : St w W' p q q0 v1 bs at_ y vb :=
  ⟨h.rd.kept hK id fun _ _ _ _ _ => id, h.box.kept hK id, h.res.kept hK id, h.pq, h.pr, h.qr, h.vq, h.lp, h.lq, h.lr, h.kp.trans' hK⟩
theorem St.set {w W : World} {p q q0 : Nat} {v1 : Value} {bs : List UInt8} {at_ o : Nat} {u : Value} {y y' : Bt} {vb vb' : Value} (h : St w W p q q0 v1 bs at_ y vb) (hb : BoxW (W.setCell ⟨q, o, none⟩ u) q y' vb') : St w (W.setCell ⟨q, o, none⟩ u) p q q0 v1 bs at_ y' vb' := by
  have hk : Kp (fun k => k = q) W (W.setCell ⟨q, o, none⟩ u) := (Kp.refl (fun k => k = q) W).setCell (fun _ => rfl) _
  exact ⟨h.rd.kept hk h.pq fun b o n c e => h.vq b o n c e, hb, h.res.kept hk (fun e => h.qr e.symm), h.pq, h.pr, h.qr, h.vq, h.lp, h.lq, h.lr, h.kp.trans hk fun i hi e => by have := h.lq; omega⟩

theorem store_cell (w : World) (b o : Nat) (v u : Value) (h1 : v.oneCell' = true) (hc : w.cell? ⟨b, o, none⟩ = some u) (hf : w.frozen? ⟨b, o, none⟩ = false) : (storeCells ⟨b, o, none⟩ [v]).run Tryz.prog w = .ok () (w.setCell ⟨b, o, none⟩ v) := by
  have hst := run_store Tryz.prog w ⟨b, o, none⟩ v .plain h1
  rw [hc] at hst
  simp only [hf] at hst
  have e0 : (⟨b, o, none⟩ : Addr).add 0 = ⟨b, o, none⟩ := by simp [Addr.add]
  simp [storeCells, e0, hst]

theorem store_at (w : World) (b o : Nat) (v u : Value) (h1 : v.oneCell' = true) (hc : w.cell? ⟨b, o, none⟩ = some u) (hf : w.frozen? ⟨b, o, none⟩ = false) : (store ⟨b, o, none⟩ v).run Tryz.prog w = .ok () (w.setCell ⟨b, o, none⟩ v) := by
  have hst := run_store Tryz.prog w ⟨b, o, none⟩ v .plain h1
  rw [hc] at hst
  simp only [hf] at hst
  exact hst

theorem flag1 (x : Bt) : (bits .and .u8 (flagOf x : Int) 1 != 0) = x.gap := by
  unfold flagOf; generalize x.gap = g; generalize x.stop = s; revert g s; decide +kernel
theorem flag2 (x : Bt) : (bits .and .u8 (flagOf x : Int) 2 != 0) = x.stop := by
  unfold flagOf; generalize x.gap = g; generalize x.stop = s; revert g s; decide +kernel

def ReadPost (w : World) (x : Bt) (e : Ending) (w' : World) : Prop := ∃ vb, e = .returned (.tuple #[bval x vb, .int .i64 0]) ∧ Bs w' vb x.bytes ∧ (∀ b o n c, vb = .slice (some ⟨b, o, none⟩) n c → w.heap.size ≤ b) ∧ Kp No w w'

set_option maxRecDepth 100000 in
set_option maxHeartbeats 4000000 in
theorem read_ok (x : Bt) (v : Value) (w : World) (h : BtOk x) (hb : Bs w v (laid x)) :
    Calls Tryz.prog 69 #[v] w (ReadPost w x) := by
  have HO := Hid_mk h
  have hl := laid_len x h
  have hl' : ((laid x).length : Int) ≤ 576 := by omega
  have HB := Hid_mk hb
  have HL := Hid_mk hl
  obtain ⟨av, cap, rfl, -, -, -⟩ := id hb
  clear h hb hl
  go_enter Tryz.func69, Tryz.ntmps69
  go_wp2_with fail
  have h0 : Kp No w (w.alloc (Obj.cells #[.int .u64 0, .int .u64 0, .complex .f64 0 0, .complex .f64 0 0, .bool false, .slice none 0 0, .bool false] 36)) := (Kp.refl No w).alloc _
  have hz := BoxW.zero w
  refine (reader.new_any _ _ _ (bs_no HB.out h0) (by have := HL.out; omega)).mono ?_
  rintro e w1 ⟨p, v1, rfl, hpl, hrd, hk1, hfr⟩
  have hq1 : w1.heap.size = (w1.alloc (Obj.cells #[.int .u64 0, .int .u64 0, .complex .f64 0 0, .complex .f64 0 0, .bool false, .slice none 0 0, .bool false] 36)).heap.size - 1 := by simp
  have hst : St w (w1.alloc (Obj.cells #[.int .u64 0, .int .u64 0, .complex .f64 0 0, .complex .f64 0 0, .bool false, .slice none 0 0, .bool false] 36)) p w1.heap.size w.heap.size v1 (laid x) 0 zeroB (.slice none 0 0) := by
    have hk2 : Kp No w1 (w1.alloc (Obj.cells #[.int .u64 0, .int .u64 0, .complex .f64 0 0, .complex .f64 0 0, .bool false, .slice none 0 0, .bool false] 36)) := (Kp.refl No w1).alloc _
    have hs : (w.alloc (Obj.cells #[.int .u64 0, .int .u64 0, .complex .f64 0 0, .complex .f64 0 0, .bool false, .slice none 0 0, .bool false] 36)).heap.size = w.heap.size + 1 := by simp
    have hs1 := hk1.size
    rw [hs] at hpl hs1
    refine ⟨hrd.kept hk2 id fun _ _ _ _ _ => id, BoxW.zero w1, (hz.kept hk1 id).kept hk2 id, ?_, by omega, by omega, ?_, by omega, by omega, Nat.le_refl _, h0.trans' (hk1.trans' hk2)⟩
    · have := World.block_lt_of_cell? w1 ⟨p, 0, none⟩ hrd.c0
      simp only at this; omega
    · intro b o n c e
      have hn : laid x ≠ [] := by
        intro e; have := num_pos x.epoch; have h2 : (laid x).length = 0 := by rw [e]; rfl
        simp only [laid, List.length_append] at h2; omega
      obtain ⟨a', c', e1, -, -, h3⟩ := hrd.reads
      rw [e] at e1
      simp only [Value.slice.injEq] at e1
      obtain ⟨rfl, rfl, rfl⟩ := e1
      obtain ⟨b', o', e2, h4⟩ := h3 hn
      simp only [Option.some.injEq, Addr.mk.injEq] at e2
      obtain ⟨rfl, rfl, -⟩ := e2
      have h5 := h4 0 (List.length_pos_iff.2 hn)
      have := World.block_lt_of_cell? w1 _ h5
      simp only at this; omega
  have HS := Hid_mk hst
  clear hst hz h0 hk1 hfr hrd hpl hq1
  obtain ⟨q0, hq0⟩ : ∃ q0, q0 = w.heap.size := ⟨_, rfl⟩
  rw [← hq0] at HS ⊢
  have HQ0 := Hid_mk hq0
  clear hq0
  go_wp2_with fail
  obtain ⟨W, hW⟩ : ∃ W, W = w1.alloc (Obj.cells #[.int .u64 0, .int .u64 0, .complex .f64 0 0, .complex .f64 0 0, .bool false, .slice none 0 0, .bool false] 36) := ⟨_, rfl⟩
  obtain ⟨q, hq⟩ : ∃ q, q = w1.heap.size := ⟨_, rfl⟩
  rw [← hW, ← hq] at HS ⊢
  clear hW hq
  have hd0 : (laid x).drop 0 = num x.epoch ++ (num x.time ++ (num x.a ++ (num x.b ++ (num x.c ++ (num x.d ++ ([(flagOf x).toUInt8] ++ (num x.bytes.length ++ x.bytes))))))) := by simp [laid]
  have nx : ∀ (k : Nat) (l r : List UInt8), (laid x).drop k = l ++ r → (laid x).drop (k + l.length) = r := fun k l r h => by rw [← List.drop_drop, h, List.drop_left]
  have hd1 := nx _ _ _ hd0
  have hd2 := nx _ _ _ hd1
  have hd3 := nx _ _ _ hd2
  have hd4 := nx _ _ _ hd3
  have hd5 := nx _ _ _ hd4
  have hd6 := nx _ _ _ hd5
  have hd7 := nx _ _ _ hd6
  have hn0 := num_ok (most := 1099511627776) hd0 (by have := HO.out.e1; rw [u64_eq]; omega) HO.out.e1
  have hn1 := num_ok (most := 1099511627776) hd1 (by have := HO.out.t; rw [u64_eq]; omega) HO.out.t
  have hn2 := num_ok (most := 1099511627776) hd2 (by have := HO.out.a; rw [u64_eq]; omega) HO.out.a
  have hn3 := num_ok (most := 1099511627776) hd3 (by have := HO.out.b; rw [u64_eq]; omega) HO.out.b
  have hn4 := num_ok (most := 1099511627776) hd4 (by have := HO.out.c; rw [u64_eq]; omega) HO.out.c
  have hn5 := num_ok (most := 1099511627776) hd5 (by have := HO.out.d; rw [u64_eq]; omega) HO.out.d
  have hfl : flagOf x < 4 := by unfold flagOf; split <;> split <;> omega
  have hfb : (flagOf x).toUInt8.toNat = flagOf x := by simp [Nat.toUInt8]; omega
  have hn6 := byte_ok (most := 3) hd6 (by rw [hfb]; omega)
  rw [hfb] at hn6
  have hn7 := text_ok (most := 512) (r := []) (by rw [List.append_nil]; exact hd7) (by have := HO.out.n; rw [u64_eq]; omega) HO.out.n
  have hat : 0 + (num x.epoch).length + (num x.time).length + (num x.a).length + (num x.b).length + (num x.c).length + (num x.d).length + 1 + (num x.bytes.length ++ x.bytes).length = (laid x).length := by
    simp [laid]; omega
  have hmA : rMark (laid x) (0 + (num x.epoch).length + (num x.time).length) 0 = ((x.a, x.b), 0 + (num x.epoch).length + (num x.time).length + (num x.a).length + (num x.b).length, 0) := by
    unfold rMark; rw [hn2]; simp only; rw [hn3]
  have hmB : rMark (laid x) (0 + (num x.epoch).length + (num x.time).length + (num x.a).length + (num x.b).length) 0 = ((x.c, x.d), 0 + (num x.epoch).length + (num x.time).length + (num x.a).length + (num x.b).length + (num x.c).length + (num x.d).length, 0) := by
    unfold rMark; rw [hn4]; simp only; rw [hn5]
  clear nx hd0 hd1 hd2 hd3 hd4 hd5 hd6 hd7 hn2 hn3 hn4 hn5
  simp only [List.length_singleton] at hn7
  have HN0 := Hid_mk hn0
  have HN1 := Hid_mk hn1
  have HMA := Hid_mk hmA
  have HMB := Hid_mk hmB
  have HN6 := Hid_mk hn6
  have HN7 := Hid_mk hn7
  have HAt := Hid_mk hat
  clear hn0 hn1 hmA hmB hn6 hn7 hat hfl hfb
  have C := reader.num_any W p v1 (laid x) _ 0 1099511627776 HS.out.rd
  rw [HN0.out] at C
  try rw [show ((1099511627776 : Nat) : Int) = 1099511627776 from rfl] at C
  simp only at C
  have HC := Hid_mk C
  clear C
  with_reducible refine HC.out.mono ?_
  clear HC
  rintro e W1 ⟨rfl, hR, hK⟩
  have hst := HS.out.call hR hK
  clear hR hK
  have c := hst.box.box.c0
  have f := hst.box.warm 0
  have HS := Hid_mk (hst.set (hst.box.set0 x.epoch))
  clear hst
  go_wp2_with fail
  clear c f
  have C := reader.num_any _ p v1 (laid x) _ 0 1099511627776 HS.out.rd
  rw [HN1.out] at C
  try rw [show ((1099511627776 : Nat) : Int) = 1099511627776 from rfl] at C
  simp only at C
  have HC := Hid_mk C
  clear C
  with_reducible refine HC.out.mono ?_
  clear HC
  rintro e W2 ⟨rfl, hR, hK⟩
  have hst := HS.out.call hR hK
  clear hR hK
  have c := hst.box.box.c1
  have f := hst.box.warm 1
  have HS := Hid_mk (hst.set (hst.box.set1 x.time))
  clear hst
  go_wp2_with fail
  clear c f
  have C := mrk.read_any _ p v1 (laid x) _ 0 HS.out.rd
  rw [HMA.out] at C
  try rw [show ((1099511627776 : Nat) : Int) = 1099511627776 from rfl] at C
  simp only at C
  have HC := Hid_mk C
  clear C
  with_reducible refine HC.out.mono ?_
  clear HC
  rintro e W3 ⟨rfl, hR, hK⟩
  have hst := HS.out.call hR hK
  clear hR hK
  have c := store_cell _ _ 2 (C (x.a : Int) (x.b : Int)) _ rfl hst.box.box.c2 (hst.box.warm 2)
  have f := 0
  have HS := Hid_mk (hst.set (hst.box.set2 x.a x.b))
  clear hst f
  go_wp2_with fail
  rw [c]
  clear c
  go_wp2_with fail
  have C := mrk.read_any _ p v1 (laid x) _ 0 HS.out.rd
  rw [HMB.out] at C
  try rw [show ((1099511627776 : Nat) : Int) = 1099511627776 from rfl] at C
  simp only at C
  have HC := Hid_mk C
  clear C
  with_reducible refine HC.out.mono ?_
  clear HC
  rintro e W4 ⟨rfl, hR, hK⟩
  have hst := HS.out.call hR hK
  clear hR hK
  have c := store_cell _ _ 3 (C (x.c : Int) (x.d : Int)) _ rfl hst.box.box.c3 (hst.box.warm 3)
  have f := 0
  have HS := Hid_mk (hst.set (hst.box.set3 x.c x.d))
  clear hst f
  go_wp2_with fail
  rw [c]
  clear c
  go_wp2_with fail
  have C := reader.byte_any _ p v1 (laid x) _ 0 3 HS.out.rd
  rw [HN6.out, show ((3 : Nat) : Int) = 3 from rfl] at C
  simp only at C
  have HC := Hid_mk C
  clear C
  with_reducible refine HC.out.mono ?_
  clear HC
  rintro e W5 ⟨rfl, hR, hK⟩
  have hst := HS.out.call hR hK
  clear hR hK
  have c4 := hst.box.box.c4
  have f4 := hst.box.warm 4
  have c6 := hst.box.box.c6
  have f6 := hst.box.warm 6
  have g1 := flag1 x
  have g2 := flag2 x
  have hs1 := hst.set (hst.box.set4 x.gap)
  have HS := Hid_mk (hs1.set (hs1.box.set6 x.stop))
  clear hst hs1
  go_wp2_with fail
  clear c4 f4 c6 f6 g1 g2
  have C := reader.text_pos _ p v1 (laid x) _ 0 512 (by omega) HS.out.rd
  rw [HN7.out, show ((512 : Nat) : Int) = 512 from rfl] at C
  simp only at C
  have HC := Hid_mk C
  clear C
  with_reducible refine HC.out.mono ?_
  clear HC
  rintro e W6 ⟨rfl, hR, hK⟩
  have hst := HS.out.call hR hK
  clear hR hK
  obtain ⟨cw, W7, hconv, hbs, hk7⟩ := hex.conv_str W6 ⟨x.bytes.toArray⟩ (by have := HO.out.n; show x.bytes.toArray.size ≤ _; unfold maxLen; simp; omega)
  have hs2 := hst.no hk7
  have c5 := hs2.box.box.c5
  have f5 := hs2.box.warm 5
  obtain ⟨vb, hvb⟩ : ∃ vb, vb = Value.slice (some ⟨W6.heap.size, 0, none⟩) (⟨x.bytes.toArray⟩ : ByteArray).size cw := ⟨_, rfl⟩
  have HV := Hid_mk hvb
  rw [← hvb] at hconv hbs
  have HBs := Hid_mk hbs
  have hs3 := hs2.set (hs2.box.set5 vb x.bytes)
  have HS := Hid_mk hs3
  have oc : vb.oneCell' = true := by rw [hvb]; rfl
  have hsc := store_cell _ _ 5 vb _ oc c5 f5
  have hnq : ∀ b o n c, vb = .slice (some ⟨b, o, none⟩) n c → ¬ b = q := by
    intro b o n c e e2
    rw [hvb] at e
    simp only [Value.slice.injEq, Option.some.injEq, Addr.mk.injEq] at e
    have h1 := World.block_lt_of_cell? W6 _ hst.box.box.c5
    simp only at h1; omega
  have HNq := Hid_mk hnq
  have hnr : ∀ b o n c, vb = .slice (some ⟨b, o, none⟩) n c → ¬ b = q0 := by
    intro b o n c e e2
    rw [hvb] at e
    simp only [Value.slice.injEq, Option.some.injEq, Addr.mk.injEq] at e
    have h1 := World.block_lt_of_cell? W6 _ hst.res.box.c5
    simp only at h1; omega
  have HNr := Hid_mk hnr
  have hnw : ∀ b o n c, vb = .slice (some ⟨b, o, none⟩) n c → w.heap.size ≤ b := by
    intro b o n c e
    rw [hvb] at e
    simp only [Value.slice.injEq, Option.some.injEq, Addr.mk.injEq] at e
    have h1 := hst.kp.size
    omega
  have HNw := Hid_mk hnw
  clear hnr hnw
  clear hst hs2 hs3 hbs hk7 hvb hnq c5 f5 oc
  go_wp2_with fail
  rw [hsc]
  clear hsc hconv
  go_wp2_with fail
  have C := reader.end_any _ p v1 (laid x) _ 0 HS.out.rd
  rw [HAt.out, show reader.rEnd (laid x) (laid x).length 0 = 0 from by unfold reader.rEnd; rw [if_neg (by omega)], show ((0 : Nat) : Int) = 0 from rfl] at C
  have HC := Hid_mk C
  clear C
  with_reducible refine HC.out.mono ?_
  clear HC
  rintro e W8 ⟨rfl, nd, hw8⟩
  have hk8 : Kp No (W7.setCell ⟨q, 5, none⟩ vb) W8 := by rw [hw8]; exact (Kp.refl No _).drewN nd
  have hst : St w W8 p q q0 v1 (laid x) _ x vb := HS.out.no hk8
  have hkv : Kp (fun k => k = q) W7 W8 := ((Kp.refl (fun k => k = q) W7).setCell (fun _ => rfl) _).trans' hk8.to
  have hbv : Bs W8 vb x.bytes := bs_kept HBs.out hkv fun b o n c e => HNq.out b o n c e
  clear hw8 hk8 hkv
  have HS := Hid_mk hst
  have HBv := Hid_mk hbv
  have hr := right_ok x vb W8 HO.out hbv
  unfold bval at hr
  have HR := Hid_mk hr
  have c0 := hst.box.box.c0
  have c1 := hst.box.box.c1
  have c2 := hst.box.box.c2
  have c3 := hst.box.box.c3
  have c4 := hst.box.box.c4
  have c5 := hst.box.box.c5
  have c6 := hst.box.box.c6
  clear hst hbv hr
  go_wp2_with fail
  with_reducible refine HR.out.mono ?_
  rintro e W9 ⟨rfl, hk9⟩
  clear c0 c1 c2 c3 c4 c5 c6
  have hst := HS.out.no hk9
  have HBv := Hid_mk (bs_no HBv.out hk9)
  have HS := Hid_mk hst
  have c0 := hst.box.box.c0
  have c1 := hst.box.box.c1
  have c2 := hst.box.box.c2
  have c3 := hst.box.box.c3
  have c4 := hst.box.box.c4
  have c5 := hst.box.box.c5
  have c6 := hst.box.box.c6
  have z0 := hst.res.box.c0
  have z1 := hst.res.box.c1
  have z2 := hst.res.box.c2
  have z3 := hst.res.box.c3
  have z4 := hst.res.box.c4
  have z5 := hst.res.box.c5
  have z6 := hst.res.box.c6
  have y := hst.res.warm
  have ocv : vb.oneCell' = true := by rw [HV.out]; rfl
  obtain ⟨m1, hm1⟩ : ∃ m, m = C (x.a : Int) (x.b : Int) := ⟨_, rfl⟩
  obtain ⟨m2, hm2⟩ : ∃ m, m = C (x.c : Int) (x.d : Int) := ⟨_, rfl⟩
  have oc1 : m1.oneCell' = true := by rw [hm1]; rfl
  have oc2 : m2.oneCell' = true := by rw [hm2]; rfl
  rw [← hm1] at c2
  rw [← hm2] at c3
  have HM1 := Hid_mk hm1
  have HM2 := Hid_mk hm2
  have HK9 := Hid_mk hk9
  clear hst hk9 hm1 hm2
  obtain ⟨n2, hn2⟩ : ∃ n, n = C (zeroB.a : Int) (zeroB.b : Int) := ⟨_, rfl⟩
  obtain ⟨n3, hn3⟩ : ∃ n, n = C (zeroB.c : Int) (zeroB.d : Int) := ⟨_, rfl⟩
  rw [← hn2] at z2
  rw [← hn3] at z3
  clear hn2 hn3
  have s2 := fun w => store_at w q0 2 m1 n2 oc1
  have s3 := fun w => store_at w q0 3 m2 n3 oc2
  have s5 := fun w => store_at w q0 5 vb (.slice none 0 0) ocv
  have b0 := HS.out.res.set0 x.epoch
  have b1 := b0.set1 x.time
  have b2 := b1.set2 x.a x.b
  have b3 := b2.set3 x.c x.d
  have b4 := b3.set4 x.gap
  have b5 := b4.set5 vb x.bytes
  have b6 := b5.set6 x.stop
  have lr := HS.out.lr
  have hq : ∀ {W W' : World} {o : Nat} {u : Value}, Kp No W W' → W.heap.size ≤ q0 → Kp No W (W'.setCell ⟨q0, o, none⟩ u) := fun h hl => h.setCell (fun hp => absurd hp (by simp; omega)) _
  have k0 := fun o u => hq (o := o) (u := u) HS.out.kp lr
  have hkf := hq (o := 6) (u := .bool x.stop) (hq (o := 5) (u := vb) (hq (o := 4) (u := .bool x.gap) (hq (o := 3) (u := C (x.c : Int) (x.d : Int)) (hq (o := 2) (u := C (x.a : Int) (x.b : Int)) (hq (o := 1) (u := .int .u64 (x.time : Int)) (hq (o := 0) (u := .int .u64 (x.epoch : Int)) HS.out.kp lr) lr) lr) lr) lr) lr) lr
  have hbsv := bs_kept HBv.out (S := fun k => k = q0) (w' := (((((((W9.setCell ⟨q0, 0, none⟩ (.int .u64 (x.epoch : Int))).setCell ⟨q0, 1, none⟩ (.int .u64 (x.time : Int))).setCell ⟨q0, 2, none⟩ (C (x.a : Int) (x.b : Int))).setCell ⟨q0, 3, none⟩ (C (x.c : Int) (x.d : Int))).setCell ⟨q0, 4, none⟩ (.bool x.gap)).setCell ⟨q0, 5, none⟩ vb).setCell ⟨q0, 6, none⟩ (.bool x.stop)))
    ((((((((Kp.refl (fun k => k = q0) W9).setCell (fun _ => rfl) _).setCell (fun _ => rfl) _).setCell (fun _ => rfl) _).setCell (fun _ => rfl) _).setCell (fun _ => rfl) _).setCell (fun _ => rfl) _).setCell (fun _ => rfl) _)
    (fun b o n c e e2 => HNr.out b o n c e e2)
  rw [← HM1.out, ← HM2.out] at b6 hkf hbsv
  have HB6 := Hid_mk b6
  have HKF := Hid_mk hkf
  have HBF := Hid_mk hbsv
  clear b0 b1 b2 b3 b4 b5 b6 hkf hbsv k0 hq lr
  go_wp2_with fail
  have r0 := HB6.out.box.c0
  have r1 := HB6.out.box.c1
  have r2 := HB6.out.box.c2
  have r3 := HB6.out.box.c3
  have r4 := HB6.out.box.c4
  have r5 := HB6.out.box.c5
  have r6 := HB6.out.box.c6
  generalize (((((((W9.setCell ⟨q0, 0, none⟩ (.int .u64 (x.epoch : Int))).setCell ⟨q0, 1, none⟩ (.int .u64 (x.time : Int))).setCell ⟨q0, 2, none⟩ m1).setCell ⟨q0, 3, none⟩ m2).setCell ⟨q0, 4, none⟩ (.bool x.gap)).setCell ⟨q0, 5, none⟩ vb).setCell ⟨q0, 6, none⟩ (.bool x.stop)) = Wf at *
  refine bodyPost_ret (v := .tuple #[bval x vb, .int .i64 0]) ?_ rfl ⟨vb, rfl, HBF.out, HNw.out, HKF.out⟩
  clear c0 c1 c2 c3 c4 c5 c6 z0 z1 z2 z3 z4 z5 z6 s2 s3 s5
  unfold bval
  simp [results, Tryz.results69, go_sem, r0, r1, r2, r3, r4, r5, r6]

end Go.Proofs.YteekcbbdbciddaaGreatDoor.wal
