/- The law's batch, and the reference's SameBatch of two that are the same. -/
import Derived.Test.YteekcbbdbciddaaGreatDoorWalBegin
import Derived.Lib.SlBytesConst

namespace Go.Proofs.YteekcbbdbciddaaGreatDoor.wal
open Go.RowKit Go.Proofs.YteekcbbdbciddaaGreatDoor.fl Go.Proofs.YteekcbbdbciddaaGreatDoor.sum Go.Proofs.YteekcbbdbciddaaGreatDoor.kept Go.Proofs.YteekcbbdbciddaaGreatDoor.app Go.Proofs.YteekcbbdbciddaaGreatDoor.writer Go.Proofs.YteekcbbdbciddaaGreatDoor.clone Go.Proofs.YteekcbbdbciddaaGreatDoor.known Go.Proofs.YteekcbbdbciddaaGreatDoor.mrk Go.Proofs.YteekcbbdbciddaaGreatDoor.hex Go.Proofs.YteekcbbdbciddaaGreatDoor.fs Go.Proofs.YteekcbbdbciddaaGreatDoor.fsUsed Go.Proofs.YteekcbbdbciddaaGreatDoor.dsk Go.Proofs.YteekcbbdbciddaaGreatDoor.frm
set_option linter.unusedVariables false

/-- the law's batch -/
def bt (n : Nat) : Bt := ⟨n, 3, 1, 0, 1, 2, false, false, [97, 98]⟩
theorem bt_ok (n : Nat) (h1 : 1 ≤ n) (h2 : n ≤ 1099511627776) : BtOk (bt n) := ⟨h1, h2, by simp [bt], by simp [bt], by simp [bt], by simp [bt], by simp [bt], by simp [bt], by simp [bt]⟩
theorem two_word : fl 2 = 4611686018427387904 := by decide +kernel
theorem bt_val (n : Nat) (vb : Value) : bval (bt n) vb = .agg #[.int .u64 (n : Int), .int .u64 3, .complex .f64 4607182418800017408 0, .complex .f64 4607182418800017408 4611686018427387904, .bool false, vb, .bool false] := by
  have e1 : fl ((1 : Nat) : Int) = 4607182418800017408 := mrk.one_word
  have e0 : fl ((0 : Nat) : Int) = 0 := mrk.zero_word
  have e2 : fl ((2 : Nat) : Int) = 4611686018427387904 := two_word
  unfold bval bt C
  simp only [e1, e0, e2]
  rfl

/-- what the law's batch leaves -/
def BtPost (w : World) (n : Nat) (e : Ending) (w' : World) : Prop := ∃ vb, e = .returned (bval (bt n) vb) ∧ Bs w' vb [97, 98] ∧ Kp No w w'

set_option maxRecDepth 100000 in
set_option maxHeartbeats 1000000 in
theorem batch_any (n : Nat) (w : World) : Calls Tryz.prog 9 #[.int .u64 (n : Int)] w (BtPost w n) := by
  have kc := fun (w : World) (C : Array Value) (n c : Nat) => Lib.run_convert_bytes_const (P := Tryz.prog) w 34 5 C n c Tryz.underlying34 Tryz.underlying5
  have k := kc (w.alloc (Obj.cells #[.int .u64 0, .int .u64 0, .complex .f64 0 0, .complex .f64 0 0, .bool false, .slice none 0 0, .bool false] 36)) #[.int .u8 97, .int .u8 98] 2 2
  have hs : (w.alloc (Obj.cells #[.int .u64 0, .int .u64 0, .complex .f64 0 0, .complex .f64 0 0, .bool false, .slice none 0 0, .bool false] 36)).heap.size = w.heap.size + 1 := by simp
  rw [hs] at k
  have hs2 : (w.alloc (Obj.cells #[.int .u64 (n : Int), .int .u64 3, .complex .f64 4607182418800017408 0, .complex .f64 4607182418800017408 4611686018427387904, .bool false, .slice (some ⟨w.heap.size + 1, 0, none⟩) 2 2, .bool false] 36)).heap.size = w.heap.size + 1 := by simp
  have hb := bs_lit (w.alloc (Obj.cells #[.int .u64 (n : Int), .int .u64 3, .complex .f64 4607182418800017408 0, .complex .f64 4607182418800017408 4611686018427387904, .bool false, .slice (some ⟨w.heap.size + 1, 0, none⟩) 2 2, .bool false] 36)) [97, 98] (2, 3) (by decide)
  rw [hs2] at hb
  have HB := Hid_mk hb
  have HK := Hid_mk k
  clear kc hs hs2 hb k
  go_enter Tryz.func9, Tryz.ntmps9
  go_wp2
  rw [HK.out]
  have s2 := fun w' => store_at w' w.heap.size 2 (.complex .f64 4607182418800017408 0) (.complex .f64 0 0) rfl
  have s3 := fun w' => store_at w' w.heap.size 3 (.complex .f64 4607182418800017408 4611686018427387904) (.complex .f64 0 0) rfl
  go_wp2
  clear s2 s3
  refine bodyPost_ret (v := bval (bt n) (.slice (some ⟨w.heap.size + 1, 0, none⟩) 2 2)) ?_ rfl ⟨_, rfl, HB.out, ((Kp.refl No w).alloc _).alloc _⟩
  rw [bt_val]
  simp [results, Tryz.results9, go_sem]

theorem eql_fl (a : Nat) (ha : a ≤ 1099511627776) : (FloatKind.f64.format.order (fl (a : Int)) (fl (a : Int)) == some .eq) = true := by
  have e1 := ord_eq (a := (a : Int)) (b := (a : Int)) (by unfold Fit; omega) (by unfold Fit; omega)
  rwa [decide_eq_true rfl] at e1

set_option maxRecDepth 100000 in
set_option maxHeartbeats 2000000 in
theorem same_any (x : Bt) (v1 v2 : Value) (w : World) (hx : BtOk x) (h1 : Bs w v1 x.bytes) (h2 : Bs w v2 x.bytes) :
    Calls Tryz.prog 21 #[bval x v1, bval x v2] w fun e w' => e = .returned (.bool true) ∧ Kp No w w' := by
  have q1 := eql_fl x.a hx.a
  have q2 := eql_fl x.b hx.b
  have q3 := eql_fl x.c hx.c
  have q4 := eql_fl x.d hx.d
  have k2 : Kp No w ((w.alloc (boxObj x v1)).alloc (boxObj x v2)) := ((Kp.refl No w).alloc _).alloc _
  have c1 := conv_bs (bs_no h1 k2)
  have c2 := conv_bs (bs_no h2 k2)
  have HK := Hid_mk k2
  obtain ⟨a1, p1, rfl, -, -, -⟩ := h1
  obtain ⟨a2, p2, rfl, -, -, -⟩ := h2
  unfold bval
  unfold boxObj at *
  unfold C at *
  generalize fl (x.a : Int) = fa at *
  generalize fl (x.b : Int) = fb at *
  generalize fl (x.c : Int) = fc at *
  generalize fl (x.d : Int) = fd at *
  clear hx k2
  go_enter Tryz.func21, Tryz.ntmps21
  go_wp2
  go_ret
  exact ⟨rfl, HK.out⟩

end Go.Proofs.YteekcbbdbciddaaGreatDoor.wal
