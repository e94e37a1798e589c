/- wal.fitting of a file that holds one batch's frame. -/
import Derived.Test.YteekcbbdbciddaaGreatDoorBatchRead
import Derived.Test.YteekcbbdbciddaaGreatDoorList
import Derived.Maps.AppendAt

namespace Go.Proofs.YteekcbbdbciddaaGreatDoor.wal
open Go.RowKit Go.Proofs.YteekcbbdbciddaaGreatDoor.fl Go.Proofs.YteekcbbdbciddaaGreatDoor.sum Go.Proofs.YteekcbbdbciddaaGreatDoor.kept Go.Proofs.YteekcbbdbciddaaGreatDoor.app Go.Proofs.YteekcbbdbciddaaGreatDoor.writer Go.Proofs.YteekcbbdbciddaaGreatDoor.clone Go.Proofs.YteekcbbdbciddaaGreatDoor.known Go.Proofs.YteekcbbdbciddaaGreatDoor.mrk Go.Proofs.YteekcbbdbciddaaGreatDoor.frm Go.Proofs.YteekcbbdbciddaaGreatDoor.lst
set_option linter.unusedVariables false

def btList (x : Bt) (vb : Value) : List Value := [.int .u64 (x.epoch : Int), .int .u64 (x.time : Int), C (x.a : Int) (x.b : Int), C (x.c : Int) (x.d : Int), .bool x.gap, vb, .bool x.stop]
theorem infoB : (Tryz.prog.info? 36).map (fun i => (i.zero, i.size, i.bytes)) = some (some (.agg #[.int .u64 0, .int .u64 0, .complex .f64 0 0, .complex .f64 0 0, .bool false, .slice none 0 0, .bool false]), 7, 88) := by kernel_rfl

theorem wpList_append_run {P : Program} {ops : Array Oper} {rest : List Oper} {o : Oper} {a : Act} {Q : Exit → Act → World → Prop} {w w1 : World} {v1 : Value} (hgd : o.guard = none) (m x : Operand) (t k : TypeId)
    (ho : o.op = Op.call { callee := Callee.builtin Builtin.append, args := #[m, x], argTypes := #[t, k] }) (hr : (Builtin.append_ #[t, k] o.type #[a.eval m, a.eval x]).run P w = .ok v1 w1) (h : wpList P ops Q rest (a.put o.dst v1) w1) :
    wpList P ops Q (o :: rest) a w := by
  refine wpList_plain hgd fun K hK => ?_
  unfold Oper.wp execOp
  simp only [ho, resolve, invoke, builtin, Sem.run_bind, Sem.run_pure, Result.andThen_ok, List.map_toArray, List.map_cons, List.map_nil, hr]
  exact hK _ _ h

/-- the batches that were read so far: none, or the one -/
def FitRel (w : World) (x : Bt) (all place i : Value) (wr : World) : Prop :=
  (all = .slice none 0 0 ∧ place = .int .i64 0 ∧ i = .int .i64 0 ∧ Kp No w wr) ∨
  (∃ vb, place = .int .i64 (((laid x).length + 10 : Nat) : Int) ∧ i = .int .i64 1 ∧ wr.ownsRow w.heap.size 36 7 all 1 (btList x vb) ∧ Bs wr vb x.bytes ∧ (∀ b o n c, vb = .slice (some ⟨b, o, none⟩) n c → w.heap.size ≤ b) ∧ Kp No w wr)

/-- at the label -/
def FitJ (w : World) (x : Bt) (av : Option Addr) (n cap : Nat) (a : Act) (wr : World) : Prop :=
  ∃ all place i b2 o2 c2 xv u11 u12 u13 u14 u15 u16 u17 u18 u19 u20 u21 u22 u23 u24 u25 u26 u27 u28 u29 u30 u31 u32 u33 u34 u35 u36 u37 u38 u39 u40 u41 u42 u43 u44 u45 u46 u47 u48 u49 u50 u51 u52 u53 u54 u55 u56 u57 u58 u59 u60 u61 u62 u63 u64 u65 u66 u67 u68 u69 u70, a = { tmps := #[all, .slice av n cap, undef, undef, .slice none 0 0, .int .i64 0, .int .i64 10, .slice (some ⟨b2, o2, none⟩) 1 c2, .int .i64 (((laid x).length + 10 : Nat) : Int), place, i, u11, u12, u13, u14, u15, u16, u17, u18, u19, u20, u21, u22, u23, u24, u25, u26, u27, u28, u29, u30, u31, u32, u33, u34, u35, u36, u37, u38, u39, u40, u41, u42, u43, u44, u45, u46, u47, u48, u49, u50, u51, u52, u53, u54, u55, u56, u57, u58, u59, u60, u61, u62, u63, u64, u65, u66, u67, u68, u69, u70], defers := [] } ∧
    FitRel w x all place i wr ∧ wr.cell? ⟨b2, o2, none⟩ = some xv ∧ Bs wr xv (laid x)

def FitPost (w : World) (x : Bt) (e : Ending) (w' : World) : Prop :=
  ∃ v' vb, e = .returned (.tuple #[v', .int .i64 (((laid x).length + 10 : Nat) : Int)]) ∧ w'.ownsRow w.heap.size 36 7 v' 1 (btList x vb) ∧ Bs w' vb x.bytes ∧ (∀ b o n c, vb = .slice (some ⟨b, o, none⟩) n c → w.heap.size ≤ b) ∧ Kp No w w'

set_option maxRecDepth 100000 in
set_option maxHeartbeats 4000000 in
theorem fitting_one (x : Bt) (h : BtOk x) (v : Value) (w : World) (hb : Bs w v (framed (laid x))) :
    Calls Tryz.prog 35 #[.slice none 0 0, v] w (FitPost w x) := by
  have HO := Hid_mk h
  have hl := laid_len x h
  have HB := Hid_mk hb
  have HL := Hid_mk hl
  have hfl := framed_len (bs := laid x) (by omega)
  have HFl := Hid_mk hfl
  obtain ⟨av, cap, rfl, -, -, -⟩ := id hb
  have hf0 : framed [] = len4 0 ++ seal.sealed [] := framed_some (by simp)
  have hf0l : (framed []).length = 10 := framed_len (bs := []) (by simp)
  have HF0 := Hid_mk hf0l
  clear h hb hl hfl hf0 hf0l
  go_enter Tryz.func35, Tryz.ntmps35
  go_wp2_with fail
  refine scope_once 0 (FitJ w x av (framed (laid x)).length cap) (fun a' _ => 1 - (intOf (a'.tmps.getD 10 undef)).toNat) rfl ?pass ?first
  case first =>
    intro pass
    have HP := Hid_mk pass
    clear pass
    go_wp2_with fail
    refine (frame_any w _ [] (reader.bs_empty w none 0 (by decide))).mono ?_
    rintro e w1 ⟨v1, rfl, ho1, hk1⟩
    obtain ⟨a1, c1, rfl⟩ : ∃ a c, v1 = .slice a 10 c := by
      rw [HF0.out] at ho1
      rcases owns_any ho1 with ⟨rfl, hz⟩ | ⟨g, cap, rfl, -⟩
      · omega
      · exact ⟨_, _, rfl⟩
    clear ho1
    have hbl := bs_no HB.out hk1
    have HK1 := Hid_mk hk1
    clear hk1
    go_wp2_with fail
    refine (list_any w1 _ _ hbl (by have := HFl.out; have := HL.out; omega)).mono ?_
    rintro e w2 hpost
    have hlp : listP (framed (laid x)) = ([laid x], (laid x).length + 10) := by
      have := listP_framed (bs := laid x) (by have := HL.out; omega) []
      rw [List.append_nil, listP_nil] at this
      exact this
    rw [hlp] at hpost
    obtain ⟨v2, qs, rfl, hlo, hqt, hk2⟩ := hpost
    obtain ⟨xv, hqs⟩ : ∃ xv, qs = [(xv, laid x)] := by
      cases qs with
      | nil => simp [lst.Els.texts] at hqt
      | cons a t =>
        cases t with
        | nil => simp [lst.Els.texts] at hqt; exact ⟨a.1, by rw [← hqt]⟩
        | cons b t => simp [lst.Els.texts] at hqt
    subst hqs
    obtain ⟨⟨a2, c2, rfl, -, -, h3⟩, h4⟩ := hlo.ls
    obtain ⟨b2, o2, rfl, hc2⟩ := h3 (by simp)
    have hc := hc2 0 (by simp)
    have hxb := h4 _ (List.mem_singleton.2 rfl)
    simp only [Nat.add_zero, List.getElem_cons_zero] at hc hxb
    have HC := Hid_mk hc
    have HXb := Hid_mk hxb
    have HK2 := Hid_mk (HK1.out.trans' hk2)
    have HLn := Hid_mk (show (1 : Nat) = 1 from rfl)
    clear hlo h3 h4 hc2 hc hxb hk2 hbl hqt hlp
    go_wp2_with fail
    apply wp_label
    rename_i hK0
    refine hK0 _ _ (HP.out _ _ ⟨_, _, _, _, _, _, _, _, _, _, _, _, _, _, _, _, _, _, _, _, _, _, _, _, _, _, _, _, _, _, _, _, _, _, _, _, _, _, _, _, _, _, _, _, _, _, _, _, _, _, _, _, _, _, _, _, _, _, _, _, _, _, _, _, _, _, _, rfl, .inl ⟨rfl, rfl, rfl, HK2.out⟩, HC.out, HXb.out⟩)
  case pass =>
    rintro a' wr ⟨all, place, i, b2, o2, c2, xv, u11, u12, u13, u14, u15, u16, u17, u18, u19, u20, u21, u22, u23, u24, u25, u26, u27, u28, u29, u30, u31, u32, u33, u34, u35, u36, u37, u38, u39, u40, u41, u42, u43, u44, u45, u46, u47, u48, u49, u50, u51, u52, u53, u54, u55, u56, u57, u58, u59, u60, u61, u62, u63, u64, u65, u66, u67, u68, u69, u70, rfl, hrel, hcx, hbx⟩
    rcases hrel with ⟨rfl, rfl, rfl, hk⟩ | ⟨vb, rfl, rfl, ho, hbv, hnv, hk⟩
    · have HK := Hid_mk hk
      have HCx := Hid_mk hcx
      have HBx := Hid_mk hbx
      have HR := Hid_mk (read_ok x xv wr HO.out hbx)
      clear hk hbx
      go_wp2_with fail
      with_reducible refine HR.out.mono ?_
      rintro e w3 ⟨vb, rfl, hbv, hnw, hk3⟩
      have HNw := Hid_mk hnw
      clear hnw
      have HBv := Hid_mk hbv
      have hz := BoxW.zero w3
      have HK3 := Hid_mk hk3
      obtain ⟨avb, cvb, hvb, -, -, -⟩ := id hbv
      have ocv : vb.oneCell' = true := by rw [hvb]; rfl
      have HVB := Hid_mk hvb
      obtain ⟨m1, hm1⟩ : ∃ m, m = C (x.a : Int) (x.b : Int) := ⟨_, rfl⟩
      obtain ⟨m2, hm2⟩ : ∃ m, m = C (x.c : Int) (x.d : Int) := ⟨_, rfl⟩
      have oc1 : m1.oneCell' = true := by rw [hm1]; rfl
      have oc2 : m2.oneCell' = true := by rw [hm2]; rfl
      have s2 := fun w => store_at w w3.heap.size 2 m1 (.complex .f64 0 0) oc1
      have s3 := fun w => store_at w w3.heap.size 3 m2 (.complex .f64 0 0) oc2
      have s5 := fun w => store_at w w3.heap.size 5 vb (.slice none 0 0) ocv
      have HZ := Hid_mk hz
      unfold bval
      rw [← hm1, ← hm2]
      have HM1 := Hid_mk hm1
      have HM2 := Hid_mk hm2
      clear hm1 hm2 hz hvb hbv hk3
      go_wp2_with fail
      have d1 : decide ((0 : Int) < 0) = false := by decide
      go_quiet (fail)
      clear d1
      obtain ⟨W4, hW4⟩ : ∃ W, W = (w3.alloc (Obj.cells #[.int .u64 (x.epoch : Int), .int .u64 (x.time : Int), m1, m2, .bool x.gap, vb, .bool x.stop] 36)).drewN nq := ⟨_, rfl⟩
      have hk4 : Kp No w3 W4 := by rw [hW4]; exact ((Kp.refl No w3).alloc _).drewN nq
      have r0 : W4.cell? ⟨w3.heap.size, 0, none⟩ = some (.int .u64 (x.epoch : Int)) := by rw [hW4]; simp
      have r1 : W4.cell? ⟨w3.heap.size, 1, none⟩ = some (.int .u64 (x.time : Int)) := by rw [hW4]; simp
      have r2 : W4.cell? ⟨w3.heap.size, 2, none⟩ = some m1 := by rw [hW4]; simp
      have r3 : W4.cell? ⟨w3.heap.size, 3, none⟩ = some m2 := by rw [hW4]; simp
      have r4 : W4.cell? ⟨w3.heap.size, 4, none⟩ = some (.bool x.gap) := by rw [hW4]; simp
      have r5 : W4.cell? ⟨w3.heap.size, 5, none⟩ = some vb := by rw [hW4]; simp
      have r6 : W4.cell? ⟨w3.heap.size, 6, none⟩ = some (.bool x.stop) := by rw [hW4]; simp
      rw [← hW4]
      clear hW4
      have hcx4 := (HCx.out |> fun h => (HK3.out.trans' hk4).cell' h id)
      have HK4 := Hid_mk (HK.out.trans' (HK3.out.trans' hk4))
      have hsz := HK4.out.size
      have HBx4 := Hid_mk (bs_no HBx.out (HK3.out.trans' hk4))
      have HBv4 := Hid_mk (bs_no HBv.out hk4)
      obtain ⟨i0, hi, hi0, hi1, hi2⟩ := info_parts infoB
      have hone : ∀ u ∈ [Value.int .u64 (x.epoch : Int), .int .u64 (x.time : Int), m1, m2, .bool x.gap, vb, .bool x.stop], u.oneCell' = true := by
        intro u hu
        simp only [List.mem_cons, List.not_mem_nil, or_false] at hu
        rcases hu with rfl | rfl | rfl | rfl | rfl | rfl | rfl <;> first | rfl | assumption
      obtain ⟨v5, w5, hr5, ho5, hg5, -, -⟩ := run_append_own_at (P := Tryz.prog) (W4.alloc (Obj.cells #[.int .u64 (x.epoch : Int), .int .u64 (x.time : Int), m1, m2, .bool x.gap, vb, .bool x.stop] 36)) w.heap.size 27 27 36 i0 _ 7 88 Tryz.underlying27 hi hi0 hi1 hi2 rfl (by decide) (.slice none 0 0) 0 _ (World.ownsRow_nil _ _ _ _)
        ⟨W4.heap.size, 0, none⟩ 1 1 [.int .u64 (x.epoch : Int), .int .u64 (x.time : Int), m1, m2, .bool x.gap, vb, .bool x.stop] rfl (World.news_of_block (cs := #[.int .u64 (x.epoch : Int), .int .u64 (x.time : Int), m1, m2, .bool x.gap, vb, .bool x.stop]) (t := 36) (fr := (0, 0)) (heap_alloc_new W4 _)) hone (by unfold maxLen; omega) (by omega) (by simp; omega)
      have hk5 : Kp No W4 w5 := ((Kp.refl No W4).alloc _).grown hg5 fun k _ e => by simp [Value.ownBlock] at e
      have hcx5 : w5.cell? ⟨b2, o2, none⟩ = some xv := hk5.cell' hcx4 id
      have hb5 := bs_no HBx4.out hk5
      have hfin : FitRel w x v5 (.int .i64 (((laid x).length + 10 : Nat) : Int)) (.int .i64 1) w5 := .inr ⟨vb, rfl, rfl, by rw [HM1.out, HM2.out] at ho5; exact ho5, bs_no HBv4.out hk5, fun b o n c e => Nat.le_trans HK.out.size (HNw.out b o n c e), HK4.out.trans' hk5⟩
      have HFin := Hid_mk hfin
      have HB5 := Hid_mk hb5
      have HC5 := Hid_mk hcx5
      obtain ⟨ax, cx, rfl, -, -, -⟩ := id hb5
      have hL0 : (0 : Int) ≤ ((laid x).length : Int) := by omega
      have hL1 : ((laid x).length : Int) ≤ 600 := by have := HL.out; omega
      clear s2 s3 s5 oc1 oc2 ocv hk4 hcx hk5 hb5 hfin ho5 hg5 hcx4 hone
      go_wp2_with (at_builtin; refine wpList_append_run rfl _ _ _ _ rfl hr5 ?_)
      go_step3
      rw [show (((laid x).length : Int) + 10) = (((laid x).length + 10 : Nat) : Int) by omega]
      refine ⟨rfl, ⟨_, _, _, _, _, _, _, _, _, _, _, _, _, _, _, _, _, _, _, _, _, _, _, _, _, _, _, _, _, _, _, _, _, _, _, _, _, _, _, _, _, _, _, _, _, _, _, _, _, _, _, _, _, _, _, _, _, _, _, _, _, _, _, _, _, _, _, rfl, HFin.out, HC5.out, HB5.out⟩, ?_⟩
      simp [intOf]
    · go_wp2
      simp only [Exit.jump]
      go_ret2
      exact ⟨all, vb, rfl, ho, hbv, hnv, hk⟩

end Go.Proofs.YteekcbbdbciddaaGreatDoor.wal
