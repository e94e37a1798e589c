/- wal's Begin, right and wrong; Size, Last. -/
import Derived.Test.YteekcbbdbciddaaGreatDoorWalAppend

namespace Go.Proofs.YteekcbbdbciddaaGreatDoor.wal
open Go.RowKit Go.Proofs.YteekcbbdbciddaaGreatDoor.fl Go.Proofs.YteekcbbdbciddaaGreatDoor.sum Go.Proofs.YteekcbbdbciddaaGreatDoor.kept Go.Proofs.YteekcbbdbciddaaGreatDoor.app Go.Proofs.YteekcbbdbciddaaGreatDoor.writer Go.Proofs.YteekcbbdbciddaaGreatDoor.clone Go.Proofs.YteekcbbdbciddaaGreatDoor.known Go.Proofs.YteekcbbdbciddaaGreatDoor.mrk Go.Proofs.YteekcbbdbciddaaGreatDoor.hex Go.Proofs.YteekcbbdbciddaaGreatDoor.fs Go.Proofs.YteekcbbdbciddaaGreatDoor.fsUsed Go.Proofs.YteekcbbdbciddaaGreatDoor.dsk Go.Proofs.YteekcbbdbciddaaGreatDoor.frm
set_option linter.unusedVariables false

set_option maxRecDepth 100000 in
set_option maxHeartbeats 1000000 in
theorem last_any (w : World) (base lp dp : Nat) (vn : Value) (ns : List Nat) (size last : Nat) (h : Lg w base lp dp vn ns size last) : Calls Tryz.prog 12 #[.pointer (some ⟨lp, 0, none⟩)] w fun e w' => e = .returned (.int .u64 (last : Int)) ∧ w = w' := by
  have c3 := h.c3
  go_enter Tryz.func12, Tryz.ntmps12
  go_wp2
  go_ret
  exact ⟨rfl, rfl⟩
set_option maxRecDepth 100000 in
set_option maxHeartbeats 1000000 in
theorem size_any (w : World) (base lp dp : Nat) (vn : Value) (ns : List Nat) (size last : Nat) (h : Lg w base lp dp vn ns size last) : Calls Tryz.prog 10 #[.pointer (some ⟨lp, 0, none⟩)] w fun e w' => e = .returned (.int .i64 (size : Int)) ∧ w = w' := by
  have c2 := h.c2
  go_enter Tryz.func10, Tryz.ntmps10
  go_wp2
  go_ret
  exact ⟨rfl, rfl⟩

set_option maxRecDepth 100000 in
set_option maxHeartbeats 1000000 in
theorem begin_wrong (w : World) (base lp dp : Nat) (vn : Value) (ns : List Nat) (size last n : Nat) (h : Lg w base lp dp vn ns size last) (hl : last ≤ 1099511627776) (hne : n ≠ last + 1) :
    Calls Tryz.prog 11 #[.pointer (some ⟨lp, 0, none⟩), .int .u64 (n : Int)] w fun e w' => e = .returned (.int .i64 1) ∧ w = w' := by
  have c3 := h.c3
  have d2 : ((n : Int) != (last : Int) + 1) = true := by simp; omega
  have d3 := u64_next last hl
  go_enter Tryz.func11, Tryz.ntmps11
  go_wp2
  go_ret
  exact ⟨rfl, rfl⟩

set_option maxRecDepth 100000 in
set_option maxHeartbeats 4000000 in
theorem begin_one (w : World) (base dbase lp dp M m n : Nat) (ρ : Nat → Role) (d : DSt) (vn : Value) (size last : Nat) (h : Lg w base lp dp vn [m] size last) (hρ : ρ lp = .other) (hvρ : ∀ g, vn.ownBlock = some g → ρ g = .other) (hl : last ≤ 1099511627776) (hn : n = last + 1)
    (hd : Dk w dbase dp ρ d) (hok : DOk M d) (hM : M + 1 ≤ 1000000) (hfu : d.fuse = -1) (hdn : d.down = false) (hm : m ≤ 1099511627776) (hget : (fs.get d.now (nameOf m)).isSome = true) :
    Calls Tryz.prog 11 #[.pointer (some ⟨lp, 0, none⟩), .int .u64 (n : Int)] w (LgPost base dbase lp dp ρ { d with syn := { d with cs := d.cs ++ [remC ⟨(nameOf m).toArray⟩] }.now, cs := [] } [] 0 last w) := by
  have hst : stopD d = d := by unfold stopD; rw [hdn, hfu]; simp
  have hsb : stopB d = false := by unfold stopB; rw [hdn, hfu]; rfl
  have hns : (⟨(nameOf m).toArray⟩ : ByteArray).size ≤ maxLen := by show (nameOf m).toArray.size ≤ _; unfold maxLen; simp [nameOf_len m hm]
  have d2 : ((n : Int) != (last : Int) + 1) = false := by simp; omega
  have d3 := u64_next last hl
  have hr := remove_any w dbase dp M ρ d ⟨(nameOf m).toArray⟩ hd hok (by omega) hsb hns hget
  rw [hst] at hr
  have HR := Hid_mk hr
  have HLg := Hid_mk h
  have HOk := Hid_mk (remove_ok hok hns)
  have HSt := Hid_mk hst
  have HFu := Hid_mk hfu
  have HDn := Hid_mk hdn
  have HVρ := Hid_mk hvρ
  have Hρ := Hid_mk hρ
  have c0 := h.c0
  have c1 := h.c1
  have c3 := h.c3
  obtain ⟨a, cap, rfl, h1, h2, h3⟩ := Ns.of_row h.row
  obtain ⟨b, o, rfl, hc⟩ := h3 (by simp)
  have hc0 := hc 0 (by simp)
  simp only [Nat.add_zero, List.getElem_cons_zero, List.length_singleton] at hc0 c1 h1
  unfold nmv at hc0
  unfold maxLen at h2
  clear h hr hok hst hsb hns hfu hdn hget hρ hvρ hl hn hc h3 hd
  go_enter Tryz.func11, Tryz.ntmps11
  go_wp2
  clear d2 d3 c3
  refine wp_loop_rounds 2 ?_
  rw [rounds_succ]
  go_wp2_with fail
  with_reducible refine HR.out.mono ?_
  rintro e w1 ⟨rfl, ρ1, hd1, hf1⟩
  have hlg1 := HLg.out.kept hf1.1 (fun e => e Hρ.out) (fun g hg e => e (HVρ.out g hg))
  have hol1 : ρ1 lp = .other := hf1.2 _ HLg.out.lt Hρ.out
  have hov1 : ∀ g, (Value.slice (some ⟨b, o, none⟩) 1 cap).ownBlock = some g → ρ1 g = .other := fun g hg => hf1.2 _ (HLg.out.row.lt g hg).2 (HVρ.out g hg)
  have hok1 := HOk.out
  rw [HSt.out] at hok1
  have hst1 : stopD { d with cs := d.cs ++ [remC ⟨(nameOf m).toArray⟩] } = { d with cs := d.cs ++ [remC ⟨(nameOf m).toArray⟩] } := by unfold stopD; rw [HDn.out, HFu.out]; simp
  have hsy := sync_any w1 dbase dp (M + 1) ρ1 _ hd1 hok1 hM (by unfold stopB; simp [HDn.out, HFu.out])
  rw [hst1] at hsy
  have HSy := Hid_mk hsy
  have HLg1 := Hid_mk hlg1
  have HF1 := Hid_mk hf1
  have HOl1 := Hid_mk hol1
  have HOv1 := Hid_mk hov1
  have c0' := hlg1.c0
  clear hlg1 hf1 hol1 hov1 hok1 hst1 hsy hd1 c0 c1 hc0
  go_wp2
  rw [rounds_succ]
  go_wp2_with fail
  with_reducible refine HSy.out.mono ?_
  rintro e w2 ⟨rfl, ρ2, hd2, hf2⟩
  have hlg2 := HLg1.out.kept hf2.1 (fun e => e HOl1.out) (fun g hg e => e (HOv1.out g hg))
  have hol2 : ρ2 lp = .other := hf2.2 _ HLg1.out.lt HOl1.out
  have k1 := hlg2.set1 (ns' := []) (vn' := .slice none 0 0) (World.ownsRow_nil _ _ _ _) (by simp [Value.ownBlock])
  have k2 := k1.set2 0
  have hkn : Kp (fun k => k = lp) w2 ((w2.setCell ⟨lp, 1, none⟩ (.slice none 0 0)).setCell ⟨lp, 2, none⟩ (.int .i64 ((0 : Nat) : Int))) := ((Kp.refl (fun k => k = lp) w2).setCell (fun _ => rfl) _).setCell (fun _ => rfl) _
  have hd3 := hd2.aside hkn fun k _ e => by rw [e]; exact hol2
  have hk2 : Kp (fun k => ρ k ≠ .other ∨ k = lp) w w2 := (HF1.out.1.mono fun _ _ e => .inl e).trans hf2.1 fun k hk e => .inl fun e2 => e (HF1.out.2 k hk e2)
  have hfin : LgPost base dbase lp dp ρ { d with syn := { d with cs := d.cs ++ [remC ⟨(nameOf m).toArray⟩] }.now, cs := [] } [] 0 last w (.returned (.int .i64 0)) ((w2.setCell ⟨lp, 1, none⟩ (.slice none 0 0)).setCell ⟨lp, 2, none⟩ (.int .i64 0)) :=
    ⟨rfl, _, ρ2, k2, hol2, fun g hg => by simp [Value.ownBlock] at hg, hd3, hk2.trans hkn fun k _ e => .inr e, fun k hk e => hf2.2 k (Nat.lt_of_lt_of_le hk HF1.out.1.size) (HF1.out.2 k hk e)⟩
  have HFin := Hid_mk hfin
  have cc1 := hlg2.c1
  have cc2 := hlg2.c2
  have ff := hlg2.warm
  clear hlg2 hol2 k1 k2 hkn hd3 hk2 hfin hd2 hf2 c0'
  go_wp2
  go_ret
  exact HFin.out

end Go.Proofs.YteekcbbdbciddaaGreatDoor.wal
