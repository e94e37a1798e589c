/- wal's Append of the first batch of a journal that has no file, and of one with a wrong epoch. -/
import Derived.Test.YteekcbbdbciddaaGreatDoorWalOpenM
import Derived.Test.YteekcbbdbciddaaGreatDoorDkAside
import Derived.Deep.RegionWith
import Derived.RegionCalls
import Derived.BigRegion
import Derived.StillTailTactics

namespace Go.Proofs.YteekcbbdbciddaaGreatDoor.wal
open Go.RowKit Go.Proofs.YteekcbbdbciddaaGreatDoor.fl Go.Proofs.YteekcbbdbciddaaGreatDoor.sum Go.Proofs.YteekcbbdbciddaaGreatDoor.kept Go.Proofs.YteekcbbdbciddaaGreatDoor.app Go.Proofs.YteekcbbdbciddaaGreatDoor.writer Go.Proofs.YteekcbbdbciddaaGreatDoor.clone Go.Proofs.YteekcbbdbciddaaGreatDoor.known Go.Proofs.YteekcbbdbciddaaGreatDoor.mrk Go.Proofs.YteekcbbdbciddaaGreatDoor.hex Go.Proofs.YteekcbbdbciddaaGreatDoor.fs Go.Proofs.YteekcbbdbciddaaGreatDoor.fsUsed Go.Proofs.YteekcbbdbciddaaGreatDoor.dsk Go.Proofs.YteekcbbdbciddaaGreatDoor.frm
set_option linter.unusedVariables false

theorem u64_next (last : Nat) (h : last ≤ 1099511627776) : IntKind.u64.wrap ((last : Int) + 1) = (last : Int) + 1 := by
  simp only [IntKind.wrap, IntKind.bits, IntKind.signed]; simp; omega

set_option maxRecDepth 100000 in
set_option maxHeartbeats 2000000 in
theorem append_wrong (w : World) (base lp dp : Nat) (vn : Value) (ns : List Nat) (size last : Nat) (h : Lg w base lp dp vn ns size last) (hl : last ≤ 1099511627776) (x : Bt) (vb : Value) (hx : BtOk x) (hb : Bs w vb x.bytes) (hne : x.epoch ≠ last + 1) :
    Calls Tryz.prog 8 #[.pointer (some ⟨lp, 0, none⟩), bval x vb] w fun e w' => e = .returned (.int .i64 1) ∧ Kp No w w' := by
  have h0 : Kp No w (w.alloc (boxObj x vb)) := (Kp.refl No w).alloc _
  have HLay := Hid_mk (lay_ok x vb (w.alloc (boxObj x vb)) hx (bs_no hb h0))
  have HK0 := Hid_mk h0
  have HBox := Hid_mk (Box.new w x vb)
  have HLg := Hid_mk h
  have d2 : ((x.epoch : Int) != (last : Int) + 1) = true := by simp; omega
  have d3 := u64_next last hl
  obtain ⟨av, cap, rfl, -, -, -⟩ := hb
  unfold bval at *
  unfold boxObj at HLay HK0 HBox
  clear h0 hx h hl hne
  go_enter Tryz.func8, Tryz.ntmps8
  go_wp2_with fail
  with_reducible refine HLay.out.mono ?_
  rintro e w1 ⟨v1, rfl, -, hk1⟩
  have HK1 := Hid_mk (HK0.out.trans' hk1)
  have c0 := (HBox.out.no hk1).c0
  have c3 := (HLg.out.no HK1.out).c3
  clear hk1
  go_wp2_with fail
  go_quiet (fail)
  clear c0 c3 d2 d3
  go_wp2
  go_ret
  exact ⟨rfl, HK1.out.drewN _⟩

/-- what a call on a Log leaves of the world -/
def FrL (ρ : Nat → Role) (lp : Nat) (w : World) (ρ' : Nat → Role) (w' : World) : Prop := Kp (fun k => ρ k ≠ .other ∨ k = lp) w w' ∧ ∀ k, k < w.heap.size → ρ k = .other → ρ' k = .other
def LgPost (base dbase lp dp : Nat) (ρ : Nat → Role) (d : DSt) (ns : List Nat) (size last : Nat) (w : World) (e : Ending) (w' : World) : Prop :=
  e = .returned (.int .i64 0) ∧ ∃ vn' ρ', Lg w' base lp dp vn' ns size last ∧ ρ' lp = .other ∧ (∀ g, vn'.ownBlock = some g → ρ' g = .other) ∧ Dk w' dbase dp ρ' d ∧ FrL ρ lp w ρ' w'

set_option maxRecDepth 100000 in
set_option maxHeartbeats 4000000 in
theorem append_first (w : World) (base dbase lp dp M : Nat) (ρ : Nat → Role) (d : DSt) (vn : Value) (last : Nat) (h : Lg w base lp dp vn [] 0 last) (hρ : ρ lp = .other) (hvρ : ∀ g, vn.ownBlock = some g → ρ g = .other) (hl : last + 1 ≤ 1099511627776)
    (x : Bt) (vb : Value) (hx : BtOk x) (hb : Bs w vb x.bytes) (he : x.epoch = last + 1) (hd : Dk w dbase dp ρ d) (hok : DOk M d) (hM : M + 1 ≤ 1000000) (hfu : d.fuse = -1) (hdn : d.down = false) (hnow : d.now = []) (hroom : 8388608 ≤ d.room) (ht : Tz w) (hbw : base ≤ w.heap.size) :
    Calls Tryz.prog 8 #[.pointer (some ⟨lp, 0, none⟩), bval x vb] w (LgPost base dbase lp dp ρ { d with syn := { d with cs := d.cs ++ [appC ⟨(nameOf x.epoch).toArray⟩ (framed (laid x))] }.now, cs := [] } [x.epoch] ((laid x).length + 10) x.epoch w) := by
  have hst : stopD d = d := by unfold stopD; rw [hdn, hfu]; simp
  have hsb : stopB d = false := by unfold stopB; rw [hdn, hfu]; rfl
  have hxe : x.epoch ≤ 1099511627776 := hx.e1
  have hnb : nameB ⟨(nameOf x.epoch).toArray⟩ = true := by
    have e : (⟨(nameOf x.epoch).toArray⟩ : ByteArray).size = 16 := by show (nameOf x.epoch).toArray.size = 16; simp [nameOf_len _ hxe]
    unfold nameB; rw [e]; rfl
  have hfl : (framed (laid x)).length = (laid x).length + 10 := framed_len (by have := laid_len x hx; omega)
  have hll := laid_len x hx
  have h0 : Kp No w (w.alloc (boxObj x vb)) := (Kp.refl No w).alloc _
  have HLay := Hid_mk (lay_ok x vb (w.alloc (boxObj x vb)) hx (bs_no hb h0))
  have HK0 := Hid_mk h0
  have HBox := Hid_mk (Box.new w x vb)
  have HLg := Hid_mk h
  have d2 : ((x.epoch : Int) != (last : Int) + 1) = false := by simp; omega
  have d3 := u64_next last (by omega)
  have HT := Hid_mk ht
  have HXe := Hid_mk hxe
  have HFl := Hid_mk hfl
  have HLl := Hid_mk hll
  have HD := Hid_mk hd
  have HOk := Hid_mk hok
  have HSt := Hid_mk hst
  have HSb := Hid_mk hsb
  have HNb := Hid_mk hnb
  have HNow := Hid_mk hnow
  have HFu := Hid_mk hfu
  have HDn := Hid_mk hdn
  have HRoom := Hid_mk hroom
  have HVρ := Hid_mk hvρ
  have Hρ := Hid_mk hρ
  obtain ⟨av, cap, rfl, -, -, -⟩ := hb
  obtain ⟨an, cn, hvn⟩ : ∃ a c, vn = .slice a 0 c := by obtain ⟨a, c, e, -⟩ := Ns.of_row h.row; exact ⟨a, c, e⟩
  subst hvn
  unfold bval at *
  unfold boxObj at HLay HK0 HBox
  clear h0 hx h hl he hd hok hfu hdn hnow hroom ht hst hsb hnb hxe hfl hll hρ hvρ
  go_enter Tryz.func8, Tryz.ntmps8
  go_wp2_with fail
  with_reducible refine HLay.out.mono ?_
  rintro e w1 ⟨v1, rfl, ho1, hk1⟩
  have HK1 := Hid_mk (HK0.out.trans' hk1)
  have HB1 := Hid_mk (owns_bs ho1)
  have c0 := (HBox.out.no hk1).c0
  have c3 := (HLg.out.no HK1.out).c3
  have HBox1 := Hid_mk (HBox.out.no hk1)
  clear hk1 ho1
  go_wp2_with fail
  go_quiet (fail)
  clear c3 d2 d3
  have hk2 : Kp No w1 (w1.drewN nq) := (Kp.refl No w1).drewN nq
  have HB2 := Hid_mk (bs_no HB1.out hk2)
  have HK2 := Hid_mk (HK1.out.trans' hk2)
  have HBox2 := Hid_mk (HBox1.out.no hk2)
  clear hk2 c0
  generalize w1.drewN nq = w2 at *
  have c0 := HBox2.out.c0
  have c1 := (HLg.out.no HK2.out).c1
  go_wp2_with fail
  refine (name_any x.epoch HXe.out w2 (HT.out.no HK2.out)).mono ?_
  rintro e w3 ⟨rfl, hk3⟩
  clear c0 c1
  have h34 : Kp No w3 (w3.alloc (Obj.cells #[.string ⟨(nameOf x.epoch).toArray⟩] 9)) := (Kp.refl No w3).alloc _
  have HF := Hid_mk (frame_any (w3.alloc (Obj.cells #[.string ⟨(nameOf x.epoch).toArray⟩] 9)) v1 (laid x) (bs_no HB2.out (hk3.trans' h34)))
  have HK3 := Hid_mk (HK2.out.trans' hk3)
  have HBox3 := Hid_mk (HBox2.out.no (hk3.trans' h34))
  clear hk3
  go_wp2_with fail
  with_reducible refine HF.out.mono ?_
  rintro e w4 ⟨v4, rfl, ho4, hk4⟩
  obtain ⟨W3, hW3⟩ : ∃ W, W = w3.alloc (Obj.cells #[.string ⟨(nameOf x.epoch).toArray⟩] 9) := ⟨_, rfl⟩
  rw [← hW3] at hk4 ho4
  have hrow3 : W3.ownsRow w3.heap.size 9 1 (.slice (some ⟨w3.heap.size, 0, none⟩) 1 1) 1 [nmv x.epoch] := by
    rw [hW3]; exact World.ownsRow_lit w3 #[.string ⟨(nameOf x.epoch).toArray⟩] 1 (Nat.le_refl _) (by decide) rfl
  have hkA : Kp No w W3 := by rw [hW3]; exact HK3.out.alloc _
  have hrow4 := owns_kept hrow3 hk4 fun _ _ => id
  have HRow4 := Hid_mk hrow4
  have HK4 := Hid_mk (hkA.trans' hk4)
  have HBox4 := Hid_mk (show Box w4 w.heap.size x (.slice av x.bytes.length cap) from by rw [← hW3] at HBox3; exact HBox3.out.no hk4)
  have hlg4 := HLg.out.no HK4.out
  have HLg4 := Hid_mk hlg4
  have HD4 := Hid_mk (HD.out.no HK4.out)
  have HO4 := Hid_mk ho4
  have hbs4 := owns_bs ho4
  have HBs4 := Hid_mk hbs4
  have hsz3 : w.heap.size ≤ w3.heap.size := HK3.out.size
  have hszW : w3.heap.size < W3.heap.size := by rw [hW3]; simp
  have hszA := HK4.out.size
  have hsz4 := hk4.size
  have c0 := hlg4.c0
  have n0 : w4.cell? ⟨w3.heap.size, 0, none⟩ = some (.string ⟨(nameOf x.epoch).toArray⟩) := by
    have := hrow4.cells (g := w3.heap.size) rfl 0 (nmv x.epoch) rfl
    rw [addr_add] at this; exact this
  obtain ⟨a4, c4, rfl⟩ : ∃ a c, v4 = .slice a (framed (laid x)).length c := by obtain ⟨a, c, e, -⟩ := hbs4; exact ⟨a, c, e⟩
  have hv4 : ∀ g, (Value.slice a4 (framed (laid x)).length c4).ownBlock = some g → w.heap.size ≤ g := fun g hg => by have := (ho4.lt g hg).1; omega
  have HV4 := Hid_mk hv4
  have HApp := Hid_mk fun V (hV : Kp No w4 V) => dsk.append_any V dbase dp M ρ d ⟨(nameOf x.epoch).toArray⟩ (.slice a4 (framed (laid x)).length c4) (framed (laid x)) (HD4.out.no hV) HOk.out (by omega) HSb.out HNb.out (bs_no hbs4 hV)
    (fun b o n c e => HD.out.hi (hv4 b (by rw [e]; rfl))) (by rw [HNow.out]; have := HFl.out; have := HLl.out; have := HRoom.out; simp [used]; omega) (by rw [HNow.out]; decide)
  clear hW3 hk4 ho4 hrow3 hkA hrow4 hlg4 hbs4 hv4
  go_wp2_with fail
  have q1 : IntKind.i64.wrap (1 - 1) = 0 := by decide +kernel
  have hst := HSt.out
  have happ2 : ∀ V, Kp No w4 V → Calls Tryz.prog 24 #[.pointer (some ⟨dp, 0, none⟩), .string ⟨(nameOf x.epoch).toArray⟩, .slice a4 (framed (laid x)).length c4] V fun e w5 => e = .returned (.int .i64 0) ∧
      Hid (∃ ρ5, Lg w5 base lp dp (.slice an 0 cn) [] 0 last ∧ Box w5 w.heap.size x (.slice av x.bytes.length cap) ∧ w5.ownsRow w3.heap.size 9 1 (.slice (some ⟨w3.heap.size, 0, none⟩) 1 1) 1 [nmv x.epoch] ∧
        Dk w5 dbase dp ρ5 { d with cs := d.cs ++ [appC ⟨(nameOf x.epoch).toArray⟩ (framed (laid x))] } ∧ Fr ρ w ρ5 w5 ∧ (∀ k, k < w4.heap.size → ρ k = .other → ρ5 k = .other) ∧ w4.heap.size ≤ w5.heap.size) := fun V hV => (HApp.out V hV).mono fun e w5 ⟨he, ρ5, hd5, hf5⟩ => by
    refine ⟨he, ρ5, ?_, ?_, ?_, ?_, (Fr.of_no (HK4.out.trans' hV)).trans hf5, fun k hk e => hf5.2 k (Nat.lt_of_lt_of_le hk hV.size) e, Nat.le_trans hV.size hf5.1.size⟩
    · exact (HLg4.out.no hV).kept hf5.1 (fun e => e Hρ.out) (fun g hg e => e (HVρ.out g hg))
    · exact (HBox4.out.no hV).kept hf5.1 (fun e => e (HD.out.hi (Nat.le_refl _)))
    · exact owns_kept (owns_kept HRow4.out hV fun _ _ => id) hf5.1 (fun g hg e => e (HD.out.hi (by simp [Value.ownBlock] at hg; omega)))
    · rw [hst] at hd5; exact hd5
  have HApp2 := Hid_mk happ2
  clear hst happ2 HApp
  go_region_with (go_at_call 24; (with_reducible refine (HApp2.out _ ((Kp.refl No w4).drew)).mono ?_); rintro e w5 ⟨rfl, h5⟩)
  all_goals
    clear HApp2 c0 n0
    obtain ⟨ρ5, hlg5, hbox5, hrow5, hd5, hf5, ho5, hs5⟩ := h5.out
    have HOth := Hid_mk ho5
    clear ho5
    clear h5
    have hst5 : stopD { d with cs := d.cs ++ [appC ⟨(nameOf x.epoch).toArray⟩ (framed (laid x))] } = { d with cs := d.cs ++ [appC ⟨(nameOf x.epoch).toArray⟩ (framed (laid x))] } := by unfold stopD; rw [HDn.out, HFu.out]; simp
    have hok5 := append_ok HOk.out HNb.out (bs := framed (laid x)) (by have := HFl.out; have := HLl.out; omega)
    rw [HSt.out] at hok5
    have hsy := sync_any w5 dbase dp (M + 1) ρ5 _ hd5 hok5 hM (by unfold stopB; simp [HDn.out, HFu.out])
    rw [hst5] at hsy
    have HSy := Hid_mk hsy
    have HLg5 := Hid_mk hlg5
    have HBox5 := Hid_mk hbox5
    have HRow5 := Hid_mk hrow5
    have HF5 := Hid_mk hf5
    have c0 := hlg5.c0
    clear hlg5 hbox5 hrow5 hd5 hf5 hst5 hok5 hsy
    go_wp2_with fail
    with_reducible refine HSy.out.mono ?_
    rintro e w6 ⟨rfl, ρ6, hd6, hf6⟩
    have hoq : ρ5 w.heap.size = .other := HOth.out _ (by omega) (HD.out.hi (Nat.le_refl _))
    have hor : ρ5 w3.heap.size = .other := HOth.out _ (by omega) (HD.out.hi hsz3)
    have hol : ρ5 lp = .other := HF5.out.2 _ HLg.out.lt Hρ.out
    have hlg6 := HLg5.out.kept hf6.1 (fun e => e hol) (fun g hg e => e (HF5.out.2 _ (HLg.out.row.lt g hg).2 (HVρ.out g hg)))
    have hbox6 := HBox5.out.kept hf6.1 (fun e => e hoq)
    have hrow6 := owns_kept HRow5.out hf6.1 (fun g hg e => e (by simp [Value.ownBlock] at hg; rw [← hg]; exact hor))
    have hll := HLg.out.lt
    have h1 := hlg6.set1 (ns' := [x.epoch]) (owns_base hrow6 (by omega)) (fun e => by simp [Value.ownBlock] at e; omega)
    have h2 := h1.set2 (framed (laid x)).length
    have h3 := h2.set3 x.epoch
    have hkl : ∀ (W : World) (o : Nat) (u : Value), Kp (fun k => ρ k ≠ .other ∨ k = lp) w W → Kp (fun k => ρ k ≠ .other ∨ k = lp) w (W.setCell ⟨lp, o, none⟩ u) := fun W o u hk => hk.setCell (fun _ => .inr rfl) _
    have hk6 : Kp (fun k => ρ k ≠ .other ∨ k = lp) w w6 := (HF5.out.1.mono fun _ _ e => .inl e).trans hf6.1 fun k hk e => .inl fun e2 => e (HF5.out.2 k hk e2)
    have HD6 := Hid_mk hd6
    have HF6 := Hid_mk hf6
    have hol6 : ρ6 lp = .other := hf6.2 _ (Nat.lt_of_lt_of_le hll HF5.out.1.size) hol
    have hor6 : ρ6 w3.heap.size = .other := hf6.2 _ (by omega) hor
    have cc0 := hlg6.c0
    have cc1 := hlg6.c1
    have cc2 := hlg6.c2
    have cc3 := hlg6.c3
    have ff := hlg6.warm
    have bb := hbox6.c0
    have hL0 : (0 : Int) ≤ ((framed (laid x)).length : Int) := by omega
    have hL1 : ((framed (laid x)).length : Int) ≤ 600 := by have := HFl.out; have := HLl.out; omega
    have hkn : Kp (fun k => k = lp) w6 (((w6.setCell ⟨lp, 1, none⟩ (.slice (some ⟨w3.heap.size, 0, none⟩) 1 1)).setCell ⟨lp, 2, none⟩ (.int .i64 ((framed (laid x)).length : Int))).setCell ⟨lp, 3, none⟩ (.int .u64 (x.epoch : Int))) :=
      (((Kp.refl (fun k => k = lp) w6).setCell (fun _ => rfl) _).setCell (fun _ => rfl) _).setCell (fun _ => rfl) _
    have hd7 := hd6.aside hkn fun k _ e => by rw [e]; exact hol6
    have hfin : LgPost base dbase lp dp ρ { d with syn := { d with cs := d.cs ++ [appC ⟨(nameOf x.epoch).toArray⟩ (framed (laid x))] }.now, cs := [] } [x.epoch] ((laid x).length + 10) x.epoch w (.returned (.int .i64 0))
        ((((w6.setCell ⟨lp, 1, none⟩ (.slice (some ⟨w3.heap.size, 0, none⟩) 1 1)).setCell ⟨lp, 2, none⟩ (.int .i64 ((framed (laid x)).length : Int))).setCell ⟨lp, 3, none⟩ (.int .u64 (x.epoch : Int))).drew) := by
      have hkd : Kp No (((w6.setCell ⟨lp, 1, none⟩ (.slice (some ⟨w3.heap.size, 0, none⟩) 1 1)).setCell ⟨lp, 2, none⟩ (.int .i64 ((framed (laid x)).length : Int))).setCell ⟨lp, 3, none⟩ (.int .u64 (x.epoch : Int))) _ := (Kp.refl No _).drew
      rw [HFl.out] at h3 hd7 hkn hkd ⊢
      exact ⟨rfl, _, ρ6, h3.no hkd, hol6, fun g hg => by simp [Value.ownBlock] at hg; rw [← hg]; exact hor6, hd7.no hkd, ((hk6.trans hkn fun k _ e => .inr e).drew), fun k hk e => hf6.2 k (Nat.lt_of_lt_of_le hk HF5.out.1.size) (HF5.out.2 k hk e)⟩
    have HFin := Hid_mk hfin
    clear hfin hd7 hkn
    have H3 := Hid_mk h3
    have HK6 := Hid_mk hk6
    have HKl := Hid_mk hkl
    have HOl := Hid_mk hol6
    have HOr := Hid_mk hor6
    have HF5' := HF5
    clear c0 hd6 hf6 h1 h2 h3 hoq hor hol hlg6 hbox6 hrow6 hk6 hkl hol6 hor6
    go_wp2_with fail
    go_region
    all_goals
      go_wp2
      go_ret
      exact HFin.out

end Go.Proofs.YteekcbbdbciddaaGreatDoor.wal
