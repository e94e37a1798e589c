/- wal's readFiles and Open, of a journal with no file and of one with one batch. wal.Open, of a journal with no file and of one with one batch. -/
import Derived.Test.YteekcbbdbciddaaGreatDoorBehind
import Derived.Test.YteekcbbdbciddaaGreatDoorNamesUpM

namespace Go.Proofs.YteekcbbdbciddaaGreatDoor.wal
open Go.RowKit Go.Proofs.YteekcbbdbciddaaGreatDoor.fl Go.Proofs.YteekcbbdbciddaaGreatDoor.sum Go.Proofs.YteekcbbdbciddaaGreatDoor.kept Go.Proofs.YteekcbbdbciddaaGreatDoor.app Go.Proofs.YteekcbbdbciddaaGreatDoor.writer Go.Proofs.YteekcbbdbciddaaGreatDoor.clone Go.Proofs.YteekcbbdbciddaaGreatDoor.known Go.Proofs.YteekcbbdbciddaaGreatDoor.mrk Go.Proofs.YteekcbbdbciddaaGreatDoor.hex Go.Proofs.YteekcbbdbciddaaGreatDoor.fs Go.Proofs.YteekcbbdbciddaaGreatDoor.fsUsed Go.Proofs.YteekcbbdbciddaaGreatDoor.dsk Go.Proofs.YteekcbbdbciddaaGreatDoor.frm
set_option linter.unusedVariables false

/-- A Log at block lp, of the disk at dp. -/
structure Lg (w : World) (base lp dp : Nat) (vn : Value) (ns : List Nat) (size last : Nat) : Prop where
  c0 : w.cell? ⟨lp, 0, none⟩ = some (.pointer (some ⟨dp, 0, none⟩))
  c1 : w.cell? ⟨lp, 1, none⟩ = some vn
  c2 : w.cell? ⟨lp, 2, none⟩ = some (.int .i64 (size : Int))
  c3 : w.cell? ⟨lp, 3, none⟩ = some (.int .u64 (last : Int))
  warm : ∀ o, w.frozen? ⟨lp, o, none⟩ = false
  row : w.ownsRow base 9 1 vn ns.length (ns.map nmv)
  low : base ≤ lp
  apart : vn.ownBlock ≠ some lp
theorem Lg.lt {w : World} {base lp dp : Nat} {vn : Value} {ns : List Nat} {size last : Nat} (h : Lg w base lp dp vn ns size last) : lp < w.heap.size := World.block_lt_of_cell? w ⟨lp, 0, none⟩ h.c0
theorem Lg.kept {S : Nat → Prop} {w w' : World} {base lp dp : Nat} {vn : Value} {ns : List Nat} {size last : Nat} (h : Lg w base lp dp vn ns size last) (hk : Kp S w w') (hs : ¬ S lp) (hv : ∀ g, vn.ownBlock = some g → ¬ S g) : Lg w' base lp dp vn ns size last :=
  ⟨hk.cell' h.c0 hs, hk.cell' h.c1 hs, hk.cell' h.c2 hs, hk.cell' h.c3 hs, fun o => (hk.frozen (p := ⟨lp, o, none⟩) h.lt hs).trans (h.warm o), owns_kept h.row hk hv, h.low, h.apart⟩
theorem Lg.no {w w' : World} {base lp dp : Nat} {vn : Value} {ns : List Nat} {size last : Nat} (h : Lg w base lp dp vn ns size last) (hk : Kp No w w') : Lg w' base lp dp vn ns size last := h.kept hk id fun _ _ => id
theorem Lg.set2 {w : World} {base lp dp : Nat} {vn : Value} {ns : List Nat} {size last : Nat} (h : Lg w base lp dp vn ns size last) (n : Nat) : Lg (w.setCell ⟨lp, 2, none⟩ (.int .i64 (n : Int))) base lp dp vn ns n last :=
  ⟨cell_off h.c0 (by omega), cell_off h.c1 (by omega), World.cell?_setCell_same w _ _ h.c2, cell_off h.c3 (by omega), fun o => by rw [World.frozen?_setCell]; exact h.warm o, owns_kept h.row ((Kp.refl (fun k => k = lp) w).setCell (fun _ => rfl) _) fun g hg e => h.apart (by rw [hg, e]), h.low, h.apart⟩
theorem Lg.set3 {w : World} {base lp dp : Nat} {vn : Value} {ns : List Nat} {size last : Nat} (h : Lg w base lp dp vn ns size last) (n : Nat) : Lg (w.setCell ⟨lp, 3, none⟩ (.int .u64 (n : Int))) base lp dp vn ns size n :=
  ⟨cell_off h.c0 (by omega), cell_off h.c1 (by omega), cell_off h.c2 (by omega), World.cell?_setCell_same w _ _ h.c3, fun o => by rw [World.frozen?_setCell]; exact h.warm o, owns_kept h.row ((Kp.refl (fun k => k = lp) w).setCell (fun _ => rfl) _) fun g hg e => h.apart (by rw [hg, e]), h.low, h.apart⟩
theorem Lg.set1 {w : World} {base lp dp : Nat} {vn vn' : Value} {ns ns' : List Nat} {size last : Nat} (h : Lg w base lp dp vn ns size last) (hr : w.ownsRow base 9 1 vn' ns'.length (ns'.map nmv)) (ha : vn'.ownBlock ≠ some lp) : Lg (w.setCell ⟨lp, 1, none⟩ vn') base lp dp vn' ns' size last :=
  ⟨cell_off h.c0 (by omega), World.cell?_setCell_same w _ _ h.c1, cell_off h.c2 (by omega), cell_off h.c3 (by omega), fun o => by rw [World.frozen?_setCell]; exact h.warm o, owns_kept hr ((Kp.refl (fun k => k = lp) w).setCell (fun _ => rfl) _) fun g hg e => ha (by rw [hg, e]), h.low, ha⟩

set_option maxRecDepth 100000 in
set_option maxHeartbeats 1000000 in
theorem readFiles_none (w : World) (base lp dp : Nat) (vn : Value) (size last : Nat) (h : Lg w base lp dp vn [] size last) :
    Calls Tryz.prog 18 #[.pointer (some ⟨lp, 0, none⟩)] w fun e w' => e = .returned (.tuple #[.slice none 0 0, .int .i64 0]) ∧ w = w' := by
  have c1 := h.c1
  obtain ⟨a, cap, rfl, -, -, -⟩ := Ns.of_row h.row
  simp only [List.length_nil] at c1 ⊢
  go_enter Tryz.func18, Tryz.ntmps18
  go_wp2
  refine wp_loop_rounds 1 ?_
  rw [rounds_succ]
  go_wp2
  go_ret2
  exact ⟨rfl, rfl⟩

/-- what readFiles leaves of a file of one batch -/
def RfPost (w : World) (base lp dp : Nat) (vn : Value) (n : Nat) (last : Nat) (x : Bt) (e : Ending) (w' : World) : Prop :=
  ∃ v vb W, e = .returned (.tuple #[v, .int .i64 0]) ∧ One w' v x vb ∧ Bs w' vb x.bytes ∧ (∀ b o n c, vb = .slice (some ⟨b, o, none⟩) n c → w.heap.size ≤ b) ∧ (∀ g, v.ownBlock = some g → w.heap.size ≤ g) ∧ Kp No w W ∧ w' = W.setCell ⟨lp, 2, none⟩ (.int .i64 (((laid x).length + 10 : Nat) : Int))

set_option maxRecDepth 100000 in
set_option maxHeartbeats 2000000 in
theorem readFiles_one (w : World) (base lp dp n : Nat) (vn : Value) (last : Nat) (h : Lg w base lp dp vn [n] 0 last) (x : Bt) (hx : BtOk x) (dbase : Nat) (ρ : Nat → Role) (d : DSt) (hd : Dk w dbase dp ρ d) (hdn : d.down = false) (hu : used d.now ≤ 140737488355328)
    (hn : n ≤ 1099511627776) (hget : fs.get d.now (nameOf n) = some (framed (laid x))) :
    Calls Tryz.prog 18 #[.pointer (some ⟨lp, 0, none⟩)] w (RfPost w base lp dp vn n last x) := by
  have HLg := Hid_mk h
  have c0 := h.c0
  have c1 := h.c1
  obtain ⟨a, cap, rfl, h1, h2, h3⟩ := Ns.of_row h.row
  obtain ⟨b, o, rfl, hc⟩ := h3 (by simp)
  have hc0 := hc 0 (by simp)
  simp only [Nat.add_zero, List.getElem_cons_zero, List.length_singleton] at hc0 c1 h1
  obtain ⟨s, n', vp, ps, hdk⟩ := id hd
  have hrd := read_any w dbase dp ρ d d.now s n' vp ps ⟨(nameOf n).toArray⟩ hdk hdn (by have := nameOf_len n hn; show (nameOf n).toArray.size ≤ _; unfold maxLen; simp; omega) hu
  have enm : nm ⟨(nameOf n).toArray⟩ = nameOf n := rfl
  have hfl : (framed (laid x)).length = (laid x).length + 10 := framed_len (by have := laid_len x hx; omega)
  rw [enm, hget, show old d.now (nameOf n) = framed (laid x) by unfold old; rw [hget]; rfl] at hrd
  have HFl := Hid_mk hfl
  have HRd := Hid_mk hrd
  have HX := Hid_mk hx
  have HG := Hid_mk hget
  have HLn := Hid_mk (laid_len x hx)
  unfold nmv at hc0
  unfold maxLen at h2
  clear h h3 hc hdk hd hx hget hdn hu hrd enm hfl
  go_enter Tryz.func18, Tryz.ntmps18
  go_wp2
  refine wp_loop_rounds 2 ?_
  rw [rounds_succ]
  go_wp2_with fail
  with_reducible refine HRd.out.mono ?_
  rintro e w1 ⟨v1, rfl, ho1, hk1⟩
  have hb1 := owns_bs ho1
  have HFit := Hid_mk (fitting_one x HX.out v1 w1 hb1)
  obtain ⟨a1, cc1, e1, -, -, -⟩ := hb1
  rw [HFl.out] at e1
  subst e1
  have HK1 := Hid_mk hk1
  clear ho1 hk1 c0
  go_wp2_with fail
  with_reducible refine HFit.out.mono ?_
  rintro e w2 ⟨v2, vb, rfl, ho2, hb2, hnv, hk2⟩
  have hll := HLg.out.lt
  have hs1 := HK1.out.size
  have hks : Kp (fun k => k = lp) w2 (w2.setCell ⟨lp, 2, none⟩ (.int .i64 (((laid x).length + 10 : Nat) : Int))) := (Kp.refl (fun k => k = lp) w2).setCell (fun _ => rfl) _
  have hone2 := One.of_row (owns_kept ho2 hks fun g hg e => by have := (ho2.lt g hg).1; omega)
  have hbs2 := bs_kept hb2 hks fun b o n c e e2 => by have := hnv b o n c e; omega
  have HOne := Hid_mk hone2
  have HOw := Hid_mk (show ∀ g, v2.ownBlock = some g → w.heap.size ≤ g from fun g hg => Nat.le_trans hs1 (ho2.lt g hg).1)
  have HBs := Hid_mk hbs2
  have HNv := Hid_mk (show ∀ b o n c, vb = .slice (some ⟨b, o, none⟩) n c → w.heap.size ≤ b from fun b o n c e => Nat.le_trans hs1 (hnv b o n c e))
  have HK2 := Hid_mk (HK1.out.trans' hk2)
  have hlg := HLg.out.no HK2.out
  have c2 := hlg.c2
  have f2 := hlg.warm 2
  have hL0 : (0 : Int) ≤ ((laid x).length : Int) := by omega
  have hL1 : ((laid x).length : Int) ≤ 600 := by have := HLn.out; omega
  rw [show (((laid x).length + 10 : Nat) : Int) = ((laid x).length : Int) + 10 from by omega] at HOne HBs
  clear hlg ho2 hb2 hk2 hnv hone2 hbs2 hks hs1
  go_wp2
  rw [rounds_succ]
  go_wp2
  go_ret2
  exact ⟨v2, vb, w2, rfl, HOne.out, HBs.out, HNv.out, HOw.out, HK2.out, rfl⟩

end Go.Proofs.YteekcbbdbciddaaGreatDoor.wal

namespace Go.Proofs.YteekcbbdbciddaaGreatDoor.wal
open Go.RowKit Go.Proofs.YteekcbbdbciddaaGreatDoor.fl Go.Proofs.YteekcbbdbciddaaGreatDoor.sum Go.Proofs.YteekcbbdbciddaaGreatDoor.kept Go.Proofs.YteekcbbdbciddaaGreatDoor.app Go.Proofs.YteekcbbdbciddaaGreatDoor.writer Go.Proofs.YteekcbbdbciddaaGreatDoor.clone Go.Proofs.YteekcbbdbciddaaGreatDoor.known Go.Proofs.YteekcbbdbciddaaGreatDoor.mrk Go.Proofs.YteekcbbdbciddaaGreatDoor.hex Go.Proofs.YteekcbbdbciddaaGreatDoor.fs Go.Proofs.YteekcbbdbciddaaGreatDoor.fsUsed Go.Proofs.YteekcbbdbciddaaGreatDoor.dsk Go.Proofs.YteekcbbdbciddaaGreatDoor.frm
set_option linter.unusedVariables false

/-- what Open leaves -/
def OpPost (w : World) (dbase dp : Nat) (ρ : Nat → Role) (d : DSt) (ns : List Nat) (size last : Nat) (told : Value → World → Prop) (e : Ending) (w' : World) : Prop :=
  ∃ lp vn v ρ', e = .returned (.tuple #[.pointer (some ⟨lp, 0, none⟩), v, .int .i64 0]) ∧ Lg w' w.heap.size lp dp vn ns size last ∧ ρ' lp = .other ∧ (∀ g, vn.ownBlock = some g → ρ' g = .other) ∧ told v w' ∧ Dk w' dbase dp ρ' d ∧ Fr ρ w ρ' w'

set_option maxRecDepth 100000 in
set_option maxHeartbeats 1000000 in
theorem open_nil (n : Nat) (w : World) : Calls Tryz.prog 6 #[.pointer none, .int .u64 (n : Int)] w fun e w' => e = .returned (.tuple #[.pointer none, .slice none 0 0, .int .i64 1]) ∧ w = w' := by
  go_enter Tryz.func6, Tryz.ntmps6
  go_wp2
  exact bodyPost_ret (v := .tuple #[.pointer none, .slice none 0 0, .int .i64 1]) (by simp [results, Tryz.results6, go_sem]) rfl ⟨rfl, rfl⟩

set_option maxRecDepth 100000 in
set_option maxHeartbeats 1000000 in
theorem open_much (n : Nat) (hn : 1099511627776 < n) (a : Addr) (w : World) : Calls Tryz.prog 6 #[.pointer (some a), .int .u64 (n : Int)] w fun e w' => e = .returned (.tuple #[.pointer none, .slice none 0 0, .int .i64 1]) ∧ w = w' := by
  have hn' : (1099511627776 : Int) < (n : Int) := by omega
  go_enter Tryz.func6, Tryz.ntmps6
  go_wp2
  exact bodyPost_ret (v := .tuple #[.pointer none, .slice none 0 0, .int .i64 1]) (by simp [results, Tryz.results6, go_sem]) rfl ⟨rfl, rfl⟩

/-- a new Log -/
theorem Lg.new (w w1 : World) (dp after : Nat) (an : Option Addr) (cn : Nat) (ns : List Nat) (hk : Kp No w w1) (ho : w1.ownsRow w.heap.size 9 1 (.slice an ns.length cn) ns.length (ns.map nmv)) :
    Lg (w1.alloc (Obj.cells #[.pointer (some ⟨dp, 0, none⟩), .slice an ns.length cn, .int .i64 0, .int .u64 (after : Int)] 53)) w.heap.size w1.heap.size dp (.slice an ns.length cn) ns 0 after := by
  refine ⟨by rw [World.cell?_alloc_mark]; simp, by rw [World.cell?_alloc_mark]; simp, by rw [World.cell?_alloc_mark]; simp, by rw [World.cell?_alloc_mark]; simp, fun o => by simp, owns_kept ho ((Kp.refl No w1).alloc _) fun _ _ => id, hk.size, fun e => ?_⟩
  have := (ho.lt _ e).2
  omega

set_option maxRecDepth 100000 in
set_option maxHeartbeats 2000000 in
theorem open_none (w : World) (dbase dp M after : Nat) (ρ : Nat → Role) (d : DSt) (hd : Dk w dbase dp ρ d) (hok : DOk M d) (hM : M ≤ 1000000) (hstop : stopB d = false) (hnow : d.now = []) (ha : after ≤ 1099511627776) (ht : Tz w) :
    Calls Tryz.prog 6 #[.pointer (some ⟨dp, 0, none⟩), .int .u64 (after : Int)] w (OpPost w dbase dp ρ { stopD d with syn := d.now, cs := [] } [] 0 after (fun v _ => v = .slice none 0 0)) := by
  have hdn : d.down = false := by unfold stopB at hstop; simp at hstop; exact hstop.1
  have HN := Hid_mk (namesOn_any w dbase dp ρ d [] hd hdn (by simp) (by rw [hnow]; rfl) (by simp) ht)
  have HD := Hid_mk hd
  have HOk := Hid_mk hok
  have HSt := Hid_mk hstop
  have ha' : ¬ (1099511627776 : Int) < (after : Int) := by omega
  clear hd hok hstop hnow ht hdn ha
  go_enter Tryz.func6, Tryz.ntmps6
  go_wp2_with fail
  with_reducible refine HN.out.mono ?_
  rintro e w1 ⟨vn, rfl, ho1, hk1⟩
  obtain ⟨an, cn, rfl⟩ : ∃ a c, vn = .slice a 0 c := by
    obtain ⟨a, c, e, -⟩ := Ns.of_row ho1; exact ⟨a, c, e⟩
  have hlg : Lg (w1.alloc (Obj.cells #[.pointer (some ⟨dp, 0, none⟩), .slice an 0 cn, .int .i64 0, .int .u64 (after : Int)] 53)) w.heap.size w1.heap.size dp (.slice an 0 cn) [] 0 after := Lg.new w w1 dp after an cn [] hk1 ho1
  have hk2 : Kp No w (w1.alloc (Obj.cells #[.pointer (some ⟨dp, 0, none⟩), .slice an 0 cn, .int .i64 0, .int .u64 (after : Int)] 53)) := hk1.alloc _
  have HLo := Hid_mk (show w.heap.size ≤ w1.heap.size from hk1.size)
  obtain ⟨W1, hW1⟩ : ∃ W, W = w1.alloc (Obj.cells #[.pointer (some ⟨dp, 0, none⟩), .slice an 0 cn, .int .i64 0, .int .u64 (after : Int)] 53) := ⟨_, rfl⟩
  have HW1 := Hid_mk hW1
  rw [← hW1] at hlg hk2
  have HRf := Hid_mk (readFiles_none W1 w.heap.size w1.heap.size dp _ 0 after hlg)
  have HLg := Hid_mk hlg
  have HK2 := Hid_mk hk2
  clear ho1 hk1 hlg hk2 hW1
  go_wp2_with fail
  rw [← HW1.out]
  with_reducible refine HRf.out.mono ?_
  rintro e w2 ⟨rfl, rfl⟩
  go_wp2_with fail
  refine (behind_none w1.heap.size after W1).mono ?_
  rintro e w3 ⟨rfl, hk3⟩
  have HK3 := Hid_mk (HK2.out.trans' hk3)
  have HLg3 := Hid_mk (HLg.out.no hk3)
  have HS := Hid_mk (sync_any w3 dbase dp M ρ d (HD.out.no HK3.out) HOk.out hM HSt.out)
  clear hk3
  go_wp2_with fail
  with_reducible refine HS.out.mono ?_
  rintro e w4 ⟨rfl, ρ', hd4, hf4⟩
  have hlp : ρ w1.heap.size = .other := HD.out.hi HLo.out
  have hvn : ∀ g, (Value.slice an 0 cn).ownBlock = some g → ρ g = .other := fun g hg => HD.out.hi (HLg3.out.row.lt g hg).1
  have hlg4 := HLg3.out.kept hf4.1 (fun e => e hlp) (fun g hg e => e (hvn g hg))
  have hfin : OpPost w dbase dp ρ { stopD d with syn := d.now, cs := [] } [] 0 after (fun v _ => v = .slice none 0 0) (.returned (.tuple #[.pointer (some ⟨w1.heap.size, 0, none⟩), .slice none 0 0, .int .i64 0])) w4 :=
    ⟨w1.heap.size, _, _, ρ', rfl, hlg4, hf4.2 _ HLg3.out.lt hlp, fun g hg => hf4.2 _ (HLg3.out.row.lt g hg).2 (hvn g hg), rfl, hd4, (Fr.of_no HK3.out).trans hf4⟩
  have HF := Hid_mk hfin
  clear hlp hvn hlg4 hfin hd4 hf4
  go_wp2
  exact bodyPost_ret (v := .tuple #[.pointer (some ⟨w1.heap.size, 0, none⟩), .slice none 0 0, .int .i64 0]) (by simp [results, Tryz.results6, go_sem]) rfl HF.out

set_option maxRecDepth 100000 in
set_option maxHeartbeats 2000000 in
theorem open_one (w : World) (dbase dp M after n : Nat) (ρ : Nat → Role) (d : DSt) (x : Bt) (hx : BtOk x) (hd : Dk w dbase dp ρ d) (hok : DOk M d) (hM : M ≤ 1000000) (hstop : stopB d = false) (hnow : d.now = [(nameOf n, framed (laid x))]) (hn : n ≤ 1099511627776)
    (hxe : x.epoch = after + 1) (ha : after ≤ 1099511627776) (ht : Tz w) :
    Calls Tryz.prog 6 #[.pointer (some ⟨dp, 0, none⟩), .int .u64 (after : Int)] w (OpPost w dbase dp ρ { stopD d with syn := d.now, cs := [] } [n] ((laid x).length + 10) x.epoch (fun v w' => ∃ vb, One w' v x vb ∧ Bs w' vb x.bytes)) := by
  have hdn : d.down = false := by unfold stopB at hstop; simp at hstop; exact hstop.1
  have HN := Hid_mk (namesOn_any w dbase dp ρ d [n] hd hdn (by simpa using hn) (by rw [hnow]; rfl) (by simp) ht)
  have HD := Hid_mk hd
  have HOk := Hid_mk hok
  have HSt := Hid_mk hstop
  have HX := Hid_mk hx
  have HXe := Hid_mk hxe
  have HA := Hid_mk ha
  have HDn := Hid_mk hdn
  have HNn := Hid_mk hn
  have hll := laid_len x hx
  have hget : fs.get d.now (nameOf n) = some (framed (laid x)) := by rw [hnow]; simp [fs.get]
  have HGet := Hid_mk hget
  have HUsed := Hid_mk (show used d.now ≤ 140737488355328 by rw [hnow]; have := framed_len (bs := laid x) (by omega); simp [used]; omega)
  have ha' : ¬ (1099511627776 : Int) < (after : Int) := by omega
  clear hd hok hstop hnow ht hdn ha hx hn hxe hll hget
  go_enter Tryz.func6, Tryz.ntmps6
  go_wp2_with fail
  with_reducible refine HN.out.mono ?_
  rintro e w1 ⟨vn, rfl, ho1, hk1⟩
  obtain ⟨an, cn, rfl⟩ : ∃ a c, vn = .slice a 1 c := by
    obtain ⟨a, c, e, -⟩ := Ns.of_row ho1; exact ⟨a, c, e⟩
  have hlg : Lg (w1.alloc (Obj.cells #[.pointer (some ⟨dp, 0, none⟩), .slice an 1 cn, .int .i64 0, .int .u64 (after : Int)] 53)) w.heap.size w1.heap.size dp (.slice an 1 cn) [n] 0 after := Lg.new w w1 dp after an cn [n] hk1 ho1
  have hk2 : Kp No w (w1.alloc (Obj.cells #[.pointer (some ⟨dp, 0, none⟩), .slice an 1 cn, .int .i64 0, .int .u64 (after : Int)] 53)) := hk1.alloc _
  have HLo := Hid_mk (show w.heap.size ≤ w1.heap.size from hk1.size)
  obtain ⟨W1, hW1⟩ : ∃ W, W = w1.alloc (Obj.cells #[.pointer (some ⟨dp, 0, none⟩), .slice an 1 cn, .int .i64 0, .int .u64 (after : Int)] 53) := ⟨_, rfl⟩
  have HW1 := Hid_mk hW1
  rw [← hW1] at hlg hk2
  have HRf := Hid_mk (readFiles_one W1 w.heap.size w1.heap.size dp n _ after hlg x HX.out dbase ρ d (HD.out.no hk2) HDn.out HUsed.out HNn.out HGet.out)
  have HLg := Hid_mk hlg
  have HK2 := Hid_mk hk2
  clear ho1 hk1 hlg hk2 hW1
  go_wp2_with fail
  rw [← HW1.out]
  with_reducible refine HRf.out.mono ?_
  rintro e w2 ⟨v2, vb, W2, rfl, hone2, hbs2, hnv2, how2, hkW2, hw2⟩
  have hW1s : w1.heap.size < W1.heap.size := by rw [HW1.out]; simp
  have hlg2 : Lg w2 w.heap.size w1.heap.size dp (.slice an 1 cn) [n] ((laid x).length + 10) after := by rw [hw2]; exact (HLg.out.no hkW2).set2 _
  have hkn : ∀ (A : World) (o : Nat) (u : Value), Kp No w A → Kp No w (A.setCell ⟨w1.heap.size, o, none⟩ u) := fun A o u h => h.setCell (fun hp => by have := HLo.out; simp at hp; omega) _
  have hk2 : Kp No w w2 := by rw [hw2]; exact hkn _ _ _ (HK2.out.trans' hkW2)
  have HBe := Hid_mk (behind_one x vb v2 _ w1.heap.size after w2 hone2 HXe.out HA.out hlg2.c3 (hlg2.warm 3))
  have hlo := HLo.out
  have hvo : ∀ g, v2.ownBlock = some g → w1.heap.size < g := fun g hg => by have := how2 g hg; omega
  have hvb : ∀ b o n c, vb = .slice (some ⟨b, o, none⟩) n c → w1.heap.size < b := fun b o n c e => by have := hnv2 b o n c e; omega
  have HLg2 := Hid_mk hlg2
  have HK2 := Hid_mk hk2
  have HOne2 := Hid_mk hone2
  have HBs2 := Hid_mk hbs2
  have HKn := Hid_mk hkn
  have HVo := Hid_mk hvo
  have HVb := Hid_mk hvb
  clear hlg2 hk2 hone2 hbs2 hkn hnv2 hkW2 hw2 hW1s how2 hvo hvb hlo
  go_wp2_with fail
  with_reducible refine HBe.out.mono ?_
  rintro e w3 ⟨rfl, W3, hkW3, hw3⟩
  have hks : Kp (fun k => k = w1.heap.size) W3 w3 := by rw [hw3]; exact (Kp.refl (fun k => k = w1.heap.size) W3).setCell (fun _ => rfl) _
  have hlg3 : Lg w3 w.heap.size w1.heap.size dp (.slice an 1 cn) [n] ((laid x).length + 10) x.epoch := by rw [hw3]; exact (HLg2.out.no hkW3).set3 _
  have hk3 : Kp No w w3 := by rw [hw3]; exact HKn.out _ _ _ (HK2.out.trans' hkW3)
  have hone3 : One w3 v2 x vb := (HOne2.out.no hkW3).kept hks fun g hg e => by have := HVo.out g hg; omega
  have hbs3 : Bs w3 vb x.bytes := bs_kept (bs_no HBs2.out hkW3) hks fun b o n c e e2 => by have := HVb.out b o n c e; omega
  have HS := Hid_mk (sync_any w3 dbase dp M ρ d (HD.out.no hk3) HOk.out hM HSt.out)
  have HLg3 := Hid_mk hlg3
  have HK3 := Hid_mk hk3
  have HOne3 := Hid_mk hone3
  have HBs3 := Hid_mk hbs3
  clear hks hlg3 hk3 hone3 hbs3 hkW3 hw3
  go_wp2_with fail
  with_reducible refine HS.out.mono ?_
  rintro e w4 ⟨rfl, ρ', hd4, hf4⟩
  have hlo := HLo.out
  have hlp : ρ w1.heap.size = .other := HD.out.hi hlo
  have hvn : ∀ g, (Value.slice an 1 cn).ownBlock = some g → ρ g = .other := fun g hg => HD.out.hi (HLg3.out.row.lt g hg).1
  have hlg4 := HLg3.out.kept hf4.1 (fun e => e hlp) (fun g hg e => e (hvn g hg))
  have hone4 : One w4 v2 x vb := HOne3.out.kept hf4.1 fun g hg e => e (HD.out.hi (by have := HVo.out g hg; omega))
  have hbs4 : Bs w4 vb x.bytes := bs_kept HBs3.out hf4.1 fun b o n c e e2 => e2 (HD.out.hi (by have := HVb.out b o n c e; omega))
  have hfin : OpPost w dbase dp ρ { stopD d with syn := d.now, cs := [] } [n] ((laid x).length + 10) x.epoch (fun v w' => ∃ vb, One w' v x vb ∧ Bs w' vb x.bytes) (.returned (.tuple #[.pointer (some ⟨w1.heap.size, 0, none⟩), v2, .int .i64 0])) w4 :=
    ⟨w1.heap.size, _, _, ρ', rfl, hlg4, hf4.2 _ HLg3.out.lt hlp, fun g hg => hf4.2 _ (HLg3.out.row.lt g hg).2 (hvn g hg), ⟨vb, hone4, hbs4⟩, hd4, (Fr.of_no HK3.out).trans hf4⟩
  have HF := Hid_mk hfin
  clear hlp hvn hlg4 hfin hd4 hf4 hone4 hbs4 hlo
  go_wp2
  exact bodyPost_ret (v := .tuple #[.pointer (some ⟨w1.heap.size, 0, none⟩), v2, .int .i64 0]) (by simp [results, Tryz.results6, go_sem]) rfl HF.out

end Go.Proofs.YteekcbbdbciddaaGreatDoor.wal
