/- The statement NumBack: the walk. What the rows' listed variables give the walks of chapters 11 and 12. What chapter 11's rows' listed variables give the walks. -/
import Derived.Test.YtgnddabdjjkgiaaGreatDoorPxBackM
import Derived.Test.YtgnddabdjjkgiaaGreatDoorPfLdM
import Derived.Test.YtgnddabdjjkgiaaGreatDoorRows
import Derived.ProofKit
import Derived.OpenShut
import Derived.ChangeSame
import Derived.LaidMore
import Derived.LaidSub
import Derived.Stop.Joined
import Derived.Test.YtgnddabdjjkgiaaGreatDoorRdExpM

namespace Go.Proofs.YtgnddabdjjkgiaaGreatDoor.rd
open Go.RowKit Go.Lib Go.Proofs.YtgnddabdjjkgiaaGreatDoor.sum Go.Proofs.YtgnddabdjjkgiaaGreatDoor.kept Go.Proofs.YtgnddabdjjkgiaaGreatDoor.str Go.Proofs.YtgnddabdjjkgiaaGreatDoor.nums Go.Proofs.YtgnddabdjjkgiaaGreatDoor.pf Go.Proofs.YtgnddabdjjkgiaaGreatDoor.fmtf Go.Proofs.YtgnddabdjjkgiaaGreatDoor.fl
set_option linter.unusedVariables false

set_option maxRecDepth 100000 in
set_option maxHeartbeats 8000000 in
theorem numBack_any (w : World) (h : Ln w) (n : Int) (hn1 : -9223372036854775808 ≤ n) (hn2 : n ≤ 9223372036854775807) : Calls Tryz.prog 7 #[.int .i64 n] w fun e w' => e = .returned (.bool true) ∧ Kp No w w' := by
  obtain ⟨s, D, hd, h0, h19, hdg, hpx, ho⟩ := back_two n hn1 hn2
  have hl := sgT_len s D
  have hlk := sgT_looks s D hd h0
  have hfd := sgT_find s D hd h0
  obtain ⟨T, hT⟩ : ∃ T, sgT s D = T := ⟨_, rfl⟩
  rw [hT] at hl hlk hfd hdg hpx
  have hsz := st_size T
  have hTl : T.length ≤ 20 := by rw [hl]; unfold sgN1; split <;> omega
  have HKn := Hid_mk fun W (h : Ln W) => known11_any W h
  have HD := Hid_mk hdg
  have HP := Hid_mk hpx
  unfold TxPost at HD
  unfold PxC at HP
  rw [hfd] at HP
  have HLk := Hid_mk fun W => looks_any W T (by omega)
  rw [hlk] at HLk
  obtain ⟨b, hb⟩ : ∃ b, floatOfInt .f64 n = b := ⟨_, rfl⟩
  have hfb : fl n = b := hb
  rw [hfb] at HD HP ho
  have HL := Hid_mk h
  have hTi : (T.length : Int) ≤ 20 := by omega
  have hTe : ((T.length : Int) == (T.length : Int)) = true := by simp
  clear hdg hpx hl hlk hfd hT hTl h hd h0 h19 hfb
  go_enter Tryz.func7, Tryz.ntmps7
  go_wp2_with fail
  with_reducible refine (HD.out _ HL.out).mono ?_
  rintro e w1 ⟨rfl, hk1⟩
  have HK := Hid_mk hk1
  clear hk1
  rw [show (⟨T.toArray⟩ : ByteArray) = st T from rfl]
  go_wp2_with fail
  with_reducible refine (HP.out _ (HL.out.no HK.out)).mono ?_
  rintro e w2 ⟨rfl, hk1⟩
  have HK := Hid_mk (HK.out.trans' hk1)
  clear hk1
  go_wp2_with fail
  with_reducible refine (HKn.out _ (HL.out.no HK.out)).mono ?_
  rintro e w3 ⟨rfl, hk1⟩
  have HK := Hid_mk (HK.out.trans' hk1)
  clear hk1
  go_wp2_with fail
  with_reducible refine (HLk.out _).mono ?_
  rintro e w4 ⟨rfl, rfl⟩
  go_wp2
  go_ret
  exact ⟨rfl, HK.out⟩

end Go.Proofs.YtgnddabdjjkgiaaGreatDoor.rd

namespace Go.Proofs.YtgnddabdjjkgiaaGreatDoor.pf
open Go.ChangeShapes Go.WideShapes Go.ChangeAt Go.RowKit Go.Lib Go.Proofs.YtgnddabdjjkgiaaGreatDoor.sum Go.Proofs.YtgnddabdjjkgiaaGreatDoor.kept Go.Proofs.YtgnddabdjjkgiaaGreatDoor.fmtf
set_option linter.unusedVariables false

def dbZ : List Int := [0, 1, 56, 2, 57, 49, 28, 3, 61, 58, 42, 50, 38, 29, 17, 4, 62, 47, 59, 36, 45, 43, 51, 22, 53, 39, 33, 30, 24, 18, 12, 5, 63, 55, 48, 27, 60, 41, 37, 16, 46, 35, 44, 21, 52, 32, 23, 11, 54, 26, 40, 15, 34, 20, 31, 10, 25, 14, 19, 9, 13, 8, 7, 6]
def p10Z : List Int := [1, 10, 100, 1000, 10000, 100000, 1000000, 10000000, 100000000, 1000000000, 10000000000, 100000000000, 1000000000000, 10000000000000, 100000000000000, 1000000000000000, 10000000000000000, 100000000000000000, 1000000000000000000, 10000000000000000000]
theorem tab_cell {W : World} (name : String) (dat : DataW Unit) (g : Nat) (T E : TypeId) (k : IntKind) (N : Nat) (zs : List Int) (hdat : dat = .agg (zs.map fun n => .lit (.int k n))) (hN : zs.length = N) (hg0 : Tryz.prog.globalNamed name = some g) (ht0 : (Tryz.prog.globals[g]?).map (·.type) = some T)
    (hT : Tryz.prog.underlying T = some (.array N E)) (hE : Tryz.prog.underlying E = some (.int k)) (hc : Tryz.prog.cellsOf E = 1) (h : laidMet Tryz.prog [(name, dat)] W) (r : Nat) (hr : r < N) : W.cell? ⟨g, r, none⟩ = some (.int k (zs.getD r 0)) := by
  obtain ⟨ps, ⟨g1, t1, cs, fuel, p, q, hg, ht, hv, hd, _, _⟩, _, _⟩ := h
  obtain rfl := Option.some.inj (hg0.symm.trans hg)
  obtain rfl := Option.some.inj (ht0.symm.trans ht)
  rw [hdat] at hd
  obtain ⟨xs, m, _, ex, _, hl, hel⟩ := DataW.trod_array hT hd
  have hEl := hel r hr
  rw [hc, Nat.mul_one, List.getElem?_eq_getElem (by omega)] at hEl
  obtain ⟨z, e1, e2, _⟩ := DataW.trod_int hE hEl
  have e3 : (xs.map (·.1)) = zs.map fun n => .lit (.int k n) := (DataW.agg.inj (Prod.mk.inj ex).1).symm
  have e4 : (xs.map (·.1))[r]? = (zs.map fun n => (DataW.lit (.int k n) : DataW Unit))[r]? := by rw [e3]
  rw [List.getElem?_map, List.getElem?_map, List.getElem?_eq_getElem (by omega : r < xs.length), List.getElem?_eq_getElem (by omega : r < zs.length), e2] at e4
  have hz : z = zs.getD r 0 := by
    simp only [Option.map_some, Option.some.injEq, DataW.lit.injEq, Lit.int.injEq, true_and] at e4
    rw [e4, List.getD, List.getElem?_eq_getElem (by omega : r < zs.length)]; rfl
  rw [World.var?_cell hg hv r, ← hz]
  have : cs.toList[r]? = some (.int k z) := by
    have h0 : ((cs.toList.drop r).take 1)[0]? = some (.int k z) := by rw [e1]; rfl
    simpa using h0
  simpa using this
theorem pow_cell {W : World} (h : laidMet Tryz.prog [("internal/strconv.pow10Tab", Pinned.pow10Tab)] W) (hN : Pinned.pow10Rows.length = 696) (r : Nat) (hr : r < 696) :
    W.cell? ⟨10, r * 2, none⟩ = some (.int .u64 ((Pinned.pow10Rows.getD r (0, 0)).1 : Int)) ∧ W.cell? ⟨10, r * 2 + 1, none⟩ = some (.int .u64 ((Pinned.pow10Rows.getD r (0, 0)).2 : Int)) := by
  have hc2 : Tryz.prog.cellsOf 147 = 2 := by kernel_rfl
  have hc : Tryz.prog.cellsOf 50 = 1 := by kernel_rfl
  obtain ⟨ps, ⟨g1, t1, cs, fuel, p, q, hg, ht, hv, hd, _, _⟩, _, _⟩ := h
  obtain rfl := Option.some.inj ((show Tryz.prog.globalNamed "internal/strconv.pow10Tab" = some 10 by kernel_rfl).symm.trans hg)
  obtain rfl := Option.some.inj ((show (Tryz.prog.globals[10]?).map (·.type) = some 148 by kernel_rfl).symm.trans ht)
  unfold Pinned.pow10Tab at hd
  obtain ⟨xs, m, _, ex, _, hl, hel⟩ := DataW.trod_array Tryz.underlying148 hd
  have hEl := hel r hr
  rw [hc2, List.getElem?_eq_getElem (by omega)] at hEl
  obtain ⟨y0, y1, m2, ey, hcl, hf0, hf1⟩ := trod_struct2 Tryz.underlying147 hEl
  have hr2 : r < Pinned.pow10Rows.length := by omega
  have e3 : (xs.map (·.1)) = Pinned.pow10Rows.map fun x => .agg [.lit (.int .u64 x.1), .lit (.int .u64 x.2)] := (DataW.agg.inj (Prod.mk.inj ex).1).symm
  have e4 : (xs.map (·.1))[r]? = (Pinned.pow10Rows.map fun x => (DataW.agg [.lit (.int .u64 x.1), .lit (.int .u64 x.2)] : DataW Unit))[r]? := by rw [e3]
  rw [List.getElem?_map, List.getElem?_map, List.getElem?_eq_getElem (by omega : r < xs.length), List.getElem?_eq_getElem hr2] at e4
  have e5 : (xs[r]'(by omega)).1 = .agg [.lit (.int .u64 (Pinned.pow10Rows[r].1 : Int)), .lit (.int .u64 (Pinned.pow10Rows[r].2 : Int))] := by simpa using e4
  rw [ey] at e5
  have e6 : [y0.1, y1.1] = [.lit (.int .u64 (Pinned.pow10Rows[r].1 : Int)), .lit (.int .u64 (Pinned.pow10Rows[r].2 : Int))] := DataW.agg.inj e5
  simp only [List.cons.injEq, and_true] at e6
  have hx : Pinned.pow10Rows.getD r (0, 0) = Pinned.pow10Rows[r] := by rw [List.getD, List.getElem?_eq_getElem hr2]; rfl
  rw [hx]
  obtain ⟨a, f1, f2, _⟩ := DataW.trod_int Tryz.underlying50 hf0
  obtain ⟨b, g1, g2, _⟩ := DataW.trod_int Tryz.underlying50 hf1
  have ha : a = (Pinned.pow10Rows[r].1 : Int) := by have := e6.1; rw [f2] at this; simpa using this
  have hb : b = (Pinned.pow10Rows[r].2 : Int) := by have := e6.2; rw [g2] at this; simpa using this
  rw [← ha, ← hb, World.var?_cell hg hv (r * 2), World.var?_cell hg hv (r * 2 + 1)]
  simp only [hc] at f1 g1
  have h0 := congrArg (fun l => l[0]?) f1
  have h1 := congrArg (fun l => l[0]?) g1
  simp at h0 h1
  exact ⟨by simpa using h0, by simpa using h1⟩
theorem flag_cell {W : World} (name : String) (g : Nat) (T : TypeId) (hg0 : Tryz.prog.globalNamed name = some g) (ht0 : (Tryz.prog.globals[g]?).map (·.type) = some T) (hT : Tryz.prog.underlying T = some .bool) (h : laidMet Tryz.prog [(name, .lit (.bool true))] W) : W.cell? ⟨g, 0, none⟩ = some (.bool true) := by
  obtain ⟨ps, ⟨g1, t1, cs, fuel, p, q, hg, ht, hv, hd, _, _⟩, _, _⟩ := h
  obtain rfl := Option.some.inj (hg0.symm.trans hg)
  obtain rfl := Option.some.inj (ht0.symm.trans ht)
  obtain ⟨b, e1, e2⟩ := DataW.trod_bool hT hd
  have hb : b = true := by
    have := (Prod.mk.inj e2).1
    simpa using this.symm
  rw [World.var?_cell hg hv 0]
  rw [hb] at e1
  have : cs.toList[0]? = some (.bool true) := by rw [e1]; rfl
  simpa using this
theorem pow_len : Pinned.pow10Rows.length = 696 := by kernel_rfl
theorem pow_bd : (Pinned.pow10Rows.all fun x => decide (x.1 < 18446744073709551616) && decide (x.2 < 18446744073709551616)) = true := by kernel_rfl
theorem p10_is : ((List.range 19).all fun n => decide (p10Z.getD n 0 = ((10 ^ n : Nat) : Int))) = true := by kernel_rfl
theorem ld_of {W : World} (h1 : laidMet Tryz.prog [("internal/strconv.optimize", .lit (.bool true))] W) (h2 : laidMet Tryz.prog [("internal/strconv.uint64pow10", .agg (p10Z.map fun n => .lit (.int .u64 n)))] W) (h3 : laidMet Tryz.prog [("internal/strconv.pow10Tab", Pinned.pow10Tab)] W) (h4 : laidMet Tryz.prog [("math/bits.deBruijn64tab", .agg (dbZ.map fun n => .lit (.int .u8 n)))] W) : Ld W := by
  have db := tab_cell "math/bits.deBruijn64tab" _ 13 160 5 .u8 64 dbZ rfl (by kernel_rfl) (by kernel_rfl) (by kernel_rfl) Tryz.underlying160 Tryz.underlying5 (by kernel_rfl) h4
  refine ⟨flag_cell _ _ 4 (by kernel_rfl) (by kernel_rfl) Tryz.underlying4 h1, fun n hn => ?_, fun p hp1 hp2 => ?_, db 15 (by omega), db 7 (by omega)⟩
  · have := tab_cell "internal/strconv.uint64pow10" _ 6 132 50 .u64 20 p10Z rfl (by kernel_rfl) (by kernel_rfl) (by kernel_rfl) Tryz.underlying132 Tryz.underlying50 (by kernel_rfl) h2 n (by omega)
    have e := of_decide_eq_true (List.all_eq_true.1 p10_is n (List.mem_range.2 (by omega)))
    rw [e] at this
    exact this
  · obtain ⟨r, hr⟩ : ∃ r : Nat, p + 348 = (r : Int) := ⟨(p + 348).toNat, by omega⟩
    have hr2 : r < 696 := by omega
    have hc := pow_cell h3 pow_len r hr2
    have hm : Pinned.pow10Rows.getD r (0, 0) ∈ Pinned.pow10Rows := by
      have hl : r < Pinned.pow10Rows.length := by rw [pow_len]; exact hr2
      rw [List.getD, List.getElem?_eq_getElem hl]
      exact List.getElem_mem hl
    have hb := List.all_eq_true.1 pow_bd _ hm
    simp only [Bool.and_eq_true, decide_eq_true_eq] at hb
    unfold Pw T10
    rw [hr, Int.toNat_natCast]
    exact ⟨hc, hb⟩

end Go.Proofs.YtgnddabdjjkgiaaGreatDoor.pf

namespace Go.Proofs.YtgnddabdjjkgiaaGreatDoor.rd
open Go.ChangeShapes Go.WideShapes Go.ChangeAt Go.RowKit Go.Lib Go.Proofs.YtgnddabdjjkgiaaGreatDoor.sum Go.Proofs.YtgnddabdjjkgiaaGreatDoor.kept Go.Proofs.YtgnddabdjjkgiaaGreatDoor.str Go.Proofs.YtgnddabdjjkgiaaGreatDoor.nums Go.Proofs.YtgnddabdjjkgiaaGreatDoor.pf Go.Proofs.YtgnddabdjjkgiaaGreatDoor.fmtf
set_option linter.unusedVariables false

theorem cheat_len : Pinned.cheatRows.length = 61 := by kernel_rfl
theorem cheat_ok : ((List.range 60).all fun k => cheatB (k + 1) (Pinned.cheatRows.getD (k + 1) (0, [])).1 (Pinned.cheatRows.getD (k + 1) (0, [])).2 && decide ((Pinned.cheatRows.getD (k + 1) (0, [])).2.length ≤ 1000) && decide ((Pinned.cheatRows.getD (k + 1) (0, [])).1 ≤ 100)) = true := by kernel_rfl
theorem float_one {P : Program} {H : Type} {enc : TypeId × Value → H} {W : World} {base : Nat} {spare : Nat → Bool} {held : Bool} {fuel : Nat} {t : TypeId} {k : FloatKind} {cs : List Value} {x : DataW H × List MemPlace} (ht : P.underlying t = some (.float k)) (h : DataW.trod enc P W base spare held fuel t cs = some x) :
    ∃ b, cs = [.float k b] ∧ x.1 = .lit (.float k b) := by
  cases fuel with
  | zero => simp [DataW.trod] at h
  | succ n =>
    unfold DataW.trod at h
    rw [ht] at h
    split at h <;> simp_all
    all_goals (obtain ⟨_, rfl⟩ := h; rfl)
/-- what is laid of a table that is a slice: where its row lies -/
theorem lc_of {W : World} (h : laidMet Tryz.prog [("internal/strconv.leftcheats", Pinned.leftcheats)] W) : Lcs W := by
  have hc2 : Tryz.prog.cellsOf 153 = 2 := by kernel_rfl
  have hci : Tryz.prog.cellsOf 3 = 1 := by kernel_rfl
  have hcs : Tryz.prog.cellsOf 9 = 1 := by kernel_rfl
  obtain ⟨ps, ⟨g1, t1, cs, fuel, p, q, hg, ht, hv, hd, _, _⟩, _, _⟩ := h
  obtain rfl := Option.some.inj ((show Tryz.prog.globalNamed "internal/strconv.leftcheats" = some 11 by kernel_rfl).symm.trans hg)
  obtain rfl := Option.some.inj ((show (Tryz.prog.globals[11]?).map (·.type) = some 154 by kernel_rfl).symm.trans ht)
  unfold Pinned.leftcheats at hd
  rcases DataW.trod_slice Tryz.underlying154 hd with ⟨_, hx⟩ | ⟨a, len, cap, elems, rest, n', _, hcs2, hx, -, hl, hm, hlen, hel, -, -⟩
  · simp at hx
  · have e3 : elems.map (·.1) = Pinned.cheatRows.map fun x => .agg [.lit (.int .i64 x.1), .lit (.string x.2)] := by
      have := (Prod.mk.inj hx).1
      simp only [DataW.slice.injEq] at this
      exact this.1.symm
    have hlen61 : len = 61 := by
      have := congrArg List.length e3
      simpa [hlen, cheat_len] using this
    rw [hc2] at hel
    obtain ⟨b, o, spot⟩ := a
    have hone : ∀ k, k < 61 → ∃ z s, W.cell? ((⟨b, o, spot⟩ : Addr).add (k * 2)) = some (.int .i64 z) ∧ W.cell? (((⟨b, o, spot⟩ : Addr).add (k * 2)).add 1) = some (.string s) ∧ z = ((Pinned.cheatRows.getD k (0, [])).1 : Int) ∧ s = st (Pinned.cheatRows.getD k (0, [])).2 := by
      intro k hk
      have he := hel k (by omega)
      rw [List.getElem?_eq_getElem (by omega)] at he
      obtain ⟨cs', h1, h3⟩ := Option.bind_eq_some_iff.1 he
      obtain ⟨y0, y1, m2, ey, hcl, hf0, hf1⟩ := trod_struct2 Tryz.underlying153 h3
      obtain ⟨z, f1, f2, _⟩ := DataW.trod_int Tryz.underlying3 hf0
      obtain ⟨s, g1, g2, _⟩ := DataW.trod_string Tryz.underlying9 hf1
      have hr2 : k < Pinned.cheatRows.length := by rw [cheat_len]; exact hk
      have e4 : (elems.map (·.1))[k]? = (Pinned.cheatRows.map fun x => (DataW.agg [.lit (.int .i64 x.1), .lit (.string x.2)] : DataW Unit))[k]? := by rw [e3]
      rw [List.getElem?_map, List.getElem?_map, List.getElem?_eq_getElem (by omega : k < elems.length), List.getElem?_eq_getElem hr2] at e4
      have e5 : (elems[k]'(by omega)).1 = .agg [.lit (.int .i64 (Pinned.cheatRows[k].1 : Int)), .lit (.string Pinned.cheatRows[k].2)] := by simpa using e4
      rw [ey] at e5
      have e6 : [y0.1, y1.1] = [.lit (.int .i64 (Pinned.cheatRows[k].1 : Int)), .lit (.string Pinned.cheatRows[k].2)] := DataW.agg.inj e5
      simp only [List.cons.injEq, and_true] at e6
      have hx2 : Pinned.cheatRows.getD k (0, []) = Pinned.cheatRows[k] := by rw [List.getD, List.getElem?_eq_getElem hr2]; rfl
      have hat := (World.cells?_some h1).2.2
      have hl2 := (World.cells?_some h1).2.1
      simp only [hci, hcs] at f1 g1
      have q0 := hat 0 (by omega)
      have q1 := hat 1 (by omega)
      have h0 := congrArg (fun l => l[0]?) f1
      have h1' := congrArg (fun l => l[0]?) g1
      simp at h0 h1'
      refine ⟨z, s, ?_, ?_, ?_, ?_⟩
      · have : ((⟨b, o, spot⟩ : Addr).add (k * 2)).add 0 = (⟨b, o, spot⟩ : Addr).add (k * 2) := by unfold Addr.add; split <;> simp_all
        rw [this] at q0
        rw [q0]; simpa using h0
      · rw [q1]; simpa using h1'
      · have := e6.1; rw [f2] at this; rw [hx2]; simpa using this
      · have := e6.2
        rw [g2] at this
        rw [hx2]
        apply ByteArray.ext
        rw [← Array.toList_inj]
        simpa [st] using this
    have hspot : spot = none := by
      obtain ⟨z, s, h1, _⟩ := hone 0 (by omega)
      simpa [Addr.add] using World.cell?_spot h1
    subst hspot
    intro k hk1 hk2
    obtain ⟨z, s, h1, h2, h3, h4⟩ := hone k (by omega)
    rw [kept.addr_add] at h1 h2
    rw [kept.addr_add] at h2
    have hok := List.all_eq_true.1 cheat_ok (k - 1) (List.mem_range.2 (by omega))
    rw [show k - 1 + 1 = k by omega] at hok
    simp only [Bool.and_eq_true, decide_eq_true_eq] at hok
    refine ⟨(Pinned.cheatRows.getD k (0, [])).1, (Pinned.cheatRows.getD k (0, [])).2, ⟨b, o, len, cap, ?_, by omega, hl, by omega, by rw [h1, h3], by rw [h2, h4]⟩, cheat_of hok.1.1, hok.1.2, hok.2⟩
    rw [World.var?_cell hg hv 0, show cs[0]? = cs.toList[0]? by simp, hcs2]
    rfl
/-- the bits of a mantissa -/
theorem fi_of {W : World} (h : laidMet Tryz.prog [("internal/strconv.float64info", .agg [.lit (.int .u64 52), .lit (.int .u64 11), .lit (.int .i64 (-1023))])] W) : Fi W := by
  have hc : Tryz.prog.cellsOf 68 = 1 := by kernel_rfl
  obtain ⟨ps, ⟨g1, t1, cs, fuel, p, q, hg, ht, hv, hd, _, _⟩, _, _⟩ := h
  obtain rfl := Option.some.inj ((show Tryz.prog.globalNamed "internal/strconv.float64info" = some 5 by kernel_rfl).symm.trans hg)
  obtain rfl := Option.some.inj ((show (Tryz.prog.globals[5]?).map (·.type) = some 102 by kernel_rfl).symm.trans ht)
  obtain ⟨xs, m, _, ex, hcl, hl, hel⟩ := DataW.trod_struct Tryz.underlying102 hd
  have e3 : xs.map (·.1) = [.lit (.int .u64 52), .lit (.int .u64 11), .lit (.int .i64 (-1023))] := (DataW.agg.inj (Prod.mk.inj ex).1).symm
  have hEl := hel 0 _ rfl
  have hx0 : 0 < xs.length := by rw [hl]; decide
  rw [List.getElem?_eq_getElem hx0] at hEl
  obtain ⟨z, f1, f2, _⟩ := DataW.trod_int Tryz.underlying68 hEl
  have e4 : (xs.map (·.1))[0]? = some (.lit (.int .u64 52)) := by rw [e3]; rfl
  rw [List.getElem?_map, List.getElem?_eq_getElem hx0, f2] at e4
  have hz : z = 52 := by simpa using e4
  subst hz
  unfold Fi
  rw [World.var?_cell hg hv 0]
  have f1' : (cs.toList.drop 0).take (Tryz.prog.cellsOf 68) = [.int .u64 52] := f1
  rw [hc] at f1'
  have h0 := congrArg (fun l => l[0]?) f1'
  simpa using h0
def tenZ : List Nat := [4607182418800017408, 4621819117588971520, 4636737291354636288, 4652007308841189376, 4666723172467343360, 4681608360884174848, 4696837146684686336, 4711630319722168320, 4726483295884279808, 4741671816366391296, 4756540486875873280, 4771362005757984768, 4786511204640096256, 4801453603149578240, 4816244402031689728, 4831355200913801216, 4846369599423283200, 4861130398305394688, 4876203697187506176, 4891288408196988160, 4906019910204099648, 4921056587992461136, 4936209963552724370]
/-- the powers of ten -/
theorem fp_of {W : World} (h : laidMet Tryz.prog [("internal/strconv.float64pow10", .slice (tenZ.map fun n => .lit (.float .f64 n)) [])] W) : Fp W := by
  have hc : Tryz.prog.cellsOf 22 = 1 := by kernel_rfl
  obtain ⟨ps, ⟨g1, t1, cs, fuel, p, q, hg, ht, hv, hd, _, _⟩, _, _⟩ := h
  obtain rfl := Option.some.inj ((show Tryz.prog.globalNamed "internal/strconv.float64pow10" = some 9 by kernel_rfl).symm.trans hg)
  obtain rfl := Option.some.inj ((show (Tryz.prog.globals[9]?).map (·.type) = some 141 by kernel_rfl).symm.trans ht)
  rcases DataW.trod_slice Tryz.underlying141 hd with ⟨_, hx⟩ | ⟨a, len, cap, elems, rest, n', _, hcs2, hx, -, hl, hm, hlen, hel, -, -⟩
  · simp at hx
  · have e3 : elems.map (·.1) = tenZ.map fun n => .lit (.float .f64 n) := by
      have := (Prod.mk.inj hx).1
      simp only [DataW.slice.injEq] at this
      exact this.1.symm
    have hlen23 : len = 23 := by
      have := congrArg List.length e3
      simpa [hlen, tenZ] using this
    rw [hc] at hel
    have he := hel 1 (by omega)
    rw [List.getElem?_eq_getElem (by omega)] at he
    obtain ⟨cs', h1, h3⟩ := Option.bind_eq_some_iff.1 he
    obtain ⟨z, f1, f2⟩ := float_one Tryz.underlying22 h3
    have e4 : (elems.map (·.1))[1]? = some (.lit (.float .f64 4621819117588971520)) := by rw [e3]; rfl
    rw [List.getElem?_map, List.getElem?_eq_getElem (by omega : 1 < elems.length), Option.map_some, f2] at e4
    have hz : z = 4621819117588971520 := by simpa using e4
    subst hz
    have hat := (World.cells?_some h1).2.2 0 (by omega)
    obtain ⟨b, o, spot⟩ := a
    have hcell : W.cell? ((⟨b, o, spot⟩ : Addr).add 1) = some (.float .f64 4621819117588971520) := by
      have : ((⟨b, o, spot⟩ : Addr).add (1 * 1)).add 0 = (⟨b, o, spot⟩ : Addr).add 1 := by unfold Addr.add; split <;> simp_all
      rw [this] at hat
      rw [hat, f1]
      rfl
    have hspot : spot = none := by
      have he0 := hel 0 (by omega)
      rw [List.getElem?_eq_getElem (by omega)] at he0
      obtain ⟨cs0, g1, g3⟩ := Option.bind_eq_some_iff.1 he0
      obtain ⟨z0, k1, k2⟩ := float_one Tryz.underlying22 g3
      have g4 := (World.cells?_some g1).2.2 0 (by omega)
      rw [k1] at g4
      have g5 : W.cell? (((⟨b, o, spot⟩ : Addr).add (0 * 1)).add 0) = some (.float .f64 z0) := g4
      simpa [Addr.add] using World.cell?_spot g5
    subst hspot
    rw [kept.addr_add] at hcell
    refine ⟨b, o, len, cap, ?_, by omega, hl, by omega, hcell⟩
    rw [World.var?_cell hg hv 0, show cs[0]? = cs.toList[0]? by simp, hcs2]
    rfl

end Go.Proofs.YtgnddabdjjkgiaaGreatDoor.rd
