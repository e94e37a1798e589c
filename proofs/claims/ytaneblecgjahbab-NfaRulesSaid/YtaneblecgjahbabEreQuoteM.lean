/- Package ere: Quote: each byte as a backslash and three octal digits. Package nfa: reach: from a part on, over all that take no byte. -/
import Derived.Test.YtaneblecgjahbabErePureM
import Derived.Test.YtaneblecgjahbabShelf
import Derived.Maps.AppendAt
import Derived.Test.YtaneblecgjahbabScopesM
import Derived.Test.YtaneblecgjahbabNfaOkM
import Derived.Deep.QuietTactic
import Derived.BigQuiet
import Derived.BigRegion
import Derived.Deep.RegionLaw

namespace Go.Proofs.Ytaneblecgjahbab.ere
open Go.RowKit Go.Proofs.Ytaneblecgjahbab.sum Go.Proofs.Ytaneblecgjahbab.kept Go.Proofs.Ytaneblecgjahbab.pop Go.Proofs.Ytaneblecgjahbab.cls Go.Proofs.Ytaneblecgjahbab.tre Go.Proofs.Ytaneblecgjahbab.str
set_option linter.unusedVariables false

abbrev Bd (b : Nat) (bs : List Value) (w : World) : Prop := Lib.BuilderAt 92 5 b b (.pointer (some ⟨b, 0, none⟩)) bs w
theorem infoU8 : (Try.prog.info? 5).map (fun i => (i.zero, i.size, i.bytes)) = some (some (.int .u8 0), 1, 1) := by kernel_rfl
theorem wpList_append_run {P : Program} {ops : Array Oper} {rest : List Oper} {o : Oper} {a : Act} {Q : Exit → Act → World → Prop} {w w1 : World} {v1 : Value} (hgd : o.guard = none) (s x : Operand) (t u : TypeId)
    (ho : o.op = .call { callee := .builtin .append, args := #[s, x], argTypes := #[t, u] }) (hr : (Builtin.append_ #[t, u] o.type #[a.eval s, a.eval x]).run P w = .ok v1 w1) (h : wpList P ops Q rest (a.put o.dst v1) w1) :
    wpList P ops Q (o :: rest) a w := by
  refine wpList_plain hgd fun K hK => ?_
  unfold Oper.wp execOp
  simp only [ho, resolve, invoke, builtin, Sem.run_bind, Sem.run_pure, Result.andThen_ok, List.map_toArray, List.map_cons, List.map_nil, hr]
  exact hK _ _ h
theorem kp_below {B : Nat} {w w' : World} (h : Below B w w') : Kp (fun k => B ≤ k) w w' := ⟨h.os, h.tape, h.output, h.size, fun k hk hn => h.block k (Nat.lt_of_not_le hn)⟩

set_option maxRecDepth 100000 in
theorem copy_used (b : Nat) (w : World) (h0 : w.cell? ⟨b, 0, none⟩ = some (.pointer (some ⟨b, 0, none⟩))) :
    Calls Try.prog 60 #[.pointer (some ⟨b, 0, none⟩)] w fun e w' => e = .returned (.tuple #[]) ∧ w' = w := by
  obtain ⟨j, hj⟩ : ∃ j, Try.prog.info? 92 = some j := ⟨_, rfl⟩
  have hs : ∀ W, (binOp .neq 90 (.pointer (some ⟨b, 0, none⟩)) (.pointer (some ⟨b, 0, none⟩))).run Try.prog W = .ok (.bool false) W := fun W => Lib.run_neq_ptr_same W _ Try.underlying90 hj
  go_enter Try.func60, Try.ntmps60
  go_wp2
  go_end0
  exact ⟨rfl, rfl⟩

set_option maxRecDepth 100000 in
set_option maxHeartbeats 1000000 in
theorem wbyte_any (b : Nat) (bs : List Value) (c : Int) (w : World) (h : Bd b bs w) (hlen : bs.length ≤ 1000000000000) :
    Calls Try.prog 62 #[.pointer (some ⟨b, 0, none⟩), .int .u8 c] w fun e w' => e = .returned .nilIface ∧ Bd b (bs ++ [.int .u8 c]) w' ∧ Kp (fun k => b ≤ k) w w' := by
  obtain ⟨i0, hi, hz0, hz1, hz2⟩ := info_parts infoU8
  have hlt := h.lt
  have hcc := copy_used b w h.cell0
  have HCc := Hid_mk hcc
  obtain ⟨hB, v, hbk, hown, hne⟩ := h
  have c1 : w.cell? ⟨b, 1, none⟩ = some v := by rw [Lib.cell_of_heap hbk]; rfl
  have hown1 : (w.alloc (.cells #[.int .u8 c] 5)).ownsRow b 5 1 v bs.length bs := hown.alloc _
  obtain ⟨v', w2, hr, ho, hg, -, hloc⟩ := run_append_own_at (P := Try.prog) (w.alloc (.cells #[.int .u8 c] 5)) b 40 40 5 i0 (.int .u8 0) 1 1 Try.underlying40 hi hz0 hz1 hz2 rfl (by decide) v bs.length bs hown1 ⟨w.heap.size, 0, none⟩ 1 1 [.int .u8 c] rfl
    (fun j u hj => by
      match j, hj with
      | 0, hj => simp at hj; subst hj; simp [Addr.add]) (fun u hu => by simp at hu; subst hu; rfl) (by unfold maxLen; omega) (by omega) (by simp; omega)
  have hb2 : w2.heap[b]? = some (.cells #[.pointer (some ⟨b, 0, none⟩), v] 92 (0, 0)) := by
    rw [hg.block b (by simp; omega) (fun e => hne e.symm), Lib.alloc_old w _ b hlt]
    exact hbk
  have d1 : w2.cell? ⟨b, 1, none⟩ = some v := by rw [Lib.cell_of_heap hb2]; rfl
  have f1 : w2.frozen? ⟨b, 1, none⟩ = false := Lib.frozen_of_heap hb2 1
  have hfin : Bd b (bs ++ [.int .u8 c]) (w2.setCell ⟨b, 1, none⟩ v') := Lib.BuilderAt.put (Nat.le_refl _) hb2 (bs' := bs ++ [.int .u8 c]) (by simpa using ho) (by decide)
  have hkf : Kp (fun k => b ≤ k) w (w2.setCell ⟨b, 1, none⟩ v') := ((((Kp.refl (fun k => b ≤ k) w).alloc _).grown hg fun k _ e => (hown.lt k e).1).setCell (p := ⟨b, 1, none⟩) (fun _ => Nat.le_refl _) _)
  have HF := Hid_mk hfin
  have HKf := Hid_mk hkf
  obtain ⟨g, cap, rfl⟩ : ∃ g cap, v' = .slice (some ⟨g, 0, none⟩) (bs.length + 1) cap := by
    rcases ho.2 with ⟨_, h0⟩ | ⟨g, cap, cur, hv, _⟩
    · omega
    · exact ⟨g, cap, hv⟩
  have hr2 := hr
  clear hcc hown hown1 ho hg hloc hfin hkf hb2 hbk hne hB
  go_enter Try.func62, Try.ntmps62
  go_wp2_with fail
  with_reducible refine HCc.out.mono ?_
  rintro e w1 ⟨rfl, rfl⟩
  go_wp2_with (at_builtin; (refine wpList_append_run rfl _ _ _ _ rfl hr2 ?_))
  go_wp2
  go_ret
  exact ⟨rfl, HF.out, HKf.out⟩

/-- a backslash and three octal digits -/
def octQ (x : Nat) : List UInt8 := [92, (48 + x / 64).toUInt8, (48 + x / 8 % 8).toUInt8, (48 + x % 8).toUInt8]
theorem octQ_cells (x : Nat) (hx : x < 256) : Lib.byteCells (octQ x) = [.int .u8 92, .int .u8 (48 + (x : Int) / 64), .int .u8 (48 + (x : Int) / 8 % 8), .int .u8 (48 + (x : Int) % 8)] := by
  have e1 : (((48 + x / 64).toUInt8).toNat : Int) = 48 + (x : Int) / 64 := by simp; omega
  have e2 : (((48 + x / 8 % 8).toUInt8).toNat : Int) = 48 + (x : Int) / 8 % 8 := by simp; omega
  have e3 : (((48 + x % 8).toUInt8).toNat : Int) = 48 + (x : Int) % 8 := by simp; omega
  unfold octQ Lib.byteCells
  simp only [List.map_cons, List.map_nil]
  rw [e1, e2, e3]
  rfl

set_option maxRecDepth 100000 in
set_option maxHeartbeats 1000000 in
theorem woctal_any (b : Nat) (bs : List Value) (x : Nat) (hx : x < 256) (w : World) (h : Bd b bs w) (hlen : bs.length ≤ 100000000000) :
    Calls Try.prog 43 #[.pointer (some ⟨b, 0, none⟩), .int .u8 (x : Int)] w fun e w' => e = .returned (.tuple #[]) ∧ Bd b (bs ++ Lib.byteCells (octQ x)) w' ∧ Kp (fun k => b ≤ k) w w' := by
  rw [octQ_cells x hx]
  have HW1 := Hid_mk (wbyte_any b bs 92 w h (by omega))
  clear h
  go_enter Try.func43, Try.ntmps43
  go_wp2_with fail
  with_reducible refine HW1.out.mono ?_
  rintro e w1 ⟨rfl, hb1, hk1⟩
  have HW2 := Hid_mk fun c => wbyte_any b _ c w1 hb1 (by simp; omega)
  have HK1 := Hid_mk hk1
  clear hb1 hk1 HW1
  go_wp2_with fail
  with_reducible refine (HW2.out _).mono ?_
  rintro e w2 ⟨rfl, hb2, hk2⟩
  have HW3 := Hid_mk fun c => wbyte_any b _ c w2 hb2 (by simp; omega)
  have HK2 := Hid_mk (HK1.out.trans' hk2)
  clear hb2 hk2 HW2
  go_wp2_with fail
  with_reducible refine (HW3.out _).mono ?_
  rintro e w3 ⟨rfl, hb3, hk3⟩
  have HW4 := Hid_mk fun c => wbyte_any b _ c w3 hb3 (by simp; omega)
  have HK3 := Hid_mk (HK2.out.trans' hk3)
  clear hb3 hk3 HW3
  go_wp2_with fail
  with_reducible refine (HW4.out _).mono ?_
  rintro e w4 ⟨rfl, hb4, hk4⟩
  have HB4 := Hid_mk hb4
  have HK4 := Hid_mk (HK3.out.trans' hk4)
  clear hb4 hk4 HW4
  go_wp2
  go_end0
  refine ⟨rfl, ?_, HK4.out⟩
  have h4 := HB4.out
  simp only [List.append_assoc, List.cons_append, List.nil_append] at h4
  exact h4

def quoteS (l : List UInt8) : List UInt8 := l.flatMap fun x => octQ x.toNat
theorem cells_app (a b : List UInt8) : Lib.byteCells (a ++ b) = Lib.byteCells a ++ Lib.byteCells b := List.map_append
theorem quote_len (l : List UInt8) : (quoteS l).length = 4 * l.length := by
  induction l with
  | nil => rfl
  | cons x l ih =>
    have : quoteS (x :: l) = octQ x.toNat ++ quoteS l := rfl
    rw [this, List.length_append, ih, List.length_cons]
    show 4 + _ = _
    omega
theorem quote_take (l : List UInt8) (k : Nat) (hk : k < l.length) : quoteS (l.take (k + 1)) = quoteS (l.take k) ++ octQ (atB l k) := by
  have e : l.getD k 0 = l[k] := by simp [List.getD, hk]
  unfold atB
  rw [e, List.take_succ_eq_append_getElem hk]
  unfold quoteS
  rw [List.flatMap_append]
  simp
theorem cells_len' (a : List UInt8) : (Lib.byteCells a).length = a.length := List.length_map _
def QuRel (W1 : World) (b : Nat) (l : List UInt8) (i : Value) (wr : World) : Prop := ∃ k : Nat, i = .int .i64 (k : Int) ∧ k ≤ l.length ∧ Bd b (Lib.byteCells (quoteS (l.take k))) wr ∧ Kp (fun z => b ≤ z) W1 wr

set_option maxRecDepth 100000 in
set_option maxHeartbeats 1000000 in
theorem quote_any (w : World) (l : List UInt8) (hl : l.length ≤ 1000000000) : Calls Try.prog 17 #[.string (st l)] w fun e w' => e = .returned (.string (st (quoteS l))) ∧ Kp No w w' := by
  have hsz := st_size l
  obtain ⟨W0, hW0⟩ : ∃ W0, w.alloc (.cells #[.pointer none, .slice none 0 0] 92) = W0 := ⟨_, rfl⟩
  obtain ⟨b, hb⟩ : ∃ b, w.heap.size = b := ⟨_, rfl⟩
  have hblk : W0.heap[b]? = some (.cells #[.pointer none, .slice none 0 0] 92 (0, 0)) := by rw [← hW0, ← hb]; exact heap_alloc_new w _
  have hk0 : Kp No w W0 := by rw [← hW0]; exact (Kp.refl No w).alloc _
  have hsz0 : b ≤ W0.heap.size := by rw [← hb]; exact hk0.size
  have hgr := Try.Builder_Grow_fresh b b (4 * l.length) W0 (Nat.le_refl _) hblk hsz0 (by omega)
  rw [show ((4 * l.length : Nat) : Int) = 4 * (l.length : Int) by push_cast; rfl] at hgr
  have HG := Hid_mk hgr
  have HW0 := Hid_mk hW0
  have HB := Hid_mk hb
  have HK0 := Hid_mk hk0
  have HLn := Hid_mk hl
  have hw4 : IntKind.i64.wrap (4 * (l.length : Int)) = ((4 * l.length : Nat) : Int) := by rw [IntWalk.i64_in _ (by omega)]; push_cast; rfl
  clear hW0 hb hblk hk0 hsz0 hgr
  go_enter Try.func17, Try.ntmps17
  go_wp2_with fail
  rw [HB.out, HW0.out]
  clear HW0
  with_reducible refine HG.out.mono ?_
  rintro e w1 ⟨rfl, hb1, hbl⟩
  have HBd := Hid_mk hb1
  have HK1 := Hid_mk (HK0.out.trans (kp_below hbl) fun i hi h => by have := HB.out; omega)
  clear hb1 hbl HG hw4
  go_wp2
  go_loopw [11] (fun i wr => QuRel w1 b l i wr) (fun i _ => l.length - (intOf i).toNat)
  case atStart => exact ⟨0, rfl, Nat.zero_le _, HBd.out, Kp.refl _ _⟩
  case round =>
    obtain ⟨k, rfl, hk, hbd, hkp⟩ := hrel
    have HBk := Hid_mk hbd
    have HKp := Hid_mk hkp
    have HKl := Hid_mk hk
    have hk0 : (0 : Int) ≤ (k : Int) := Int.natCast_nonneg _
    by_cases hlt : k < l.length
    · have hki : (k : Int) < (l.length : Int) := by omega
      have hg := fun h => st_get l k h
      obtain ⟨x, hx⟩ : ∃ x, (l.getD k 0).toNat = x := ⟨_, rfl⟩
      have hx256 : x < 256 := by rw [← hx]; exact (l.getD k 0).toNat_lt
      rw [hx] at hg
      have hwi : IntKind.i64.wrap ((k : Int) + 1) = (k : Int) + 1 := IntWalk.i64_in _ (by have := HLn.out; omega)
      have hwo := woctal_any b _ x hx256 wr hbd (by rw [cells_len', quote_len, List.length_take]; have := HLn.out; omega)
      rw [← cells_app, show octQ x = octQ (atB l k) by unfold atB; rw [hx], ← quote_take l k hlt] at hwo
      have HWo := Hid_mk hwo
      have HLt := Hid_mk hlt
      clear hbd hkp hk hwo hlt hx
      go_wp2_with fail
      with_reducible refine HWo.out.mono ?_
      rintro e w2 ⟨rfl, hb2, hk2⟩
      have HB2 := Hid_mk hb2
      have HK2 := Hid_mk hk2
      clear hb2 hk2 HWo
      go_wp2
      go_roundw
      case rel => exact ⟨k + 1, by push_cast; rfl, HLt.out, HB2.out, HKp.out.trans' HK2.out⟩
      case measure => have := HLt.out; simp only [intOf]; omega
    · obtain rfl : k = l.length := by omega
      have hki : ¬ ((l.length : Nat) : Int) < (l.length : Int) := by omega
      rw [List.take_length] at hbd
      have hst := Try.Builder_String_any b b (quoteS l) wr (.inr hbd) (by have := hbd.lt; omega)
      have HSt := Hid_mk hst
      clear hbd hkp hk hst hlt
      go_wp2_with fail
      with_reducible refine HSt.out.mono ?_
      rintro e w3 ⟨rfl, hbl⟩
      have HK3 := Hid_mk ((HK1.out.trans HKp.out fun i hi h => by have h : b ≤ i := h; have := HB.out; omega).trans (kp_below hbl) fun i hi h => by have h : b ≤ i := h; have := HB.out; omega)
      clear hbl HSt
      go_wp2
      go_ret
      exact ⟨rfl, HK3.out⟩

end Go.Proofs.Ytaneblecgjahbab.ere

namespace Go.Proofs.Ytaneblecgjahbab.nfa
open Go.RowKit Go.Proofs.Ytaneblecgjahbab.sum Go.Proofs.Ytaneblecgjahbab.kept Go.Proofs.Ytaneblecgjahbab.pop Go.Proofs.Ytaneblecgjahbab.cls Go.Proofs.Ytaneblecgjahbab.tre Go.Proofs.Ytaneblecgjahbab.ere Go.Proofs.Ytaneblecgjahbab.spl
set_option linter.unusedVariables false

theorem PgRd.part {w : World} {pb po : Nat} {r : Nat × List Part} {bk : Bool} {g c : Nat} (h : PgRd w pb po r bk g c) (i : Nat) (hi : i < r.2.length) : r.2.length ≤ c ∧ c ≤ maxLen ∧
    w.cell? ⟨g, i * 7, none⟩ = some (.int .i64 ((r.2.getD i p0).kind : Int)) ∧ w.cell? ⟨g, i * 7 + 1, none⟩ = some (.int .u64 (wd (r.2.getD i p0).f 0 64 : Nat)) ∧ w.cell? ⟨g, i * 7 + 2, none⟩ = some (.int .u64 (wd (r.2.getD i p0).f 64 64 : Nat)) ∧ w.cell? ⟨g, i * 7 + 3, none⟩ = some (.int .u64 (wd (r.2.getD i p0).f 128 64 : Nat)) ∧ w.cell? ⟨g, i * 7 + 4, none⟩ = some (.int .u64 (wd (r.2.getD i p0).f 192 64 : Nat)) ∧ w.cell? ⟨g, i * 7 + 5, none⟩ = some (.int .i64 ((r.2.getD i p0).next : Int)) ∧ w.cell? ⟨g, i * 7 + 6, none⟩ = some (.int .i64 ((r.2.getD i p0).other : Int)) := by
  obtain ⟨base, hr⟩ := h.row
  obtain ⟨g', c', e, h1, h2⟩ := own_form hr (by omega)
  injection e with _ _ e
  subst e
  rw [List.getD_eq_getElem?_getD, List.getElem?_eq_getElem hi]
  have hc := fun j u (hj : j < 7) (e : r.2[i].cells[j]? = some u) => own_cell hr (g := g) rfl (i * 7 + j) ((parts_get r.2 i j hi hj).trans e)
  exact ⟨h1, h2, hc 0 _ (by decide) rfl, hc 1 _ (by decide) rfl, hc 2 _ (by decide) rfl, hc 3 _ (by decide) rfl, hc 4 _ (by decide) rfl, hc 5 _ (by decide) rfl, hc 6 _ (by decide) rfl⟩
theorem row_any {w : World} {v : Value} {l : List Nat} (h : IRw w v l) : ∃ a c, v = .slice a l.length c ∧ l.length ≤ c ∧ c ≤ maxLen := by
  rcases h.2 with ⟨rfl, e⟩ | ⟨g, cap, cur, rfl, h1, h2, h3, h4, h5, h6⟩
  · exact ⟨none, 0, by rw [e], by omega, by decide⟩
  · exact ⟨_, cap, rfl, h3, h4⟩

theorem OkW.seen {P : List Part} {t : Wst} (h : OkW P t) (k x : Nat) (hx : unS t.pl (t.seen.set k x) ≤ unS t.pl t.seen) : OkW P { t with seen := t.seen.set k x } :=
  ⟨by simpa using h.len, h.stk, by have := h.big; show t.L.length + unS t.pl (t.seen.set k x) ≤ _; omega, by have := h.pile; show t.stk.length + unS t.pl (t.seen.set k x) ≤ _; omega, h.lt⟩
theorem WkAt.pushP0 {w : World} {ρ : Nat → Nat} {o : Over} {vl vs vp : Value} {g cg : Nat} {S : List (Nat × Nat)} {t : Wst} (h : WkAt w ρ o vl vs vp g cg S t) (vp0 : Value) (hr0 : IRw w vp0 []) (ho0 : ∀ x, vp0.ownBlock = some x → vp.ownBlock = some x) (e : Nat) (W : World) (hW : Kp No w W) (gx : Nat) (hg : W.heap[gx]? = some (.cells #[.int .i64 (e : Int)] 3 (0, 0))) :
    ∃ v' w3 ρ3, (Builtin.append_ #[87, 87] 87 #[vp0, .slice (some ⟨gx, 0, none⟩) 1 1]).run Try.prog W = .ok v' w3 ∧ w3.cell? ⟨o.q, 5, none⟩ = some vp ∧ (∀ i, w3.frozen? ⟨o.q, i, none⟩ = false) ∧
      WkAt (w3.setCell ⟨o.q, 5, none⟩ v') ρ3 o vl vs v' g cg S { t with stk := [e] } ∧ Gr w ρ (w3.setCell ⟨o.q, 5, none⟩ v') ρ3 := by
  have hw := h.no hW
  obtain ⟨v', w3, hr, ho, hk0, hl⟩ := run_pushI W vp0 [] (owns_kept hr0 hW fun _ _ => id) e gx 1 hg (by simp)
  have hk : Kp (fun k => some k = vp.ownBlock) W w3 := hk0.mono fun k _ e1 => (ho0 k e1.symm).symm
  have hqv : ¬ some o.q = vp.ownBlock := fun e1 => by have := h.pr _ e1.symm; rw [h.qr] at this; cases this
  have hz := hk.size
  rcases hl with hl | hl
  · obtain ⟨h1, h2⟩ := hw.newP (ρ' := ρ) hk v' [e] (by simpa using ho) (fun _ _ => rfl) (fun x e1 => h.pr x (ho0 x (by rw [← hl]; exact e1))) (fun i hi => hw.hi i (by omega))
    exact ⟨v', w3, ρ, hr, hk.cell' hw.c5 hqv, fun i => (hk.frozen (p := ⟨o.q, i, none⟩) hw.lt hqv).trans (hw.warm i), h1, (Gr.of hW).trans h2⟩
  · have hW3 : W.heap.size < w3.heap.size := (own_lt ho hl).2
    obtain ⟨h1, h2⟩ := hw.newP (ρ' := roleAt ρ W.heap.size 4) hk v' [e] (by simpa using ho) (fun i hi => by unfold roleAt; rw [if_neg (by omega)]) (fun x e1 => by rw [hl] at e1; cases e1; unfold roleAt; rw [if_pos rfl]) (fun i hi => by unfold roleAt; rw [if_neg (by omega)]; exact hw.hi i (by omega))
    exact ⟨v', w3, _, hr, hk.cell' hw.c5 hqv, fun i => (hk.frozen (p := ⟨o.q, i, none⟩) hw.lt hqv).trans (hw.warm i), h1, (Gr.of hW).trans h2⟩
/-- in the midst of a reach: what it will come to -/
def RcMid (w : World) (ρ : Nat → Nat) (o : Over) (vs0 : Value) (S0 : List (Nat × Nat)) (fr pl : Nat) (A : Wst) (n : Nat) (m : Option Nat) (wr : World) : Prop :=
  ∃ ρr vl vs vp g cg S t, WkAt wr ρr o vl vs vp g cg S t ∧ Gr w ρ wr ρr ∧ OkW o.r.2 t ∧ t.pl = pl ∧ muS m t ≤ n ∧ rchS o.r.2 o.s.size fr n m t = A ∧ (∀ k, m = some k → k < o.r.2.length) ∧ vs = vs0 ∧ S = S0
/-- behind reach -/
def RcPost (w : World) (ρ : Nat → Nat) (o : Over) (vs : Value) (S : List (Nat × Nat)) (A : Wst) (e : Ending) (w' : World) : Prop :=
  e = .returned (.tuple #[]) ∧ ∃ ρ' vl vp g cg, WkAt w' ρ' o vl vs vp g cg S A ∧ Gr w ρ w' ρ' ∧ OkW o.r.2 A
/-- a frame's slots, by a function -/
def nthV : List Value → Nat → Value
  | [], _ => undef
  | x :: _, 0 => x
  | _ :: l, i + 1 => nthV l i
def fr0 (q : Nat) (u1 : Value) (fr : Nat) (U : Nat → Value) : Array Value := #[.pointer (some ⟨q, 0, none⟩), u1, .int .i64 (fr : Int), undef, undef, undef, U 6, U 7, U 8, U 9, U 10, U 11, U 12, U 13, U 14, U 15, U 16, U 17, U 18, U 19, U 20, U 21, U 22, U 23, U 24, U 25, U 26, U 27, U 28, U 29, U 30, U 31, U 32, U 33, U 34, U 35, U 36, U 37, U 38, U 39, U 40, U 41, U 42, U 43, U 44, U 45, U 46, U 47, U 48, U 49, U 50, U 51, U 52, U 53, U 54, U 55, U 56, U 57, U 58, U 59, U 60, U 61, U 62, U 63, U 64, U 65, U 66, U 67, U 68, U 69, U 70, U 71, U 72, U 73, U 74, U 75, U 76, U 77, U 78, U 79, U 80, U 81, U 82, U 83, U 84, U 85, U 86, U 87, U 88, U 89, U 90, U 91, U 92, U 93, U 94, U 95, U 96, U 97, U 98, U 99, U 100, U 101, U 102, U 103, U 104, U 105, U 106, U 107, U 108, U 109, U 110, U 111, U 112, U 113, U 114, U 115, U 116, U 117, U 118, U 119, U 120, U 121, U 122, U 123, U 124, U 125, U 126, U 127, U 128, U 129, U 130, U 131, U 132, U 133, U 134, U 135, U 136, U 137, U 138, U 139, U 140, U 141, U 142, U 143, U 144]
def RcJ (w : World) (ρ : Nat → Nat) (o : Over) (vs : Value) (S : List (Nat × Nat)) (fr pl : Nat) (A : Wst) (n : Nat) (a : Act) (wr : World) : Prop :=
  ∃ (u1 : Value) (U : Nat → Value), a = { tmps := fr0 o.q u1 fr U, defers := [] } ∧ RcMid w ρ o vs S fr pl A n none wr
def RcK (w : World) (ρ : Nat → Nat) (o : Over) (vs : Value) (S : List (Nat × Nat)) (fr pl : Nat) (A : Wst) (n : Nat) (a : Act) (wr : World) : Prop :=
  ∃ (k : Nat) (U : Nat → Value), a = { tmps := fr0 o.q (.int .i64 (k : Int)) fr U, defers := [] } ∧ RcMid w ρ o vs S fr pl A n (some k) wr
theorem RcJ.mk {w : World} {ρ : Nat → Nat} {o : Over} {vs : Value} {S : List (Nat × Nat)} {fr pl : Nat} {A : Wst} {n : Nat} {wr : World} (T : Array Value) (hm : RcMid w ρ o vs S fr pl A n none wr) (hT : T = fr0 o.q (nthV T.toList 1) fr (nthV T.toList)) : RcJ w ρ o vs S fr pl A n { tmps := T, defers := [] } wr := ⟨_, _, by rw [← hT], hm⟩
theorem RcK.mk {w : World} {ρ : Nat → Nat} {o : Over} {vs : Value} {S : List (Nat × Nat)} {fr pl : Nat} {A : Wst} {n k : Nat} {wr : World} (T : Array Value) (hm : RcMid w ρ o vs S fr pl A n (some k) wr) (hT : T = fr0 o.q (.int .i64 (k : Int)) fr (nthV T.toList)) : RcK w ρ o vs S fr pl A n { tmps := T, defers := [] } wr := ⟨k, _, by rw [← hT], hm⟩

set_option maxRecDepth 100000 in
set_option maxHeartbeats 64000000 in
theorem reach_any (w : World) (ρ : Nat → Nat) (o : Over) (vl vs vp : Value) (g cg : Nat) (S : List (Nat × Nat)) (t : Wst) (k0 fr : Nat) (h : WkAt w ρ o vl vs vp g cg S t) (hok : OkW o.r.2 { t with stk := [] }) (hk : k0 < o.r.2.length) (hP : okP o.r.2) (hPl : o.r.2.length ≤ 1000000) (hpl : t.pl ≤ 140737488355328) (n : Nat) (hn : 3 * o.r.2.length + 3 ≤ n) :
    Calls Try.prog 58 #[.pointer (some ⟨o.q, 0, none⟩), .int .i64 (k0 : Int), .int .i64 (fr : Int)] w (RcPost w ρ o vs S (rchS o.r.2 o.s.size fr n none { t with stk := [k0] })) := by
  obtain ⟨A, hA⟩ : ∃ A, rchS o.r.2 o.s.size fr n none { t with stk := [k0] } = A := ⟨_, rfl⟩
  rw [hA]
  obtain ⟨pl, hple⟩ : ∃ pl, t.pl = pl := ⟨_, rfl⟩
  rw [hple] at hpl
  have HA := Hid_mk hA
  have H := Hid_mk h
  have HOk := Hid_mk hok
  have HK := Hid_mk hk
  have HP := Hid_mk hP
  have HPl := Hid_mk hPl
  have HPe := Hid_mk hple
  have HN := Hid_mk hn
  clear hA h hok hk hP hPl hple hn
  go_enter Try.func58, Try.ntmps58
  refine scope_two_g 0 1 (by decide) (RcJ w ρ o vs S fr pl A) (RcK w ρ o vs S fr pl A) rfl rfl ?passB ?passA ?first
  case passB =>
    rintro n a' wr ⟨k, U, rfl, ρr, vl, vs, vp, g, cg, S, t, hw, hgr, hok, hpe, hmu, hgo, hkl, rfl, rfl⟩
    unfold fr0
    obtain ⟨tp, L, stk, seen, en⟩ := t
    obtain rfl : tp = pl := hpe
    have hk := hkl k rfl
    have hks : k < seen.length := by have := hok.len; simp only at this; omega
    obtain ⟨f, rfl⟩ : ∃ f, n = f + 1 := ⟨n - 1, by unfold muS at hmu; simp at hmu; omega⟩
    obtain ⟨x, hx⟩ : ∃ x, seen.getD k 0 = x := ⟨_, rfl⟩
    have hxg : seen[k] = x := by rw [← hx, List.getD_eq_getElem?_getD, List.getElem?_eq_getElem hks]; rfl
    have bs : wr.cell? ⟨g, k, none⟩ = some (.int .i64 (x : Int)) := by rw [← hxg]; exact own_cell hw.rn rfl k (in_get seen k hks)
    have bw : wr.frozen? ⟨g, k, none⟩ = false := own_warm hw.rn rfl k
    have b6 : wr.cell? ⟨o.q, 6, none⟩ = some (.slice (some ⟨g, 0, none⟩) seen.length cg) := hw.c6
    have b2 : wr.cell? ⟨o.q, 2, none⟩ = some (.int .i64 (tp : Int)) := hw.c2
    have hcg : seen.length ≤ cg ∧ cg ≤ 9223372036854775807 := by
      obtain ⟨g9, c9, e9, h9, h10⟩ := own_form (n := seen.length) hw.rn (by omega)
      injection e9 with _ _ e9
      subst e9
      unfold maxLen at h10
      omega
    have hki : (k : Int) < (seen.length : Int) := by omega
    have hk0 : (0 : Int) ≤ (k : Int) := Int.natCast_nonneg _
    have hp0 : (0 : Int) ≤ (tp : Int) := Int.natCast_nonneg _
    have hpi : (tp : Int) ≤ 140737488355328 := by omega
    have hwp : IntKind.i64.wrap ((tp : Int) + 1) = (tp : Int) + 1 := IntWalk.i64_in _ (by omega)
    have HW := Hid_mk hw
    have HGr := Hid_mk hgr
    have HOk2 := Hid_mk hok
    have HMu := Hid_mk hmu
    have HGo := Hid_mk hgo
    have HX := Hid_mk hx
    have HKs := Hid_mk hks
    have HK2 := Hid_mk hk
    clear hw hgr hok hmu hgo hx hxg hks hk hkl
    by_cases hxe : x = tp + 1
    · have hde : ((x : Int) == (tp : Int) + 1) = true := by rw [hxe]; simp
      have HG2 : Hid (rchS o.r.2 o.s.size fr f none ⟨tp, L, stk, seen, en⟩ = A) := Hid_mk (by
        have h := HGo.out
        rwa [rch_seen (by rw [HX.out]; exact hxe)] at h)
      have hmu2 : muS none ⟨tp, L, stk, seen, en⟩ ≤ f := by have h := HMu.out; unfold muS at h ⊢; simp at h ⊢; omega
      have HMu2 := Hid_mk hmu2
      clear hxe hmu2
      go_upto_region 5 with fail
      go_quiet (fail)
      clear bs bw b6 b2 hki hcg hde hwp
      go_wp2
      go_step3
      have hmid : ∀ nq, RcMid w ρ o vs S fr tp A f none (wr.drewN nq) := fun nq => ⟨ρr, vl, vs, vp, g, cg, S, _, HW.out.no (Kp.drewN nq (Kp.refl No _)), HGr.out.trans (Gr.of (Kp.drewN nq (Kp.refl No _))), HOk2.out, rfl, HMu2.out, HG2.out, (fun k e => by cases e), rfl, rfl⟩
      refine ⟨f, Nat.lt_succ_self f, .inl ⟨rfl, RcJ.mk _ (hmid _) (by kernel_rfl)⟩⟩
    · have hde : ((x : Int) == (tp : Int) + 1) = false := by rw [beq_eq_false_iff_ne]; omega
      have HXe := Hid_mk hxe
      clear hxe
      go_upto_region 5 with fail
      go_quiet (fail)
      clear hde
      go_wp2_with fail
      go_region
      go_upto_region 7 with fail
      have hk7 : Kp No wr (wr.drewN (nq + 1)) := Kp.drewN _ (Kp.refl No _)
      refine wp_name (fun V => WkAt V ρr o vl vs vp g cg S ⟨tp, L, stk, seen.set k (tp + 1), en⟩ ∧ Gr w ρ V ρr) ⟨(HW.out.no hk7).mark k (tp + 1) HKs.out, HGr.out.trans ((Gr.of hk7).trans (Gr.cell (by rw [HW.out.nr]; decide)))⟩ ?_
      rintro W2 ⟨hw2, hgr2⟩
      have HXs : Hid (¬ seen.getD k 0 = tp + 1) := Hid_mk (by rw [HX.out]; exact HXe.out)
      have hun := un_set (pl := tp) (seen := seen) (k := k) HKs.out HXs.out
      have HUn := Hid_mk hun
      have hpt := HP.out.get HK2.out
      have HPt := Hid_mk hpt
      have b0 := hw2.c0
      have b1 := hw2.c1
      have b2 : W2.cell? ⟨o.q, 2, none⟩ = some (.int .i64 (tp : Int)) := hw2.c2
      have b3 := hw2.c3
      have b5 := hw2.c5
      have b7 : W2.cell? ⟨o.q, 7, none⟩ = some (.int .i64 en) := hw2.c7
      have bw := hw2.warm
      have d0 := hw2.pg.c0
      obtain ⟨hc1, hc2, e0, -, -, -, -, e5, e6⟩ := hw2.pg.part k HK2.out
      unfold maxLen at hc2
      have hki : (k : Int) < (o.r.2.length : Int) := by have := HK2.out; omega
      have HW2 := Hid_mk hw2
      have HGr2 := Hid_mk hgr2
      obtain ⟨kd, hkd⟩ : ∃ kd, (o.r.2.getD k p0).kind = kd := ⟨_, rfl⟩
      obtain ⟨nx, hnx⟩ : ∃ nx, (o.r.2.getD k p0).next = nx := ⟨_, rfl⟩
      obtain ⟨ot, hot⟩ : ∃ ot, (o.r.2.getD k p0).other = ot := ⟨_, rfl⟩
      rw [hkd] at e0
      rw [hnx] at e5
      rw [hot] at e6
      have hkc : kd = 0 ∨ kd = 1 ∨ kd = 2 ∨ kd = 3 ∨ kd = 4 := by omega
      have HNx := Hid_mk hnx
      have HOt := Hid_mk hot
      have HKd := Hid_mk hkd
      clear hw2 hgr2 hun hpt hk7 hnx hot hkd hwp
      rcases hkc with rfl | rfl | rfl | rfl | rfl
      · have HG2 := Hid_mk ((rch_0 (n := o.s.size) (fr := fr) (f := f) (L := L) (stk := stk) (en := en) HXs.out HKd.out).symm.trans HGo.out)
        go_wp2
        go_step3
        have hmid : RcMid w ρ o vs S fr tp A f none (W2.setCell ⟨o.q, 7, none⟩ (.int .i64 (fr : Int))) := ⟨ρr, vl, vs, vp, g, cg, S, ⟨tp, L, stk, seen.set k (tp + 1), (fr : Int)⟩, HW2.out.set7 (fr : Int), HGr2.out.trans (Gr.cell (by rw [HW2.out.qr]; decide)), HOk2.out.mark HK2.out HXs.out, rfl, by have h := HMu.out; have h2 := HUn.out; unfold muS at h ⊢; simp at h ⊢; omega, HG2.out, (fun k e => by cases e), rfl, rfl⟩
        exact ⟨f, Nat.lt_succ_self f, .inl ⟨rfl, RcJ.mk _ hmid (by kernel_rfl)⟩⟩
      · have HG2 := Hid_mk ((rch_1 (n := o.s.size) (fr := fr) (f := f) (L := L) (stk := stk) (en := en) HXs.out HKd.out).symm.trans HGo.out)
        have hka : Kp No W2 (W2.alloc (.cells #[.int .i64 (k : Int), .int .i64 (fr : Int)] 125)) := (Kp.refl No W2).alloc _
        obtain ⟨v', w3, ρ3, hr3, i3, iw, hw3, hgr3⟩ := HW2.out.pushL (k, fr) (by have h1 := HOk2.out.big; have h2 := HPl.out; simp only at h1 ⊢; omega) _ hka W2.heap.size (heap_alloc_new W2 _)
        obtain ⟨g9, c9, rfl, -, -⟩ := own_form hw3.rl (by simp)
        have HW3 := Hid_mk hw3
        have HGr3 := Hid_mk hgr3
        have j3 := hka.cell' b3 id
        clear hka hw3 hgr3
        go_wp2_with (at_builtin; (refine ere.wpList_append_run rfl _ _ _ _ rfl hr3 ?_))
        (try go_step3)
        have hmid : RcMid w ρ o vs S fr tp A f none (w3.setCell ⟨o.q, 3, none⟩ (.slice (some ⟨g9, 0, none⟩) (L ++ [(k, fr)]).length c9)) := ⟨ρ3, _, vs, vp, g, cg, S, ⟨tp, L ++ [(k, fr)], stk, seen.set k (tp + 1), en⟩, HW3.out, HGr2.out.trans HGr3.out, HOk2.out.take HK2.out HXs.out fr, rfl, by have h := HMu.out; have h2 := HUn.out; unfold muS at h ⊢; simp at h ⊢; omega, HG2.out, (fun k e => by cases e), rfl, rfl⟩
        rw [show (L ++ [(k, fr)]).length = L.length + 1 by simp] at hmid
        exact ⟨f, Nat.lt_succ_self f, .inl ⟨rfl, RcJ.mk _ hmid (by kernel_rfl)⟩⟩
      · have HG2 : Hid (rchS o.r.2 o.s.size fr f (some nx) ⟨tp, L, ot :: stk, seen.set k (tp + 1), en⟩ = A) := Hid_mk (by have h := (rch_2 (n := o.s.size) (fr := fr) (f := f) (L := L) (stk := stk) (en := en) HXs.out HKd.out).symm.trans HGo.out; rw [HNx.out, HOt.out] at h; exact h)
        have hka : Kp No W2 (W2.alloc (.cells #[.int .i64 (ot : Int)] 3)).drew := ((Kp.refl No W2).alloc _).drew
        obtain ⟨v', w3, ρ3, hr3, i3, iw, hw3, hgr3⟩ := HW2.out.pushP ot (by have h1 := HOk2.out.pile; have h2 := HPl.out; simp only at h1 ⊢; omega) _ hka W2.heap.size (heap_alloc_new W2 _)
        obtain ⟨g9, c9, rfl, -, -⟩ := own_form hw3.rp (by simp)
        rw [show (ot :: stk).reverse.length = stk.length + 1 by simp] at hw3 hgr3 hr3
        have HW3 := Hid_mk hw3
        have HGr3 := Hid_mk hgr3
        have j3 : (W2.alloc (.cells #[.int .i64 (ot : Int)] 3)).cell? ⟨o.q, 5, none⟩ = some vp := hka.cell' b5 id
        clear hka hw3 hgr3
        go_upto_region 18 with fail
        clear hc1 hc2 e0 e5 d0 b0 b1 b2 b3 b7
        go_region_law (refine ere.step_append_run rfl _ _ _ _ rfl hr3 ?_)
        all_goals
          go_upto_region 19 with fail
          refine wp_name (fun V => V = w3.setCell ⟨o.q, 5, none⟩ (.slice (some ⟨g9, 0, none⟩) (stk.length + 1) c9)) rfl ?_
          rintro W4 hW4
          have hw4 := HW3.out
          have hgr4 := HGr3.out
          rw [← hW4] at hw4 hgr4
          obtain ⟨-, -, -, -, -, -, -, n5, -⟩ := hw4.pg.part k HK2.out
          rw [HNx.out] at n5
          have HW4 := Hid_mk hw4
          have HGr4 := Hid_mk hgr4
          clear hW4 hw4 hgr4 i3 iw j3 hr3
          go_wp2_with fail
          (try go_step3)
          have hmid : RcMid w ρ o vs S fr tp A f (some nx) W4 := ⟨ρ3, _, _, _, _, _, _, ⟨tp, L, ot :: stk, seen.set k (tp + 1), en⟩, HW4.out, HGr2.out.trans HGr4.out, HOk2.out.fork HK2.out HXs.out (by have := HPt.out.2.1; have := HOt.out; omega), rfl, by have h := HMu.out; have h2 := HUn.out; unfold muS at h ⊢; simp at h ⊢; omega, HG2.out, (fun k' e => by cases e; have := HPt.out.1; have := HNx.out; omega), rfl, rfl⟩
          exact ⟨f, Nat.lt_succ_self f, .inr ⟨rfl, RcK.mk _ hmid (by kernel_rfl)⟩⟩
      · have hg3 := rch_3 (n := o.s.size) (fr := fr) (f := f) (L := L) (stk := stk) (en := en) HXs.out HKd.out
        have HG3 := Hid_mk (hg3.symm.trans HGo.out)
        clear hg3
        by_cases hc : tp = 0
        · have HG2 : Hid (rchS o.r.2 o.s.size fr f (some nx) ⟨tp, L, stk, seen.set k (tp + 1), en⟩ = A) := Hid_mk (by have h := HG3.out; rw [if_pos hc, HNx.out] at h; exact h)
          have hci : ((tp : Int) != 0) = false := by simp; omega
          clear hc
          go_wp2_with fail
          (try go_step3)
          have hmid : ∀ V, Kp No W2 V → RcMid w ρ o vs S fr tp A f (some nx) V := fun V hV => ⟨ρr, vl, vs, vp, g, cg, S, ⟨tp, L, stk, seen.set k (tp + 1), en⟩, HW2.out.no hV, HGr2.out.trans (Gr.of hV), HOk2.out.mark HK2.out HXs.out, rfl, by have h := HMu.out; have h2 := HUn.out; unfold muS at h ⊢; simp at h ⊢; omega, HG2.out, (fun k' e => by cases e; have := HPt.out.1; have := HNx.out; omega), rfl, rfl⟩
          exact ⟨f, Nat.lt_succ_self f, .inr ⟨rfl, RcK.mk _ (hmid _ (Kp.refl No _)) (by kernel_rfl)⟩⟩
        · have HG2 : Hid (rchS o.r.2 o.s.size fr f none ⟨tp, L, stk, seen.set k (tp + 1), en⟩ = A) := Hid_mk (by have h := HG3.out; rw [if_neg hc] at h; exact h)
          have hci : ((tp : Int) != 0) = true := by simp; omega
          clear hc
          go_wp2_with fail
          (try go_step3)
          have hmid : ∀ V, Kp No W2 V → RcMid w ρ o vs S fr tp A f none V := fun V hV => ⟨ρr, vl, vs, vp, g, cg, S, ⟨tp, L, stk, seen.set k (tp + 1), en⟩, HW2.out.no hV, HGr2.out.trans (Gr.of hV), HOk2.out.mark HK2.out HXs.out, rfl, by have h := HMu.out; have h2 := HUn.out; unfold muS at h ⊢; simp at h ⊢; omega, HG2.out, (fun k' e => by cases e), rfl, rfl⟩
          exact ⟨f, Nat.lt_succ_self f, .inl ⟨rfl, RcJ.mk _ (hmid _ (Kp.refl No _)) (by kernel_rfl)⟩⟩
      · have hg3 := rch_4 (n := o.s.size) (fr := fr) (f := f) (L := L) (stk := stk) (en := en) HXs.out HKd.out
        have HG3 := Hid_mk (hg3.symm.trans HGo.out)
        clear hg3
        by_cases hc : tp = o.s.size
        · have HG2 : Hid (rchS o.r.2 o.s.size fr f (some nx) ⟨tp, L, stk, seen.set k (tp + 1), en⟩ = A) := Hid_mk (by have h := HG3.out; rw [if_pos hc, HNx.out] at h; exact h)
          have hci : ((tp : Int) != (o.s.size : Int)) = false := by simp; omega
          clear hc
          go_wp2_with fail
          go_upto_region 16 with fail
          go_quiet (fail)
          go_wp2_with fail
          (try go_step3)
          have hmid : ∀ V, Kp No W2 V → RcMid w ρ o vs S fr tp A f (some nx) V := fun V hV => ⟨ρr, vl, vs, vp, g, cg, S, ⟨tp, L, stk, seen.set k (tp + 1), en⟩, HW2.out.no hV, HGr2.out.trans (Gr.of hV), HOk2.out.mark HK2.out HXs.out, rfl, by have h := HMu.out; have h2 := HUn.out; unfold muS at h ⊢; simp at h ⊢; omega, HG2.out, (fun k' e => by cases e; have := HPt.out.1; have := HNx.out; omega), rfl, rfl⟩
          exact ⟨f, Nat.lt_succ_self f, .inr ⟨rfl, RcK.mk _ (hmid _ (Kp.drewN _ (Kp.refl No _))) (by kernel_rfl)⟩⟩
        · have HG2 : Hid (rchS o.r.2 o.s.size fr f none ⟨tp, L, stk, seen.set k (tp + 1), en⟩ = A) := Hid_mk (by have h := HG3.out; rw [if_neg hc] at h; exact h)
          have hci : ((tp : Int) != (o.s.size : Int)) = true := by simp; omega
          clear hc
          go_wp2_with fail
          go_upto_region 16 with fail
          go_quiet (fail)
          go_wp2_with fail
          (try go_step3)
          have hmid : ∀ V, Kp No W2 V → RcMid w ρ o vs S fr tp A f none V := fun V hV => ⟨ρr, vl, vs, vp, g, cg, S, ⟨tp, L, stk, seen.set k (tp + 1), en⟩, HW2.out.no hV, HGr2.out.trans (Gr.of hV), HOk2.out.mark HK2.out HXs.out, rfl, by have h := HMu.out; have h2 := HUn.out; unfold muS at h ⊢; simp at h ⊢; omega, HG2.out, (fun k' e => by cases e), rfl, rfl⟩
          exact ⟨f, Nat.lt_succ_self f, .inl ⟨rfl, RcJ.mk _ (hmid _ (Kp.drewN _ (Kp.refl No _))) (by kernel_rfl)⟩⟩
  case passA =>
    rintro n a' wr ⟨u1, U, rfl, ρr, vl, vs, vp, g, cg, S, t, hw, hgr, hok, hpe, hmu, hgo, -, rfl, rfl⟩ hB
    have HB := Hid_mk hB
    clear hB
    unfold fr0
    obtain ⟨tp, L, stk, seen, en⟩ := t
    obtain rfl : tp = pl := hpe
    cases stk with
    | nil =>
      have hgo2 : (⟨tp, L, [], seen, en⟩ : Wst) = A := by cases n <;> exact hgo
      obtain ⟨a, c, rfl, -, -⟩ := row_any hw.rp
      have b5 : wr.cell? ⟨o.q, 5, none⟩ = some (.slice a 0 c) := hw.c5
      have HPost : Hid (RcPost w ρ o vs S A (.returned (.tuple #[])) wr) := Hid_mk (by rw [← hgo2]; exact ⟨rfl, ρr, vl, _, g, cg, hw, hgr, hok⟩)
      clear hgo2 hgo hw hgr hok hmu HB
      go_wp2
      simp only [jumpF]
      go_end0
      exact HPost.out
    | cons k st =>
      obtain ⟨f, rfl⟩ : ∃ f, n = f + 1 := ⟨n - 1, by unfold muS at hmu; simp at hmu; omega⟩
      obtain ⟨M, hM⟩ : ∃ M, st.length = M := ⟨_, rfl⟩
      have hlen : (k :: st).reverse.length = M + 1 := by simp [hM]
      obtain ⟨gv, cv, rfl, hv1, hv2⟩ := own_form hw.rp (by simp)
      have hM1 : M ≤ 1000001 := by have h1 := hok.pile; have h2 := HPl.out; simp only [List.length_cons] at h1; omega
      have hcell : wr.cell? ⟨gv, M, none⟩ = some (.int .i64 (k : Int)) := own_cell hw.rp rfl M (by
        have h := in_get (k :: st).reverse M (by rw [hlen]; omega)
        rw [h]
        simp [← hM])
      have hrow : IRw wr (.slice (some ⟨gv, 0, none⟩) st.reverse.length cv) st.reverse := by
        have h := own_take hw.rp st.reverse.length (by simp)
        rw [show List.take (st.reverse.length * 1) ((k :: st).reverse.flatMap inC) = st.reverse.flatMap inC by
          rw [List.reverse_cons, List.flatMap_append]
          rw [List.take_append_of_le_length (by rw [in_len]; omega), List.take_of_length_le (by rw [in_len]; omega)]] at h
        exact h
      have hrl : st.reverse.length = M := by simp [hM]
      have hset : ∀ V, Kp No wr V → WkAt (V.setCell ⟨o.q, 5, none⟩ (.slice (some ⟨gv, 0, none⟩) st.reverse.length cv)) ρr o vl vs (.slice (some ⟨gv, 0, none⟩) st.reverse.length cv) g cg S ⟨tp, L, st, seen, en⟩ := fun V hV => (hw.no hV).set5 (.slice (some ⟨gv, 0, none⟩) st.reverse.length cv) st (owns_kept hrow hV fun _ _ => id) (fun y e => hw.pr y e)
      rw [hrl] at hset
      have b5 : wr.cell? ⟨o.q, 5, none⟩ = some (.slice (some ⟨gv, 0, none⟩) (M + 1) cv) := by rw [← hlen]; exact hw.c5
      have bw := hw.warm
      have hmuf : muS (some k) ⟨tp, L, st, seen, en⟩ ≤ f := by unfold muS at hmu ⊢; simp at hmu ⊢; omega
      have hok2 : OkW o.r.2 ⟨tp, L, st, seen, en⟩ := ⟨hok.len, fun y hy => hok.stk y (by simp [hy]), hok.big, by have := hok.pile; simp only [List.length_cons] at this ⊢; omega, hok.lt⟩
      have hkP := hok.stk k (by simp)
      have hcv : M + 1 ≤ cv ∧ cv ≤ 9223372036854775807 := by rw [hlen] at hv1; unfold maxLen at hv2; omega
      have hM0 : (0 : Int) ≤ (M : Int) := Int.natCast_nonneg _
      have hMi : (M : Int) ≤ 1000001 := by omega
      have hgr5 : ∀ V, Kp No wr V → Gr wr ρr (V.setCell ⟨o.q, 5, none⟩ (.slice (some ⟨gv, 0, none⟩) M cv)) ρr := fun V hV => (Gr.of hV).trans (Gr.cell (by rw [hw.qr]; decide))
      have HSet := Hid_mk hset
      have HGr := Hid_mk (fun V hV => hgr.trans (hgr5 V hV))
      have HOk2 := Hid_mk hok2
      have HMu := Hid_mk hmuf
      have HGo := Hid_mk (show rchS o.r.2 o.s.size fr f (some k) ⟨tp, L, st, seen, en⟩ = A from hgo)
      have HKP := Hid_mk hkP
      have HW0 := Hid_mk hw
      have HGr0 := Hid_mk hgr
      have hwm : IntKind.i64.wrap (((M + 1 : Nat) : Int) - 1) = (M : Int) := by rw [IntWalk.i64_in _ (by omega)]; omega
      have hwm2 : IntKind.i64.wrap ((M : Int) + 1 - 1) = (M : Int) := by rw [IntWalk.i64_in _ (by omega)]; omega
      clear hM hlen hv1 hv2 hM1 hrow hrl hset hmuf hok2 hkP hgr5 hw hgr hok hmu hgo
      go_upto_region 3 with fail
      go_quiet (fail)
      go_upto_region 4 with fail
      go_region
      clear hcell b5 bw hcv hwm hwm2
      go_wp2
      apply wp_label
      rename_i hK0
      have hk7 : Kp No wr (wr.drewN (nq + 1)) := Kp.drewN _ (Kp.refl No _)
      have hmid : RcMid w ρ o vs S fr tp A f (some k) ((wr.drewN (nq + 1)).setCell ⟨o.q, 5, none⟩ (.slice (some ⟨gv, 0, none⟩) M cv)) := ⟨ρr, vl, vs, _, g, cg, S, ⟨tp, L, st, seen, en⟩, HSet.out _ hk7, HGr.out _ hk7, HOk2.out, rfl, HMu.out, HGo.out, (fun k' e => by cases e; exact HKP.out), rfl, rfl⟩
      exact hK0 _ _ (HB.out f _ _ (Nat.lt_succ_self f) (RcK.mk _ hmid (by kernel_rfl)))
  case first =>
    intro pass
    have HPass := Hid_mk pass
    have hka : Kp No w (w.alloc (.cells #[.int .i64 (k0 : Int)] 3)) := (Kp.refl No w).alloc _
    have h := H.out
    obtain ⟨vp0, hvp0, hr0, ho0⟩ : ∃ vp0, (vp = .slice none 0 0 ∧ vp0 = .slice none 0 0 ∨ ∃ gv n c, vp = .slice (some ⟨gv, 0, none⟩) n c ∧ n ≤ c ∧ c ≤ maxLen ∧ vp0 = .slice (some ⟨gv, 0, none⟩) 0 c) ∧ IRw w vp0 [] ∧ ∀ x, vp0.ownBlock = some x → vp.ownBlock = some x := by
      have hr := h.rp
      rcases h.rp.2 with ⟨e1, e2⟩ | ⟨gv, cap, cur, e1, h1, h2, h3, h4, h5, h6⟩
      · exact ⟨_, .inl ⟨e1, rfl⟩, World.ownsRow_nil _ _ _ _, fun x e => by cases e⟩
      · rw [e1] at hr
        refine ⟨_, .inr ⟨gv, _, cap, e1, h3, h4, rfl⟩, ?_, fun x e => by rw [e1]; exact e⟩
        have := own_take hr 0 (Nat.zero_le _)
        simpa [IRw] using this
    obtain ⟨v', w3, ρ3, hr3, i3, iw, hw3, hgr3⟩ := h.pushP0 vp0 hr0 ho0 k0 _ hka w.heap.size (heap_alloc_new w _)
    obtain ⟨g9, c9, rfl, -, -⟩ := own_form hw3.rp (by simp)
    have hmid : RcMid w ρ o vs S fr pl A n none (w3.setCell ⟨o.q, 5, none⟩ (.slice (some ⟨g9, 0, none⟩) [k0].reverse.length c9)) := by
      refine ⟨ρ3, vl, vs, _, g, cg, S, _, hw3, hgr3, ⟨HOk.out.len, fun y hy => ?_, HOk.out.big, ?_, HOk.out.lt⟩, HPe.out, ?_, HA.out, (fun k e => by cases e), rfl, rfl⟩
      · simp only [List.mem_singleton] at hy
        rw [hy]
        exact HK.out
      · have h1 := un_le t.pl t.seen
        have h2 := HOk.out.len
        simp only [List.length_singleton] at h1 h2 ⊢
        omega
      · have h1 := un_le t.pl t.seen
        have h2 := HOk.out.len
        have h3 := HN.out
        unfold muS
        simp at h1 h2 ⊢
        omega
    have HMid := Hid_mk hmid
    have b5 : w.cell? ⟨o.q, 5, none⟩ = some vp := h.c5
    have j5 := hka.cell' b5 id
    clear pass hka h hr0 ho0 hw3 hgr3 hmid
    rcases hvp0 with ⟨rfl, rfl⟩ | ⟨gv, nv, cv, rfl, hv1, hv2, rfl⟩
    · go_wp2_with (at_builtin; (refine ere.wpList_append_run rfl _ _ _ _ rfl hr3 ?_))
      apply wp_label
      rename_i hK0
      exact hK0 _ _ (HPass.out n _ _ (RcJ.mk _ HMid.out (by kernel_rfl)))
    · unfold maxLen at hv2
      go_wp2_with (at_builtin; (refine ere.wpList_append_run rfl _ _ _ _ rfl hr3 ?_))
      apply wp_label
      rename_i hK0
      exact hK0 _ _ (HPass.out n _ _ (RcJ.mk _ HMid.out (by kernel_rfl)))

end Go.Proofs.Ytaneblecgjahbab.nfa
