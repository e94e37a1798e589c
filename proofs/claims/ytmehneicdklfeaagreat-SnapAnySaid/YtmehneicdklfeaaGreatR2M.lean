/- The reference's files, as they are read, and find. The reference's without. The reference's with. -/
import Derived.Test.YtmehneicdklfeaaGreatBaseM
import Derived.Maps.AppendAt
import Derived.Deep.AppendLies
import Derived.Deep.RegionHeld3

namespace Go.Proofs.YtmehneicdklfeaaGreat.r2
open Go.RowKit Go.Maps Go.Proofs.YtmehneicdklfeaaGreat.sum Go.Proofs.YtmehneicdklfeaaGreat.kept Go.Proofs.YtmehneicdklfeaaGreat.app Go.Proofs.YtmehneicdklfeaaGreat.writer Go.Proofs.YtmehneicdklfeaaGreat.clone Go.Proofs.YtmehneicdklfeaaGreat.fs
set_option linter.unusedVariables false

/-- a file: its name, the slice, the bytes -/
abbrev Fv := ByteArray × Value × List UInt8
def files (l : List Fv) : Files := l.map fun q => (nm q.1, q.2.2)
def cells (l : List Fv) : List Value := l.flatMap fun q => [.string q.1, q.2.1]

theorem cells_append (l m : List Fv) : cells (l ++ m) = cells l ++ cells m := List.flatMap_append
theorem cells_length (l : List Fv) : (cells l).length = l.length * 2 := by
  induction l with
  | nil => rfl
  | cons q l ih =>
    show (Value.string q.1 :: q.2.1 :: cells l).length = _
    simp only [List.length_cons, ih]
    omega
theorem cells_at : ∀ (l : List Fv) (k : Nat) (h : k < l.length), (cells l)[k * 2]? = some (.string l[k].1) ∧ (cells l)[k * 2 + 1]? = some l[k].2.1
  | q :: l, 0, _ => ⟨rfl, rfl⟩
  | q :: l, k + 1, h => by
    have := cells_at l k (by simpa using h)
    refine ⟨?_, ?_⟩
    · show (Value.string q.1 :: q.2.1 :: cells l)[(k + 1) * 2]? = _
      rw [show (k + 1) * 2 = k * 2 + 1 + 1 by omega, List.getElem?_cons_succ, List.getElem?_cons_succ, this.1]
      rfl
    · show (Value.string q.1 :: q.2.1 :: cells l)[(k + 1) * 2 + 1]? = _
      rw [show (k + 1) * 2 + 1 = (k * 2 + 1) + 1 + 1 by omega, List.getElem?_cons_succ, List.getElem?_cons_succ, this.2]
      rfl

/-- a row of files -/
def FRow (w : World) (base : Nat) (v : Value) (l : List Fv) : Prop := w.ownsRow base 45 2 v l.length (cells l)
/-- read: a slice of these, each of these bytes -/
def Fl (w : World) (v : Value) (l : List Fv) : Prop := FRow w 0 v l ∧ ∀ q ∈ l, Bs w q.2.1 q.2.2

theorem FRow.low {w : World} {base base' : Nat} {v : Value} {l : List Fv} (h : FRow w base v l) (hb : base' ≤ base) : FRow w base' v l := owns_base h hb
theorem FRow.no {w w' : World} {base : Nat} {v : Value} {l : List Fv} (h : FRow w base v l) (hk : Kp No w w') : FRow w' base v l := owns_kept h hk fun _ _ => id
theorem Fl.no {w w' : World} {v : Value} {l : List Fv} (h : Fl w v l) (hk : Kp No w w') : Fl w' v l := ⟨h.1.no hk, fun q hq => bs_no (h.2 q hq) hk⟩
theorem Fl.nil (w : World) : Fl w (.slice none 0 0) [] := ⟨World.ownsRow_nil _ _ _ _, fun q hq => by cases hq⟩

theorem FRow.opened {w : World} {base : Nat} {v : Value} {l : List Fv} (h : FRow w base v l) : ∃ a cap, v = .slice a l.length cap ∧ l.length ≤ cap ∧ cap ≤ 9223372036854775807 ∧
    (l ≠ [] → ∃ b, a = some ⟨b, 0, none⟩ ∧ ∀ k (h : k < l.length), w.cell? ⟨b, k * 2, none⟩ = some (.string l[k].1) ∧ w.cell? ⟨b, k * 2 + 1, none⟩ = some l[k].2.1) := by
  have h' : w.ownsRow base 45 2 v l.length (cells l) := h
  rcases h'.2 with ⟨rfl, h0⟩ | ⟨g, cap, cur, rfl, hb, hg, r1, r2, r3, r4⟩
  · exact ⟨none, 0, by rw [h0], by omega, by omega, fun hne => absurd (List.eq_nil_of_length_eq_zero h0) hne⟩
  · refine ⟨_, cap, rfl, r1, by unfold maxLen at r2; omega, fun _ => ⟨g, rfl, fun k hk => ?_⟩⟩
    have c1 := h'.cells (g := g) rfl _ _ (cells_at l k hk).1
    have c2 := h'.cells (g := g) rfl _ _ (cells_at l k hk).2
    rw [addr_add, Nat.zero_add] at c1 c2
    exact ⟨c1, c2⟩

/-- where a name stands -/
def at? (l : List Fv) (n : ByteArray) : Option Nat := l.findIdx? fun q => decide (q.1 = n)
def place (l : List Fv) (n : ByteArray) : Int := match at? l n with | some k => (k : Int) | none => -1

theorem txt_ne {a b : ByteArray} (h : a ≠ b) : (a.toList == b.toList) = false := by
  rw [ByteArray.toList_eq, ByteArray.toList_eq]
  simp only [beq_eq_false_iff_ne, ne_eq]
  exact fun e => h (nm_inj e)

def FindRel (l : List Fv) (n : ByteArray) (w : World) (i : Value) (wr : World) : Prop := ∃ k : Nat, i = .int .i64 (k : Int) ∧ k ≤ l.length ∧ (∀ j (h : j < l.length), j < k → l[j].1 ≠ n) ∧ w = wr

theorem place_at {l : List Fv} {n : ByteArray} {k : Nat} (hk : k < l.length) (h : l[k].1 = n) (hb : ∀ j (h : j < l.length), j < k → l[j].1 ≠ n) : place l n = (k : Int) := by
  have : at? l n = some k := by
    unfold at?
    rw [List.findIdx?_eq_some_iff_getElem]
    exact ⟨hk, by simpa using h, fun j hj => by simpa using hb j (by omega) hj⟩
  unfold place
  rw [this]
theorem place_none {l : List Fv} {n : ByteArray} (hb : ∀ j (h : j < l.length), l[j].1 ≠ n) : place l n = -1 := by
  have : at? l n = none := by
    unfold at?
    rw [List.findIdx?_eq_none_iff]
    intro q hq
    obtain ⟨j, hj, rfl⟩ := List.getElem_of_mem hq
    simpa using hb j hj
  unfold place
  rw [this]

set_option maxRecDepth 100000 in
set_option maxHeartbeats 2000000 in
theorem find_any (w : World) (v : Value) (l : List Fv) (n : ByteArray) (h : Fl w v l) (hl : l.length ≤ 1000000000000) (hn : n.size ≤ maxLen) : Calls Tryz.prog 52 #[v, .string n] w fun e w' => e = .returned (.int .i64 (place l n)) ∧ w = w' := by
  obtain ⟨a, cap, rfl, h1, h2, h3⟩ := h.1.opened
  have HC := Hid_mk h3
  clear h3 h
  go_enter Tryz.func52, Tryz.ntmps52
  go_wp2
  go_loopw [5] (fun i wr => FindRel l n w i wr) (fun i _ => l.length - (intOf i).toNat)
  case atStart => exact ⟨0, rfl, Nat.zero_le _, fun _ _ h => absurd h (Nat.not_lt_zero _), rfl⟩
  case round =>
    obtain ⟨k, rfl, hk, hb, rfl⟩ := hrel
    have HB := Hid_mk hb
    clear hb
    by_cases hlt : k < l.length
    · have hki : (k : Int) < (l.length : Int) := by omega
      have hk0 : (0 : Int) ≤ (k : Int) := Int.natCast_nonneg _
      obtain ⟨b, rfl, hc⟩ := HC.out (by intro e; rw [e] at hlt; simp at hlt)
      obtain ⟨x, hx⟩ : ∃ x, x = l[k].1 := ⟨_, rfl⟩
      have c0 : w.cell? ⟨b, k * 2, none⟩ = some (.string x) := (hc k hlt).1.trans (congrArg (fun y => some (Value.string y)) hx.symm)
      have HLt := Hid_mk hlt
      by_cases he : x = n
      · have HP := Hid_mk (place_at hlt (hx.symm.trans he) HB.out)
        subst he
        clear hc hx hlt
        go_wp2
        go_ret
        rw [HP.out]
        exact ⟨rfl, rfl⟩
      · have HN := Hid_mk (show FindRel l n w (.int .i64 ((k : Int) + 1)) w from ⟨k + 1, by push_cast; rfl, hlt, fun j hj hjk => by
          by_cases e : j = k
          · subst e; exact fun e2 => he (hx.trans e2)
          · exact HB.out j hj (by omega), rfl⟩)
        have hxn := txt_ne he
        clear hc hx hlt he
        go_wp2
        go_roundw
        case rel => exact HN.out
        case measure => have := HLt.out; simp only [intOf]; omega
    · have hki : ¬ (k : Int) < (l.length : Int) := by omega
      have HP := Hid_mk (place_none (l := l) (n := n) fun j hj => HB.out j hj (by omega))
      clear hlt
      go_wp2
      go_ret
      rw [HP.out]
      exact ⟨rfl, rfl⟩

end Go.Proofs.YtmehneicdklfeaaGreat.r2

namespace Go.Proofs.YtmehneicdklfeaaGreat.r2
open Go.RowKit Go.Maps Go.Proofs.YtmehneicdklfeaaGreat.sum Go.Proofs.YtmehneicdklfeaaGreat.kept Go.Proofs.YtmehneicdklfeaaGreat.app Go.Proofs.YtmehneicdklfeaaGreat.writer Go.Proofs.YtmehneicdklfeaaGreat.clone Go.Proofs.YtmehneicdklfeaaGreat.fs
set_option linter.unusedVariables false

theorem infoF : (Tryz.prog.info? 45).map (fun i => (i.zero, i.size, i.bytes)) = some (some (.agg #[.string ByteArray.empty, .slice none 0 0]), 2, 40) := by kernel_rfl

/-- what an append of files leaves -/
def Cat (base : Nat) (w : World) (v : Value) (l m : List Fv) (v' : Value) (w' : World) : Prop :=
  FRow w' base v' (l ++ m) ∧ Kp (fun k => some k = v.ownBlock) w w' ∧ (v'.ownBlock = v.ownBlock ∨ v'.ownBlock = some w.heap.size)

theorem run_cat (w : World) (ty : TypeId) (base : Nat) (v : Value) (l m : List Fv) (h : FRow w base v l) (hbase : base ≤ w.heap.size) (hone : ∀ q ∈ m, q.2.1.oneCell' = true) (b o c : Nat) (hc : ∀ j u, (cells m)[j]? = some u → w.cell? ⟨b, o + j, none⟩ = some u) (hn : l.length + m.length ≤ 1000000000000) :
    ∃ v' w', (Builtin.append_ #[46, 46] ty #[v, .slice (some ⟨b, o, none⟩) m.length c]).run Tryz.prog w = .ok v' w' ∧ Cat base w v l m v' w' := by
  obtain ⟨i0, hi, hz0, hz1, hz2⟩ := info_parts infoF
  have hcell : ∀ u ∈ cells m, u.oneCell' = true := fun u hu => by
    obtain ⟨q, hq, hu⟩ := List.mem_flatMap.1 hu
    simp only [List.mem_cons, List.not_mem_nil, or_false] at hu
    rcases hu with rfl | rfl
    · rfl
    · exact hone q hq
  obtain ⟨v', w', hr, k1, k2, k3, k4⟩ := run_append_own_at (P := Tryz.prog) w base 46 ty 45 i0 (.agg #[.string ByteArray.empty, .slice none 0 0]) 2 40 Tryz.underlying46 hi hz0 hz1 hz2 rfl (by decide) v l.length _ h ⟨b, o, none⟩ m.length c (cells m)
    (cells_length m) (fun j u hj => by rw [addr_add]; exact hc j u hj) hcell (by unfold maxLen; omega) (by omega) hbase
  refine ⟨v', w', hr, ?_, (Kp.refl _ _).grown k2 fun k _ e => e.symm, k4⟩
  unfold FRow
  rw [List.length_append, cells_append]
  exact k1

theorem wpList_cat (w : World) {ops : Array Oper} {rest : List Oper} {o : Oper} {a : Act} {Q : Exit → Act → World → Prop} (hgd : o.guard = none) (s e : Operand)
    (ho : o.op = .call { callee := .builtin .append, args := #[s, e], argTypes := #[46, 46] })
    (base : Nat) (v : Value) (l m : List Fv) (hs : a.eval s = v) (h : FRow w base v l) (hbase : base ≤ w.heap.size) (hone : ∀ q ∈ m, q.2.1.oneCell' = true) (b f c : Nat) (he : a.eval e = .slice (some ⟨b, f, none⟩) m.length c) (hc : ∀ j u, (cells m)[j]? = some u → w.cell? ⟨b, f + j, none⟩ = some u) (hn : l.length + m.length ≤ 1000000000000)
    (hK : ∀ v' w', Cat base w v l m v' w' → wpList Tryz.prog ops Q rest (a.put o.dst v') w') : wpList Tryz.prog ops Q (o :: rest) a w := by
  obtain ⟨v', w', hr, h2⟩ := run_cat w o.type base v l m h hbase hone b f c hc hn
  refine wpList_plain hgd fun K hK2 => ?_
  unfold Oper.wp execOp
  simp only [ho, resolve, invoke, builtin, Sem.run_bind, Sem.run_pure, Result.andThen_ok, List.map_toArray, List.map_cons, List.map_nil, hs, he, hr]
  exact hK2 _ _ (hK v' w' h2)

def but (n : ByteArray) (l : List Fv) : List Fv := l.filter fun q => !decide (q.1 = n)
theorem but_le (n : ByteArray) (l : List Fv) : (but n l).length ≤ l.length := List.length_filter_le _ _
theorem but_snoc (n : ByteArray) (l : List Fv) (k : Nat) (h : k < l.length) : but n (l.take (k + 1)) = but n (l.take k) ++ (if l[k].1 = n then [] else [l[k]]) := by
  rw [List.take_succ_eq_append_getElem h]
  unfold but
  rw [List.filter_append]
  congr 1
  by_cases e : l[k].1 = n
  · simp [e]
  · simp [e]
theorem files_but (n : ByteArray) (l : List Fv) : files (but n l) = drop (files l) (nm n) := by
  unfold files but drop
  rw [List.filter_map]
  congr 1
  refine List.filter_congr fun q _ => ?_
  simp only [Function.comp_apply]
  congr 1
  by_cases e : q.1 = n
  · simp [e]
  · have : nm q.1 ≠ nm n := fun h => e (nm_inj h)
    simp [e, this]

def WoRel (w : World) (l : List Fv) (n : ByteArray) (out i : Value) (wr : World) : Prop := ∃ k : Nat, i = .int .i64 (k : Int) ∧ k ≤ l.length ∧ FRow wr w.heap.size out (but n (l.take k)) ∧ Kp No w wr
/-- what a call leaves that makes files -/
def NewFl (w : World) (l : List Fv) (e : Ending) (w' : World) : Prop := ∃ v', e = .returned v' ∧ FRow w' w.heap.size v' l ∧ Kp No w w'

set_option maxRecDepth 100000 in
set_option maxHeartbeats 4000000 in
theorem without_any (w : World) (v : Value) (l : List Fv) (n : ByteArray) (h : Fl w v l) (hl : l.length ≤ 1000000000) (hn : n.size ≤ maxLen) : Calls Tryz.prog 69 #[v, .string n] w (NewFl w (but n l)) := by
  obtain ⟨a, cap, rfl, h1, h2, h3⟩ := h.1.opened
  have HC := Hid_mk h3
  have HB := Hid_mk h.2
  clear h3 h
  go_enter Tryz.func69, Tryz.ntmps69
  go_wp2
  go_loopw [5, 6] (fun out i wr => WoRel w l n out i wr) (fun _ i _ => l.length - (intOf i).toNat)
  case atStart => exact ⟨0, rfl, Nat.zero_le _, World.ownsRow_nil _ _ _ _, Kp.refl _ _⟩
  case round =>
    obtain ⟨k, rfl, hk, hrow, hkp⟩ := hrel
    have HR := Hid_mk hrow
    have HK := Hid_mk hkp
    have hsz := hkp.size
    clear hrow hkp
    by_cases hlt : k < l.length
    · have hki : (k : Int) < (l.length : Int) := by omega
      have hk0 : (0 : Int) ≤ (k : Int) := Int.natCast_nonneg _
      obtain ⟨b, rfl, hc⟩ := HC.out (by intro e; rw [e] at hlt; simp at hlt)
      obtain ⟨q, hq⟩ : ∃ q, q = l[k] := ⟨_, rfl⟩
      have hqm : q ∈ l := hq ▸ List.getElem_mem hlt
      have hb := HB.out q hqm
      obtain ⟨x, y, bs⟩ := q
      have c0 : wr.cell? ⟨b, k * 2, none⟩ = some (.string x) := HK.out.cell' ((hc k hlt).1.trans (congrArg (fun y : Fv => some (Value.string y.1)) hq.symm)) id
      have c1 : wr.cell? ⟨b, k * 2 + 1, none⟩ = some y := HK.out.cell' ((hc k hlt).2.trans (congrArg (fun y : Fv => some y.2.1) hq.symm)) id
      obtain ⟨ay, cy, hy, -⟩ := hb
      simp only at hy
      have HLt := Hid_mk hlt
      have hsn := but_snoc n l k hlt
      rw [← hq] at hsn
      by_cases he : x = n
      · subst he
        rw [if_pos rfl, List.append_nil] at hsn
        have HN := Hid_mk (show WoRel w l x u5 (.int .i64 ((k : Int) + 1)) wr from ⟨k + 1, by push_cast; rfl, hlt, hsn ▸ HR.out, HK.out⟩)
        clear hc hq hlt hqm hsn
        go_wp2
        go_roundw
        case rel => exact HN.out
        case measure => have := HLt.out; simp only [intOf]; omega
      · rw [if_neg he] at hsn
        have HS := Hid_mk hsn
        have hbl := but_le n (l.take k)
        rw [List.length_take] at hbl
        have hxn := txt_ne he
        obtain ⟨au, cu, hu⟩ : ∃ a c, u5 = .slice a (but n (l.take k)).length c := by
          obtain ⟨a, c, e, -⟩ := FRow.opened HR.out
          exact ⟨a, c, e⟩
        subst hy hu
        clear hc hq hlt hqm hsn he
        go_wp2_with (at_builtin; (refine wpList_cat _ rfl _ _ rfl w.heap.size _ (but n (l.take k)) [(x, .slice ay bs.length cy, bs)] rfl (FRow.no HR.out ((Kp.refl No wr).alloc _)) ?b1 (fun q hq => by simp only [List.mem_singleton] at hq; subst hq; rfl) wr.heap.size 0 1 rfl ?b3 ?b2 ?_))
        case b1 => simp; omega
        case b2 => simp; omega
        case b3 =>
          intro j u hj
          have := World.news_of_block (heap_alloc_new wr (.cells #[.string x, .slice ay bs.length cy] 45)) j u hj
          rw [addr_add] at this
          exact this
        rintro v2 w6 ⟨hp1, hp2, hp3⟩
        have HN := Hid_mk (show WoRel w l n v2 (.int .i64 ((k : Int) + 1)) w6 from ⟨k + 1, by push_cast; rfl, HLt.out, HS.out ▸ hp1, (HK.out.alloc _).trans hp2 fun i hi e => by have := (HR.out.lt i e.symm).1; omega⟩)
        clear hp1 hp2 hp3
        go_wp2
        go_roundw
        case rel => exact HN.out
        case measure => have := HLt.out; simp only [intOf]; omega
    · have hki : ¬ (k : Int) < (l.length : Int) := by omega
      obtain rfl : k = l.length := by omega
      have HR2 := HR.out
      rw [List.take_length] at HR2
      obtain ⟨au, cu, hu⟩ : ∃ a c, u5 = .slice a (but n l).length c := by
        obtain ⟨a, c, e, -⟩ := FRow.opened HR2
        exact ⟨a, c, e⟩
      subst hu
      have HF := Hid_mk (show NewFl w (but n l) (.returned (.slice au (but n l).length cu)) wr from ⟨_, rfl, HR2, HK.out⟩)
      clear hlt HR2 HR
      go_wp2
      go_ret
      exact HF.out

end Go.Proofs.YtmehneicdklfeaaGreat.r2

namespace Go.Proofs.YtmehneicdklfeaaGreat.r2
open Go.RowKit Go.Maps Go.Proofs.YtmehneicdklfeaaGreat.sum Go.Proofs.YtmehneicdklfeaaGreat.kept Go.Proofs.YtmehneicdklfeaaGreat.app Go.Proofs.YtmehneicdklfeaaGreat.writer Go.Proofs.YtmehneicdklfeaaGreat.clone Go.Proofs.YtmehneicdklfeaaGreat.fs
set_option linter.unusedVariables false

theorem bef_asymm {a b : Name} (h : bef a b = true) : bef b a = false := by
  cases hb : bef b a with
  | false => rfl
  | true =>
    have := bef_trans h hb
    rw [bef_irrefl] at this
    cases this

theorem ins_at {x : Name × List UInt8} : ∀ {es : Files} {k : Nat}, k ≤ es.length → (∀ j (h : j < es.length), j < k → bef es[j].1 x.1 = true) → (∀ h : k < es.length, bef es[k].1 x.1 = false) → (∀ p ∈ es, p.1 ≠ x.1) → ins x es = es.take k ++ x :: es.drop k
  | [], k, _, _, _, _ => by simp [ins]
  | y :: r, 0, _, _, h2, h3 => by
    have hb : bef x.1 y.1 = true := by
      rcases bef_total (h3 y (by simp)) with e | e
      · have := h2 (by simp)
        simp only [List.getElem_cons_zero] at this
        rw [this] at e
        cases e
      · exact e
    simp [ins, hb]
  | y :: r, k + 1, h0, h1, h2, h3 => by
    have hb : bef x.1 y.1 = false := bef_asymm (h1 0 (by simp) (by omega))
    have ih := ins_at (x := x) (es := r) (k := k) (by simpa using h0) (fun j hj hjk => h1 (j + 1) (by simpa using hj) (by omega)) (fun h => h2 (by simpa using h)) (fun p hp => h3 p (by simp [hp]))
    unfold ins
    rw [hb, if_neg (by simp), ih]
    rfl

def wit (k : Nat) (f : Fv) (l : List Fv) : List Fv := (but f.1 l).take k ++ f :: (but f.1 l).drop k
/-- k is where f stands -/
def Stands (k : Nat) (f : Fv) (l : List Fv) : Prop := k ≤ (but f.1 l).length ∧ (∀ j (h : j < (but f.1 l).length), j < k → bef (nm (but f.1 l)[j].1) (nm f.1) = true) ∧ ∀ h : k < (but f.1 l).length, bef (nm (but f.1 l)[k].1) (nm f.1) = false

theorem files_append (l m : List Fv) : files (l ++ m) = files l ++ files m := List.map_append
theorem files_wit {k : Nat} {f : Fv} {l : List Fv} (h : Stands k f l) : files (wit k f l) = put (files l) (nm f.1) f.2.2 := by
  obtain ⟨h0, h1, h2⟩ := h
  unfold put
  rw [← files_but]
  have hlen : (files (but f.1 l)).length = (but f.1 l).length := List.length_map _
  have hi := ins_at (x := (nm f.1, f.2.2)) (es := files (but f.1 l)) (k := k) (by rw [hlen]; exact h0) (fun j hj hjk => by
    have := h1 j (by rw [← hlen]; exact hj) hjk
    simpa [files] using this) (fun hk => by
    have := h2 (by rw [← hlen]; exact hk)
    simpa [files] using this) (fun p hp => by
    rw [files_but] at hp
    exact (mem_drop.1 hp).2)
  rw [hi]
  unfold wit
  rw [files_append]
  simp [files]

/-- a source of an append -/
def Src (w : World) (x : Value) (m : List Fv) : Prop := (x = .slice none 0 0 ∧ m = []) ∨ ∃ b o c, x = .slice (some ⟨b, o, none⟩) m.length c ∧ ∀ j u, (cells m)[j]? = some u → w.cell? ⟨b, o + j, none⟩ = some u

theorem Src.no {w w' : World} {x : Value} {m : List Fv} (h : Src w x m) (hk : Kp No w w') : Src w' x m := by
  rcases h with h | ⟨b, o, c, e, hc⟩
  · exact .inl h
  · exact .inr ⟨b, o, c, e, fun j u hj => hk.cell' (hc j u hj) id⟩

theorem run_src (w : World) (ty : TypeId) (base : Nat) (v x : Value) (l m : List Fv) (h : FRow w base v l) (hbase : base ≤ w.heap.size) (hone : ∀ q ∈ m, q.2.1.oneCell' = true) (hx : Src w x m) (hn : l.length + m.length ≤ 1000000000000) :
    ∃ v' w', (Builtin.append_ #[46, 46] ty #[v, x]).run Tryz.prog w = .ok v' w' ∧ Cat base w v l m v' w' := by
  rcases hx with ⟨rfl, rfl⟩ | ⟨b, o, c, rfl, hc⟩
  · obtain ⟨i0, hi, hz0, hz1, hz2⟩ := info_parts infoF
    refine ⟨v, w, run_append_owned_none (P := Tryz.prog) w base 46 ty 45 i0 2 Tryz.underlying46 hi v l.length _ h, ?_, Kp.refl _ _, .inl rfl⟩
    rw [List.append_nil]
    exact h
  · exact run_cat w ty base v l m h hbase hone b o c hc hn

theorem step_src (w : World) {ops : Array Oper} {o : Oper} {a : Act} {K : Act → World → Prop} {Q : Exit → Act → World → Prop} {E : Prop} (hgd : o.guard = none) (s e : Operand)
    (ho : o.op = .call { callee := .builtin .append, args := #[s, e], argTypes := #[46, 46] })
    (base : Nat) (v x : Value) (l m : List Fv) (hs : a.eval s = v) (he : a.eval e = x) (h : FRow w base v l) (hbase : base ≤ w.heap.size) (hone : ∀ q ∈ m, q.2.1.oneCell' = true) (hx : Src w x m) (hn : l.length + m.length ≤ 1000000000000)
    (hK : ∀ v' w', Cat base w v l m v' w' → K (a.put o.dst v') w') : if Region.wanted o (yielded ops a.tmps) = true then Oper.wp Tryz.prog o a w K Q else E := by
  have hw : Region.wanted o (yielded ops a.tmps) = true := by simp [Region.wanted, hgd]
  rw [if_pos hw]
  obtain ⟨v', w', hr, h2⟩ := run_src w o.type base v x l m h hbase hone hx hn
  unfold Oper.wp execOp
  simp only [ho, resolve, invoke, builtin, Sem.run_bind, Sem.run_pure, Result.andThen_ok, List.map_toArray, List.map_cons, List.map_nil, hs, he, hr]
  exact hK _ _ h2

theorem src_new (w : World) (f : Fv) : Src (w.alloc (.cells #[.string f.1, f.2.1] 45)) (.slice (some ⟨w.heap.size, 0, none⟩) 1 1) [f] := by
  refine .inr ⟨w.heap.size, 0, 1, rfl, fun j u hj => ?_⟩
  have := World.news_of_block (heap_alloc_new w (.cells #[.string f.1, f.2.1] 45)) j u hj
  rw [addr_add] at this
  exact this

theorem less_lt : ∀ x y : List UInt8, Op.bytesLess x y = bytesBefore x y
  | [], [] => rfl
  | _ :: _, [] => rfl
  | [], _ :: _ => rfl
  | a :: x, b :: y => by rw [Op.bytesLess, bytesBefore, less_lt x y]
theorem less_bef (x y : ByteArray) : Op.bytesLess x.toList y.toList = bef (nm x) (nm y) := by
  rw [ByteArray.toList_eq, ByteArray.toList_eq, less_lt]
  rfl

theorem src_take {w : World} {base b n c : Nat} {l : List Fv} (h : FRow w base (.slice (some ⟨b, 0, none⟩) n c) l) (k : Nat) : ∀ j u, (cells (l.take k))[j]? = some u → w.cell? ⟨b, 0 + j, none⟩ = some u := fun j u hj => by
  have h2 : (cells l)[j]? = some u := by
    have e : cells l = cells (l.take k) ++ cells (l.drop k) := by rw [← cells_append, List.take_append_drop]
    rw [e, List.getElem?_append_left (List.getElem?_eq_some_iff.1 hj).1]
    exact hj
  have := World.ownsRow.cells (g := b) h rfl j u h2
  rw [addr_add] at this
  exact this
theorem src_drop {w : World} {base b n c : Nat} {l : List Fv} (h : FRow w base (.slice (some ⟨b, 0, none⟩) n c) l) (k : Nat) : ∀ j u, (cells (l.drop k))[j]? = some u → w.cell? ⟨b, k * 2 + j, none⟩ = some u := fun j u hj => by
  by_cases hk : k ≤ l.length
  · have h2 : (cells l)[k * 2 + j]? = some u := by
      have e : cells l = cells (l.take k) ++ cells (l.drop k) := by rw [← cells_append, List.take_append_drop]
      have e2 : (cells (l.take k)).length = k * 2 := by rw [cells_length, List.length_take, Nat.min_eq_left hk]
      rw [e, List.getElem?_append_right (by omega), e2, Nat.add_sub_cancel_left]
      exact hj
    have := World.ownsRow.cells (g := b) h rfl (k * 2 + j) u h2
    rw [addr_add, Nat.zero_add] at this
    exact this
  · rw [List.drop_eq_nil_of_le (by omega)] at hj
    cases hj

theorem ends {w : World} {base n : Nat} {v : Value} {l : List Value} {t : TypeId} {m : Nat} (h : w.ownsRow base t m v n l) : (v = .slice none 0 0 ∧ n = 0) ∨ ∃ b cap, v = .slice (some ⟨b, 0, none⟩) n cap := by
  rcases h.2 with ⟨e, h0⟩ | ⟨g, cap, cur, e, -⟩
  · exact .inl ⟨e, h0⟩
  · exact .inr ⟨g, cap, e⟩

def WiRel (w1 : World) (f : Fv) (l : List Fv) (i : Value) (wr : World) : Prop := ∃ k : Nat, i = .int .i64 (k : Int) ∧ k ≤ (but f.1 l).length ∧ (∀ j (h : j < (but f.1 l).length), j < k → bef (nm (but f.1 l)[j].1) (nm f.1) = true) ∧ Kp No w1 wr

set_option maxRecDepth 100000 in
set_option maxHeartbeats 4000000 in
theorem with_any (w : World) (v y : Value) (l : List Fv) (n : ByteArray) (bs : List UInt8) (h : Fl w v l) (hl : l.length ≤ 1000000000) (hn : n.size ≤ maxLen) (hy : Bs w y bs) :
    Calls Tryz.prog 68 #[v, .agg #[.string n, y]] w (fun e w' => ∃ k, Stands k (n, y, bs) l ∧ NewFl w (wit k (n, y, bs) l) e w') := by
  have HB := Hid_mk h.2
  obtain ⟨a, cap, rfl, h1, h2, h3⟩ := h.1.opened
  clear h3
  have hbl := but_le n l
  have hwo := without_any (w.alloc (.cells #[.string n, y] 45)) (.slice a l.length cap) l n (h.no ((Kp.refl No w).alloc _)) hl hn
  have HWo := Hid_mk hwo
  have HOne : Hid (∀ q ∈ but n l, q.2.1.oneCell' = true) := Hid_mk fun q hq => by
    obtain ⟨_, _, e, -⟩ := h.2 q (List.mem_filter.1 hq).1
    rw [e]; rfl
  have HLen : Hid ((but n l).length ≤ 1000000000) := Hid_mk (by omega)
  obtain ⟨ay, cy, rfl, -⟩ := id hy
  clear hwo h hy
  go_enter Tryz.func68, Tryz.ntmps68
  go_wp2_with fail
  with_reducible refine HWo.out.mono ?_
  rintro e w1 ⟨v1, rfl, hr1, hk1⟩
  have HR1 := Hid_mk hr1
  have HK1 := Hid_mk hk1
  have hz1 := hk1.size
  obtain ⟨a1, c1, rfl, hc1, hc2, hc3⟩ := hr1.opened
  have b0 : w1.cell? ⟨w.heap.size, 0, none⟩ = some (.string n) := hk1.cell' (by simp) id
  have b1 : w1.cell? ⟨w.heap.size, 1, none⟩ = some (.slice ay bs.length cy) := hk1.cell' (by simp) id
  have HC3 := Hid_mk hc3
  simp only [World.size_alloc] at hz1
  clear hr1 hk1 hc3 HWo
  go_wp2
  go_loopw [5] (fun i wr => WiRel w1 (n, .slice ay bs.length cy, bs) l i wr) (fun i _ => (but n l).length - (intOf i).toNat)
  case atStart => exact ⟨0, rfl, Nat.zero_le _, fun _ _ h => absurd h (Nat.not_lt_zero _), Kp.refl _ _⟩
  case round =>
    obtain ⟨k, rfl, hk, hb, hkp⟩ := hrel
    simp only at hk hb
    have HBf := Hid_mk hb
    have HK := Hid_mk hkp
    have hsz := hkp.size
    have d0 := hkp.cell' b0 id
    have d1 := hkp.cell' b1 id
    clear hb hkp
    have hk0 : (0 : Int) ≤ (k : Int) := Int.natCast_nonneg _
    by_cases hlt : k < (but n l).length
    · have hki : (k : Int) < ((but n l).length : Int) := by omega
      obtain ⟨b, rfl, hc⟩ := HC3.out (by intro e; rw [e] at hlt; simp at hlt)
      obtain ⟨x, hx⟩ : ∃ x, x = (but n l)[k].1 := ⟨_, rfl⟩
      have c0 : wr.cell? ⟨b, k * 2, none⟩ = some (.string x) := HK.out.cell' ((hc k hlt).1.trans (congrArg (fun y => some (Value.string y)) hx.symm)) id
      have HLt := Hid_mk hlt
      have HLess : Hid (bef (nm x) (nm n) = true → ∀ wr', Kp No w1 wr' → WiRel w1 (n, .slice ay bs.length cy, bs) l (.int .i64 ((k : Int) + 1)) wr') := Hid_mk fun hb wr' hk' => ⟨k + 1, by push_cast; rfl, hlt, fun j hj hjk => by
        by_cases e : j = k
        · subst e; rw [hx] at hb; exact hb
        · exact HBf.out j hj (by omega), hk'⟩
      have HStand : Hid (bef (nm x) (nm n) = false → Stands k (n, .slice ay bs.length cy, bs) l) := Hid_mk fun hb => ⟨hk, HBf.out, fun h => by rw [hx] at hb; exact hb⟩
      have hss := less_bef x n
      clear hc hlt hx
      cases hbf : bef (nm x) (nm n) with
      | true =>
        rw [hbf] at hss
        have HN := HLess.out hbf
        have HN2 := Hid_mk HN
        clear HN hbf
        go_wp2
        go_quiet (fail)
        go_wp2
        go_roundw
        case rel => exact HN2.out _ (HK.out.drewN _)
        case measure => have := HLt.out; simp only [intOf]; omega
      | false =>
        rw [hbf] at hss
        have HSt := Hid_mk (HStand.out hbf)
        clear hbf
        go_wp2
        go_quiet (fail)
        go_wp2
        have hkq := HK.out.drewN nq
        have HKq := Hid_mk hkq
        have hzq := hkq.size
        have f0 := hkq.cell' b0 id
        have f1 := hkq.cell' b1 id
        clear hkq
        have hkc : (k : Int) ≤ (c1 : Int) := by omega
        have hkl : (k : Int) ≤ ((but n l).length : Int) := by omega
        have HS1 : Hid (∀ W, Kp No w1 W → Src W (.slice (some ⟨b, 0, none⟩) k c1) ((but n l).take k)) := Hid_mk fun W hW => .inr ⟨b, 0, c1, by rw [List.length_take, Nat.min_eq_left hk], fun j u hj => hW.cell' (src_take HR1.out k j u hj) id⟩
        have HS3 : Hid (∀ W, Kp No w1 W → ∀ o c, (c1 ≠ k → o = k * 2) → Src W (.slice (some ⟨b, o, none⟩) ((but n l).length - k) c) ((but n l).drop k)) := Hid_mk fun W hW o c ho => .inr ⟨b, o, c, by rw [List.length_drop], fun j u hj => by
          by_cases e : c1 = k
          · have : (but n l).drop k = [] := List.drop_eq_nil_of_le (by omega)
            rw [this] at hj
            cases hj
          · rw [ho e]
            exact hW.cell' (src_drop HR1.out k j u hj) id⟩
        have HTk : Hid (((but n l).take k).length = k) := Hid_mk (by rw [List.length_take, Nat.min_eq_left hk])
        have HOne1 : Hid (∀ q ∈ (but n l).take k, q.2.1.oneCell' = true) := Hid_mk fun q hq => HOne.out q (List.mem_of_mem_take hq)
        have HOne3 : Hid (∀ q ∈ (but n l).drop k, q.2.1.oneCell' = true) := Hid_mk fun q hq => HOne.out q (List.mem_of_mem_drop hq)
        have hck : ¬ c1 = k := by have := HLt.out; omega
        iterate 1
          go_region_held3 (fun W => W.cell? ⟨w.heap.size, 0, none⟩ = some (.string n) ∧ W.cell? ⟨w.heap.size, 1, none⟩ = some (.slice ay bs.length cy))
            (first
              | go_keep
              | (dsimp only; exact ⟨q0, q1⟩)
              | (dsimp only; exact ⟨g0, g1⟩)
              | (dsimp only; exact ⟨e0, e1⟩)
              | assumption)
            (first
              | (refine step_src _ (by rfl) _ _ (by rfl) w1.heap.size (.slice none 0 0) _ [] ((but n l).take k) (by rfl) (by rfl) (World.ownsRow_nil _ _ _ _) (by simp; omega) HOne1.out (HS1.out _ (by first | exact HKq.out.drew | exact HKq.out.drew.alloc _)) (by have := HTk.out; first | (simp; done) | (simp; omega)) ?_; intro v2 w2 hc2; have hk2 : Kp No w1 w2 := (by first | exact HKq.out.drew.trans' (hc2.2.1.mono fun _ _ e => by cases e) | exact (HKq.out.drew.alloc _).trans' (hc2.2.1.mono fun _ _ e => by cases e)); have e0 := hk2.cell' b0 id; have e1 := hk2.cell' b1 id)
              | (refine step_src _ (by rfl) _ _ (by rfl) w1.heap.size v2 _ _ [(n, .slice ay bs.length cy, bs)] (by rfl) (by rfl) (by first | exact hc2.1 | exact hc2.1.no ((Kp.refl No w2).alloc _)) (by have := hk2.size; simp; omega) (fun q hq => by simp only [List.mem_singleton] at hq; subst hq; rfl) (by first | exact src_new w2 (n, .slice ay bs.length cy, bs) | exact (src_new (wr.drewN nq).drew (n, .slice ay bs.length cy, bs)).no (hc2.2.1.mono fun _ _ e => by cases e) | (trace_state; fail)) (by have := HTk.out; first | (simp; done) | (simp; omega)) ?_; intro v3 w3 hc3; have hk3 : Kp No w1 w3 := (by first | exact hk2.trans hc3.2.1 (fun i hi e => by have := (World.ownsRow.lt hc2.1 i e.symm).1; omega) | exact (hk2.alloc _).trans hc3.2.1 (fun i hi e => by have := (World.ownsRow.lt hc2.1 i e.symm).1; omega)); have g0 := hk3.cell' b0 id; have g1 := hk3.cell' b1 id)
              | (refine step_src _ (by rfl) _ _ (by rfl) w1.heap.size v3 _ _ ((but n l).drop k) (by rfl) (by rfl) hc3.1 hk3.size HOne3.out (by first | exact HS3.out _ hk3 _ _ (by first | exact fun h => absurd hck h | exact fun _ => rfl) | exact HS3.out _ hk3) (by have := HTk.out; have := HLen.out; first | (simp; done) | (simp; omega)) ?_; intro v4 w4 hc4; have hk4 : Kp No w1 w4 := hk3.trans hc4.2.1 (fun i hi e => by have := (World.ownsRow.lt hc3.1 i e.symm).1; omega); have q0 := hk4.cell' b0 id; have q1 := hk4.cell' b1 id))
          all_goals
            have hfin : ∃ k, Stands k (n, .slice ay bs.length cy, bs) l ∧ NewFl w (wit k (n, .slice ay bs.length cy, bs) l) (.returned v4) w4 := ⟨k, HSt.out, v4, rfl, by
              have := hc4.1.low (show w.heap.size ≤ w1.heap.size by omega)
              rw [List.append_assoc] at this
              exact this, (((Kp.refl No w).alloc _).trans' HK1.out).trans' hk4⟩
            have HF := Hid_mk hfin
            clear hfin hc4 hk4 hc3 hk3 hc2 hk2 e0 e1 g0 g1 q0 q1
            go_wp2
            go_ret
            exact HF.out
    · have hki : ¬ (k : Int) < ((but n l).length : Int) := by omega
      have HEq : Hid (k = (but n l).length) := Hid_mk (by omega)
      have HSt : Hid (Stands k (n, .slice ay bs.length cy, bs) l) := Hid_mk ⟨hk, HBf.out, fun h => absurd h hlt⟩
      have hrr := ends HR1.out
      rcases hrr with ⟨e, h0⟩ | ⟨b, cap', e⟩
      · simp only [Value.slice.injEq] at e
        obtain ⟨rfl, -, rfl⟩ := e
        have hL : but n l = [] := List.eq_nil_of_length_eq_zero h0
        obtain rfl : k = 0 := by have := HEq.out; omega
        have HS1 : Hid (∀ W, Kp No w1 W → Src W (.slice none 0 0) ((but n l).take 0)) := Hid_mk fun W _ => .inl ⟨rfl, rfl⟩
        have HS3 : Hid (∀ W, Kp No w1 W → Src W (.slice none 0 0) ((but n l).drop 0)) := Hid_mk fun W _ => .inl ⟨rfl, by rw [hL]; rfl⟩
        have HTk : Hid (((but n l).take 0).length = 0) := Hid_mk rfl
        have HOne1 : Hid (∀ q ∈ (but n l).take 0, q.2.1.oneCell' = true) := Hid_mk fun q hq => HOne.out q (List.mem_of_mem_take hq)
        have HOne3 : Hid (∀ q ∈ (but n l).drop 0, q.2.1.oneCell' = true) := Hid_mk fun q hq => HOne.out q (List.mem_of_mem_drop hq)
        have hck : True := trivial
        clear hL hlt
        go_wp2
        go_quiet (fail)
        go_wp2
        have hkq := HK.out.drewN nq
        have HKq := Hid_mk hkq
        have hzq := hkq.size
        have f0 := hkq.cell' b0 id
        have f1 := hkq.cell' b1 id
        clear hkq
        iterate 1
          go_region_held3 (fun W => W.cell? ⟨w.heap.size, 0, none⟩ = some (.string n) ∧ W.cell? ⟨w.heap.size, 1, none⟩ = some (.slice ay bs.length cy))
            (first
              | go_keep
              | (dsimp only; exact ⟨q0, q1⟩)
              | (dsimp only; exact ⟨g0, g1⟩)
              | (dsimp only; exact ⟨e0, e1⟩)
              | assumption)
            (first
              | (refine step_src _ (by rfl) _ _ (by rfl) w1.heap.size (.slice none 0 0) _ [] ((but n l).take 0) (by rfl) (by rfl) (World.ownsRow_nil _ _ _ _) (by simp; omega) HOne1.out (HS1.out _ (by first | exact HKq.out.drew | exact HKq.out.drew.alloc _)) (by have := HTk.out; first | (simp; done) | (simp; omega)) ?_; intro v2 w2 hc2; have hk2 : Kp No w1 w2 := (by first | exact HKq.out.drew.trans' (hc2.2.1.mono fun _ _ e => by cases e) | exact (HKq.out.drew.alloc _).trans' (hc2.2.1.mono fun _ _ e => by cases e)); have e0 := hk2.cell' b0 id; have e1 := hk2.cell' b1 id)
              | (refine step_src _ (by rfl) _ _ (by rfl) w1.heap.size v2 _ _ [(n, .slice ay bs.length cy, bs)] (by rfl) (by rfl) (by first | exact hc2.1 | exact hc2.1.no ((Kp.refl No w2).alloc _)) (by have := hk2.size; simp; omega) (fun q hq => by simp only [List.mem_singleton] at hq; subst hq; rfl) (by first | exact src_new w2 (n, .slice ay bs.length cy, bs) | exact (src_new (wr.drewN nq).drew (n, .slice ay bs.length cy, bs)).no (hc2.2.1.mono fun _ _ e => by cases e) | (trace_state; fail)) (by have := HTk.out; first | (simp; done) | (simp; omega)) ?_; intro v3 w3 hc3; have hk3 : Kp No w1 w3 := (by first | exact hk2.trans hc3.2.1 (fun i hi e => by have := (World.ownsRow.lt hc2.1 i e.symm).1; omega) | exact (hk2.alloc _).trans hc3.2.1 (fun i hi e => by have := (World.ownsRow.lt hc2.1 i e.symm).1; omega)); have g0 := hk3.cell' b0 id; have g1 := hk3.cell' b1 id)
              | (refine step_src _ (by rfl) _ _ (by rfl) w1.heap.size v3 _ _ ((but n l).drop 0) (by rfl) (by rfl) hc3.1 hk3.size HOne3.out (by first | exact HS3.out _ hk3 _ _ (by first | exact fun h => absurd hck h | exact fun _ => rfl) | exact HS3.out _ hk3) (by have := HTk.out; have := HLen.out; first | (simp; done) | (simp; omega)) ?_; intro v4 w4 hc4; have hk4 : Kp No w1 w4 := hk3.trans hc4.2.1 (fun i hi e => by have := (World.ownsRow.lt hc3.1 i e.symm).1; omega); have q0 := hk4.cell' b0 id; have q1 := hk4.cell' b1 id))
          all_goals
            have hfin : ∃ k, Stands k (n, .slice ay bs.length cy, bs) l ∧ NewFl w (wit k (n, .slice ay bs.length cy, bs) l) (.returned v4) w4 := ⟨0, HSt.out, v4, rfl, by
              have := hc4.1.low (show w.heap.size ≤ w1.heap.size by omega)
              rw [List.append_assoc] at this
              exact this, (((Kp.refl No w).alloc _).trans' HK1.out).trans' hk4⟩
            have HF := Hid_mk hfin
            clear hfin hc4 hk4 hc3 hk3 hc2 hk2 e0 e1 g0 g1 q0 q1
            go_wp2
            go_ret
            exact HF.out
      · simp only [Value.slice.injEq] at e
        obtain ⟨rfl, -, rfl⟩ := e
        go_wp2
        go_quiet (fail)
        go_wp2
        have hkq := HK.out.drewN nq
        have HKq := Hid_mk hkq
        have hzq := hkq.size
        have f0 := hkq.cell' b0 id
        have f1 := hkq.cell' b1 id
        clear hkq
        have hkc : (k : Int) ≤ (c1 : Int) := by omega
        have hkl : (k : Int) ≤ ((but n l).length : Int) := by omega
        have HS1 : Hid (∀ W, Kp No w1 W → Src W (.slice (some ⟨b, 0, none⟩) k c1) ((but n l).take k)) := Hid_mk fun W hW => .inr ⟨b, 0, c1, by rw [List.length_take, Nat.min_eq_left hk], fun j u hj => hW.cell' (src_take HR1.out k j u hj) id⟩
        have HS3 : Hid (∀ W, Kp No w1 W → ∀ o c, (c1 ≠ k → o = k * 2) → Src W (.slice (some ⟨b, o, none⟩) ((but n l).length - k) c) ((but n l).drop k)) := Hid_mk fun W hW o c ho => .inr ⟨b, o, c, by rw [List.length_drop], fun j u hj => by
          by_cases e : c1 = k
          · have : (but n l).drop k = [] := List.drop_eq_nil_of_le (by omega)
            rw [this] at hj
            cases hj
          · rw [ho e]
            exact hW.cell' (src_drop HR1.out k j u hj) id⟩
        have HTk : Hid (((but n l).take k).length = k) := Hid_mk (by rw [List.length_take, Nat.min_eq_left hk])
        have HOne1 : Hid (∀ q ∈ (but n l).take k, q.2.1.oneCell' = true) := Hid_mk fun q hq => HOne.out q (List.mem_of_mem_take hq)
        have HOne3 : Hid (∀ q ∈ (but n l).drop k, q.2.1.oneCell' = true) := Hid_mk fun q hq => HOne.out q (List.mem_of_mem_drop hq)
        have HS4 : Hid (∀ W, Kp No w1 W → ∀ o c, Src W (.slice (some ⟨b, o, none⟩) 0 c) ((but n l).drop k)) := Hid_mk fun W _ o c => by
          have e : (but n l).drop k = [] := List.drop_eq_nil_of_le (by omega)
          rw [e]
          exact .inr ⟨b, o, c, rfl, fun j u hj => by cases hj⟩
        by_cases hck : c1 = k
        · have hck2 := hck.symm
          clear hck
          obtain rfl := hck2
          go_region_held3 (fun W => W.cell? ⟨w.heap.size, 0, none⟩ = some (.string n) ∧ W.cell? ⟨w.heap.size, 1, none⟩ = some (.slice ay bs.length cy))
            (first
              | go_keep
              | (dsimp only; exact ⟨q0, q1⟩)
              | (dsimp only; exact ⟨g0, g1⟩)
              | (dsimp only; exact ⟨e0, e1⟩)
              | assumption)
            (first
              | (refine step_src _ (by rfl) _ _ (by rfl) w1.heap.size (.slice none 0 0) _ [] ((but n l).take k) (by rfl) (by rfl) (World.ownsRow_nil _ _ _ _) (by simp; omega) HOne1.out (HS1.out _ (by first | exact HKq.out.drew | exact HKq.out.drew.alloc _)) (by have := HTk.out; first | (simp; done) | (simp; omega)) ?_; intro v2 w2 hc2; have hk2 : Kp No w1 w2 := (by first | exact HKq.out.drew.trans' (hc2.2.1.mono fun _ _ e => by cases e) | exact (HKq.out.drew.alloc _).trans' (hc2.2.1.mono fun _ _ e => by cases e)); have e0 := hk2.cell' b0 id; have e1 := hk2.cell' b1 id)
              | (refine step_src _ (by rfl) _ _ (by rfl) w1.heap.size v2 _ _ [(n, .slice ay bs.length cy, bs)] (by rfl) (by rfl) (by first | exact hc2.1 | exact hc2.1.no ((Kp.refl No w2).alloc _)) (by have := hk2.size; simp; omega) (fun q hq => by simp only [List.mem_singleton] at hq; subst hq; rfl) (by first | exact src_new w2 (n, .slice ay bs.length cy, bs) | exact (src_new (wr.drewN nq).drew (n, .slice ay bs.length cy, bs)).no (hc2.2.1.mono fun _ _ e => by cases e) | (trace_state; fail)) (by have := HTk.out; first | (simp; done) | (simp; omega)) ?_; intro v3 w3 hc3; have hk3 : Kp No w1 w3 := (by first | exact hk2.trans hc3.2.1 (fun i hi e => by have := (World.ownsRow.lt hc2.1 i e.symm).1; omega) | exact (hk2.alloc _).trans hc3.2.1 (fun i hi e => by have := (World.ownsRow.lt hc2.1 i e.symm).1; omega)); have g0 := hk3.cell' b0 id; have g1 := hk3.cell' b1 id)
              | (refine step_src _ (by rfl) _ _ (by rfl) w1.heap.size v3 _ _ ((but n l).drop k) (by rfl) (by rfl) hc3.1 hk3.size HOne3.out (by first | exact HS4.out _ hk3 _ _ | exact HS3.out _ hk3 _ _ (by first | exact fun h => absurd rfl h | exact fun h => absurd hck h | exact fun _ => rfl) | exact HS3.out _ hk3) (by have := HTk.out; have := HLen.out; first | (simp; done) | (simp; omega)) ?_; intro v4 w4 hc4; have hk4 : Kp No w1 w4 := hk3.trans hc4.2.1 (fun i hi e => by have := (World.ownsRow.lt hc3.1 i e.symm).1; omega); have q0 := hk4.cell' b0 id; have q1 := hk4.cell' b1 id))
          all_goals
            have hfin : ∃ k, Stands k (n, .slice ay bs.length cy, bs) l ∧ NewFl w (wit k (n, .slice ay bs.length cy, bs) l) (.returned v4) w4 := ⟨k, HSt.out, v4, rfl, by
              have := hc4.1.low (show w.heap.size ≤ w1.heap.size by omega)
              rw [List.append_assoc] at this
              exact this, (((Kp.refl No w).alloc _).trans' HK1.out).trans' hk4⟩
            have HF := Hid_mk hfin
            clear hfin hc4 hk4 hc3 hk3 hc2 hk2 e0 e1 g0 g1 q0 q1
            go_wp2
            go_ret
            exact HF.out
        · iterate 1
            go_region_held3 (fun W => W.cell? ⟨w.heap.size, 0, none⟩ = some (.string n) ∧ W.cell? ⟨w.heap.size, 1, none⟩ = some (.slice ay bs.length cy))
              (first
                | go_keep
                | (dsimp only; exact ⟨q0, q1⟩)
                | (dsimp only; exact ⟨g0, g1⟩)
                | (dsimp only; exact ⟨e0, e1⟩)
                | assumption)
              (first
                | (refine step_src _ (by rfl) _ _ (by rfl) w1.heap.size (.slice none 0 0) _ [] ((but n l).take k) (by rfl) (by rfl) (World.ownsRow_nil _ _ _ _) (by simp; omega) HOne1.out (HS1.out _ (by first | exact HKq.out.drew | exact HKq.out.drew.alloc _)) (by have := HTk.out; first | (simp; done) | (simp; omega)) ?_; intro v2 w2 hc2; have hk2 : Kp No w1 w2 := (by first | exact HKq.out.drew.trans' (hc2.2.1.mono fun _ _ e => by cases e) | exact (HKq.out.drew.alloc _).trans' (hc2.2.1.mono fun _ _ e => by cases e)); have e0 := hk2.cell' b0 id; have e1 := hk2.cell' b1 id)
                | (refine step_src _ (by rfl) _ _ (by rfl) w1.heap.size v2 _ _ [(n, .slice ay bs.length cy, bs)] (by rfl) (by rfl) (by first | exact hc2.1 | exact hc2.1.no ((Kp.refl No w2).alloc _)) (by have := hk2.size; simp; omega) (fun q hq => by simp only [List.mem_singleton] at hq; subst hq; rfl) (by first | exact src_new w2 (n, .slice ay bs.length cy, bs) | exact (src_new (wr.drewN nq).drew (n, .slice ay bs.length cy, bs)).no (hc2.2.1.mono fun _ _ e => by cases e) | (trace_state; fail)) (by have := HTk.out; first | (simp; done) | (simp; omega)) ?_; intro v3 w3 hc3; have hk3 : Kp No w1 w3 := (by first | exact hk2.trans hc3.2.1 (fun i hi e => by have := (World.ownsRow.lt hc2.1 i e.symm).1; omega) | exact (hk2.alloc _).trans hc3.2.1 (fun i hi e => by have := (World.ownsRow.lt hc2.1 i e.symm).1; omega)); have g0 := hk3.cell' b0 id; have g1 := hk3.cell' b1 id)
                | (refine step_src _ (by rfl) _ _ (by rfl) w1.heap.size v3 _ _ ((but n l).drop k) (by rfl) (by rfl) hc3.1 hk3.size HOne3.out (by first | exact HS4.out _ hk3 _ _ | exact HS3.out _ hk3 _ _ (by first | exact fun h => absurd hck h | exact fun _ => rfl) | exact HS3.out _ hk3) (by have := HTk.out; have := HLen.out; first | (simp; done) | (simp; omega)) ?_; intro v4 w4 hc4; have hk4 : Kp No w1 w4 := hk3.trans hc4.2.1 (fun i hi e => by have := (World.ownsRow.lt hc3.1 i e.symm).1; omega); have q0 := hk4.cell' b0 id; have q1 := hk4.cell' b1 id))
            all_goals
              have hfin : ∃ k, Stands k (n, .slice ay bs.length cy, bs) l ∧ NewFl w (wit k (n, .slice ay bs.length cy, bs) l) (.returned v4) w4 := ⟨k, HSt.out, v4, rfl, by
                have := hc4.1.low (show w.heap.size ≤ w1.heap.size by omega)
                rw [List.append_assoc] at this
                exact this, (((Kp.refl No w).alloc _).trans' HK1.out).trans' hk4⟩
              have HF := Hid_mk hfin
              clear hfin hc4 hk4 hc3 hk3 hc2 hk2 e0 e1 g0 g1 q0 q1
              go_wp2
              go_ret
              exact HF.out

end Go.Proofs.YtmehneicdklfeaaGreat.r2
