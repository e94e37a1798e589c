/- The reference's without. -/
import Derived.Test.YtomckoeobkfklaaDoorR2
namespace Go.Proofs.YtomckoeobkfklaaDoor.r2
open Go.RowKit Go.Maps Go.Proofs.YtomckoeobkfklaaDoor.sum Go.Proofs.YtomckoeobkfklaaDoor.kept Go.Proofs.YtomckoeobkfklaaDoor.app Go.Proofs.YtomckoeobkfklaaDoor.writer Go.Proofs.YtomckoeobkfklaaDoor.clone Go.Proofs.YtomckoeobkfklaaDoor.fs
set_option linter.unusedVariables false

theorem infoF : (Tryd.prog.info? 68).map (fun i => (i.zero, i.size, i.bytes)) = some (some (.agg #[.string ByteArray.empty, .slice none 0 0]), 2, 40) := by kernel_rfl

/-- what an append of files leaves -/
def Cat (base : Nat) (w : World) (v : Value) (l m : List Fv) (v' : Value) (w' : World) : Prop :=
  FRow w' base v' (l ++ m) ∧ Kp (fun k => some k = v.ownBlock) w w' ∧ (v'.ownBlock = v.ownBlock ∨ v'.ownBlock = some w.heap.size)

theorem run_cat (w : World) (ty : TypeId) (base : Nat) (v : Value) (l m : List Fv) (h : FRow w base v l) (hbase : base ≤ w.heap.size) (hone : ∀ q ∈ m, q.2.1.oneCell' = true) (b o c : Nat) (hc : ∀ j u, (cells m)[j]? = some u → w.cell? ⟨b, o + j, none⟩ = some u) (hn : l.length + m.length ≤ 1000000000000) :
    ∃ v' w', (Builtin.append_ #[29, 29] ty #[v, .slice (some ⟨b, o, none⟩) m.length c]).run Tryd.prog w = .ok v' w' ∧ Cat base w v l m v' w' := by
  obtain ⟨i0, hi, hz0, hz1, hz2⟩ := info_parts infoF
  have hcell : ∀ u ∈ cells m, u.oneCell' = true := fun u hu => by
    obtain ⟨q, hq, hu⟩ := List.mem_flatMap.1 hu
    simp only [List.mem_cons, List.not_mem_nil, or_false] at hu
    rcases hu with rfl | rfl
    · rfl
    · exact hone q hq
  obtain ⟨v', w', hr, k1, k2, k3, k4⟩ := run_append_own_at (P := Tryd.prog) w base 29 ty 68 i0 (.agg #[.string ByteArray.empty, .slice none 0 0]) 2 40 Tryd.underlying29 hi hz0 hz1 hz2 rfl (by decide) v l.length _ h ⟨b, o, none⟩ m.length c (cells m)
    (cells_length m) (fun j u hj => by rw [addr_add]; exact hc j u hj) hcell (by unfold maxLen; omega) (by omega) hbase
  refine ⟨v', w', hr, ?_, (Kp.refl _ _).grown k2 fun k _ e => e.symm, k4⟩
  unfold FRow
  rw [List.length_append, cells_append]
  exact k1

theorem wpList_cat (w : World) {ops : Array Oper} {rest : List Oper} {o : Oper} {a : Act} {Q : Exit → Act → World → Prop} (hgd : o.guard = none) (s e : Operand)
    (ho : o.op = .call { callee := .builtin .append, args := #[s, e], argTypes := #[29, 29] })
    (base : Nat) (v : Value) (l m : List Fv) (hs : a.eval s = v) (h : FRow w base v l) (hbase : base ≤ w.heap.size) (hone : ∀ q ∈ m, q.2.1.oneCell' = true) (b f c : Nat) (he : a.eval e = .slice (some ⟨b, f, none⟩) m.length c) (hc : ∀ j u, (cells m)[j]? = some u → w.cell? ⟨b, f + j, none⟩ = some u) (hn : l.length + m.length ≤ 1000000000000)
    (hK : ∀ v' w', Cat base w v l m v' w' → wpList Tryd.prog ops Q rest (a.put o.dst v') w') : wpList Tryd.prog ops Q (o :: rest) a w := by
  obtain ⟨v', w', hr, h2⟩ := run_cat w o.type base v l m h hbase hone b f c hc hn
  refine wpList_plain hgd fun K hK2 => ?_
  unfold Oper.wp execOp
  simp only [ho, resolve, invoke, builtin, Sem.run_bind, Sem.run_pure, Result.andThen_ok, List.map_toArray, List.map_cons, List.map_nil, hs, he, hr]
  exact hK2 _ _ (hK v' w' h2)

def but (n : ByteArray) (l : List Fv) : List Fv := l.filter fun q => !decide (q.1 = n)
theorem but_le (n : ByteArray) (l : List Fv) : (but n l).length ≤ l.length := List.length_filter_le _ _
theorem but_snoc (n : ByteArray) (l : List Fv) (k : Nat) (h : k < l.length) : but n (l.take (k + 1)) = but n (l.take k) ++ (if l[k].1 = n then [] else [l[k]]) := by
  rw [List.take_succ_eq_append_getElem h]
  unfold but
  rw [List.filter_append]
  congr 1
  by_cases e : l[k].1 = n
  · simp [e]
  · simp [e]
theorem files_but (n : ByteArray) (l : List Fv) : files (but n l) = drop (files l) (nm n) := by
  unfold files but drop
  rw [List.filter_map]
  congr 1
  refine List.filter_congr fun q _ => ?_
  simp only [Function.comp_apply]
  congr 1
  by_cases e : q.1 = n
  · simp [e]
  · have : nm q.1 ≠ nm n := fun h => e (nm_inj h)
    simp [e, this]

def WoRel (w : World) (l : List Fv) (n : ByteArray) (out i : Value) (wr : World) : Prop := ∃ k : Nat, i = .int .i64 (k : Int) ∧ k ≤ l.length ∧ FRow wr w.heap.size out (but n (l.take k)) ∧ Kp No w wr
/-- what a call leaves that makes files -/
def NewFl (w : World) (l : List Fv) (e : Ending) (w' : World) : Prop := ∃ v', e = .returned v' ∧ FRow w' w.heap.size v' l ∧ Kp No w w'

set_option maxRecDepth 100000 in
set_option maxHeartbeats 4000000 in
theorem without_any (w : World) (v : Value) (l : List Fv) (n : ByteArray) (h : Fl w v l) (hl : l.length ≤ 1000000000) (hn : n.size ≤ maxLen) : Calls Tryd.prog 52 #[v, .string n] w (NewFl w (but n l)) := by
  obtain ⟨a, cap, rfl, h1, h2, h3⟩ := h.1.opened
  have HC := Hid_mk h3
  have HB := Hid_mk h.2
  clear h3 h
  go_enter Tryd.func52, Tryd.ntmps52
  go_wp2
  go_loopw [5, 6] (fun out i wr => WoRel w l n out i wr) (fun _ i _ => l.length - (intOf i).toNat)
  case atStart => exact ⟨0, rfl, Nat.zero_le _, World.ownsRow_nil _ _ _ _, Kp.refl _ _⟩
  case round =>
    obtain ⟨k, rfl, hk, hrow, hkp⟩ := hrel
    have HR := Hid_mk hrow
    have HK := Hid_mk hkp
    have hsz := hkp.size
    clear hrow hkp
    by_cases hlt : k < l.length
    · have hki : (k : Int) < (l.length : Int) := by omega
      have hk0 : (0 : Int) ≤ (k : Int) := Int.natCast_nonneg _
      obtain ⟨b, rfl, hc⟩ := HC.out (by intro e; rw [e] at hlt; simp at hlt)
      obtain ⟨q, hq⟩ : ∃ q, q = l[k] := ⟨_, rfl⟩
      have hqm : q ∈ l := hq ▸ List.getElem_mem hlt
      have hb := HB.out q hqm
      obtain ⟨x, y, bs⟩ := q
      have c0 : wr.cell? ⟨b, k * 2, none⟩ = some (.string x) := HK.out.cell' ((hc k hlt).1.trans (congrArg (fun y : Fv => some (Value.string y.1)) hq.symm)) id
      have c1 : wr.cell? ⟨b, k * 2 + 1, none⟩ = some y := HK.out.cell' ((hc k hlt).2.trans (congrArg (fun y : Fv => some y.2.1) hq.symm)) id
      obtain ⟨ay, cy, hy, -⟩ := hb
      simp only at hy
      have HLt := Hid_mk hlt
      have hsn := but_snoc n l k hlt
      rw [← hq] at hsn
      by_cases he : x = n
      · subst he
        rw [if_pos rfl, List.append_nil] at hsn
        have HN := Hid_mk (show WoRel w l x u5 (.int .i64 ((k : Int) + 1)) wr from ⟨k + 1, by push_cast; rfl, hlt, hsn ▸ HR.out, HK.out⟩)
        clear hc hq hlt hqm hsn
        go_wp2
        go_roundw
        case rel => exact HN.out
        case measure => have := HLt.out; simp only [intOf]; omega
      · rw [if_neg he] at hsn
        have HS := Hid_mk hsn
        have hbl := but_le n (l.take k)
        rw [List.length_take] at hbl
        have hxn := txt_ne he
        obtain ⟨au, cu, hu⟩ : ∃ a c, u5 = .slice a (but n (l.take k)).length c := by
          obtain ⟨a, c, e, -⟩ := FRow.opened HR.out
          exact ⟨a, c, e⟩
        subst hy hu
        clear hc hq hlt hqm hsn he
        go_wp2_with (at_builtin; (refine wpList_cat _ rfl _ _ rfl w.heap.size _ (but n (l.take k)) [(x, .slice ay bs.length cy, bs)] rfl (FRow.no HR.out ((Kp.refl No wr).alloc _)) ?b1 (fun q hq => by simp only [List.mem_singleton] at hq; subst hq; rfl) wr.heap.size 0 1 rfl ?b3 ?b2 ?_))
        case b1 => simp; omega
        case b2 => simp; omega
        case b3 =>
          intro j u hj
          have := World.news_of_block (heap_alloc_new wr (.cells #[.string x, .slice ay bs.length cy] 68)) j u hj
          rw [addr_add] at this
          exact this
        rintro v2 w6 ⟨hp1, hp2, hp3⟩
        have HN := Hid_mk (show WoRel w l n v2 (.int .i64 ((k : Int) + 1)) w6 from ⟨k + 1, by push_cast; rfl, HLt.out, HS.out ▸ hp1, (HK.out.alloc _).trans hp2 fun i hi e => by have := (HR.out.lt i e.symm).1; omega⟩)
        clear hp1 hp2 hp3
        go_wp2
        go_roundw
        case rel => exact HN.out
        case measure => have := HLt.out; simp only [intOf]; omega
    · have hki : ¬ (k : Int) < (l.length : Int) := by omega
      obtain rfl : k = l.length := by omega
      have HR2 := HR.out
      rw [List.take_length] at HR2
      obtain ⟨au, cu, hu⟩ : ∃ a c, u5 = .slice a (but n l).length c := by
        obtain ⟨a, c, e, -⟩ := FRow.opened HR2
        exact ⟨a, c, e⟩
      subst hu
      have HF := Hid_mk (show NewFl w (but n l) (.returned (.slice au (but n l).length cu)) wr from ⟨_, rfl, HR2, HK.out⟩)
      clear hlt HR2 HR
      go_wp2
      go_ret
      exact HF.out

end Go.Proofs.YtomckoeobkfklaaDoor.r2
