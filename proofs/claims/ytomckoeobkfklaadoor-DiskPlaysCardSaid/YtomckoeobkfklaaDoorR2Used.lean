/- The reference's Disk: Used, Read, Names. -/
import Derived.Test.YtomckoeobkfklaaDoorR2Does
namespace Go.Proofs.YtomckoeobkfklaaDoor.r2
open Go.RowKit Go.Maps Go.Proofs.YtomckoeobkfklaaDoor.sum Go.Proofs.YtomckoeobkfklaaDoor.kept Go.Proofs.YtomckoeobkfklaaDoor.app Go.Proofs.YtomckoeobkfklaaDoor.writer Go.Proofs.YtomckoeobkfklaaDoor.clone Go.Proofs.YtomckoeobkfklaaDoor.fs Go.Proofs.YtomckoeobkfklaaDoor.fsDo Go.Proofs.YtomckoeobkfklaaDoor.unseal Go.Proofs.YtomckoeobkfklaaDoor.dsk
set_option linter.unusedVariables false

theorem used_snoc (l : List Fv) (k : Nat) (h : k < l.length) : used (files (l.take (k + 1))) = used (files (l.take k)) + l[k].2.2.length := by
  rw [List.take_succ_eq_append_getElem h, files_append]
  unfold used
  rw [List.map_append, List.sum_append]
  simp [files]
theorem used_le (l : List Fv) (k : Nat) : used (files (l.take k)) ≤ used (files l) := by
  conv => rhs; rw [← List.take_append_drop k l, files_append]
  unfold used
  rw [List.map_append, List.sum_append]
  omega

def UsRel (l : List Fv) (w : World) (n i : Value) (wr : World) : Prop := ∃ k : Nat, i = .int .i64 (k : Int) ∧ k ≤ l.length ∧ n = .int .i64 (used (files (l.take k)) : Int) ∧ w = wr

set_option maxRecDepth 100000 in
set_option maxHeartbeats 4000000 in
theorem refused_any (w : World) (r : Nat) (x : RSt) (vs vn vw : Value) (ln : List Fv) (h : RAt w r x vs vn vw) (hf : Fl w vn ln) (hl : ln.length ≤ 1000000000000) (hu : used (files ln) ≤ 1000000000000) :
    Calls Tryd.prog 30 #[.pointer (some ⟨r, 0, none⟩)] w fun e w' => e = .returned (.int .i64 (if x.down then 0 else (used (files ln) : Int))) ∧ w = w' := by
  obtain ⟨a, cap, rfl, h1, h2, h3⟩ := hf.1.opened
  have HC := Hid_mk h3
  have HB := Hid_mk hf.2
  have c2 := h.c2
  have c6 := h.c6
  clear h3 hf h
  cases hd : x.down with
  | true =>
    rw [hd] at c6
    by_cases h0 : 0 < (ln.length : Int)
    · go_enter Tryd.func30, Tryd.ntmps30
      go_wp2
      go_loopw [3, 4] (fun n i wr => n = .int .i64 0 ∧ i = .int .i64 0 ∧ w = wr) (fun _ _ _ => 0)
      case atStart => exact ⟨rfl, rfl, rfl⟩
      case round =>
        obtain ⟨rfl, rfl, rfl⟩ := hrel
        go_wp2
        go_ret
        exact ⟨rfl, rfl⟩
    · go_enter Tryd.func30, Tryd.ntmps30
      go_wp2
      go_loopw [3, 4] (fun n i wr => n = .int .i64 0 ∧ i = .int .i64 0 ∧ w = wr) (fun _ _ _ => 0)
      case atStart => exact ⟨rfl, rfl, rfl⟩
      case round =>
        obtain ⟨rfl, rfl, rfl⟩ := hrel
        go_wp2
        go_ret
        exact ⟨rfl, rfl⟩
  | false =>
    rw [hd] at c6
    go_enter Tryd.func30, Tryd.ntmps30
    go_wp2
    go_loopw [3, 4] (fun n i wr => UsRel ln w n i wr) (fun _ i _ => ln.length - (intOf i).toNat)
    case atStart => exact ⟨0, rfl, Nat.zero_le _, rfl, rfl⟩
    case round =>
      obtain ⟨k, rfl, hk, rfl, rfl⟩ := hrel
      by_cases hlt : k < ln.length
      · have hki : (k : Int) < (ln.length : Int) := by omega
        have hk0 : (0 : Int) ≤ (k : Int) := Int.natCast_nonneg _
        obtain ⟨b, rfl, hc⟩ := HC.out (by intro e; rw [e] at hlt; simp at hlt)
        obtain ⟨q, hq⟩ : ∃ q, q = ln[k] := ⟨_, rfl⟩
        have hqb := HB.out q (hq ▸ List.getElem_mem hlt)
        have hsn := used_snoc ln k hlt
        have hle := used_le ln (k + 1)
        rw [← hq] at hsn
        obtain ⟨y, z, bs⟩ := q
        simp only at hqb hsn
        obtain ⟨az, cz, rfl, -⟩ := hqb
        have c1 : w.cell? ⟨b, k * 2 + 1, none⟩ = some (.slice az bs.length cz) := (hc k hlt).2.trans (congrArg (fun y : Fv => some y.2.1) hq.symm)
        obtain ⟨n0, hn0⟩ : ∃ n0, used (files (ln.take k)) = n0 := ⟨_, rfl⟩
        rw [hn0] at hsn ⊢
        have HN : Hid (UsRel ln w (.int .i64 ((n0 : Int) + (bs.length : Int))) (.int .i64 ((k : Int) + 1)) w) := Hid_mk ⟨k + 1, by push_cast; rfl, hlt, by rw [hsn]; push_cast; rfl, rfl⟩
        have hb1 : n0 + bs.length ≤ 1000000000000 := by omega
        have HLt := Hid_mk hlt
        clear hc hq hlt hsn hle hn0
        go_wp2
        go_roundw
        case rel => exact HN.out
        case measure => have := HLt.out; simp only [intOf]; omega
      · have hki : ¬ (k : Int) < (ln.length : Int) := by omega
        obtain rfl : k = ln.length := by omega
        have he : used (files (ln.take ln.length)) = used (files ln) := by rw [List.take_length]
        rw [he]
        clear he
        go_wp2
        go_ret
        exact ⟨rfl, rfl⟩

theorem place_some {l : List Fv} (hr : Rising (files l)) {n : ByteArray} {k : Nat} (hk : k < l.length) (h : l[k].1 = n) : fs.get (files l) (nm n) = some l[k].2.2 := (get_some hr).2 (by
  unfold files
  refine List.mem_map.2 ⟨l[k], List.getElem_mem hk, ?_⟩
  rw [h])

set_option maxRecDepth 100000 in
set_option maxHeartbeats 4000000 in
theorem refread_any (w : World) (r : Nat) (x : RSt) (vs vn vw : Value) (ln : List Fv) (n : ByteArray) (h : RAt w r x vs vn vw) (hf : Fl w vn ln) (hr : Rising (files ln)) (hl : ln.length ≤ 1000000000000) (hn : n.size ≤ maxLen) :
    Calls Tryd.prog 15 #[.pointer (some ⟨r, 0, none⟩), .string n] w fun e w' => ∃ v, e = .returned (.tuple #[v, .bool (!x.down && (fs.get (files ln) (nm n)).isSome)]) ∧ Bs w v (if x.down = true then [] else old (files ln) (nm n)) ∧ w = w' := by
  have HF := Hid_mk (find_any w vn ln n hf hl hn)
  have hpc := place_cases ln n
  obtain ⟨a, cap, rfl, h1, h2, h3⟩ := hf.1.opened
  have HC := Hid_mk h3
  have HB := Hid_mk hf.2
  have c2 := h.c2
  have c6 := h.c6
  have hnil : Bs w (.slice none 0 0) [] := ⟨none, 0, rfl, Nat.le_refl _, Nat.zero_le _, fun h => absurd rfl h⟩
  have HNil := Hid_mk hnil
  clear h3 hf h hnil
  cases hd : x.down with
  | true =>
    rw [hd] at c6
    clear hpc
    go_enter Tryd.func15, Tryd.ntmps15
    go_wp2_with fail
    with_reducible refine HF.out.mono ?_
    rintro e w' ⟨rfl, rfl⟩
    go_wp2
    go_ret2
    exact ⟨_, rfl, HNil.out, rfl⟩
  | false =>
    rw [hd] at c6
    rcases hpc with ⟨k, hk, he, hp⟩ | ⟨hno, hp⟩
    · rw [hp] at HF
      have hg := place_some hr hk he
      obtain ⟨b, rfl, hc⟩ := HC.out (by intro e; rw [e] at hk; simp at hk)
      obtain ⟨q, hq⟩ : ∃ q, q = ln[k] := ⟨_, rfl⟩
      have hqb := HB.out q (hq ▸ List.getElem_mem hk)
      rw [← hq] at hg
      obtain ⟨y, z, bs⟩ := q
      simp only at hqb hg
      have HQ := Hid_mk hqb
      obtain ⟨az, cz, rfl, -⟩ := hqb
      have c1 : w.cell? ⟨b, k * 2 + 1, none⟩ = some (.slice az bs.length cz) := (hc k hk).2.trans (congrArg (fun y : Fv => some y.2.1) hq.symm)
      have hki : (k : Int) < (ln.length : Int) := by omega
      have hk0 : (0 : Int) ≤ (k : Int) := Int.natCast_nonneg _
      have hk1 : ¬ (k : Int) < 0 := by omega
      have ho : old (files ln) (nm n) = bs := by unfold old; rw [hg]; rfl
      rw [hg, ho]
      clear hc hq hk he hp hg ho
      go_enter Tryd.func15, Tryd.ntmps15
      go_wp2_with fail
      with_reducible refine HF.out.mono ?_
      rintro e w' ⟨rfl, rfl⟩
      go_wp2
      go_ret2
      exact ⟨_, rfl, HQ.out, rfl⟩
    · rw [hp] at HF
      have hg := get_noplace hno
      have ho : old (files ln) (nm n) = [] := by unfold old; rw [hg]; rfl
      rw [hg, ho]
      clear hno hp hg ho
      go_enter Tryd.func15, Tryd.ntmps15
      go_wp2_with fail
      with_reducible refine HF.out.mono ?_
      rintro e w' ⟨rfl, rfl⟩
      go_wp2
      go_ret2
      exact ⟨_, rfl, HNil.out, rfl⟩

theorem infoS : (Tryd.prog.info? 9).map (fun i => (i.zero, i.size, i.bytes)) = some (some (.string ByteArray.empty), 1, 16) := by kernel_rfl

/-- a row of texts -/
def SRow (w : World) (base : Nat) (v : Value) (l : List ByteArray) : Prop := w.ownsRow base 9 1 v l.length (l.map Value.string)
theorem SRow.no {w w' : World} {base : Nat} {v : Value} {l : List ByteArray} (h : SRow w base v l) (hk : Kp No w w') : SRow w' base v l := owns_kept h hk fun _ _ => id

theorem wpList_catS (w : World) {ops : Array Oper} {rest : List Oper} {o : Oper} {a : Act} {Q : Exit → Act → World → Prop} (hgd : o.guard = none) (s e : Operand)
    (ho : o.op = .call { callee := .builtin .append, args := #[s, e], argTypes := #[56, 56] })
    (base : Nat) (v : Value) (l : List ByteArray) (y : ByteArray) (hs : a.eval s = v) (h : SRow w base v l) (hbase : base ≤ w.heap.size) (b c : Nat) (he : a.eval e = .slice (some ⟨b, 0, none⟩) 1 c) (hc : w.cell? ⟨b, 0, none⟩ = some (.string y)) (hn : l.length ≤ 1000000000000)
    (hK : ∀ v' w', SRow w' base v' (l ++ [y]) → Kp (fun k => some k = v.ownBlock) w w' → wpList Tryd.prog ops Q rest (a.put o.dst v') w') : wpList Tryd.prog ops Q (o :: rest) a w := by
  obtain ⟨i0, hi, hz0, hz1, hz2⟩ := info_parts infoS
  obtain ⟨v', w', hr, k1, k2, k3, k4⟩ := run_append_own_at (P := Tryd.prog) w base 56 o.type 9 i0 (.string ByteArray.empty) 1 16 Tryd.underlying56 hi hz0 hz1 hz2 rfl (by decide) v l.length _ h ⟨b, 0, none⟩ 1 c [.string y]
    rfl (fun j u hj => by
      rw [addr_add]
      match j, hj with
      | 0, hj => simp at hj; subst hj; exact hc) (fun u hu => by simp at hu; subst hu; rfl) (by unfold maxLen; omega) (by omega) hbase
  refine wpList_plain hgd fun K hK2 => ?_
  unfold Oper.wp execOp
  simp only [ho, resolve, invoke, builtin, Sem.run_bind, Sem.run_pure, Result.andThen_ok, List.map_toArray, List.map_cons, List.map_nil, hs, he, hr]
  refine hK2 _ _ (hK v' w' ?_ ((Kp.refl _ _).grown k2 fun k _ e => e.symm))
  unfold SRow
  rw [List.length_append, List.map_append]
  exact k1

def NmRel (l : List Fv) (w : World) (out i : Value) (wr : World) : Prop := (∃ a n c, out = .slice a n c) ∧ ∃ k : Nat, i = .int .i64 (k : Int) ∧ k ≤ l.length ∧ SRow wr w.heap.size out ((l.take k).map (·.1)) ∧ Kp No w wr

set_option maxRecDepth 100000 in
set_option maxHeartbeats 4000000 in
theorem refnames_any (w : World) (r : Nat) (x : RSt) (vs vn vw : Value) (ln : List Fv) (h : RAt w r x vs vn vw) (hf : Fl w vn ln) (hl : ln.length ≤ 1000000000) :
    Calls Tryd.prog 28 #[.pointer (some ⟨r, 0, none⟩)] w fun e w' => ∃ v, e = .returned v ∧ SRow w' w.heap.size v (if x.down = true then [] else ln.map (·.1)) ∧ Kp No w w' := by
  obtain ⟨a, cap, rfl, h1, h2, h3⟩ := hf.1.opened
  have HC := Hid_mk h3
  have H := Hid_mk h
  have HF := Hid_mk hf
  clear h3 hf
  cases hd : x.down with
  | true =>
    have c2 := h.c2
    have c6 := h.c6
    rw [hd] at c6
    clear h
    by_cases h0 : 0 < (ln.length : Int)
    · go_enter Tryd.func28, Tryd.ntmps28
      go_wp2
      go_loopw [3, 4] (fun n i wr => n = .slice none 0 0 ∧ i = .int .i64 0 ∧ w = wr) (fun _ _ _ => 0)
      case atStart => exact ⟨rfl, rfl, rfl⟩
      case round =>
        obtain ⟨rfl, rfl, rfl⟩ := hrel
        go_wp2
        go_ret
        exact ⟨_, rfl, World.ownsRow_nil _ _ _ _, Kp.refl _ _⟩
    · go_enter Tryd.func28, Tryd.ntmps28
      go_wp2
      go_loopw [3, 4] (fun n i wr => n = .slice none 0 0 ∧ i = .int .i64 0 ∧ w = wr) (fun _ _ _ => 0)
      case atStart => exact ⟨rfl, rfl, rfl⟩
      case round =>
        obtain ⟨rfl, rfl, rfl⟩ := hrel
        go_wp2
        go_ret
        exact ⟨_, rfl, World.ownsRow_nil _ _ _ _, Kp.refl _ _⟩
  | false =>
    clear h
    go_enter Tryd.func28, Tryd.ntmps28
    go_wp2
    go_loopw [3, 4] (fun out i wr => NmRel ln w out i wr) (fun _ i _ => ln.length - (intOf i).toNat)
    case atStart => exact ⟨⟨_, _, _, rfl⟩, 0, rfl, Nat.zero_le _, World.ownsRow_nil _ _ _ _, Kp.refl _ _⟩
    case round =>
      obtain ⟨⟨ao, no, co, rfl⟩, k, rfl, hk, hrow, hkp⟩ := hrel
      have hr2 := H.out.no hkp
      have c2 := hr2.c2
      have c6 := hr2.c6
      rw [hd] at c6
      have HR := Hid_mk hrow
      have HK := Hid_mk hkp
      have hsz := hkp.size
      clear hr2 hrow hkp
      by_cases hlt : k < ln.length
      · have hki : (k : Int) < (ln.length : Int) := by omega
        have hk0 : (0 : Int) ≤ (k : Int) := Int.natCast_nonneg _
        obtain ⟨b, rfl, hc⟩ := HC.out (by intro e; rw [e] at hlt; simp at hlt)
        obtain ⟨y, hy⟩ : ∃ y, y = ln[k].1 := ⟨_, rfl⟩
        have c1 : wr.cell? ⟨b, k * 2, none⟩ = some (.string y) := HK.out.cell' ((hc k hlt).1.trans (congrArg (fun y => some (Value.string y)) hy.symm)) id
        have htk : (ln.take k).map (·.1) ++ [y] = (ln.take (k + 1)).map (·.1) := by
          rw [List.take_succ_eq_append_getElem hlt, List.map_append, hy]; rfl
        have hln : ((ln.take k).map (·.1)).length ≤ 1000000000000 := by
          rw [List.length_map, List.length_take]; omega
        have HTk := Hid_mk htk
        have HLn := Hid_mk hln
        have HLt := Hid_mk hlt
        clear hc hy hlt htk hln
        go_wp2_with (at_builtin; (refine wpList_catS _ rfl _ _ rfl w.heap.size _ ((ln.take k).map (·.1)) y rfl (HR.out.no ((Kp.refl No wr).alloc _)) (by simp; omega) wr.heap.size 1 rfl (by simp) HLn.out ?_))
        intro v' w9 hs9 hk9
        have HN : Hid (∀ i, i = (.int .i64 ((k : Int) + 1) : Value) → NmRel ln w v' i w9) := Hid_mk fun i hi => ⟨(by rcases owns_any hs9 with ⟨rfl, -⟩ | ⟨g, cap, rfl, -⟩ <;> exact ⟨_, _, _, rfl⟩), k + 1, by rw [hi]; push_cast; rfl, HLt.out, by rw [← HTk.out, List.map_take]; exact hs9, (HK.out.alloc _).trans hk9 fun i hi e => by have := (World.ownsRow.lt HR.out i e.symm).1; omega⟩
        clear hs9 hk9
        go_wp2
        go_roundw
        case rel => exact HN.out _ rfl
        case measure => have := HLt.out; simp only [intOf]; omega
      · have hki : ¬ (k : Int) < (ln.length : Int) := by omega
        obtain rfl : k = ln.length := by omega
        have he : (ln.take ln.length).map (·.1) = ln.map (·.1) := by rw [List.take_length]
        rw [he] at HR
        clear he
        go_wp2
        go_ret
        exact ⟨_, rfl, HR.out, HK.out⟩

end Go.Proofs.YtomckoeobkfklaaDoor.r2
