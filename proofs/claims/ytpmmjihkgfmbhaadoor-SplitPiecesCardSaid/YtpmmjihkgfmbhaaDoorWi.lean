/- A window: bytes at a place of a row of the call's own, with room behind; append onto it. -/
import Derived.Test.YtpmmjihkgfmbhaaDoorAppend
import Derived.Test.YtpmmjihkgfmbhaaDoorCuts0
import Derived.Deep.Upon
namespace Go.Proofs.YtpmmjihkgfmbhaaDoor.spl
open Go.RowKit Go.Maps Go.Proofs.YtpmmjihkgfmbhaaDoor.sum Go.Proofs.YtpmmjihkgfmbhaaDoor.kept Go.Proofs.YtpmmjihkgfmbhaaDoor.app Go.Proofs.YtpmmjihkgfmbhaaDoor.unseal
set_option linter.unusedVariables false

/-- bytes at a place of a row of the call's own, which may be written on behind them -/
def Wi (w : World) (base : Nat) (v : Value) (bs : List UInt8) : Prop :=
  (v = .slice none 0 0 ∧ bs = []) ∨ ∃ g o cap, v = .slice (some ⟨g, o, none⟩) bs.length cap ∧ base ≤ g ∧ g < w.heap.size ∧ bs.length ≤ cap ∧ cap ≤ maxLen ∧
    (∀ k, k < bs.length → w.cell? ⟨g, o + k, none⟩ = some (B (bs.getD k 0))) ∧ ∀ k, k < cap → (w.cell? ⟨g, o + k, none⟩).isSome = true ∧ w.frozen? ⟨g, o + k, none⟩ = false

section
variable {w w' : World} {base : Nat} {v : Value} {bs : List UInt8}
theorem Wi.nil (w : World) (base : Nat) : Wi w base (.slice none 0 0) [] := .inl ⟨rfl, rfl⟩
theorem Wi.rd (h : Wi w base v bs) : Bs w v bs := by
  rcases h with ⟨rfl, rfl⟩ | ⟨g, o, cap, rfl, -, -, h1, h2, h3, -⟩
  · exact ⟨none, 0, rfl, Nat.le_refl _, Nat.zero_le _, fun h => absurd rfl h⟩
  · exact ⟨_, cap, rfl, h1, h2, fun _ => ⟨g, o, rfl, h3⟩⟩
theorem Wi.any (h : Wi w base v bs) : ∃ a cap, v = .slice a bs.length cap ∧ bs.length ≤ cap ∧ cap ≤ 9223372036854775807 ∧ ∀ k, v.ownBlock = some k → base ≤ k ∧ k < w.heap.size := by
  rcases h with ⟨rfl, rfl⟩ | ⟨g, o, cap, rfl, h4, h5, h1, h2, h3, -⟩
  · exact ⟨none, 0, rfl, Nat.le_refl _, by decide, fun k h => by simp [Value.ownBlock] at h⟩
  · exact ⟨_, cap, rfl, h1, by unfold maxLen at h2; omega, fun k h => by simp [Value.ownBlock] at h; omega⟩
theorem Wi.lt (h : Wi w base v bs) : ∀ k, v.ownBlock = some k → base ≤ k ∧ k < w.heap.size := by obtain ⟨a, cap, -, -, -, h⟩ := h.any; exact h
theorem Wi.kept {S : Nat → Prop} (h : Wi w base v bs) (hk : Kp S w w') (hn : ∀ k, v.ownBlock = some k → ¬ S k) : Wi w' base v bs := by
  rcases h with h | ⟨g, o, cap, rfl, h4, h5, h1, h2, h3, h6⟩
  · exact .inl h
  · have hS := hn g rfl
    refine .inr ⟨g, o, cap, rfl, h4, Nat.lt_of_lt_of_le h5 hk.size, h1, h2, fun k hlt => hk.cell' (h3 k hlt) hS, fun k hlt => ?_⟩
    rw [hk.cell (p := ⟨g, o + k, none⟩) h5 hS, hk.frozen (p := ⟨g, o + k, none⟩) h5 hS]
    exact h6 k hlt
theorem Wi.no (h : Wi w base v bs) (hk : Kp No w w') : Wi w' base v bs := h.kept hk fun _ _ => id
theorem Wi.of_owns (h : w.ownsRow base 5 1 v bs.length (bs.map B)) : Wi w base v bs := by
  rcases h.2 with ⟨rfl, h0⟩ | ⟨g, cap, cur, rfl, hb, hg, h1, h2, h3, h4⟩
  · exact .inl ⟨rfl, List.eq_nil_of_length_eq_zero h0⟩
  · refine .inr ⟨g, 0, cap, rfl, hb, (Array.getElem?_eq_some_iff.1 hg).1, h1, h2, fun k hk => ?_, fun k hk => ?_⟩
    · have := h.cells (g := g) rfl k (B (bs.getD k 0)) (by simp [List.getD, hk])
      rwa [addr_add] at this
    · rw [cell_of_row w g _ cur _ (0, 0) hg]
      have : k < cur.size := by omega
      refine ⟨by simpa using this, ?_⟩
      simp [World.frozen?, hg]
/-- its first bytes -/
theorem Wi.take {a : Option Addr} {n cap : Nat} (h : Wi w base (.slice a n cap) bs) (k : Nat) (hk : k ≤ n) : Wi w base (.slice a k cap) (bs.take k) := by
  rcases h with ⟨e, rfl⟩ | ⟨g, o, c, e, h4, h5, h1, h2, h3, h6⟩
  · cases e
    obtain rfl : k = 0 := by omega
    exact .inl ⟨rfl, by simp⟩
  · simp only [Value.slice.injEq] at e
    obtain ⟨rfl, rfl, rfl⟩ := e
    have hl : (bs.take k).length = k := by simp; omega
    refine .inr ⟨g, o, cap, by rw [hl], h4, h5, by omega, h2, fun j hj => ?_, h6⟩
    rw [hl] at hj
    rw [h3 j (by omega)]
    simp [List.getD, hj]
/-- without its first byte -/
theorem Wi.tail {g o cap : Nat} {b : UInt8} {q : List UInt8} (h : Wi w base (.slice (some ⟨g, o, none⟩) (q.length + 1) cap) (b :: q)) :
    Wi w base (if cap = 1 then .slice (some ⟨g, o, none⟩) q.length 0 else .slice (some ⟨g, o + 1, none⟩) q.length (cap - 1)) q := by
  rcases h with ⟨e, -⟩ | ⟨g2, o2, c, e, h4, h5, h1, h2, h3, h6⟩
  · cases e
  · simp only [Value.slice.injEq] at e
    obtain ⟨e1, -, rfl⟩ := e
    cases e1
    simp only [List.length_cons] at h1 h3
    by_cases hc : cap = 1
    · rw [if_pos hc]
      obtain rfl : q = [] := List.eq_nil_of_length_eq_zero (by omega)
      exact .inr ⟨g, o, 0, rfl, h4, h5, Nat.le_refl _, Nat.zero_le _, fun k hk => by simp at hk, fun k hk => by omega⟩
    · rw [if_neg hc]
      refine .inr ⟨g, o + 1, cap - 1, rfl, h4, h5, by omega, by omega, fun k hk => ?_, fun k hk => ?_⟩
      · rw [show o + 1 + k = o + (k + 1) by omega, h3 (k + 1) (by omega)]
        rfl
      · rw [show o + 1 + k = o + (k + 1) by omega]
        exact h6 (k + 1) (by omega)
end

theorem bs_src {w : World} {v : Value} {cs : List UInt8} (h : Bs w v cs) : Src Tryd.prog 1 30 v cs.length (cs.map B) w := by
  obtain ⟨a, cap, rfl, h1, h2, h3⟩ := h
  by_cases hc : cs = []
  · subst hc
    cases a with
    | none => exact Src.ofNil w Tryd.underlying30 cap
    | some a => exact Src.ofSlice w Tryd.underlying30 a 0 cap [] rfl (fun j u h => by simp at h) (fun u h => by simp at h)
  · obtain ⟨b, o, rfl, hh⟩ := h3 hc
    refine Src.ofSlice w Tryd.underlying30 _ _ cap _ (by simp) (fun j u hu => ?_) (fun u hu => by obtain ⟨_, _, rfl⟩ := List.mem_map.1 hu; rfl)
    rw [addr_add]
    have hj : j < cs.length := by simpa using (List.getElem?_eq_some_iff.1 hu).1
    rw [hh j hj]
    simpa [List.getD, hj] using hu

theorem getD_append (bs cs : List UInt8) (k : Nat) : (bs ++ cs).getD k 0 = if k < bs.length then bs.getD k 0 else cs.getD (k - bs.length) 0 := by
  simp only [List.getD]
  split
  · next h => rw [List.getElem?_append_left h]
  · next h => rw [List.getElem?_append_right (by omega)]

/-- what append leaves -/
def WApp (base : Nat) (w : World) (v : Value) (bs cs : List UInt8) (v' : Value) (w' : World) : Prop :=
  Wi w' base v' (bs ++ cs) ∧ Kp (fun k => v.ownBlock = some k) w w' ∧ (v'.ownBlock = v.ownBlock ∨ v'.ownBlock = some w.heap.size)

theorem run_append_wi (w : World) (ty : TypeId) (base : Nat) (v : Value) (bs : List UInt8) (hv : Wi w base v bs) (xv : Value) (cs : List UInt8) (hx : Bs w xv cs)
    (hb : bs.length + cs.length ≤ 140737488355328) (hbase : base ≤ w.heap.size) :
    ∃ v' w', (Builtin.append_ #[30, 30] ty #[v, xv]).run Tryd.prog w = .ok v' w' ∧ WApp base w v bs cs v' w' := by
  obtain ⟨i0, hi, hz0, hz1, hz2⟩ := info_parts info5
  have hS : Src Tryd.prog i0.size 30 xv cs.length (cs.map B) w := by rw [hz1]; exact bs_src hx
  have hn0 : bs.length + cs.length ≤ maxLen := by unfold maxLen; omega
  -- behind a growing append
  have grown : ∀ (olds : List Value), olds = bs.map B → ∀ sCap, sCap < bs.length + cs.length →
      WApp base w v bs cs (.slice (some ⟨w.heap.size, 0, none⟩) (bs.length + cs.length) (grownCap w (bs.length + cs.length) sCap 5)) (w.drew.alloc (.cells ((olds ++ cs.map B).toArray ++ Builtin.zeroCells (Value.int IntKind.u8 0).cells (grownCap w (bs.length + cs.length) sCap 5 - (bs.length + cs.length))) 5)) := by
    intro olds ho sCap hs
    subst ho
    have hge := grownCap_ge w (bs.length + cs.length) sCap 5
    have hcm := grownCap_le_maxLen w (bs.length + cs.length) sCap 5 hn0
    obtain ⟨c, hc⟩ : ∃ c, grownCap w (bs.length + cs.length) sCap 5 = c := ⟨_, rfl⟩
    rw [hc] at hge hcm ⊢
    have hsz : ((bs.map B ++ cs.map B).toArray ++ Builtin.zeroCells (Value.int IntKind.u8 0).cells (c - (bs.length + cs.length))).size = c := by
      simp [size_zeroCells, Value.cells]
      omega
    refine ⟨.inr ⟨w.heap.size, 0, c, by rw [List.length_append], hbase, by simp, by rw [List.length_append]; exact hge, hcm, fun k hk => ?_, fun k hk => ?_⟩, (Kp.refl _ _).drew.alloc _, .inr rfl⟩
    · have hg := heap_alloc_new w.drew (.cells ((bs.map B ++ cs.map B).toArray ++ Builtin.zeroCells (Value.int IntKind.u8 0).cells (c - (bs.length + cs.length))) 5)
      rw [cell_of_row _ w.heap.size _ _ _ (0, 0) hg]
      rw [Array.getElem?_append_left (by simpa using hk)]
      simp only [Nat.zero_add, List.getElem?_toArray, ← List.map_append, List.getElem?_map, List.getD]
      rw [List.getElem?_eq_getElem hk]
      rfl
    · have hg := heap_alloc_new w.drew (.cells ((bs.map B ++ cs.map B).toArray ++ Builtin.zeroCells (Value.int IntKind.u8 0).cells (c - (bs.length + cs.length))) 5)
      rw [cell_of_row _ w.heap.size _ _ _ (0, 0) hg]
      refine ⟨?_, ?_⟩
      · rw [Array.getElem?_eq_getElem (by rw [hsz]; omega)]
        rfl
      · have hg' : (w.drew.alloc (.cells ((bs.map B ++ cs.map B).toArray ++ Builtin.zeroCells (Value.int IntKind.u8 0).cells (c - (bs.length + cs.length))) 5)).heap[w.heap.size]? = _ := hg
        simp only [World.frozen?, hg']
        simp
  rcases hv with ⟨rfl, rfl⟩ | ⟨g, o, cap, rfl, h4, h5, h1, h2, h3, h6⟩
  · by_cases hc : cs = []
    · subst hc
      refine ⟨_, w, ?_, .inl ⟨rfl, rfl⟩, Kp.refl _ _, .inl rfl⟩
      exact run_append_nothing w 30 30 ty 5 i0 Tryd.underlying30 hi none 0 0 (Nat.le_refl _) xv hS
    · have hcl := List.length_pos_iff.2 hc
      have hgr := run_append_grow_src (P := Tryd.prog) w 30 30 ty 5 i0 (.int .u8 0) Tryd.underlying30 hi hz0 none 0 0 [] (run_firstCells_none w.drew i0.size 0 0 0) xv cs.length _ hS (by omega) (by omega)
        (by rw [hz2]; exact growslice_fits (by omega) (by simp at hb ⊢; omega))
      have := grown [] rfl 0 (by simpa using hcl)
      simp only [List.length_nil, Nat.zero_add] at hgr this
      exact ⟨_, _, hgr, this⟩
  · by_cases hroom : bs.length + cs.length ≤ cap
    · have hrm := run_append_room_src (P := Tryd.prog) w 30 30 ty 5 i0 Tryd.underlying30 hi g o bs.length cap xv cs.length _ hS hroom
        (fun j hj => by
          have hj' : j < cs.length := by simpa using hj
          rw [hz1, Nat.mul_one, Nat.add_assoc]
          exact (h6 (bs.length + j) (by omega)).1)
        (fun j hj => by
          have hj' : j < cs.length := by simpa using hj
          rw [hz1, Nat.mul_one, Nat.add_assoc]
          exact (h6 (bs.length + j) (by omega)).2)
      rw [hz1, Nat.mul_one] at hrm
      have hthere : ∀ j, j < (cs.map B).length → (w.cell? ⟨g, o + bs.length + j, none⟩).isSome = true := fun j hj => by
        have hj' : j < cs.length := by simpa using hj
        rw [Nat.add_assoc]
        exact (h6 (bs.length + j) (by omega)).1
      have hsz : (w.setCells g (o + bs.length) (cs.map B)).heap.size = w.heap.size := by
        have : ∀ (vs : List Value) (o : Nat) (w : World), (w.setCells g o vs).heap.size = w.heap.size := by
          intro vs
          induction vs with
          | nil => intro o w; rfl
          | cons v vs ih => intro o w; simp only [World.setCells]; rw [ih]; simp [World.setCell]
        exact this _ _ _
      have htape : (w.setCells g (o + bs.length) (cs.map B)).tape = w.tape := by
        have : ∀ (vs : List Value) (o : Nat) (w : World), (w.setCells g o vs).tape = w.tape := by
          intro vs
          induction vs with
          | nil => intro o w; rfl
          | cons v vs ih => intro o w; simp only [World.setCells]; rw [ih]; rfl
        exact this _ _ _
      refine ⟨_, _, hrm, .inr ⟨g, o, cap, by rw [List.length_append], h4, by rw [hsz]; exact h5, by rw [List.length_append]; exact hroom, h2, fun k hk => ?_, fun k hk => ?_⟩, ⟨World.os_setCells .., htape, World.output_setCells .., by rw [hsz]; exact Nat.le_refl _, fun k hk hn => World.heap_setCells_other _ _ _ _ hk (fun e => hn (by rw [e]; rfl))⟩, .inl rfl⟩
      · rw [getD_append]
        split
        · next h => rw [World.cell?_setCells_out g (cs.map B) (o + bs.length) w ⟨g, o + k, none⟩ (fun _ _ => .inl (by simp only; omega))]; exact h3 k h
        · next h =>
          have hk' : k - bs.length < cs.length := by rw [List.length_append] at hk; omega
          have := World.cell?_setCells_in g (cs.map B) (o + bs.length) w hthere (k - bs.length) (by simpa using hk')
          rw [show o + bs.length + (k - bs.length) = o + k by omega] at this
          rw [this]
          simp [List.getD, hk']
      · rw [World.frozen?_setCells]
        refine ⟨?_, (h6 k hk).2⟩
        by_cases hin : bs.length ≤ k ∧ k < bs.length + cs.length
        · have := World.cell?_setCells_in g (cs.map B) (o + bs.length) w hthere (k - bs.length) (by simp; omega)
          rw [show o + bs.length + (k - bs.length) = o + k by omega] at this
          rw [this]
          rfl
        · rw [World.cell?_setCells_out g (cs.map B) (o + bs.length) w ⟨g, o + k, none⟩ (fun _ _ => by simp; omega)]
          exact (h6 k hk).1
    · have hgr := run_append_grow_src (P := Tryd.prog) w 30 30 ty 5 i0 (.int .u8 0) Tryd.underlying30 hi hz0 (some ⟨g, o, none⟩) bs.length cap (bs.map B)
          (run_firstCells_some w.drew i0.size bs.length ⟨g, o, none⟩ bs.length cap _ (by rw [hz1]; simp) (fun j u hu => by
            rw [addr_add]
            have hj : j < bs.length := by simpa using (List.getElem?_eq_some_iff.1 hu).1
            have := h3 j hj
            rw [show w.drew.cell? ⟨g, o + j, none⟩ = w.cell? ⟨g, o + j, none⟩ from rfl, this]
            simpa [List.getD, hj] using hu)) xv cs.length _ hS (by omega) (by omega) (by rw [hz2]; exact growslice_fits (by omega) (by omega))
      exact ⟨_, _, hgr, grown _ rfl cap (by omega)⟩

theorem wpList_append_wi (w : World) {ops : Array Oper} {rest : List Oper} {o : Oper} {a : Act} {Q : Exit → Act → World → Prop} (hgd : o.guard = none) (s x : Operand)
    (ho : o.op = .call { callee := .builtin .append, args := #[s, x], argTypes := #[30, 30] })
    (base : Nat) (v : Value) (bs : List UInt8) (hs : a.eval s = v) (hown : Wi w base v bs) (xv : Value) (cs : List UInt8) (hx : a.eval x = xv) (hxs : Bs w xv cs)
    (hb : bs.length + cs.length ≤ 140737488355328) (hbase : base ≤ w.heap.size)
    (h : ∀ v' w', WApp base w v bs cs v' w' → wpList Tryd.prog ops Q rest (a.put o.dst v') w') :
    wpList Tryd.prog ops Q (o :: rest) a w := by
  refine wpList_plain hgd fun K hK => ?_
  obtain ⟨v', w', hr, h2⟩ := run_append_wi w o.type base v bs hown xv cs hxs hb hbase
  unfold Oper.wp execOp
  simp only [ho, resolve, invoke, builtin, Sem.run_bind, Sem.run_pure, Result.andThen_ok, List.map_toArray, List.map_cons, List.map_nil, hs, hx, hr]
  exact hK _ _ (h v' w' h2)

end Go.Proofs.YtpmmjihkgfmbhaaDoor.spl
