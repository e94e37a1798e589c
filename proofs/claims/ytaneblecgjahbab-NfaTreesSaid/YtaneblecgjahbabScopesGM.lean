/- A scope of two labels, the measure a number of one's own. No program is named here. Package ere: Quote: each byte as a backslash and three octal digits. -/
import Derived.Test.YtaneblecgjahbabScopesM
import Derived.Test.YtaneblecgjahbabErePureM
import Derived.Test.YtaneblecgjahbabShelf
import Derived.Maps.AppendAt

namespace Go.Proofs.Ytaneblecgjahbab.spl
open Go.RowKit
set_option linter.unusedVariables false

theorem least_ex {G : Nat → Prop} (h : ∃ n, G n) : ∃ n, G n ∧ ∀ m, G m → n ≤ m := by
  obtain ⟨n, hn⟩ := h
  induction n using Nat.strongRecOn with
  | ind n ih =>
    by_cases hm : ∃ m, m < n ∧ G m
    · obtain ⟨m, h1, h2⟩ := hm
      exact ih m h1 h2
    · refine ⟨n, hn, fun m h => ?_⟩
      rcases Nat.lt_or_ge m n with h1 | h1
      · exact absurd ⟨m, h1, h⟩ hm
      · exact h1
theorem leastN_ok {G : Nat → Prop} (h : ∃ n, G n) : G (@Classical.epsilon Nat ⟨0⟩ fun n => G n ∧ ∀ m, G m → n ≤ m) := (Classical.epsilon_spec (least_ex h)).1
theorem leastN_le {G : Nat → Prop} {n : Nat} (h : G n) : (@Classical.epsilon Nat ⟨0⟩ fun n => G n ∧ ∀ m, G m → n ≤ m) ≤ n := (Classical.epsilon_spec (least_ex ⟨n, h⟩)).2 n h
/-- at either label, so far to go -/
def atAB (A B : Nat) (J K : Nat → Act → World → Prop) (l : Nat) (a : Act) (w : World) (n : Nat) : Prop := l = A ∧ J n a w ∨ l = B ∧ K n a w

theorem scope_two_g {P : Program} {a : Act} {w : World} {Q : Exit → Act → World → Prop} {c X Y : Code} (A B : Nat) (hne : A ≠ B) (J K : Nat → Act → World → Prop) (hA : findLabel c A = some (.seq .skip X)) (hB : findLabel c B = some (.seq .skip Y))
    (passB : ∀ n a w, K n a w → Y.wp P (jumpF (fun l a' w' => ∃ m, m < n ∧ atAB A B J K l a' w' m) Q) a w)
    (passA : ∀ n a w, J n a w → (∀ m a1 w1, m < n → K m a1 w1 → Y.wp P (jumpF (fun l a' w' => ∃ m, m < n ∧ atAB A B J K l a' w' m) Q) a1 w1) →
      X.wp P (jumpF (fun l a' w' => ∃ m, m < n ∧ atAB A B J K l a' w' m) Q) a w)
    (first : (∀ n a w, J n a w → X.wp P (jumpF (fun l a' w' => ∃ m, atAB A B J K l a' w' m) Q) a w) → c.wp P (jumpF (fun l a' w' => ∃ m, atAB A B J K l a' w' m) Q) a w) : (Code.scope c).wp P Q a w := by
  have lift : ∀ {n m : Nat} {C : Code} {a : Act} {w : World}, n ≤ m → C.wp P (jumpF (fun l a' w' => ∃ k, k < n ∧ atAB A B J K l a' w' k) Q) a w → C.wp P (jumpF (fun l a' w' => ∃ k, k < m ∧ atAB A B J K l a' w' k) Q) a w := fun hnm h =>
    Code.wp_mono (fun e a' w' h => by
      cases e <;> first
        | exact h
        | (obtain ⟨k, h1, h2⟩ := h
           exact ⟨k, by omega, h2⟩)) h
  have pA : ∀ n a w, J n a w → X.wp P (jumpF (fun l a' w' => ∃ m, m < n ∧ atAB A B J K l a' w' m) Q) a w := fun n a w hJ =>
    passA n a w hJ fun m a1 w1 hm hK => lift (Nat.le_of_lt hm) (passB m a1 w1 hK)
  have drop : ∀ {n : Nat} {C : Code} {a : Act} {w : World}, C.wp P (jumpF (fun l a' w' => ∃ k, k < n ∧ atAB A B J K l a' w' k) Q) a w → C.wp P (jumpF (fun l a' w' => ∃ k, atAB A B J K l a' w' k) Q) a w := fun h =>
    Code.wp_mono (fun e a' w' h => by
      cases e <;> first
        | exact h
        | (obtain ⟨k, h1, h2⟩ := h
           exact ⟨k, h2⟩)) h
  refine wp_scope_many (fun l a w => ∃ m, atAB A B J K l a w m) (fun l a w => (@Classical.epsilon Nat ⟨0⟩ fun n => atAB A B J K l a w n ∧ ∀ m, atAB A B J K l a w m → n ≤ m)) (fun l => if l = A then .seq .skip X else .seq .skip Y) (fun l a w h => ?_) (fun l a w h => ?_) (first fun n a w hJ => drop (pA n a w hJ))
  · obtain ⟨m, h⟩ := h
    rcases h with ⟨rfl, -⟩ | ⟨rfl, -⟩
    · simp only [if_pos rfl]; exact hA
    · simp only [if_neg (Ne.symm hne)]; exact hB
  · have hn := leastN_ok h
    obtain ⟨N, hN⟩ : ∃ N, (@Classical.epsilon Nat ⟨0⟩ fun n => atAB A B J K l a w n ∧ ∀ m, atAB A B J K l a w m → n ≤ m) = N := ⟨_, rfl⟩
    rw [hN] at hn
    simp only [hN]
    rcases hn with ⟨rfl, hJ⟩ | ⟨rfl, hK⟩
    · simp only [if_pos rfl]
      refine wp_seq (wp_skip (Code.wp_mono (fun e a' w' h => ?_) (pA N a w hJ)))
      cases e <;> first
        | exact h
        | (obtain ⟨m, h1, h2⟩ := h
           exact ⟨⟨m, h2⟩, Nat.lt_of_le_of_lt (leastN_le h2) h1⟩)
    · simp only [if_neg (Ne.symm hne)]
      refine wp_seq (wp_skip (Code.wp_mono (fun e a' w' h => ?_) (passB N a w hK)))
      cases e <;> first
        | exact h
        | (obtain ⟨m, h1, h2⟩ := h
           exact ⟨⟨m, h2⟩, Nat.lt_of_le_of_lt (leastN_le h2) h1⟩)

/-- One label, the measure a number of one's own. -/
theorem scope_one_g {P : Program} {a : Act} {w : World} {Q : Exit → Act → World → Prop} {c X : Code} (A : Nat) (J : Nat → Act → World → Prop) (hA : findLabel c A = some (.seq .skip X))
    (pass : ∀ n a w, J n a w → X.wp P (jumpF (fun l a' w' => l = A ∧ ∃ m, m < n ∧ J m a' w') Q) a w)
    (first : (∀ n a w, J n a w → X.wp P (jumpF (fun l a' w' => l = A ∧ ∃ m, J m a' w') Q) a w) → c.wp P (jumpF (fun l a' w' => l = A ∧ ∃ m, J m a' w') Q) a w) : (Code.scope c).wp P Q a w := by
  have drop : ∀ {n : Nat} {C : Code} {a : Act} {w : World}, C.wp P (jumpF (fun l a' w' => l = A ∧ ∃ m, m < n ∧ J m a' w') Q) a w → C.wp P (jumpF (fun l a' w' => l = A ∧ ∃ m, J m a' w') Q) a w := fun h =>
    Code.wp_mono (fun e a' w' h => by
      cases e <;> first
        | exact h
        | (obtain ⟨h0, k, h1, h2⟩ := h
           exact ⟨h0, k, h2⟩)) h
  refine wp_scope_many (fun l a w => l = A ∧ ∃ m, J m a w) (fun l a w => @Classical.epsilon Nat ⟨0⟩ fun n => J n a w ∧ ∀ m, J m a w → n ≤ m) (fun l => .seq .skip X) (fun l a w h => ?_) (fun l a w h => ?_) (first fun n a w hJ => drop (pass n a w hJ))
  · obtain ⟨rfl, -⟩ := h
    exact hA
  · obtain ⟨rfl, h⟩ := h
    have hn := leastN_ok (G := fun n => J n a w) h
    obtain ⟨N, hN⟩ : ∃ N, (@Classical.epsilon Nat ⟨0⟩ fun n => J n a w ∧ ∀ m, J m a w → n ≤ m) = N := ⟨_, rfl⟩
    simp only [hN] at hn ⊢
    refine wp_seq (wp_skip (Code.wp_mono (fun e a' w' h => ?_) (pass N a w hn)))
    cases e <;> first
      | exact h
      | (obtain ⟨h0, m, h1, h2⟩ := h
         exact ⟨⟨h0, m, h2⟩, Nat.lt_of_le_of_lt (leastN_le (G := fun n => J n a' w') h2) h1⟩)

end Go.Proofs.Ytaneblecgjahbab.spl

namespace Go.Proofs.Ytaneblecgjahbab.ere
open Go.RowKit Go.Proofs.Ytaneblecgjahbab.sum Go.Proofs.Ytaneblecgjahbab.kept Go.Proofs.Ytaneblecgjahbab.pop Go.Proofs.Ytaneblecgjahbab.cls Go.Proofs.Ytaneblecgjahbab.tre Go.Proofs.Ytaneblecgjahbab.str
set_option linter.unusedVariables false

abbrev Bd (b : Nat) (bs : List Value) (w : World) : Prop := Lib.BuilderAt 92 5 b b (.pointer (some ⟨b, 0, none⟩)) bs w
theorem infoU8 : (Try.prog.info? 5).map (fun i => (i.zero, i.size, i.bytes)) = some (some (.int .u8 0), 1, 1) := by kernel_rfl
theorem wpList_append_run {P : Program} {ops : Array Oper} {rest : List Oper} {o : Oper} {a : Act} {Q : Exit → Act → World → Prop} {w w1 : World} {v1 : Value} (hgd : o.guard = none) (s x : Operand) (t u : TypeId)
    (ho : o.op = .call { callee := .builtin .append, args := #[s, x], argTypes := #[t, u] }) (hr : (Builtin.append_ #[t, u] o.type #[a.eval s, a.eval x]).run P w = .ok v1 w1) (h : wpList P ops Q rest (a.put o.dst v1) w1) :
    wpList P ops Q (o :: rest) a w := by
  refine wpList_plain hgd fun K hK => ?_
  unfold Oper.wp execOp
  simp only [ho, resolve, invoke, builtin, Sem.run_bind, Sem.run_pure, Result.andThen_ok, List.map_toArray, List.map_cons, List.map_nil, hr]
  exact hK _ _ h
theorem kp_below {B : Nat} {w w' : World} (h : Below B w w') : Kp (fun k => B ≤ k) w w' := ⟨h.os, h.tape, h.output, h.size, fun k hk hn => h.block k (Nat.lt_of_not_le hn)⟩

set_option maxRecDepth 100000 in
theorem copy_used (b : Nat) (w : World) (h0 : w.cell? ⟨b, 0, none⟩ = some (.pointer (some ⟨b, 0, none⟩))) :
    Calls Try.prog 60 #[.pointer (some ⟨b, 0, none⟩)] w fun e w' => e = .returned (.tuple #[]) ∧ w' = w := by
  obtain ⟨j, hj⟩ : ∃ j, Try.prog.info? 92 = some j := ⟨_, rfl⟩
  have hs : ∀ W, (binOp .neq 90 (.pointer (some ⟨b, 0, none⟩)) (.pointer (some ⟨b, 0, none⟩))).run Try.prog W = .ok (.bool false) W := fun W => Lib.run_neq_ptr_same W _ Try.underlying90 hj
  go_enter Try.func60, Try.ntmps60
  go_wp2
  go_end0
  exact ⟨rfl, rfl⟩

set_option maxRecDepth 100000 in
set_option maxHeartbeats 1000000 in
theorem wbyte_any (b : Nat) (bs : List Value) (c : Int) (w : World) (h : Bd b bs w) (hlen : bs.length ≤ 1000000000000) :
    Calls Try.prog 62 #[.pointer (some ⟨b, 0, none⟩), .int .u8 c] w fun e w' => e = .returned .nilIface ∧ Bd b (bs ++ [.int .u8 c]) w' ∧ Kp (fun k => b ≤ k) w w' := by
  obtain ⟨i0, hi, hz0, hz1, hz2⟩ := info_parts infoU8
  have hlt := h.lt
  have hcc := copy_used b w h.cell0
  have HCc := Hid_mk hcc
  obtain ⟨hB, v, hbk, hown, hne⟩ := h
  have c1 : w.cell? ⟨b, 1, none⟩ = some v := by rw [Lib.cell_of_heap hbk]; rfl
  have hown1 : (w.alloc (.cells #[.int .u8 c] 5)).ownsRow b 5 1 v bs.length bs := hown.alloc _
  obtain ⟨v', w2, hr, ho, hg, -, hloc⟩ := run_append_own_at (P := Try.prog) (w.alloc (.cells #[.int .u8 c] 5)) b 40 40 5 i0 (.int .u8 0) 1 1 Try.underlying40 hi hz0 hz1 hz2 rfl (by decide) v bs.length bs hown1 ⟨w.heap.size, 0, none⟩ 1 1 [.int .u8 c] rfl
    (fun j u hj => by
      match j, hj with
      | 0, hj => simp at hj; subst hj; simp [Addr.add]) (fun u hu => by simp at hu; subst hu; rfl) (by unfold maxLen; omega) (by omega) (by simp; omega)
  have hb2 : w2.heap[b]? = some (.cells #[.pointer (some ⟨b, 0, none⟩), v] 92 (0, 0)) := by
    rw [hg.block b (by simp; omega) (fun e => hne e.symm), Lib.alloc_old w _ b hlt]
    exact hbk
  have d1 : w2.cell? ⟨b, 1, none⟩ = some v := by rw [Lib.cell_of_heap hb2]; rfl
  have f1 : w2.frozen? ⟨b, 1, none⟩ = false := Lib.frozen_of_heap hb2 1
  have hfin : Bd b (bs ++ [.int .u8 c]) (w2.setCell ⟨b, 1, none⟩ v') := Lib.BuilderAt.put (Nat.le_refl _) hb2 (bs' := bs ++ [.int .u8 c]) (by simpa using ho) (by decide)
  have hkf : Kp (fun k => b ≤ k) w (w2.setCell ⟨b, 1, none⟩ v') := ((((Kp.refl (fun k => b ≤ k) w).alloc _).grown hg fun k _ e => (hown.lt k e).1).setCell (p := ⟨b, 1, none⟩) (fun _ => Nat.le_refl _) _)
  have HF := Hid_mk hfin
  have HKf := Hid_mk hkf
  obtain ⟨g, cap, rfl⟩ : ∃ g cap, v' = .slice (some ⟨g, 0, none⟩) (bs.length + 1) cap := by
    rcases ho.2 with ⟨_, h0⟩ | ⟨g, cap, cur, hv, _⟩
    · omega
    · exact ⟨g, cap, hv⟩
  have hr2 := hr
  clear hcc hown hown1 ho hg hloc hfin hkf hb2 hbk hne hB
  go_enter Try.func62, Try.ntmps62
  go_wp2_with fail
  with_reducible refine HCc.out.mono ?_
  rintro e w1 ⟨rfl, rfl⟩
  go_wp2_with (at_builtin; (refine wpList_append_run rfl _ _ _ _ rfl hr2 ?_))
  go_wp2
  go_ret
  exact ⟨rfl, HF.out, HKf.out⟩

/-- a backslash and three octal digits -/
def octQ (x : Nat) : List UInt8 := [92, (48 + x / 64).toUInt8, (48 + x / 8 % 8).toUInt8, (48 + x % 8).toUInt8]
theorem octQ_cells (x : Nat) (hx : x < 256) : Lib.byteCells (octQ x) = [.int .u8 92, .int .u8 (48 + (x : Int) / 64), .int .u8 (48 + (x : Int) / 8 % 8), .int .u8 (48 + (x : Int) % 8)] := by
  have e1 : (((48 + x / 64).toUInt8).toNat : Int) = 48 + (x : Int) / 64 := by simp; omega
  have e2 : (((48 + x / 8 % 8).toUInt8).toNat : Int) = 48 + (x : Int) / 8 % 8 := by simp; omega
  have e3 : (((48 + x % 8).toUInt8).toNat : Int) = 48 + (x : Int) % 8 := by simp; omega
  unfold octQ Lib.byteCells
  simp only [List.map_cons, List.map_nil]
  rw [e1, e2, e3]
  rfl

set_option maxRecDepth 100000 in
set_option maxHeartbeats 1000000 in
theorem woctal_any (b : Nat) (bs : List Value) (x : Nat) (hx : x < 256) (w : World) (h : Bd b bs w) (hlen : bs.length ≤ 100000000000) :
    Calls Try.prog 43 #[.pointer (some ⟨b, 0, none⟩), .int .u8 (x : Int)] w fun e w' => e = .returned (.tuple #[]) ∧ Bd b (bs ++ Lib.byteCells (octQ x)) w' ∧ Kp (fun k => b ≤ k) w w' := by
  rw [octQ_cells x hx]
  have HW1 := Hid_mk (wbyte_any b bs 92 w h (by omega))
  clear h
  go_enter Try.func43, Try.ntmps43
  go_wp2_with fail
  with_reducible refine HW1.out.mono ?_
  rintro e w1 ⟨rfl, hb1, hk1⟩
  have HW2 := Hid_mk fun c => wbyte_any b _ c w1 hb1 (by simp; omega)
  have HK1 := Hid_mk hk1
  clear hb1 hk1 HW1
  go_wp2_with fail
  with_reducible refine (HW2.out _).mono ?_
  rintro e w2 ⟨rfl, hb2, hk2⟩
  have HW3 := Hid_mk fun c => wbyte_any b _ c w2 hb2 (by simp; omega)
  have HK2 := Hid_mk (HK1.out.trans' hk2)
  clear hb2 hk2 HW2
  go_wp2_with fail
  with_reducible refine (HW3.out _).mono ?_
  rintro e w3 ⟨rfl, hb3, hk3⟩
  have HW4 := Hid_mk fun c => wbyte_any b _ c w3 hb3 (by simp; omega)
  have HK3 := Hid_mk (HK2.out.trans' hk3)
  clear hb3 hk3 HW3
  go_wp2_with fail
  with_reducible refine (HW4.out _).mono ?_
  rintro e w4 ⟨rfl, hb4, hk4⟩
  have HB4 := Hid_mk hb4
  have HK4 := Hid_mk (HK3.out.trans' hk4)
  clear hb4 hk4 HW4
  go_wp2
  go_end0
  refine ⟨rfl, ?_, HK4.out⟩
  have h4 := HB4.out
  simp only [List.append_assoc, List.cons_append, List.nil_append] at h4
  exact h4

def quoteS (l : List UInt8) : List UInt8 := l.flatMap fun x => octQ x.toNat
theorem cells_app (a b : List UInt8) : Lib.byteCells (a ++ b) = Lib.byteCells a ++ Lib.byteCells b := List.map_append
theorem quote_len (l : List UInt8) : (quoteS l).length = 4 * l.length := by
  induction l with
  | nil => rfl
  | cons x l ih =>
    have : quoteS (x :: l) = octQ x.toNat ++ quoteS l := rfl
    rw [this, List.length_append, ih, List.length_cons]
    show 4 + _ = _
    omega
theorem quote_take (l : List UInt8) (k : Nat) (hk : k < l.length) : quoteS (l.take (k + 1)) = quoteS (l.take k) ++ octQ (atB l k) := by
  have e : l.getD k 0 = l[k] := by simp [List.getD, hk]
  unfold atB
  rw [e, List.take_succ_eq_append_getElem hk]
  unfold quoteS
  rw [List.flatMap_append]
  simp
theorem cells_len' (a : List UInt8) : (Lib.byteCells a).length = a.length := List.length_map _
def QuRel (W1 : World) (b : Nat) (l : List UInt8) (i : Value) (wr : World) : Prop := ∃ k : Nat, i = .int .i64 (k : Int) ∧ k ≤ l.length ∧ Bd b (Lib.byteCells (quoteS (l.take k))) wr ∧ Kp (fun z => b ≤ z) W1 wr

set_option maxRecDepth 100000 in
set_option maxHeartbeats 1000000 in
theorem quote_any (w : World) (l : List UInt8) (hl : l.length ≤ 1000000000) : Calls Try.prog 17 #[.string (st l)] w fun e w' => e = .returned (.string (st (quoteS l))) ∧ Kp No w w' := by
  have hsz := st_size l
  obtain ⟨W0, hW0⟩ : ∃ W0, w.alloc (.cells #[.pointer none, .slice none 0 0] 92) = W0 := ⟨_, rfl⟩
  obtain ⟨b, hb⟩ : ∃ b, w.heap.size = b := ⟨_, rfl⟩
  have hblk : W0.heap[b]? = some (.cells #[.pointer none, .slice none 0 0] 92 (0, 0)) := by rw [← hW0, ← hb]; exact heap_alloc_new w _
  have hk0 : Kp No w W0 := by rw [← hW0]; exact (Kp.refl No w).alloc _
  have hsz0 : b ≤ W0.heap.size := by rw [← hb]; exact hk0.size
  have hgr := Try.Builder_Grow_fresh b b (4 * l.length) W0 (Nat.le_refl _) hblk hsz0 (by omega)
  rw [show ((4 * l.length : Nat) : Int) = 4 * (l.length : Int) by push_cast; rfl] at hgr
  have HG := Hid_mk hgr
  have HW0 := Hid_mk hW0
  have HB := Hid_mk hb
  have HK0 := Hid_mk hk0
  have HLn := Hid_mk hl
  have hw4 : IntKind.i64.wrap (4 * (l.length : Int)) = ((4 * l.length : Nat) : Int) := by rw [IntWalk.i64_in _ (by omega)]; push_cast; rfl
  clear hW0 hb hblk hk0 hsz0 hgr
  go_enter Try.func17, Try.ntmps17
  go_wp2_with fail
  rw [HB.out, HW0.out]
  clear HW0
  with_reducible refine HG.out.mono ?_
  rintro e w1 ⟨rfl, hb1, hbl⟩
  have HBd := Hid_mk hb1
  have HK1 := Hid_mk (HK0.out.trans (kp_below hbl) fun i hi h => by have := HB.out; omega)
  clear hb1 hbl HG hw4
  go_wp2
  go_loopw [11] (fun i wr => QuRel w1 b l i wr) (fun i _ => l.length - (intOf i).toNat)
  case atStart => exact ⟨0, rfl, Nat.zero_le _, HBd.out, Kp.refl _ _⟩
  case round =>
    obtain ⟨k, rfl, hk, hbd, hkp⟩ := hrel
    have HBk := Hid_mk hbd
    have HKp := Hid_mk hkp
    have HKl := Hid_mk hk
    have hk0 : (0 : Int) ≤ (k : Int) := Int.natCast_nonneg _
    by_cases hlt : k < l.length
    · have hki : (k : Int) < (l.length : Int) := by omega
      have hg := fun h => st_get l k h
      obtain ⟨x, hx⟩ : ∃ x, (l.getD k 0).toNat = x := ⟨_, rfl⟩
      have hx256 : x < 256 := by rw [← hx]; exact (l.getD k 0).toNat_lt
      rw [hx] at hg
      have hwi : IntKind.i64.wrap ((k : Int) + 1) = (k : Int) + 1 := IntWalk.i64_in _ (by have := HLn.out; omega)
      have hwo := woctal_any b _ x hx256 wr hbd (by rw [cells_len', quote_len, List.length_take]; have := HLn.out; omega)
      rw [← cells_app, show octQ x = octQ (atB l k) by unfold atB; rw [hx], ← quote_take l k hlt] at hwo
      have HWo := Hid_mk hwo
      have HLt := Hid_mk hlt
      clear hbd hkp hk hwo hlt hx
      go_wp2_with fail
      with_reducible refine HWo.out.mono ?_
      rintro e w2 ⟨rfl, hb2, hk2⟩
      have HB2 := Hid_mk hb2
      have HK2 := Hid_mk hk2
      clear hb2 hk2 HWo
      go_wp2
      go_roundw
      case rel => exact ⟨k + 1, by push_cast; rfl, HLt.out, HB2.out, HKp.out.trans' HK2.out⟩
      case measure => have := HLt.out; simp only [intOf]; omega
    · obtain rfl : k = l.length := by omega
      have hki : ¬ ((l.length : Nat) : Int) < (l.length : Int) := by omega
      rw [List.take_length] at hbd
      have hst := Try.Builder_String_any b b (quoteS l) wr (.inr hbd) (by have := hbd.lt; omega)
      have HSt := Hid_mk hst
      clear hbd hkp hk hst hlt
      go_wp2_with fail
      with_reducible refine HSt.out.mono ?_
      rintro e w3 ⟨rfl, hbl⟩
      have HK3 := Hid_mk ((HK1.out.trans HKp.out fun i hi h => by have h : b ≤ i := h; have := HB.out; omega).trans (kp_below hbl) fun i hi h => by have h : b ≤ i := h; have := HB.out; omega)
      clear hbl HSt
      go_wp2
      go_ret
      exact ⟨rfl, HK3.out⟩

end Go.Proofs.Ytaneblecgjahbab.ere
