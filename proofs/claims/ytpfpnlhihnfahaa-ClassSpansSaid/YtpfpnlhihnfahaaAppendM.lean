/- append onto a row of bytes of the call's own: of bytes that are read in whatever slice, of a string; where the row lies behind it. What package pack's Writer and an append of a callee leave: plain facts. bytes.Clone. Bytes as a text. ClassSpans: what Bracket comes to; texts put together. ClassSpans: the law's walk. -/
import Derived.Test.YtpfpnlhihnfahaaBaseM
import Derived.Maps.AppendAt
import Derived.Lib.AppendStr
import Derived.Deep.AppendSrc
import Derived.Laws.IdiomStrings
import Derived.Laws.BytesArg
import Derived.Laws.Pointers
import Derived.Test.YtpfpnlhihnfahaaBracket2M

namespace Go.Proofs.Ytpfpnlhihnfahaa.app
open Go.RowKit Go.Proofs.Ytpfpnlhihnfahaa.sum Go.Proofs.Ytpfpnlhihnfahaa.kept
set_option linter.unusedVariables false

theorem info5 : (Try.prog.info? 5).map (fun i => (i.zero, i.size, i.bytes)) = some (some (.int .u8 0), 1, 1) := by kernel_rfl

/-- what append leaves -/
def App (base : Nat) (w : World) (v : Value) (bs cs : List UInt8) (v' : Value) (w' : World) : Prop :=
  w'.ownsRow base 5 1 v' (bs ++ cs).length ((bs ++ cs).map B) ∧ w.grownBy w' v.ownBlock ∧ (v' = .slice none 0 0 ↔ v = .slice none 0 0 ∧ cs = []) ∧ (v'.ownBlock = v.ownBlock ∨ v'.ownBlock = some w.heap.size)

theorem run_append_zero (w : World) (ty : TypeId) (v : Value) (base n : Nat) (xs : List Value) (hown : w.ownsRow base 5 1 v n xs) (a : Option Addr) (c : Nat) :
    (Builtin.append_ #[34, 34] ty #[v, .slice a 0 c]).run Try.prog w = .ok v w := by
  obtain ⟨i0, hi, hz0, hz1, hz2⟩ := info_parts info5
  have hf : ∀ w : World, (Builtin.firstCells 1 0 (.slice a 0 c)).run Try.prog w = .ok #[] w := by
    intro w
    cases a with
    | none => exact run_firstCells_none w 1 0 0 c
    | some a => exact run_firstCells_some w 1 0 a 0 c [] rfl (fun j u h => by simp at h)
  rcases hown.2 with ⟨rfl, rfl⟩ | ⟨g, cap, cur, rfl, _, hg, h1, _⟩
  · simp [Builtin.append_, run_underlying Try.underlying34, sizeOf, typeInfo, hi, hz1, Builtin.lenOf, hf]
  · simp [Builtin.append_, run_underlying Try.underlying34, sizeOf, typeInfo, hi, hz1, Builtin.lenOf, hf, h1, storeCells]

theorem run_append_bs (w : World) (ty : TypeId) (base : Nat) (v : Value) (bs : List UInt8) (hown : w.ownsRow base 5 1 v bs.length (bs.map B)) (xv : Value) (cs : List UInt8) (hx : Bs w xv cs)
    (hb : bs.length + cs.length ≤ 140737488355328) (hbase : base ≤ w.heap.size) :
    ∃ v' w', (Builtin.append_ #[34, 34] ty #[v, xv]).run Try.prog w = .ok v' w' ∧ App base w v bs cs v' w' := by
  obtain ⟨i0, hi, hz0, hz1, hz2⟩ := info_parts info5
  obtain ⟨a, cap, rfl, h1, h2, h3⟩ := hx
  by_cases hcs : cs = []
  · subst hcs
    refine ⟨v, w, run_append_zero w ty v base _ _ hown a cap, ?_, World.grownBy.refl _ _, by simp, .inl rfl⟩
    simpa using hown
  · obtain ⟨b, o, rfl, hc⟩ := h3 hcs
    have hmx : bs.length + cs.length ≤ maxLen := by unfold maxLen; omega
    obtain ⟨v', w', hr, k1, k2, k3, k4⟩ := run_append_own_at (P := Try.prog) w base 34 ty 5 i0 (.int .u8 0) 1 1 Try.underlying34 hi hz0 hz1 hz2 rfl (by decide) v bs.length _ hown ⟨b, o, none⟩ cs.length cap (cs.map B)
      (by simp) (fun j u hu => by
        rw [addr_add]
        have hj : j < cs.length := by simpa using (List.getElem?_eq_some_iff.1 hu).1
        rw [hc j hj]
        simpa [List.getD, hj] using hu) (fun u hu => by obtain ⟨_, _, rfl⟩ := List.mem_map.1 hu; rfl) hmx (by omega) hbase
    refine ⟨v', w', hr, by simpa using k1, k2, ?_, k4⟩
    rw [k3]
    simp [List.length_eq_zero_iff]

theorem wpList_append_bs (w : World) {ops : Array Oper} {rest : List Oper} {o : Oper} {a : Act} {Q : Exit → Act → World → Prop} (hgd : o.guard = none) (s x : Operand)
    (ho : o.op = .call { callee := .builtin .append, args := #[s, x], argTypes := #[34, 34] })
    (base : Nat) (v : Value) (bs : List UInt8) (hs : a.eval s = v) (hown : w.ownsRow base 5 1 v bs.length (bs.map B)) (xv : Value) (cs : List UInt8) (hx : a.eval x = xv) (hxs : Bs w xv cs)
    (hb : bs.length + cs.length ≤ 140737488355328) (hbase : base ≤ w.heap.size)
    (h : ∀ v' w', App base w v bs cs v' w' → wpList Try.prog ops Q rest (a.put o.dst v') w') :
    wpList Try.prog ops Q (o :: rest) a w := by
  refine wpList_plain hgd fun K hK => ?_
  obtain ⟨v', w', hr, h2⟩ := run_append_bs w o.type base v bs hown xv cs hxs hb hbase
  unfold Oper.wp execOp
  simp only [ho, resolve, invoke, builtin, Sem.run_bind, Sem.run_pure, Result.andThen_ok, List.map_toArray, List.map_cons, List.map_nil, hs, hx, hr]
  exact hK _ _ (h v' w' h2)

theorem strCells_bs (s : ByteArray) : Lib.strCells s = s.data.toList.map B := rfl

theorem run_append_str (w : World) (ty : TypeId) (base : Nat) (v : Value) (bs : List UInt8) (hown : w.ownsRow base 5 1 v bs.length (bs.map B)) (s : ByteArray)
    (hb : bs.length + s.size ≤ 140737488355328) (hbase : base ≤ w.heap.size) :
    ∃ v' w', (Builtin.append_ #[34, 9] ty #[v, .string s]).run Try.prog w = .ok v' w' ∧ App base w v bs s.data.toList v' w' := by
  obtain ⟨i0, hi, hz0, hz1, hz2⟩ := info_parts info5
  have hmx : bs.length + s.size ≤ maxLen := by unfold maxLen; omega
  obtain ⟨v', w', hr, k1, k2, k3⟩ := Lib.run_append_own_string (P := Try.prog) w base 34 9 ty 5 i0 Try.underlying34 Try.underlying9 hi hz0 hz1 hz2 v bs.length _ hown s hmx hb hbase
  have hsz : s.data.toList.length = s.size := by rw [Array.length_toList]; rfl
  refine ⟨v', w', hr, ?_, k2, ?_, ?_⟩
  · rw [List.length_append, hsz, List.map_append, ← strCells_bs]; exact k1
  · rw [k3]
    constructor
    · rintro ⟨h1, h2⟩; exact ⟨h1, List.eq_nil_of_length_eq_zero (by omega)⟩
    · rintro ⟨h1, h2⟩; rw [h2] at hsz; exact ⟨h1, by simpa using hsz.symm⟩
  · have hS : Src Try.prog i0.size 9 (.string s) s.size (Go.byteCells s) w := by rw [hz1]; exact Src.ofString w Try.underlying9 s
    have hsl : (Go.byteCells s).length = s.size := byteCells_length s
    rcases hown.2 with ⟨rfl, h0⟩ | ⟨g, cap, cur, rfl, _, hg, r1, r2, r3, r4⟩
    · by_cases hs0 : s.size = 0
      · left; rw [k3.2 ⟨rfl, hs0⟩]
      · have hgr := run_append_grow_src (P := Try.prog) w 34 9 ty 5 i0 (.int .u8 0) Try.underlying34 hi hz0 none 0 0 [] (run_firstCells_none w.drew i0.size 0 0 0) (.string s) s.size _ hS (by omega) (by omega)
          (by rw [hz2]; exact growslice_fits (by omega) (by omega))
        rw [hgr] at hr
        injection hr with e1 e2
        right; rw [← e1]; rfl
    · by_cases hroom : bs.length + s.size ≤ cap
      · have hrm := run_append_room_src (P := Try.prog) w 34 9 ty 5 i0 Try.underlying34 hi g 0 bs.length cap (.string s) s.size _ hS hroom
          (by
            intro j hj
            rw [hz1, cell_of_row w g _ cur _ (0, 0) hg]
            have hlt : 0 + bs.length * 1 + j < cur.size := by omega
            simp; omega)
          (by
            intro j hj
            rw [hz1]
            simp [World.frozen?, hg])
        rw [hrm] at hr
        injection hr with e1 e2
        left; rw [← e1]; rfl
      · have holds : ∀ j u, (bs.map B)[j]? = some u → w.drew.cell? ((⟨g, 0, none⟩ : Addr).add j) = some u := hown.cells (g := g) rfl
        have hgr := run_append_grow_src (P := Try.prog) w 34 9 ty 5 i0 (.int .u8 0) Try.underlying34 hi hz0 (some ⟨g, 0, none⟩) bs.length cap (bs.map B)
          (run_firstCells_some w.drew i0.size bs.length ⟨g, 0, none⟩ bs.length cap _ (by rw [hz1]; simp) holds) (.string s) s.size _ hS (by omega) (by omega) (by rw [hz2]; exact growslice_fits (by omega) (by omega))
        rw [hgr] at hr
        injection hr with e1 e2
        right; rw [← e1]; rfl

theorem wpList_append_str (w : World) {ops : Array Oper} {rest : List Oper} {o : Oper} {a : Act} {Q : Exit → Act → World → Prop} (hgd : o.guard = none) (sl x : Operand)
    (ho : o.op = .call { callee := .builtin .append, args := #[sl, x], argTypes := #[34, 9] })
    (base : Nat) (v : Value) (bs : List UInt8) (hs : a.eval sl = v) (hown : w.ownsRow base 5 1 v bs.length (bs.map B)) (s : ByteArray) (hx : a.eval x = .string s)
    (hb : bs.length + s.size ≤ 140737488355328) (hbase : base ≤ w.heap.size)
    (h : ∀ v' w', App base w v bs s.data.toList v' w' → wpList Try.prog ops Q rest (a.put o.dst v') w') :
    wpList Try.prog ops Q (o :: rest) a w := by
  refine wpList_plain hgd fun K hK => ?_
  obtain ⟨v', w', hr, h2⟩ := run_append_str w o.type base v bs hown s hb hbase
  unfold Oper.wp execOp
  simp only [ho, resolve, invoke, builtin, Sem.run_bind, Sem.run_pure, Result.andThen_ok, List.map_toArray, List.map_cons, List.map_nil, hs, hx, hr]
  exact hK _ _ (h v' w' h2)

end Go.Proofs.Ytpfpnlhihnfahaa.app

namespace Go.Proofs.Ytpfpnlhihnfahaa.writer
open Go.RowKit Go.Proofs.Ytpfpnlhihnfahaa.sum Go.Proofs.Ytpfpnlhihnfahaa.kept Go.Proofs.Ytpfpnlhihnfahaa.app
set_option linter.unusedVariables false

theorem getD_lt {bs : List UInt8} {k : Nat} (h : k < bs.length) : bs.getD k 0 = bs[k] := by simp [List.getD, h]

/-- a literal of one byte, as laid by the call -/
theorem bs_one (w : World) (x : UInt8) : Bs (w.alloc (.cells #[.int .u8 (x.toNat : Int)] 5)) (.slice (some ⟨w.heap.size, 0, none⟩) 1 1) [x] := by
  refine ⟨_, 1, rfl, Nat.le_refl _, by decide, fun _ => ⟨_, _, rfl, fun k hk => ?_⟩⟩
  simp only [List.length_singleton] at hk
  obtain rfl : k = 0 := by omega
  simp [B]

theorem app_kept {S : Nat → Prop} {base : Nat} {w w1 : World} {o : Obj} {v v' : Value} {bs cs : List UInt8} (h : App base (w.alloc o) v bs cs v' w1) (hs : ∀ k, k < w.heap.size → v.ownBlock = some k → S k) : Kp S w w1 :=
  ((Kp.refl _ w).alloc _).grown h.2.1 fun k hk e => hs k hk e
theorem app_kept0 {S : Nat → Prop} {base : Nat} {w w1 : World} {v v' : Value} {bs cs : List UInt8} (h : App base w v bs cs v' w1) (hs : ∀ k, k < w.heap.size → v.ownBlock = some k → S k) : Kp S w w1 :=
  (Kp.refl _ w).grown h.2.1 fun k hk e => hs k hk e
theorem app_fresh {base : Nat} {w w1 : World} {o : Obj} {v v' : Value} {bs cs : List UInt8} (h : App base (w.alloc o) v bs cs v' w1) : v'.ownBlock = v.ownBlock ∨ ∀ g, v'.ownBlock = some g → w.heap.size ≤ g := by
  rcases h.2.2.2 with h | h
  · exact .inl h
  · right; intro g hg; rw [h] at hg; simp at hg; omega
theorem app_fresh0 {base : Nat} {w w1 : World} {v v' : Value} {bs cs : List UInt8} (h : App base w v bs cs v' w1) : v'.ownBlock = v.ownBlock ∨ ∀ g, v'.ownBlock = some g → w.heap.size ≤ g := by
  rcases h.2.2.2 with h | h
  · exact .inl h
  · right; intro g hg; rw [h] at hg; simp at hg; omega

/-- the Writer's one cell behind the append, and the store into it -/
theorem wr_store {base p : Nat} {w w1 : World} {v v' : Value} {bs cs : List UInt8} (h : Wr base w p v bs) (hb : base ≤ w1.heap.size) (hw : w1.ownsRow base 5 1 v' (bs ++ cs).length ((bs ++ cs).map B)) (hk : Kp (fun k => some k = v.ownBlock) w w1)
    (hf : v'.ownBlock = v.ownBlock ∨ ∀ g, v'.ownBlock = some g → w.heap.size ≤ g) :
    WrPost base p v (bs ++ cs) w (.returned (.tuple #[])) (w1.setCell ⟨p, 0, none⟩ v') := by
  have hp := World.block_lt_of_cell? w _ h.cell
  simp only at hp
  have hc1 : w1.cell? ⟨p, 0, none⟩ = some v := hk.cell' h.cell (fun e => h.apart e.symm)
  have hf1 : w1.frozen? ⟨p, 0, none⟩ = false := (hk.frozen hp (fun e => h.apart e.symm)).trans h.warm
  have hap : v'.ownBlock ≠ some p := by
    rcases hf with e | e
    · rw [e]; exact h.apart
    · intro e2; have := e p e2; omega
  have hk2 : Kp (fun k => k = p) w1 (w1.setCell ⟨p, 0, none⟩ v') := (Kp.refl (fun k => k = p) _).setCell (fun _ => rfl) _
  refine ⟨rfl, v', ⟨World.cell?_setCell_same w1 _ v' hc1, ?_, owns_kept hw hk2 ?_, hap, ?_⟩, ?_, hf⟩
  · rw [World.frozen?_setCell]; exact hf1
  · rintro k e rfl; exact hap e
  · simp [World.setCell]; exact hb
  · exact (hk.mono (fun k _ e => Or.inr e)).trans hk2 (fun i _ e => Or.inl e)

theorem WrPost.refl {base p : Nat} {w : World} {v : Value} {bs : List UInt8} (h : Wr base w p v bs) : WrPost base p v bs w (.returned (.tuple #[])) w := ⟨rfl, v, h, Kp.refl _ _, .inl rfl⟩

/-- A Writer call behind another. -/
theorem wr_join {base p : Nat} {w w1 w2 : World} {v v1 : Value} {bs cs : List UInt8} {e : Ending} (h : WrAt base p v bs w v1 w1) (k : WrPost base p v1 cs w1 e w2) : WrPost base p v cs w e w2 := by
  obtain ⟨h1, h2, h3⟩ := h
  obtain ⟨rfl, v2, k1, k2, k3⟩ := k
  refine ⟨rfl, v2, k1, h2.trans k2 ?_, ?_⟩
  · rintro i hi (e | e)
    · exact .inl e
    · rcases h3 with h3 | h3
      · right; rw [← h3]; exact e
      · have := h3 i e.symm; omega
  · rcases k3 with k3 | k3
    · rw [k3]
      rcases h3 with h3 | h3
      · exact .inl h3
      · exact .inr h3
    · right; intro g hg; have := k3 g hg; have := h2.size; omega

/-- how many numbers a uint64 has: behind a name, for the walk's sake -/
def U64 : Nat := 18446744073709551616
theorem u64_eq : U64 = 18446744073709551616 := rfl

/-- a number's bytes -/
def num (n : Nat) : List UInt8 := if h : n < 128 then [n.toUInt8] else (n % 128 + 128).toUInt8 :: num (n / 128)
termination_by n
decreasing_by omega

theorem num_small {n : Nat} (h : n < 128) : num n = [n.toUInt8] := by rw [num]; simp [h]
theorem num_big {n : Nat} (h : ¬ n < 128) : num n = (n % 128 + 128).toUInt8 :: num (n / 128) := by rw [num]; simp [h]
theorem num_len (n k : Nat) (hk : n < 128 ^ k) (h1 : 0 < k) : (num n).length ≤ k := by
  induction k generalizing n with
  | zero => omega
  | succ k ih =>
    by_cases h : n < 128
    · rw [num_small h]; simp
    · rw [num_big h]
      have h2 : n / 128 < 128 ^ k := by rw [Nat.pow_succ] at hk; omega
      have hk0 : 0 < k := by
        rcases Nat.eq_zero_or_pos k with rfl | h3
        · simp at h2; omega
        · exact h3
      have := ih (n / 128) h2 hk0
      simp; omega

theorem or128_fin : ∀ k : Fin 256, bits .or .u8 ((k.val : Nat) : Int) 128 = ((k.val % 128 + 128 : Nat) : Int) := by decide +kernel
theorem or128 (m : Nat) : bits .or .u8 ((m : Int) % 256) 128 = ((m % 128 + 128 : Nat) : Int) := by
  have h := or128_fin ⟨m % 256, by omega⟩
  simp only at h
  rw [show ((m : Int) % 256) = ((m % 256 : Nat) : Int) by omega, h]
  congr 1
  omega

def NumRel (base p : Nat) (v : Value) (bs : List UInt8) (n : Nat) (w : World) (t : Value) (wr : World) : Prop :=
  ∃ (m : Nat) (pre : List UInt8), t = .int .u64 m ∧ m < U64 ∧ pre ++ num m = num n ∧ WrPost base p v (bs ++ pre) w (.returned (.tuple #[])) wr

end Go.Proofs.Ytpfpnlhihnfahaa.writer

namespace Go.Proofs.Ytpfpnlhihnfahaa.clone
open Go.RowKit Go.Proofs.Ytpfpnlhihnfahaa.sum Go.Proofs.Ytpfpnlhihnfahaa.kept Go.Proofs.Ytpfpnlhihnfahaa.app Go.Proofs.Ytpfpnlhihnfahaa.writer
set_option linter.unusedVariables false

/-- A new row of these bytes, in new memory. -/
def NewBs (w : World) (bs : List UInt8) (e : Ending) (w' : World) : Prop :=
  ∃ v', e = .returned v' ∧ w'.ownsRow w.heap.size 5 1 v' bs.length (bs.map B) ∧ Kp No w w'

end Go.Proofs.Ytpfpnlhihnfahaa.clone

namespace Go.Proofs.Ytpfpnlhihnfahaa.known
open Go.RowKit Go.Proofs.Ytpfpnlhihnfahaa.sum Go.Proofs.Ytpfpnlhihnfahaa.kept Go.Proofs.Ytpfpnlhihnfahaa.app Go.Proofs.Ytpfpnlhihnfahaa.writer Go.Proofs.Ytpfpnlhihnfahaa.clone
set_option linter.unusedVariables false

/-- bytes as a text -/
theorem conv_bs {w : World} {v : Value} {bs : List UInt8} (h : Bs w v bs) : (convert 34 9 v).run Try.prog w = .ok (.string ⟨bs.toArray⟩) w := by
  obtain ⟨a, cap, rfl, h1, h2, h3⟩ := h
  by_cases hbs : bs = []
  · subst hbs
    cases a with
    | none => exact run_convert_bytes_nil w 34 5 Try.underlying34 Try.underlying5 _ _ _ Try.underlying9
    | some ad => exact run_convert_bytes_back w 34 9 5 ad cap [] Try.underlying34 Try.underlying5 Try.underlying9 (fun j hj => by simp at hj)
  · obtain ⟨b, o, rfl, hc⟩ := h3 hbs
    refine run_convert_bytes_back w 34 9 5 ⟨b, o, none⟩ cap bs Try.underlying34 Try.underlying5 Try.underlying9 (fun j hj => ?_)
    rw [addr_add, hc j hj]
    simp [B, List.getD, hj]

/-- a literal of bytes, as laid by the call -/
theorem bs_lit (w : World) (bs : List UInt8) (fr : Nat × Nat) (hl : bs.length ≤ maxLen) : Bs (w.alloc (.cells (bs.map B).toArray 5 fr)) (.slice (some ⟨w.heap.size, 0, none⟩) bs.length bs.length) bs := by
  refine ⟨_, _, rfl, Nat.le_refl _, hl, fun _ => ⟨_, _, rfl, fun k hk => ?_⟩⟩
  rw [World.cell?_alloc_mark]
  simp [List.getD, hk]

end Go.Proofs.Ytpfpnlhihnfahaa.known

namespace Go.Proofs.Ytpfpnlhihnfahaa.cls
open Go.RowKit Go.Proofs.Ytpfpnlhihnfahaa.sum Go.Proofs.Ytpfpnlhihnfahaa.kept Go.Proofs.Ytpfpnlhihnfahaa.pop Go.Proofs.Ytpfpnlhihnfahaa.str
set_option linter.unusedVariables false

section
variable {A Z C : UInt8} (h1 : 65 ≤ A.toNat) (h2 : A.toNat ≤ Z.toNat) (h3 : Z.toNat ≤ 89) (h4 : 48 ≤ C.toNat) (h5 : C.toNat ≤ 57)
include h1 h2 h3 h4 h5

theorem spans_ne : (91 == A) = false ∧ (91 == Z) = false ∧ (91 == C) = false ∧ (Z.toNat == 93) = false := by
  refine ⟨?_, ?_, ?_, ?_⟩
  · rw [beq_eq_false_iff_ne]; rintro rfl; revert h1 h2 h3; simp; omega
  · rw [beq_eq_false_iff_ne]; rintro rfl; revert h3; decide
  · rw [beq_eq_false_iff_ne]; rintro rfl; revert h5; decide
  · simp; omega
theorem spans_br : brS (itemS [A, 45, Z, C, 93]) [A, 45, Z, C, 93] 0 6 0 nul = some (fun x => spn A.toNat Z.toNat x || ofL [C] x, 5) := by
  obtain ⟨e1, e2, e3, e4⟩ := spans_ne h1 h2 h3 h4 h5
  have i0 : itemS [A, 45, Z, C, 93] 0 = some (spn A.toNat Z.toNat, 3) := by
    unfold itemS namesB rangesB
    simp [Lib.hasPrefix, List.isPrefixOf, e1, e2, e4, h2]
  have i3 : itemS [A, 45, Z, C, 93] 3 = some (ofL [C], 4) := by
    unfold itemS namesB rangesB
    simp [Lib.hasPrefix, List.isPrefixOf, e3]
  rw [brS_step (by simp) (Or.inr rfl) i0, brS_step (by simp) (Or.inl (by simp; omega)) i3, brS_end (by simp) (by simp) (by omega)]
  rfl
theorem spans_br2 : brS (itemS [94, A, 45, Z, C, 93]) [94, A, 45, Z, C, 93] 1 7 1 nul = some (fun x => spn A.toNat Z.toNat x || ofL [C] x, 6) := by
  obtain ⟨e1, e2, e3, e4⟩ := spans_ne h1 h2 h3 h4 h5
  have i0 : itemS [94, A, 45, Z, C, 93] 1 = some (spn A.toNat Z.toNat, 4) := by
    unfold itemS namesB rangesB
    simp [Lib.hasPrefix, List.isPrefixOf, e1, e2, e4, h2]
  have i3 : itemS [94, A, 45, Z, C, 93] 4 = some (ofL [C], 5) := by
    unfold itemS namesB rangesB
    simp [Lib.hasPrefix, List.isPrefixOf, e3]
  rw [brS_step (by simp) (Or.inr rfl) i0, brS_step (by simp) (Or.inl (by simp; omega)) i3, brS_end (by simp) (by simp) (by omega)]
  rfl
theorem spans_92 : ∀ k, k < [A, 45, Z, C, 93].length → ([A, 45, Z, C, 93].getD k 0).toNat ≠ 92 := by
  have _h := h1
  intro k hk
  have : k = 0 ∨ k = 1 ∨ k = 2 ∨ k = 3 ∨ k = 4 := by simp at hk; omega
  rcases this with rfl | rfl | rfl | rfl | rfl <;> simp <;> omega
theorem spans_92b : ∀ k, k < [94, A, 45, Z, C, 93].length → ([94, A, 45, Z, C, 93].getD k 0).toNat ≠ 92 := by
  have _h := h1
  intro k hk
  have : k = 0 ∨ k = 1 ∨ k = 2 ∨ k = 3 ∨ k = 4 ∨ k = 5 := by simp at hk; omega
  rcases this with rfl | rfl | rfl | rfl | rfl | rfl <;> simp <;> omega
theorem spans_a (w : World) (hm : Mx w) : Calls Try.prog 8 #[.string (st [A, 45, Z, C, 93]), .int .i64 0] w fun e w' => e = .returned (.tuple #[sv (fun x => spn A.toNat Z.toNat x || ofL [C] x), .int .i64 5, .bool true]) ∧ Kp No w w' := by
  have e1 := (spans_ne h1 h2 h3 h4 h5).1
  refine (bracket_l w [A, 45, Z, C, 93] _ rfl false _ (spans_92 h1 h2 h3 h4 h5) (by simp) hm ?_ (spans_br h1 h2 h3 h4 h5)).mono ?_
  · have : (94 == A) = false := by rw [beq_eq_false_iff_ne]; rintro rfl; revert h2 h3; simp; omega
    simp [Lib.hasPrefix, List.isPrefixOf, this]
  · rintro e w' ⟨rfl, hk⟩
    exact ⟨rfl, hk⟩
theorem spans_b (w : World) (hm : Mx w) : Calls Try.prog 8 #[.string (st [94, A, 45, Z, C, 93]), .int .i64 0] w fun e w' => e = .returned (.tuple #[sv (fun x => !(spn A.toNat Z.toNat x || ofL [C] x)), .int .i64 6, .bool true]) ∧ Kp No w w' := by
  refine (bracket_l w [94, A, 45, Z, C, 93] _ rfl true _ (spans_92b h1 h2 h3 h4 h5) (by simp) hm (by simp [Lib.hasPrefix, List.isPrefixOf]) (spans_br2 h1 h2 h3 h4 h5)).mono ?_
  rintro e w' ⟨rfl, hk⟩
  exact ⟨rfl, hk⟩
end

theorem st_app (a b : List UInt8) : st a ++ st b = st (a ++ b) := by
  apply ByteArray.ext
  simp [st]
theorem st_add (a b : List UInt8) (h : a.length + b.length ≤ 1000000000) (W : World) : (Op.stringOp .add (st a) (st b)).run Try.prog W = .ok (.string (st (a ++ b))) W := by
  rw [← st_app]
  refine run_string_add_sum (P := Try.prog) (w := W) _ _ ?_
  rw [st_size, st_size]
  omega
theorem bs_l5 (w : World) (a b c d e : UInt8) (x y z u v : Int) (hx : x = (a.toNat : Int)) (hy : y = (b.toNat : Int)) (hz : z = (c.toNat : Int)) (hu : u = (d.toNat : Int)) (hv : v = (e.toNat : Int)) :
    Bs (w.alloc (.cells #[.int .u8 x, .int .u8 y, .int .u8 z, .int .u8 u, .int .u8 v] 5)) (.slice (some ⟨w.heap.size, 0, none⟩) 5 5) [a, b, c, d, e] := by
  subst hx hy hz hu hv
  exact ⟨_, 5, rfl, Nat.le_refl _, by decide, fun _ => ⟨_, 0, rfl, fun k hk => by
    have : k = 0 ∨ k = 1 ∨ k = 2 ∨ k = 3 ∨ k = 4 := by simp at hk; omega
    rcases this with rfl | rfl | rfl | rfl | rfl <;> simp [B]⟩⟩

end Go.Proofs.Ytpfpnlhihnfahaa.cls

namespace Go.Proofs.Ytpfpnlhihnfahaa.cls
open Go.RowKit Go.Proofs.Ytpfpnlhihnfahaa.sum Go.Proofs.Ytpfpnlhihnfahaa.kept Go.Proofs.Ytpfpnlhihnfahaa.pop Go.Proofs.Ytpfpnlhihnfahaa.str Go.Proofs.Ytpfpnlhihnfahaa.known
set_option linter.unusedVariables false

theorem u8_ex (n : Nat) (h : n < 256) : ∃ x : UInt8, x.toNat = n := ⟨n.toUInt8, by simp [Nat.toUInt8]; omega⟩

set_option maxRecDepth 100000 in
set_option maxHeartbeats 1000000 in
theorem classSpans_any (w : World) (a z c : Nat) (ha : a < 256) (hz : z < 256) (hc : c < 256) (hm : Mx w) :
    Calls Try.prog 6 #[.int .u8 (a : Int), .int .u8 (z : Int), .int .u8 (c : Int)] w fun e w' => e = .returned (.bool true) ∧ Kp No w w' := by
  obtain ⟨A, hA⟩ := u8_ex (65 + a % 20) (by omega)
  obtain ⟨Z, hZ⟩ := u8_ex (65 + a % 20 + z % 6) (by omega)
  obtain ⟨C, hC⟩ := u8_ex (48 + c % 10) (by omega)
  have h1 : 65 ≤ A.toNat := by omega
  have h2 : A.toNat ≤ Z.toNat := by omega
  have h3 : Z.toNat ≤ 89 := by omega
  have h4 : 48 ≤ C.toNat := by omega
  have h5 : C.toNat ≤ 57 := by omega
  have HBa := Hid_mk fun W (h : Mx W) => spans_a h1 h2 h3 h4 h5 W h
  have HBb := Hid_mk fun W (h : Mx W) => spans_b h1 h2 h3 h4 h5 W h
  obtain ⟨x, hx⟩ : ∃ x, A.toNat = x := ⟨_, rfl⟩
  obtain ⟨y, hy⟩ : ∃ y, Z.toNat = y := ⟨_, rfl⟩
  obtain ⟨u, hu⟩ : ∃ u, C.toNat = u := ⟨_, rfl⟩
  have HB5 := Hid_mk fun W => conv_bs (bs_l5 W A 45 Z C 93 x 45 y u 93 (by rw [hx]) rfl (by rw [hy]) (by rw [hu]) rfl)
  have HB1 := Hid_mk fun W => bs_l1 W C u (by rw [hu])
  have hAi : (65 : Int) + (a : Int) % 20 = (x : Int) := by omega
  have hZi : (x : Int) + (z : Int) % 6 = (y : Int) := by omega
  have hCi : (48 : Int) + (c : Int) % 10 = (u : Int) := by omega
  have hx8 : x < 256 := by omega
  have hy8 : y < 256 := by omega
  have hwx : IntKind.u8.wrap (x : Int) = (x : Int) := by rw [IntKind.wrap_u8]; omega
  have hwy : IntKind.u8.wrap (y : Int) = (y : Int) := by rw [IntKind.wrap_u8]; omega
  have hwu : IntKind.u8.wrap (u : Int) = (u : Int) := by rw [IntKind.wrap_u8]; omega
  obtain ⟨G, hG⟩ : ∃ G : Nat → Bool, (fun b => spn A.toNat Z.toNat b || ofL [C] b) = G := ⟨_, rfl⟩
  have hG2 : (fun b => !(spn A.toNat Z.toNat b || ofL [C] b)) = fun b => !G b := by rw [← hG]
  rw [hG] at HBa
  rw [hG2] at HBb
  have HSp := Hid_mk fun W => span_any W x y hx8 hy8
  have HOr := Hid_mk fun W => or_any W (spn x y) (ofL [C])
  rw [hx, hy] at hG
  rw [hG] at HOr
  have HM := Hid_mk hm
  have e5 : (⟨[A, 45, Z, C, 93].toArray⟩ : ByteArray) = st [A, 45, Z, C, 93] := rfl
  rw [e5] at HB5
  have hcv := HB5.out w
  have hadd := fun W => st_add [94] [A, 45, Z, C, 93] (by simp) W
  have e6 : st [94] = ⟨#[94]⟩ := rfl
  rw [e6] at hadd
  simp only [List.cons_append, List.nil_append] at hadd
  generalize st [A, 45, Z, C, 93] = S5 at *
  generalize st [94, A, 45, Z, C, 93] = S6 at *
  clear hA hZ hC h1 h2 h3 h4 h5 hx hy hu hG hG2 e5 e6 hm ha hz hc HB5
  go_enter Try.func6, Try.ntmps6
  go_wp2_with fail
  with_reducible refine (HBa.out _ (HM.out.no ((Kp.refl No w).alloc _))).mono ?_
  rintro e w1 ⟨rfl, k1⟩
  obtain ⟨q1, W1, hq1, hW1, hs1, hk1, hkk1⟩ := made_any (((Kp.refl No w).alloc (.cells #[.int .u8 (x : Int), .int .u8 45, .int .u8 (y : Int), .int .u8 (u : Int), .int .u8 93] 5)).trans' k1) G
  have HQ1 := Hid_mk hq1
  have HW1 := Hid_mk hW1
  have HS1 := Hid_mk hs1
  have HK1 := Hid_mk hk1
  clear k1 hq1 hW1 hs1 hk1 hkk1
  go_wp2_with fail
  rw [HW1.out]
  rw [HQ1.out]
  with_reducible refine (HBb.out _ (HM.out.no HK1.out)).mono ?_
  rintro e w2 ⟨rfl, k2⟩
  obtain ⟨q2, W2, hq2, hW2, hs2, hk2, hkk2⟩ := made_any (HK1.out.trans' k2) (fun b => !G b)
  have HQ2 := Hid_mk hq2
  have HW2 := Hid_mk hW2
  have HSd := Hid_mk ((HS1.out.kept (k2.trans' hkk2) id).kept ((Kp.refl No W2).drew) id)
  have HTd := Hid_mk (hs2.kept ((Kp.refl No W2).drew) id)
  have HKd := Hid_mk (hk2.drew)
  clear k2 hq2 hW2 hs2 hk2 hkk2 HS1 HK1 HBa HBb
  go_wp2_with fail
  rw [HW2.out]
  rw [HQ2.out]
  clear HW1 HQ1 HW2 HQ2
  have hkeep : ∀ W, SetAt W q1 G → SetAt W q2 (fun b => !G b) → (W.cell? ⟨q1, 0, none⟩ = some (.int .u64 (wd G 0 64 : Nat)) ∧ W.cell? ⟨q1, 1, none⟩ = some (.int .u64 (wd G 64 64 : Nat)) ∧ W.cell? ⟨q1, 2, none⟩ = some (.int .u64 (wd G 128 64 : Nat)) ∧ W.cell? ⟨q1, 3, none⟩ = some (.int .u64 (wd G 192 64 : Nat)) ∧ W.cell? ⟨q2, 0, none⟩ = some (.int .u64 (wd (fun b => !G b) 0 64 : Nat)) ∧ W.cell? ⟨q2, 1, none⟩ = some (.int .u64 (wd (fun b => !G b) 64 64 : Nat)) ∧ W.cell? ⟨q2, 2, none⟩ = some (.int .u64 (wd (fun b => !G b) 128 64 : Nat)) ∧ W.cell? ⟨q2, 3, none⟩ = some (.int .u64 (wd (fun b => !G b) 192 64 : Nat))) := fun W h1 h2 =>
    ⟨h1.cell 0 (by decide), h1.cell 1 (by decide), h1.cell 2 (by decide), h1.cell 3 (by decide), h2.cell 0 (by decide), h2.cell 1 (by decide), h2.cell 2 (by decide), h2.cell 3 (by decide)⟩
  have HKeep := Hid_mk hkeep
  have hS0 := hkeep _ HSd.out HTd.out
  have HKn := Hid_mk fun W (h : Mx W) => known_any W h
  have HNt := Hid_mk fun W => not_any W G
  have hEq := fun W => eq_self G W
  have hEq2 := fun W => eq_self (fun b => !G b) W
  clear hkeep
  go_region_held3 (fun V => V.cell? ⟨q1, 0, none⟩ = some (.int .u64 (wd G 0 64 : Nat)) ∧ V.cell? ⟨q1, 1, none⟩ = some (.int .u64 (wd G 64 64 : Nat)) ∧ V.cell? ⟨q1, 2, none⟩ = some (.int .u64 (wd G 128 64 : Nat)) ∧ V.cell? ⟨q1, 3, none⟩ = some (.int .u64 (wd G 192 64 : Nat)) ∧ V.cell? ⟨q2, 0, none⟩ = some (.int .u64 (wd (fun b => !G b) 0 64 : Nat)) ∧ V.cell? ⟨q2, 1, none⟩ = some (.int .u64 (wd (fun b => !G b) 64 64 : Nat)) ∧ V.cell? ⟨q2, 2, none⟩ = some (.int .u64 (wd (fun b => !G b) 128 64 : Nat)) ∧ V.cell? ⟨q2, 3, none⟩ = some (.int .u64 (wd (fun b => !G b) 192 64 : Nat)))
    (first | (dsimp only; exact hS8) | (dsimp only; exact hS7) | (dsimp only; exact hS6) | (dsimp only; exact hS5) | (dsimp only; exact hS4) | (dsimp only; exact hS0) | go_keep)
    (first
      | (go_at_call 9; with_reducible refine (HKn.out _ (HM.out.no HKd.out)).mono ?_; rintro e w4 ⟨rfl, k4⟩; have HS4 := Hid_mk (HSd.out.no k4); have HT4 := Hid_mk (HTd.out.no k4); have HK4 := Hid_mk (HKd.out.trans' k4); have hS4 := HKeep.out _ HS4.out HT4.out; clear k4)
      | (go_at_call 16; with_reducible refine (HSp.out _).mono ?_; rintro e w5 ⟨rfl, k5⟩; first | (have HS5 := Hid_mk (HS4.out.no k5); have HT5 := Hid_mk (HT4.out.no k5); have HK5 := Hid_mk (HK4.out.trans' k5); have hS5 := HKeep.out _ HS5.out HT5.out; clear k5) | (have HOb := Hid_mk (bs_no (HB1.out w4) k5); replace k5 := ((Kp.refl No w4).alloc (.cells #[.int .u8 (u : Int)] 5)).trans' k5; have HS5 := Hid_mk (HS4.out.no k5); have HT5 := Hid_mk (HT4.out.no k5); have HK5 := Hid_mk (HK4.out.trans' k5); have hS5 := HKeep.out _ HS5.out HT5.out; clear k5))
      | (go_at_call 10; with_reducible refine (of_any _ _ [C] (HB1.out w5)).mono ?_; rintro e w6 ⟨rfl, k6'⟩; have k6 := ((Kp.refl No w5).alloc (.cells #[.int .u8 (u : Int)] 5)).trans' k6'; clear k6'; have HS6 := Hid_mk (HS5.out.no k6); have HT6 := Hid_mk (HT5.out.no k6); have HK6 := Hid_mk (HK5.out.trans' k6); have hS6 := HKeep.out _ HS6.out HT6.out; clear k6)
      | (go_at_call 10; with_reducible refine (of_any _ _ [C] HOb.out).mono ?_; rintro e w6 ⟨rfl, k6⟩; have HS6 := Hid_mk (HS5.out.no k6); have HT6 := Hid_mk (HT5.out.no k6); have HK6 := Hid_mk (HK5.out.trans' k6); have hS6 := HKeep.out _ HS6.out HT6.out; clear k6)
      | (go_at_call 17; with_reducible refine (HOr.out _).mono ?_; rintro e w7 ⟨rfl, k7⟩; have HS7 := Hid_mk (HS6.out.no k7); have HT7 := Hid_mk (HT6.out.no k7); have HK7 := Hid_mk (HK6.out.trans' k7); have hS7 := HKeep.out _ HS7.out HT7.out; clear k7)
      | (go_at_call 11; with_reducible refine (HNt.out _).mono ?_; rintro e w8 ⟨rfl, k8⟩; have HS8 := Hid_mk (HS7.out.no k8); have HT8 := Hid_mk (HT7.out.no k8); have HK8 := Hid_mk (HK7.out.trans' k8); have hS8 := HKeep.out _ HS8.out HT8.out; clear k8))
  all_goals
    go_wp2
    go_ret
    exact ⟨rfl, HK8.out⟩

end Go.Proofs.Ytpfpnlhihnfahaa.cls
