/- append onto a row of bytes of the call's own: of bytes that are read in whatever slice, of a string; where the row lies behind it. What package pack's Writer and an append of a callee leave: plain facts. bytes.Clone. Bytes as a text. Cuts of a slice of bytes. A remainder; a byte that is turned. tailracehand.Pick; a byte of a slice turned. The walk of the statement tailracelaw9.EreDeep. -/
import Derived.Test.YtdognehkbahmdaaBaseM
import Derived.Maps.AppendAt
import Derived.Lib.AppendStr
import Derived.Deep.AppendSrc
import Derived.Laws.IdiomStrings
import Derived.Laws.BytesArg
import Derived.Laws.Pointers
import Derived.OwnWalk
import Derived.RegionTactic
import Derived.Laws.BitsAllLaws
import Derived.IntWalk
import Derived.Deep.RegionWith
import Derived.StillTailTactics
import Derived.RegionCalls
import Derived.Test.YtdognehkbahmdaaRefSameM
import Derived.Test.YtdognehkbahmdaaR8CatM

namespace Go.Proofs.Ytdognehkbahmdaa.app
open Go.RowKit Go.Proofs.Ytdognehkbahmdaa.sum Go.Proofs.Ytdognehkbahmdaa.kept
set_option linter.unusedVariables false

theorem info5 : (Try.prog.info? 5).map (fun i => (i.zero, i.size, i.bytes)) = some (some (.int .u8 0), 1, 1) := by kernel_rfl

/-- what append leaves -/
def App (base : Nat) (w : World) (v : Value) (bs cs : List UInt8) (v' : Value) (w' : World) : Prop :=
  w'.ownsRow base 5 1 v' (bs ++ cs).length ((bs ++ cs).map B) ∧ w.grownBy w' v.ownBlock ∧ (v' = .slice none 0 0 ↔ v = .slice none 0 0 ∧ cs = []) ∧ (v'.ownBlock = v.ownBlock ∨ v'.ownBlock = some w.heap.size)

theorem run_append_zero (w : World) (ty : TypeId) (v : Value) (base n : Nat) (xs : List Value) (hown : w.ownsRow base 5 1 v n xs) (a : Option Addr) (c : Nat) :
    (Builtin.append_ #[36, 36] ty #[v, .slice a 0 c]).run Try.prog w = .ok v w := by
  obtain ⟨i0, hi, hz0, hz1, hz2⟩ := info_parts info5
  have hf : ∀ w : World, (Builtin.firstCells 1 0 (.slice a 0 c)).run Try.prog w = .ok #[] w := by
    intro w
    cases a with
    | none => exact run_firstCells_none w 1 0 0 c
    | some a => exact run_firstCells_some w 1 0 a 0 c [] rfl (fun j u h => by simp at h)
  rcases hown.2 with ⟨rfl, rfl⟩ | ⟨g, cap, cur, rfl, _, hg, h1, _⟩
  · simp [Builtin.append_, run_underlying Try.underlying36, sizeOf, typeInfo, hi, hz1, Builtin.lenOf, hf]
  · simp [Builtin.append_, run_underlying Try.underlying36, sizeOf, typeInfo, hi, hz1, Builtin.lenOf, hf, h1, storeCells]

theorem run_append_bs (w : World) (ty : TypeId) (base : Nat) (v : Value) (bs : List UInt8) (hown : w.ownsRow base 5 1 v bs.length (bs.map B)) (xv : Value) (cs : List UInt8) (hx : Bs w xv cs)
    (hb : bs.length + cs.length ≤ 140737488355328) (hbase : base ≤ w.heap.size) :
    ∃ v' w', (Builtin.append_ #[36, 36] ty #[v, xv]).run Try.prog w = .ok v' w' ∧ App base w v bs cs v' w' := by
  obtain ⟨i0, hi, hz0, hz1, hz2⟩ := info_parts info5
  obtain ⟨a, cap, rfl, h1, h2, h3⟩ := hx
  by_cases hcs : cs = []
  · subst hcs
    refine ⟨v, w, run_append_zero w ty v base _ _ hown a cap, ?_, World.grownBy.refl _ _, by simp, .inl rfl⟩
    simpa using hown
  · obtain ⟨b, o, rfl, hc⟩ := h3 hcs
    have hmx : bs.length + cs.length ≤ maxLen := by unfold maxLen; omega
    obtain ⟨v', w', hr, k1, k2, k3, k4⟩ := run_append_own_at (P := Try.prog) w base 36 ty 5 i0 (.int .u8 0) 1 1 Try.underlying36 hi hz0 hz1 hz2 rfl (by decide) v bs.length _ hown ⟨b, o, none⟩ cs.length cap (cs.map B)
      (by simp) (fun j u hu => by
        rw [addr_add]
        have hj : j < cs.length := by simpa using (List.getElem?_eq_some_iff.1 hu).1
        rw [hc j hj]
        simpa [List.getD, hj] using hu) (fun u hu => by obtain ⟨_, _, rfl⟩ := List.mem_map.1 hu; rfl) hmx (by omega) hbase
    refine ⟨v', w', hr, by simpa using k1, k2, ?_, k4⟩
    rw [k3]
    simp [List.length_eq_zero_iff]

theorem wpList_append_bs (w : World) {ops : Array Oper} {rest : List Oper} {o : Oper} {a : Act} {Q : Exit → Act → World → Prop} (hgd : o.guard = none) (s x : Operand)
    (ho : o.op = .call { callee := .builtin .append, args := #[s, x], argTypes := #[36, 36] })
    (base : Nat) (v : Value) (bs : List UInt8) (hs : a.eval s = v) (hown : w.ownsRow base 5 1 v bs.length (bs.map B)) (xv : Value) (cs : List UInt8) (hx : a.eval x = xv) (hxs : Bs w xv cs)
    (hb : bs.length + cs.length ≤ 140737488355328) (hbase : base ≤ w.heap.size)
    (h : ∀ v' w', App base w v bs cs v' w' → wpList Try.prog ops Q rest (a.put o.dst v') w') :
    wpList Try.prog ops Q (o :: rest) a w := by
  refine wpList_plain hgd fun K hK => ?_
  obtain ⟨v', w', hr, h2⟩ := run_append_bs w o.type base v bs hown xv cs hxs hb hbase
  unfold Oper.wp execOp
  simp only [ho, resolve, invoke, builtin, Sem.run_bind, Sem.run_pure, Result.andThen_ok, List.map_toArray, List.map_cons, List.map_nil, hs, hx, hr]
  exact hK _ _ (h v' w' h2)

theorem strCells_bs (s : ByteArray) : Lib.strCells s = s.data.toList.map B := rfl

theorem run_append_str (w : World) (ty : TypeId) (base : Nat) (v : Value) (bs : List UInt8) (hown : w.ownsRow base 5 1 v bs.length (bs.map B)) (s : ByteArray)
    (hb : bs.length + s.size ≤ 140737488355328) (hbase : base ≤ w.heap.size) :
    ∃ v' w', (Builtin.append_ #[36, 9] ty #[v, .string s]).run Try.prog w = .ok v' w' ∧ App base w v bs s.data.toList v' w' := by
  obtain ⟨i0, hi, hz0, hz1, hz2⟩ := info_parts info5
  have hmx : bs.length + s.size ≤ maxLen := by unfold maxLen; omega
  obtain ⟨v', w', hr, k1, k2, k3⟩ := Lib.run_append_own_string (P := Try.prog) w base 36 9 ty 5 i0 Try.underlying36 Try.underlying9 hi hz0 hz1 hz2 v bs.length _ hown s hmx hb hbase
  have hsz : s.data.toList.length = s.size := by rw [Array.length_toList]; rfl
  refine ⟨v', w', hr, ?_, k2, ?_, ?_⟩
  · rw [List.length_append, hsz, List.map_append, ← strCells_bs]; exact k1
  · rw [k3]
    constructor
    · rintro ⟨h1, h2⟩; exact ⟨h1, List.eq_nil_of_length_eq_zero (by omega)⟩
    · rintro ⟨h1, h2⟩; rw [h2] at hsz; exact ⟨h1, by simpa using hsz.symm⟩
  · have hS : Src Try.prog i0.size 9 (.string s) s.size (Go.byteCells s) w := by rw [hz1]; exact Src.ofString w Try.underlying9 s
    have hsl : (Go.byteCells s).length = s.size := byteCells_length s
    rcases hown.2 with ⟨rfl, h0⟩ | ⟨g, cap, cur, rfl, _, hg, r1, r2, r3, r4⟩
    · by_cases hs0 : s.size = 0
      · left; rw [k3.2 ⟨rfl, hs0⟩]
      · have hgr := run_append_grow_src (P := Try.prog) w 36 9 ty 5 i0 (.int .u8 0) Try.underlying36 hi hz0 none 0 0 [] (run_firstCells_none w.drew i0.size 0 0 0) (.string s) s.size _ hS (by omega) (by omega)
          (by rw [hz2]; exact growslice_fits (by omega) (by omega))
        rw [hgr] at hr
        injection hr with e1 e2
        right; rw [← e1]; rfl
    · by_cases hroom : bs.length + s.size ≤ cap
      · have hrm := run_append_room_src (P := Try.prog) w 36 9 ty 5 i0 Try.underlying36 hi g 0 bs.length cap (.string s) s.size _ hS hroom
          (by
            intro j hj
            rw [hz1, cell_of_row w g _ cur _ (0, 0) hg]
            have hlt : 0 + bs.length * 1 + j < cur.size := by omega
            simp; omega)
          (by
            intro j hj
            rw [hz1]
            simp [World.frozen?, hg])
        rw [hrm] at hr
        injection hr with e1 e2
        left; rw [← e1]; rfl
      · have holds : ∀ j u, (bs.map B)[j]? = some u → w.drew.cell? ((⟨g, 0, none⟩ : Addr).add j) = some u := hown.cells (g := g) rfl
        have hgr := run_append_grow_src (P := Try.prog) w 36 9 ty 5 i0 (.int .u8 0) Try.underlying36 hi hz0 (some ⟨g, 0, none⟩) bs.length cap (bs.map B)
          (run_firstCells_some w.drew i0.size bs.length ⟨g, 0, none⟩ bs.length cap _ (by rw [hz1]; simp) holds) (.string s) s.size _ hS (by omega) (by omega) (by rw [hz2]; exact growslice_fits (by omega) (by omega))
        rw [hgr] at hr
        injection hr with e1 e2
        right; rw [← e1]; rfl

theorem wpList_append_str (w : World) {ops : Array Oper} {rest : List Oper} {o : Oper} {a : Act} {Q : Exit → Act → World → Prop} (hgd : o.guard = none) (sl x : Operand)
    (ho : o.op = .call { callee := .builtin .append, args := #[sl, x], argTypes := #[36, 9] })
    (base : Nat) (v : Value) (bs : List UInt8) (hs : a.eval sl = v) (hown : w.ownsRow base 5 1 v bs.length (bs.map B)) (s : ByteArray) (hx : a.eval x = .string s)
    (hb : bs.length + s.size ≤ 140737488355328) (hbase : base ≤ w.heap.size)
    (h : ∀ v' w', App base w v bs s.data.toList v' w' → wpList Try.prog ops Q rest (a.put o.dst v') w') :
    wpList Try.prog ops Q (o :: rest) a w := by
  refine wpList_plain hgd fun K hK => ?_
  obtain ⟨v', w', hr, h2⟩ := run_append_str w o.type base v bs hown s hb hbase
  unfold Oper.wp execOp
  simp only [ho, resolve, invoke, builtin, Sem.run_bind, Sem.run_pure, Result.andThen_ok, List.map_toArray, List.map_cons, List.map_nil, hs, hx, hr]
  exact hK _ _ (h v' w' h2)

end Go.Proofs.Ytdognehkbahmdaa.app

namespace Go.Proofs.Ytdognehkbahmdaa.writer
open Go.RowKit Go.Proofs.Ytdognehkbahmdaa.sum Go.Proofs.Ytdognehkbahmdaa.kept Go.Proofs.Ytdognehkbahmdaa.app
set_option linter.unusedVariables false

theorem getD_lt {bs : List UInt8} {k : Nat} (h : k < bs.length) : bs.getD k 0 = bs[k] := by simp [List.getD, h]

/-- a literal of one byte, as laid by the call -/
theorem bs_one (w : World) (x : UInt8) : Bs (w.alloc (.cells #[.int .u8 (x.toNat : Int)] 5)) (.slice (some ⟨w.heap.size, 0, none⟩) 1 1) [x] := by
  refine ⟨_, 1, rfl, Nat.le_refl _, by decide, fun _ => ⟨_, _, rfl, fun k hk => ?_⟩⟩
  simp only [List.length_singleton] at hk
  obtain rfl : k = 0 := by omega
  simp [B]

theorem app_kept {S : Nat → Prop} {base : Nat} {w w1 : World} {o : Obj} {v v' : Value} {bs cs : List UInt8} (h : App base (w.alloc o) v bs cs v' w1) (hs : ∀ k, k < w.heap.size → v.ownBlock = some k → S k) : Kp S w w1 :=
  ((Kp.refl _ w).alloc _).grown h.2.1 fun k hk e => hs k hk e
theorem app_kept0 {S : Nat → Prop} {base : Nat} {w w1 : World} {v v' : Value} {bs cs : List UInt8} (h : App base w v bs cs v' w1) (hs : ∀ k, k < w.heap.size → v.ownBlock = some k → S k) : Kp S w w1 :=
  (Kp.refl _ w).grown h.2.1 fun k hk e => hs k hk e
theorem app_fresh {base : Nat} {w w1 : World} {o : Obj} {v v' : Value} {bs cs : List UInt8} (h : App base (w.alloc o) v bs cs v' w1) : v'.ownBlock = v.ownBlock ∨ ∀ g, v'.ownBlock = some g → w.heap.size ≤ g := by
  rcases h.2.2.2 with h | h
  · exact .inl h
  · right; intro g hg; rw [h] at hg; simp at hg; omega
theorem app_fresh0 {base : Nat} {w w1 : World} {v v' : Value} {bs cs : List UInt8} (h : App base w v bs cs v' w1) : v'.ownBlock = v.ownBlock ∨ ∀ g, v'.ownBlock = some g → w.heap.size ≤ g := by
  rcases h.2.2.2 with h | h
  · exact .inl h
  · right; intro g hg; rw [h] at hg; simp at hg; omega

/-- the Writer's one cell behind the append, and the store into it -/
theorem wr_store {base p : Nat} {w w1 : World} {v v' : Value} {bs cs : List UInt8} (h : Wr base w p v bs) (hb : base ≤ w1.heap.size) (hw : w1.ownsRow base 5 1 v' (bs ++ cs).length ((bs ++ cs).map B)) (hk : Kp (fun k => some k = v.ownBlock) w w1)
    (hf : v'.ownBlock = v.ownBlock ∨ ∀ g, v'.ownBlock = some g → w.heap.size ≤ g) :
    WrPost base p v (bs ++ cs) w (.returned (.tuple #[])) (w1.setCell ⟨p, 0, none⟩ v') := by
  have hp := World.block_lt_of_cell? w _ h.cell
  simp only at hp
  have hc1 : w1.cell? ⟨p, 0, none⟩ = some v := hk.cell' h.cell (fun e => h.apart e.symm)
  have hf1 : w1.frozen? ⟨p, 0, none⟩ = false := (hk.frozen hp (fun e => h.apart e.symm)).trans h.warm
  have hap : v'.ownBlock ≠ some p := by
    rcases hf with e | e
    · rw [e]; exact h.apart
    · intro e2; have := e p e2; omega
  have hk2 : Kp (fun k => k = p) w1 (w1.setCell ⟨p, 0, none⟩ v') := (Kp.refl (fun k => k = p) _).setCell (fun _ => rfl) _
  refine ⟨rfl, v', ⟨World.cell?_setCell_same w1 _ v' hc1, ?_, owns_kept hw hk2 ?_, hap, ?_⟩, ?_, hf⟩
  · rw [World.frozen?_setCell]; exact hf1
  · rintro k e rfl; exact hap e
  · simp [World.setCell]; exact hb
  · exact (hk.mono (fun k _ e => Or.inr e)).trans hk2 (fun i _ e => Or.inl e)

theorem WrPost.refl {base p : Nat} {w : World} {v : Value} {bs : List UInt8} (h : Wr base w p v bs) : WrPost base p v bs w (.returned (.tuple #[])) w := ⟨rfl, v, h, Kp.refl _ _, .inl rfl⟩

/-- A Writer call behind another. -/
theorem wr_join {base p : Nat} {w w1 w2 : World} {v v1 : Value} {bs cs : List UInt8} {e : Ending} (h : WrAt base p v bs w v1 w1) (k : WrPost base p v1 cs w1 e w2) : WrPost base p v cs w e w2 := by
  obtain ⟨h1, h2, h3⟩ := h
  obtain ⟨rfl, v2, k1, k2, k3⟩ := k
  refine ⟨rfl, v2, k1, h2.trans k2 ?_, ?_⟩
  · rintro i hi (e | e)
    · exact .inl e
    · rcases h3 with h3 | h3
      · right; rw [← h3]; exact e
      · have := h3 i e.symm; omega
  · rcases k3 with k3 | k3
    · rw [k3]
      rcases h3 with h3 | h3
      · exact .inl h3
      · exact .inr h3
    · right; intro g hg; have := k3 g hg; have := h2.size; omega

/-- how many numbers a uint64 has: behind a name, for the walk's sake -/
def U64 : Nat := 18446744073709551616
theorem u64_eq : U64 = 18446744073709551616 := rfl

/-- a number's bytes -/
def num (n : Nat) : List UInt8 := if h : n < 128 then [n.toUInt8] else (n % 128 + 128).toUInt8 :: num (n / 128)
termination_by n
decreasing_by omega

theorem num_small {n : Nat} (h : n < 128) : num n = [n.toUInt8] := by rw [num]; simp [h]
theorem num_big {n : Nat} (h : ¬ n < 128) : num n = (n % 128 + 128).toUInt8 :: num (n / 128) := by rw [num]; simp [h]
theorem num_len (n k : Nat) (hk : n < 128 ^ k) (h1 : 0 < k) : (num n).length ≤ k := by
  induction k generalizing n with
  | zero => omega
  | succ k ih =>
    by_cases h : n < 128
    · rw [num_small h]; simp
    · rw [num_big h]
      have h2 : n / 128 < 128 ^ k := by rw [Nat.pow_succ] at hk; omega
      have hk0 : 0 < k := by
        rcases Nat.eq_zero_or_pos k with rfl | h3
        · simp at h2; omega
        · exact h3
      have := ih (n / 128) h2 hk0
      simp; omega

theorem or128_fin : ∀ k : Fin 256, bits .or .u8 ((k.val : Nat) : Int) 128 = ((k.val % 128 + 128 : Nat) : Int) := by decide +kernel
theorem or128 (m : Nat) : bits .or .u8 ((m : Int) % 256) 128 = ((m % 128 + 128 : Nat) : Int) := by
  have h := or128_fin ⟨m % 256, by omega⟩
  simp only at h
  rw [show ((m : Int) % 256) = ((m % 256 : Nat) : Int) by omega, h]
  congr 1
  omega

def NumRel (base p : Nat) (v : Value) (bs : List UInt8) (n : Nat) (w : World) (t : Value) (wr : World) : Prop :=
  ∃ (m : Nat) (pre : List UInt8), t = .int .u64 m ∧ m < U64 ∧ pre ++ num m = num n ∧ WrPost base p v (bs ++ pre) w (.returned (.tuple #[])) wr

end Go.Proofs.Ytdognehkbahmdaa.writer

namespace Go.Proofs.Ytdognehkbahmdaa.clone
open Go.RowKit Go.Proofs.Ytdognehkbahmdaa.sum Go.Proofs.Ytdognehkbahmdaa.kept Go.Proofs.Ytdognehkbahmdaa.app Go.Proofs.Ytdognehkbahmdaa.writer
set_option linter.unusedVariables false

/-- A new row of these bytes, in new memory. -/
def NewBs (w : World) (bs : List UInt8) (e : Ending) (w' : World) : Prop :=
  ∃ v', e = .returned v' ∧ w'.ownsRow w.heap.size 5 1 v' bs.length (bs.map B) ∧ Kp No w w'

end Go.Proofs.Ytdognehkbahmdaa.clone

namespace Go.Proofs.Ytdognehkbahmdaa.known
open Go.RowKit Go.Proofs.Ytdognehkbahmdaa.sum Go.Proofs.Ytdognehkbahmdaa.kept Go.Proofs.Ytdognehkbahmdaa.app Go.Proofs.Ytdognehkbahmdaa.writer Go.Proofs.Ytdognehkbahmdaa.clone
set_option linter.unusedVariables false

/-- bytes as a text -/
theorem conv_bs {w : World} {v : Value} {bs : List UInt8} (h : Bs w v bs) : (convert 36 9 v).run Try.prog w = .ok (.string ⟨bs.toArray⟩) w := by
  obtain ⟨a, cap, rfl, h1, h2, h3⟩ := h
  by_cases hbs : bs = []
  · subst hbs
    cases a with
    | none => exact run_convert_bytes_nil w 36 5 Try.underlying36 Try.underlying5 _ _ _ Try.underlying9
    | some ad => exact run_convert_bytes_back w 36 9 5 ad cap [] Try.underlying36 Try.underlying5 Try.underlying9 (fun j hj => by simp at hj)
  · obtain ⟨b, o, rfl, hc⟩ := h3 hbs
    refine run_convert_bytes_back w 36 9 5 ⟨b, o, none⟩ cap bs Try.underlying36 Try.underlying5 Try.underlying9 (fun j hj => ?_)
    rw [addr_add, hc j hj]
    simp [B, List.getD, hj]

/-- a literal of bytes, as laid by the call -/
theorem bs_lit (w : World) (bs : List UInt8) (fr : Nat × Nat) (hl : bs.length ≤ maxLen) : Bs (w.alloc (.cells (bs.map B).toArray 5 fr)) (.slice (some ⟨w.heap.size, 0, none⟩) bs.length bs.length) bs := by
  refine ⟨_, _, rfl, Nat.le_refl _, hl, fun _ => ⟨_, _, rfl, fun k hk => ?_⟩⟩
  rw [World.cell?_alloc_mark]
  simp [List.getD, hk]

end Go.Proofs.Ytdognehkbahmdaa.known

namespace Go.Proofs.Ytdognehkbahmdaa.unseal
open Go.RowKit Go.Proofs.Ytdognehkbahmdaa.sum Go.Proofs.Ytdognehkbahmdaa.kept Go.Proofs.Ytdognehkbahmdaa.app Go.Proofs.Ytdognehkbahmdaa.writer Go.Proofs.Ytdognehkbahmdaa.clone Go.Proofs.Ytdognehkbahmdaa.known
set_option linter.unusedVariables false

/-- behind a draw everything reads as before -/
theorem bs_drewN {w : World} {v : Value} {bs : List UInt8} (n : Nat) (h : Bs w v bs) : Bs (w.drewN n) v bs := bs_no h ((Kp.refl _ _).drewN n)

/-- a cut of a slice of bytes -/
theorem bs_take {w : World} {b : Option Addr} {len cap : Nat} {bs : List UInt8} (h : Bs w (.slice b len cap) bs) (k : Nat) (hk : k ≤ len) : Bs w (.slice b k cap) (bs.take k) := by
  obtain ⟨a, c, e, h1, h2, h3⟩ := h
  simp only [Value.slice.injEq] at e
  obtain ⟨rfl, rfl, rfl⟩ := e
  refine ⟨b, cap, by rw [List.length_take, Nat.min_eq_left hk], by rw [List.length_take]; omega, h2, fun hne => ?_⟩
  obtain ⟨B, o, rfl, hc⟩ := h3 (by intro e; subst e; simp at hne)
  refine ⟨B, o, rfl, fun i hi => ?_⟩
  rw [List.length_take] at hi
  rw [hc i (by omega)]
  simp [List.getD, show i < k by omega]

theorem bs_drop {w : World} {b o len cap : Nat} {bs : List UInt8} (h : Bs w (.slice (some ⟨b, o, none⟩) len cap) bs) (k : Nat) (hk : k ≤ len) (ao : Option Addr) (hao : ¬ k = cap → ao = some ⟨b, o + k, none⟩) : Bs w (.slice ao (len - k) (cap - k)) (bs.drop k) := by
  obtain ⟨a, c, e, h1, h2, h3⟩ := h
  simp only [Value.slice.injEq] at e
  obtain ⟨rfl, rfl, rfl⟩ := e
  refine ⟨ao, _, by rw [List.length_drop], by rw [List.length_drop]; omega, by omega, fun hne => ?_⟩
  have hlt : k < bs.length := by
    rcases Nat.lt_or_ge k bs.length with h | h
    · exact h
    · rw [List.drop_of_length_le h] at hne; exact absurd rfl hne
  obtain ⟨B, o', e, hc⟩ := h3 (by intro e; subst e; simp at hlt)
  cases e
  refine ⟨_, _, hao (by omega), fun i hi => ?_⟩
  rw [List.length_drop] at hi
  rw [Nat.add_assoc, hc (k + i) (by omega)]
  simp [List.getD]

end Go.Proofs.Ytdognehkbahmdaa.unseal

namespace Go.Proofs.Ytdognehkbahmdaa.turned
open Go.RowKit Go.Proofs.Ytdognehkbahmdaa.sum Go.Proofs.Ytdognehkbahmdaa.kept Go.Proofs.Ytdognehkbahmdaa.app Go.Proofs.Ytdognehkbahmdaa.writer Go.Proofs.Ytdognehkbahmdaa.clone Go.Proofs.Ytdognehkbahmdaa.known Go.Proofs.Ytdognehkbahmdaa.unseal
set_option linter.unusedVariables false

theorem tmod_pos (n m : Int) (hm : 0 < m) : -m < n.tmod m ∧ n.tmod m < m ∧ (0 ≤ n.tmod m → n.tmod m = n % m) ∧ (n.tmod m < 0 → n.tmod m + m = n % m) := by
  have h1 := Int.tmod_lt_of_pos n hm
  have h2 := Int.tmod_lt_of_pos (-n) hm
  rw [Int.neg_tmod] at h2
  have h3 := Int.tmod_add_mul_tdiv n m
  refine ⟨by omega, h1, ?_, ?_⟩
  · intro h
    have e : n % m = (n.tmod m + m * n.tdiv m) % m := by rw [h3]
    rw [e, Int.add_mul_emod_self_left, Int.emod_eq_of_lt h h1]
  · intro h
    have e : n % m = (n.tmod m + m + m * (n.tdiv m - 1)) % m := by rw [Int.mul_sub]; congr 1; omega
    rw [e, Int.add_mul_emod_self_left, Int.emod_eq_of_lt (by omega) (by omega)]

theorem bs_set {w : World} {b o len cap : Nat} {bs : List UInt8} (h : Bs w (.slice (some ⟨b, o, none⟩) len cap) bs) (k : Nat) (hk : k < len) (y : UInt8) : Bs (w.setCell ⟨b, o + k, none⟩ (B y)) (.slice (some ⟨b, o, none⟩) len cap) (bs.set k y) := by
  obtain ⟨a, c, e, h1, h2, h3⟩ := h
  simp only [Value.slice.injEq] at e
  obtain ⟨rfl, rfl, rfl⟩ := e
  refine ⟨_, cap, by rw [List.length_set], by rw [List.length_set]; exact h1, h2, fun _ => ⟨b, o, rfl, fun i hi => ?_⟩⟩
  rw [List.length_set] at hi
  obtain ⟨b', o', e, hc⟩ := h3 (by intro e; subst e; simp at hk)
  cases e
  by_cases hik : i = k
  · subst hik
    rw [World.cell?_setCell_same w _ _ (hc i hi)]
    simp [List.getD, hi]
  · rw [World.cell?_setCell_other w _ _ _ (by simp <;> omega), hc i hi]
    simp [List.getD, List.getElem?_set, Ne.symm hik]

end Go.Proofs.Ytdognehkbahmdaa.turned

namespace Go.Proofs.Ytdognehkbahmdaa.turned
open Go.RowKit Go.Proofs.Ytdognehkbahmdaa.sum Go.Proofs.Ytdognehkbahmdaa.kept Go.Proofs.Ytdognehkbahmdaa.app Go.Proofs.Ytdognehkbahmdaa.writer Go.Proofs.Ytdognehkbahmdaa.clone Go.Proofs.Ytdognehkbahmdaa.known Go.Proofs.Ytdognehkbahmdaa.unseal
set_option linter.unusedVariables false

set_option maxRecDepth 100000 in
set_option maxHeartbeats 1000000 in
theorem pick_any (n m : Int) (hm : 0 < m) (hm2 : m ≤ 1000000000000000) (w : World) :
    Calls Try.prog 17 #[.int .i64 n, .int .i64 m] w fun e w' => e = .returned (.int .i64 (n % m)) ∧ w = w' := by
  obtain ⟨h1, h2, h3, h4⟩ := tmod_pos n m hm
  obtain ⟨t, ht⟩ : ∃ t, n.tmod m = t := ⟨_, rfl⟩
  rw [ht] at h1 h2 h3 h4
  have H3 := Hid_mk h3
  have H4 := Hid_mk h4
  clear h3 h4
  have hne : ¬ m = 0 := by omega
  have hne1 : ¬ m = -1 := by omega
  by_cases hneg : t < 0
  · go_enter Try.func17, Try.ntmps17
    go_wp2
    go_ret
    rw [H4.out hneg]
    exact ⟨rfl, rfl⟩
  · go_enter Try.func17, Try.ntmps17
    go_wp2
    go_ret
    rw [H3.out (by omega)]
    exact ⟨rfl, rfl⟩

end Go.Proofs.Ytdognehkbahmdaa.turned

namespace Go.Proofs.Ytdognehkbahmdaa.ere
open Go.RowKit Go.Proofs.Ytdognehkbahmdaa.sum Go.Proofs.Ytdognehkbahmdaa.kept Go.Proofs.Ytdognehkbahmdaa.pop Go.Proofs.Ytdognehkbahmdaa.cls Go.Proofs.Ytdognehkbahmdaa.tre Go.Proofs.Ytdognehkbahmdaa.str Go.Proofs.Ytdognehkbahmdaa.turned
set_option linter.unusedVariables false

theorem run_add_str (xs ys : List UInt8) (h : xs.length + ys.length ≤ 1000000000) (W : World) : (Op.stringOp .add ⟨xs.toArray⟩ ⟨ys.toArray⟩).run Try.prog W = .ok (.string ⟨(xs ++ ys).toArray⟩) W := by
  have e : (⟨xs.toArray⟩ : ByteArray) ++ ⟨ys.toArray⟩ = ⟨(xs ++ ys).toArray⟩ := by
    apply ByteArray.ext
    simp
  rw [← e]
  refine run_string_add_sum (P := Try.prog) (w := W) _ _ ?_
  show xs.toArray.size + ys.toArray.size ≤ _
  simp
  omega
theorem idx4_0 (W : World) : (Instr.index 41 (.agg #[.string ⟨#[]⟩, .string ⟨#[42]⟩, .string ⟨#[98]⟩, .string ⟨#[124, 99]⟩]) (.int .u8 0)).run Try.prog W = .ok (.string ⟨#[]⟩) W := by
  have u3 := run_underlying Try.underlying41
  have z := Try.sizeOf9
  have a := Try.isAgg9
  unfold Instr.index
  simp [asIntOf, u3, part, a, z, go_sem]
theorem idx4_1 (W : World) : (Instr.index 41 (.agg #[.string ⟨#[]⟩, .string ⟨#[42]⟩, .string ⟨#[98]⟩, .string ⟨#[124, 99]⟩]) (.int .u8 1)).run Try.prog W = .ok (.string ⟨#[42]⟩) W := by
  have u3 := run_underlying Try.underlying41
  have z := Try.sizeOf9
  have a := Try.isAgg9
  unfold Instr.index
  simp [asIntOf, u3, part, a, z, go_sem]
theorem idx4_2 (W : World) : (Instr.index 41 (.agg #[.string ⟨#[]⟩, .string ⟨#[42]⟩, .string ⟨#[98]⟩, .string ⟨#[124, 99]⟩]) (.int .u8 2)).run Try.prog W = .ok (.string ⟨#[98]⟩) W := by
  have u3 := run_underlying Try.underlying41
  have z := Try.sizeOf9
  have a := Try.isAgg9
  unfold Instr.index
  simp [asIntOf, u3, part, a, z, go_sem]
theorem idx4_3 (W : World) : (Instr.index 41 (.agg #[.string ⟨#[]⟩, .string ⟨#[42]⟩, .string ⟨#[98]⟩, .string ⟨#[124, 99]⟩]) (.int .u8 3)).run Try.prog W = .ok (.string ⟨#[124, 99]⟩) W := by
  have u3 := run_underlying Try.underlying41
  have z := Try.sizeOf9
  have a := Try.isAgg9
  unfold Instr.index
  simp [asIntOf, u3, part, a, z, go_sem]
/-- bytes among ( ) * | a b c -/
def FewL (l : List UInt8) : Prop := ∀ x ∈ l, x.toNat = 40 ∨ x.toNat = 41 ∨ x.toNat = 42 ∨ x.toNat = 124 ∨ x.toNat = 97 ∨ x.toNat = 98 ∨ x.toNat = 99
theorem FewL.few {l : List UInt8} (h : FewL l) : Few l := fun k hk => by
  unfold atB
  rw [List.getD_eq_getElem?_getD, List.getElem?_eq_getElem hk]
  exact h l[k] (List.getElem_mem hk)
theorem FewL.app {a b : List UInt8} (h : FewL a) (h' : FewL b) : FewL (a ++ b) := fun x hx => by
  rcases List.mem_append.1 hx with hx | hx
  · exact h x hx
  · exact h' x hx
theorem few_lit {l : List UInt8} (h : l.all (fun x => x.toNat == 40 || x.toNat == 41 || x.toNat == 42 || x.toNat == 124 || x.toNat == 97 || x.toNat == 98 || x.toNat == 99) = true) : FewL l := fun x hx => by
  have := List.all_eq_true.1 h x hx
  simp at this
  omega
theorem parse_few (w : World) (l : List UInt8) (hA : Few l) (hl : l.length < 1000000000) (x : Tr × Nat × Nat) (hx : parseS l (fun _ => none) (8 * l.length + 8) = x) :
    Calls Try.prog 10 #[.string ⟨l.toArray⟩] w fun e w' => ∃ k f a n c, e = .returned (.tuple #[.agg (cellsR k f a n c), .int .i64 (x.2.1 : Int), .int .i64 (x.2.2 : Int)]) ∧ ReV All w' x.1 (.agg (cellsR k f a n c)) ∧ Kp No w w' := by
  have h := parse_any w l (fun _ => none) hl (fun q => brkt_plain fun k hk => by have := hA k hk; omega) (fun q => sign_plain (by omega) fun k hk => by have := hA k hk; omega)
  rw [hx] at h
  refine h.mono ?_
  rintro e w' ⟨v, rfl, hv, hk⟩
  obtain ⟨⟨K, F, L⟩, y⟩ := x
  obtain ⟨a, c, rfl, h1, h2, h3⟩ := hv
  exact ⟨K, F, a, _, c, rfl, ReV.wider (fun _ _ _ => trivial) _ _ ⟨a, c, rfl, h1, h2, h3⟩, hk⟩
def DpRel (c : Nat) (N : Nat) (s i : Value) : Prop := ∃ (k : Nat) (l : List UInt8), k ≤ N ∧ i = .int .i64 (k : Int) ∧ s = .string ⟨l.toArray⟩ ∧ FewL l ∧ l.length ≤ c + 3 * k
def DnRel (c : Nat) (N : Nat) (s i : Value) : Prop := ∃ (k : Nat) (l : List UInt8), k ≤ N ∧ i = .int .i64 (k : Int) ∧ s = .string ⟨l.toArray⟩ ∧ FewL l ∧ l.length + k ≤ c

set_option maxRecDepth 100000 in
set_option maxHeartbeats 16000000 in
theorem deep_law (w : World) (n : Int) (bv : Value) (bb : List UInt8) (row : Int) (hb : Bs w bv bb) (hbl : bb.length ≤ 281474976710656) : Calls Try.prog 5 #[.int .i64 n, bv, .int .i64 row] w fun e w' => e = .returned (.bool true) ∧ Kp No w w' := by
  obtain ⟨ba, cap, rfl, hb1, hb2, hb3⟩ := hb
  have HP1 := Hid_mk fun W => pick_any n 14 (by decide) (by decide) W
  have HP2 := Hid_mk fun W => pick_any row 450 (by decide) (by decide) W
  obtain ⟨N, hN⟩ : ∃ N : Nat, n % 14 = (N : Int) := ⟨(n % 14).toNat, by omega⟩
  obtain ⟨M, hM⟩ : ∃ M : Nat, row % 450 = (M : Int) := ⟨(row % 450).toNat, by omega⟩
  have hN2 : N ≤ 13 := by omega
  have hM2 : M ≤ 449 := by omega
  rw [hN] at HP1
  rw [hM] at HP2
  have HN := Hid_mk hN2
  have HM := Hid_mk hM2
  have HB3 := Hid_mk hb3
  have HBl := Hid_mk hbl
  have HKn := Hid_mk fun W => known9_any W
  clear hN hM hN2 hM2 hb3 hbl
  go_enter Try.func5, Try.ntmps5
  go_wp2_with fail
  with_reducible refine (HP1.out _).mono ?_
  rintro e W0 ⟨rfl, rfl⟩
  clear HP1
  go_wp2
  go_loop [7, 8] (fun s i => DpRel 0 N s i) (fun _ i => N - (intOf i).toNat)
  case atStart => exact ⟨0, [], Nat.zero_le _, rfl, rfl, (fun x hx => nomatch hx), Nat.zero_le _⟩
  case round =>
    obtain ⟨k, l, hk, rfl, rfl, hf, hl⟩ := hrel
    have HF := Hid_mk hf
    have HL := Hid_mk hl
    by_cases hlt : k < N
    · have hki : (k : Int) < (N : Int) := by omega
      have hk0 : (0 : Int) ≤ (k : Int) := Int.natCast_nonneg _
      have hk13 : (k : Int) ≤ 13 := by have := HN.out; omega
      have hadd := fun W => run_add_str [40] l (by simp; have := HN.out; omega) W
      have HLt := Hid_mk hlt
      clear hf hl hk hlt
      go_wp2
      go_round
      case rel => exact ⟨k + 1, [40] ++ l, HLt.out, by go_num, rfl, (few_lit (by decide)).app HF.out, by simp; have := HL.out; omega⟩
      case measure => have := HLt.out; simp [intOf]; omega
    · obtain rfl : k = N := by omega
      have hki : ¬ ((k : Nat) : Int) < (k : Int) := by omega
      clear hf hl hk hlt
      have hadd := fun W => run_add_str l [97] (by have h8 := HN.out; have h9 := HL.out; simp; omega) W
      go_wp2
      clear hadd
      go_loop [7, 9] (fun s i => DpRel 40 k s i) (fun _ i => k - (intOf i).toNat)
      case atStart => exact ⟨0, l ++ [97], Nat.zero_le _, rfl, rfl, HF.out.app (few_lit (by decide)), by have h8 := HN.out; have h9 := HL.out; simp; omega⟩
      case round =>
        obtain ⟨j, m, hj, rfl, rfl, hf2, hm⟩ := hrel
        have HF2 := Hid_mk hf2
        have HL2 := Hid_mk hm
        by_cases hlt : j < k
        · have hji : (j : Int) < (k : Int) := by omega
          have hj0 : (0 : Int) ≤ (j : Int) := Int.natCast_nonneg _
          have hj13 : (j : Int) ≤ 13 := by have := HN.out; omega
          have hadd := fun W => run_add_str m [41] (by have h8 := HN.out; have h9 := HL2.out; simp; omega) W
          have HLt := Hid_mk hlt
          by_cases hjb : j < bb.length
          · have hjbi : (j : Int) < (bb.length : Int) := by omega
            obtain ⟨b, o, hab, hcell⟩ := HB3.out (by intro e; rw [e] at hjb; simp at hjb)
            have hc := hcell j hjb
            obtain ⟨y, hy⟩ : ∃ y, (bb.getD j 0).toNat = y := ⟨_, rfl⟩
            have hB : B (bb.getD j 0) = .int .u8 (y : Int) := by rw [← hy]; rfl
            rw [hB] at hc
            subst hab
            have hy0 : (0 : Int) ≤ (y : Int) := Int.natCast_nonneg _
            have hcase : y % 4 = 0 ∨ y % 4 = 1 ∨ y % 4 = 2 ∨ y % 4 = 3 := by omega
            have HHb := Hid_mk hjb
            clear hf2 hm hj hlt hjb hcell hy hB
            rcases hcase with h4 | h4 | h4 | h4
            · have hr1 : (y : Int) % 4 = 0 := by omega
              have hr2 : (y : Int).tmod 4 = 0 := by rw [Int.tmod_eq_emod_of_nonneg hy0]; omega
              have hadd2 := fun W => run_add_str (m ++ [41]) [] (by have h8 := HN.out; have h9 := HL2.out; simp; omega) W
              have hidx := fun W => idx4_0 W
              clear h4
              go_wp2
              go_round
              case rel => exact ⟨j + 1, m ++ [41] ++ [], HLt.out, by go_num, by simp, (HF2.out.app (few_lit (by decide))).app (few_lit (by decide)), by have := HL2.out; simp; omega⟩
              case measure => have := HLt.out; simp [intOf]; omega
            · have hr1 : (y : Int) % 4 = 1 := by omega
              have hr2 : (y : Int).tmod 4 = 1 := by rw [Int.tmod_eq_emod_of_nonneg hy0]; omega
              have hadd2 := fun W => run_add_str (m ++ [41]) [42] (by have h8 := HN.out; have h9 := HL2.out; simp; omega) W
              have hidx := fun W => idx4_1 W
              clear h4
              go_wp2
              go_round
              case rel => exact ⟨j + 1, m ++ [41] ++ [42], HLt.out, by go_num, by simp, (HF2.out.app (few_lit (by decide))).app (few_lit (by decide)), by have := HL2.out; simp; omega⟩
              case measure => have := HLt.out; simp [intOf]; omega
            · have hr1 : (y : Int) % 4 = 2 := by omega
              have hr2 : (y : Int).tmod 4 = 2 := by rw [Int.tmod_eq_emod_of_nonneg hy0]; omega
              have hadd2 := fun W => run_add_str (m ++ [41]) [98] (by have h8 := HN.out; have h9 := HL2.out; simp; omega) W
              have hidx := fun W => idx4_2 W
              clear h4
              go_wp2
              go_round
              case rel => exact ⟨j + 1, m ++ [41] ++ [98], HLt.out, by go_num, by simp, (HF2.out.app (few_lit (by decide))).app (few_lit (by decide)), by have := HL2.out; simp; omega⟩
              case measure => have := HLt.out; simp [intOf]; omega
            · have hr1 : (y : Int) % 4 = 3 := by omega
              have hr2 : (y : Int).tmod 4 = 3 := by rw [Int.tmod_eq_emod_of_nonneg hy0]; omega
              have hadd2 := fun W => run_add_str (m ++ [41]) [124, 99] (by have h8 := HN.out; have h9 := HL2.out; simp; omega) W
              have hidx := fun W => idx4_3 W
              clear h4
              go_wp2
              go_round
              case rel => exact ⟨j + 1, m ++ [41] ++ [124, 99], HLt.out, by go_num, by simp, (HF2.out.app (few_lit (by decide))).app (few_lit (by decide)), by have := HL2.out; simp; omega⟩
              case measure => have := HLt.out; simp [intOf]; omega
          · have hjbi : ¬ (j : Int) < (bb.length : Int) := by omega
            clear hf2 hm hj hlt hjb
            go_wp2
            go_round
            case rel => exact ⟨j + 1, m ++ [41], HLt.out, by go_num, rfl, HF2.out.app (few_lit (by decide)), by have := HL2.out; simp; omega⟩
            case measure => have := HLt.out; simp [intOf]; omega
        · obtain rfl : j = k := by omega
          have hji : ¬ ((j : Nat) : Int) < (j : Int) := by omega
          clear hf2 hm hj hlt
          go_wp2_with fail
          with_reducible refine (HP2.out _).mono ?_
          rintro e W0 ⟨rfl, rfl⟩
          go_wp2
          go_loop [7, 10] (fun s i => DnRel 1000 M s i) (fun _ i => (intOf i).toNat)
          case atStart => exact ⟨M, m, Nat.le_refl _, rfl, rfl, HF2.out, by have h7 := HM.out; have h8 := HN.out; have h9 := HL2.out; omega⟩
          case round =>
            obtain ⟨i, L, hi, rfl, rfl, hf3, hL⟩ := hrel
            have HF3 := Hid_mk hf3
            have HL3 := Hid_mk hL
            by_cases hi0 : i = 0
            · subst hi0
              have hfew := hf3.few
              obtain ⟨⟨X1, X2, X3⟩, hX⟩ : ∃ X, parseS L (fun _ => none) (8 * L.length + 8) = X := ⟨_, rfl⟩
              have HPa := Hid_mk fun W => parse_few W L hfew (by omega) _ hX
              have HPb := Hid_mk (show ∀ W, Calls Try.prog 19 #[.string ⟨L.toArray⟩] W _ from fun W => rparse_any W L (fun _ => none) (by omega) hfew _ hX)
              unfold cellsR at HPa HPb
              clear hf3 hL hi hfew hX
              go_wp2_with fail
              with_reducible refine (HPa.out _).mono ?_
              rintro e v1 ⟨xk, xf, xa, xn, xc, rfl, hv, hk⟩
              have HV := Hid_mk hv
              have HKv := Hid_mk hk
              clear hv hk HPa
              go_upto_region 19 with fail
              obtain ⟨b1, hb⟩ : ∃ b, v1.heap.size = b := ⟨_, rfl⟩
              rw [hb]
              refine wp_name (fun W => Kp No v1 W ∧ RAt W b1 (.int .i64 xk) (.int .u64 (wd xf 0 64 : Nat)) (.int .u64 (wd xf 64 64 : Nat)) (.int .u64 (wd xf 128 64 : Nat)) (.int .u64 (wd xf 192 64 : Nat)) (.slice xa xn xc)) ⟨(Kp.refl No v1).alloc _, by rw [← hb]; exact RAt.new _ _ _ _ _ _ _ _⟩ ?_
              clear hb
              rintro W1 ⟨hk, hr⟩
              have HK1 := Hid_mk (HKv.out.trans' hk)
              have HR1 := Hid_mk hr
              have HV1 := Hid_mk (ReV.no hk _ _ HV.out)
              clear hk hr HV HKv
              go_wp2_with fail
              with_reducible refine (HPb.out _).mono ?_
              rintro e v2 ⟨yk, yf, ya, yn, yc, rfl, hv, hk⟩
              have HV := Hid_mk hv
              have HKv := Hid_mk hk
              clear hv hk HPb
              go_upto_region 20 with fail
              obtain ⟨b2, hb⟩ : ∃ b, v2.heap.size = b := ⟨_, rfl⟩
              rw [hb]
              refine wp_name (fun W => Kp No v2 W ∧ RAt W b2 (.int .i64 yk) (.int .u64 (wd yf 0 64 : Nat)) (.int .u64 (wd yf 64 64 : Nat)) (.int .u64 (wd yf 128 64 : Nat)) (.int .u64 (wd yf 192 64 : Nat)) (.slice ya yn yc)) ⟨(Kp.refl No v2).alloc _, by rw [← hb]; exact RAt.new _ _ _ _ _ _ _ _⟩ ?_
              clear hb
              rintro W2 ⟨hk, hr⟩
              have HS2 := Hid_mk (HKv.out.trans' hk)
              have HK2 := Hid_mk (HK1.out.trans' HS2.out)
              have HR2 := Hid_mk hr
              have HR1b := Hid_mk (HR1.out.kept HS2.out id)
              have HVa := Hid_mk (ReV.no HS2.out _ _ HV1.out)
              have HVb := Hid_mk (ReV.no hk _ _ HV.out)
              clear hk hr HV HKv
              go_wp2_with fail
              with_reducible refine (HKn.out _).mono ?_
              rintro e W3 ⟨rfl, hk3⟩
              have hsm := same_v W3 X1 X1 _ _ (ReV.no hk3 _ _ HVa.out) (ReV.no hk3 _ _ HVb.out) (same_self X1)
              unfold cellsR at hsm
              have HSm := Hid_mk hsm
              have HK3 := Hid_mk (HK2.out.trans' hk3)
              obtain ⟨x0, x1, x2, x3, x4, x5, -⟩ := HR1b.out.kept hk3 id
              obtain ⟨y0, y1, y2, y3, y4, y5, -⟩ := HR2.out.kept hk3 id
              clear hsm hk3
              go_wp2_with fail
              with_reducible refine HSm.out.mono ?_
              rintro e W4 ⟨rfl, hk4⟩
              have HK4 := Hid_mk (HK3.out.trans' hk4)
              clear hk4 x0 x1 x2 x3 x4 x5 y0 y1 y2 y3 y4 y5 HSm
              go_wp2
              go_ret
              exact ⟨rfl, HK4.out⟩
            · have hii : (i : Int) > 0 := by omega
              have hi449 : (i : Int) ≤ 449 := by have := HM.out; omega
              have hadd := fun W => run_add_str L [98] (by have h9 := HL3.out; simp; omega) W
              have HI0 := Hid_mk hi0
              have HI := Hid_mk hi
              clear hf3 hL hi hi0
              go_wp2
              go_round
              case rel => exact ⟨i - 1, L ++ [98], by have := HI.out; omega, by congr 1; have := HI0.out; omega, rfl, HF3.out.app (few_lit (by decide)), by have h8 := HI0.out; have h9 := HL3.out; simp; omega⟩
              case measure => have := HI0.out; simp [intOf]; omega

end Go.Proofs.Ytdognehkbahmdaa.ere
