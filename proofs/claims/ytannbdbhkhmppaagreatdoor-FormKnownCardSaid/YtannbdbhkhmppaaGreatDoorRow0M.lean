/- How the arguments of the statements are read, where none is a slice. Bytes in memory; a hypothesis that the walk does not look into. How memory may turn in a call: 'Kp S w w'': of what was there only the blocks of S may have turned. And the pieces of memory that package pack makes: a row of bytes, a Writer. append onto a row of bytes of the call's own: of bytes that are read in whatever slice, of a string; where the row lies behind it. What package pack's Writer and an append of a callee leave: plain facts. Texts of known bytes: their length, an index, a piece, a test, as the walk asks for them. bytes.Clone. Bytes as a text. -/
import Derived.Test.YtannbdbhkhmppaaGreatDoorRows
import Derived.ProofKit
import Derived.OpenShut
import Derived.ChangeOld
import Derived.SizedLaws
import Derived.Test.YtannbdbhkhmppaaGreatDoorProg
import Derived.WalkKit
import Derived.WalkLawsBesides
import Derived.Deep.QuietTactic
import Derived.BigQuiet
import Derived.Outline
import Derived.Laws.Externs
import Derived.KernelRfl
import Derived.Maps.AppendAt
import Derived.Lib.AppendStr
import Derived.Deep.AppendSrc
import Derived.Laws.DeepStrings4
import Derived.Laws.IdiomStrings
import Derived.Laws.BytesArg
import Derived.Laws.Pointers

namespace Go.Proofs.YtannbdbhkhmppaaGreatDoor.row
open Go.ChangeShapes Go.WideShapes Go.ChangeAt Go.RowKit
set_option linter.unusedVariables false

theorem own : ownKnob Tryz.prog.godebug = none := by kernel_rfl
/-- a world is above itself -/
theorem bel_refl (w : World) : Below w.heap.size w w := ⟨rfl, rfl, rfl, Nat.le_refl _, fun _ _ => rfl⟩

end Go.Proofs.YtannbdbhkhmppaaGreatDoor.row

namespace Go.Proofs.YtannbdbhkhmppaaGreatDoor.sum
open Go.RowKit
set_option linter.unusedVariables false

theorem Hid_mk {p : Prop} (h : p) : Hid p := h

/-- A byte as a value. -/
def B (x : UInt8) : Value := .int .u8 (x.toNat : Int)

/-- A slice value that reads, in this world, as these bytes. -/
def Bs (w : World) (v : Value) (bs : List UInt8) : Prop :=
  ∃ a cap, v = .slice a bs.length cap ∧ bs.length ≤ cap ∧ cap ≤ maxLen ∧
    (bs ≠ [] → ∃ b o, a = some ⟨b, o, none⟩ ∧ ∀ k, k < bs.length → w.cell? ⟨b, o + k, none⟩ = some (B (bs.getD k 0)))

theorem take_snoc {bs : List UInt8} {k : Nat} (h : k < bs.length) : bs.take (k + 1) = bs.take k ++ [bs.getD k 0] := by
  rw [List.take_succ_eq_append_getElem h]; simp [List.getD, h]

end Go.Proofs.YtannbdbhkhmppaaGreatDoor.sum

namespace Go.Proofs.YtannbdbhkhmppaaGreatDoor.kept
open Go.RowKit Go.Proofs.YtannbdbhkhmppaaGreatDoor.sum

structure Kp (S : Nat → Prop) (w w' : World) : Prop where
  os : w'.os = w.os
  tape : w'.tape = w.tape
  output : w'.output = w.output
  size : w.heap.size ≤ w'.heap.size
  block : ∀ k, k < w.heap.size → ¬ S k → w'.heap[k]? = w.heap[k]?

def No : Nat → Prop := fun _ => False
theorem no_iff (k : Nat) : No k ↔ False := Iff.rfl

theorem Kp.refl (S : Nat → Prop) (w : World) : Kp S w w := ⟨rfl, rfl, rfl, Nat.le_refl _, fun _ _ _ => rfl⟩
theorem Kp.mono {S T : Nat → Prop} {w w' : World} (h : Kp S w w') (hs : ∀ k, k < w.heap.size → S k → T k) : Kp T w w' := ⟨h.os, h.tape, h.output, h.size, fun k hk hn => h.block k hk (fun s => hn (hs k hk s))⟩
/-- two steps; what the second one turns may be new, or is among S -/
theorem Kp.trans {S T : Nat → Prop} {a b c : World} (h : Kp S a b) (k : Kp T b c) (hs : ∀ i, i < a.heap.size → T i → S i) : Kp S a c :=
  ⟨k.os.trans h.os, k.tape.trans h.tape, k.output.trans h.output, Nat.le_trans h.size k.size, fun i hi hn => (k.block i (Nat.lt_of_lt_of_le hi h.size) (fun t => hn (hs i hi t))).trans (h.block i hi hn)⟩
theorem Kp.trans' {S : Nat → Prop} {a b c : World} (h : Kp S a b) (k : Kp S b c) : Kp S a c := h.trans k fun _ _ x => x
theorem Kp.alloc {S : Nat → Prop} {a w : World} (h : Kp S a w) (o : Obj) : Kp S a (w.alloc o) :=
  h.trans' ⟨rfl, rfl, rfl, by simp, fun k hk _ => Below.heap_alloc _ _ _ hk⟩
theorem Kp.drew {S : Nat → Prop} {a w : World} (h : Kp S a w) : Kp S a w.drew := ⟨h.os, h.tape, h.output, h.size, h.block⟩
theorem Kp.drewN {S : Nat → Prop} {a w : World} (n : Nat) (h : Kp S a w) : Kp S a (w.drewN n) := h.trans' ⟨rfl, rfl, rfl, Nat.le_refl _, fun _ _ _ => rfl⟩
theorem Kp.setCell {S : Nat → Prop} {a w : World} (h : Kp S a w) {p : Addr} (hp : p.block < a.heap.size → S p.block) (u : Value) : Kp S a (w.setCell p u) := by
  refine h.trans (T := fun k => k = p.block) ⟨rfl, rfl, rfl, by simp [World.setCell], fun k hk hn => Below.heap_setCell _ _ _ _ hn⟩ ?_
  rintro i hi rfl; exact hp hi
theorem Kp.grown {S : Nat → Prop} {a w w' : World} {row : Option Nat} (h : Kp S a w) (hg : w.grownBy w' row) (hr : ∀ k, k < a.heap.size → row = some k → S k) : Kp S a w' :=
  h.trans (T := fun k => some k = row) ⟨hg.os, hg.tape, hg.output, hg.size, hg.block⟩ fun i hi e => hr i hi e.symm
theorem Kp.cell {S : Nat → Prop} {w w' : World} (h : Kp S w w') {p : Addr} (hp : p.block < w.heap.size) (hn : ¬ S p.block) : w'.cell? p = w.cell? p := World.cell?_of_block (w := w) (h.block p.block hp hn)
theorem Kp.cell' {S : Nat → Prop} {w w' : World} (h : Kp S w w') {p : Addr} {u : Value} (hc : w.cell? p = some u) (hn : ¬ S p.block) : w'.cell? p = some u := (h.cell (World.block_lt_of_cell? w p hc) hn).trans hc
theorem Kp.frozen {S : Nat → Prop} {w w' : World} (h : Kp S w w') {p : Addr} (hp : p.block < w.heap.size) (hn : ¬ S p.block) : w'.frozen? p = w.frozen? p := World.frozen?_of_block (w := w) (h.block p.block hp hn)
theorem Kp.below {w w' : World} (h : Kp No w w') : Below w.heap.size w w' := ⟨h.os, h.tape, h.output, h.size, fun k hk => h.block k hk id⟩
theorem Kp.of_below {w w' : World} (h : Below w.heap.size w w') : Kp No w w' := ⟨h.os, h.tape, h.output, h.size, fun k hk _ => h.block k hk⟩
theorem Kp.to {S : Nat → Prop} {w w' : World} (h : Kp No w w') : Kp S w w' := h.mono fun _ _ x => x.elim

theorem owns_kept {S : Nat → Prop} {w w' : World} {base : Nat} {e : TypeId} {size : Nat} {v : Value} {n : Nat} {xs : List Value} (h : w.ownsRow base e size v n xs) (hk : Kp S w w') (hn : ∀ k, v.ownBlock = some k → ¬ S k) : w'.ownsRow base e size v n xs := by
  refine ⟨h.1, ?_⟩
  rcases h.2 with hh | ⟨g, cap, cur, rfl, hb, hg, rest⟩
  · exact .inl hh
  · refine .inr ⟨g, cap, cur, rfl, hb, ?_, rest⟩
    rw [hk.block g (Array.getElem?_eq_some_iff.1 hg).1 (hn g rfl)]
    exact hg

theorem owns_base {w : World} {base base' : Nat} {e : TypeId} {size : Nat} {v : Value} {n : Nat} {xs : List Value} (h : w.ownsRow base e size v n xs) (hb : base' ≤ base) : w.ownsRow base' e size v n xs := by
  refine ⟨h.1, ?_⟩
  rcases h.2 with hh | ⟨g, cap, cur, rfl, hb', hg, rest⟩
  · exact .inl hh
  · exact .inr ⟨g, cap, cur, rfl, by omega, hg, rest⟩

/-- the shape of an owned value that is not empty -/
theorem owns_some {w : World} {base : Nat} {e : TypeId} {size : Nat} {v : Value} {n : Nat} {xs : List Value} (h : w.ownsRow base e size v n xs) (hn : 0 < n) : ∃ g cap, v = .slice (some ⟨g, 0, none⟩) n cap ∧ base ≤ g ∧ g < w.heap.size := by
  rcases h.2 with ⟨_, h0⟩ | ⟨g, cap, cur, rfl, hb, hg, _⟩
  · omega
  · exact ⟨g, cap, rfl, hb, (Array.getElem?_eq_some_iff.1 hg).1⟩
theorem owns_any {w : World} {base : Nat} {e : TypeId} {size : Nat} {v : Value} {n : Nat} {xs : List Value} (h : w.ownsRow base e size v n xs) : (v = .slice none 0 0 ∧ n = 0) ∨ ∃ g cap, v = .slice (some ⟨g, 0, none⟩) n cap ∧ base ≤ g ∧ g < w.heap.size ∧ n ≤ cap ∧ cap ≤ maxLen := by
  rcases h.2 with h0 | ⟨g, cap, cur, rfl, hb, hg, r1, r2, _⟩
  · exact .inl h0
  · exact .inr ⟨g, cap, rfl, hb, (Array.getElem?_eq_some_iff.1 hg).1, r1, r2⟩

theorem addr_add (g o j : Nat) : (⟨g, o, none⟩ : Addr).add j = ⟨g, o + j, none⟩ := by unfold Addr.add; split <;> simp_all

/-- an owned row of bytes reads as its bytes -/
theorem owns_bs {w : World} {base : Nat} {v : Value} {bs : List UInt8} (h : w.ownsRow base 5 1 v bs.length (bs.map B)) : Bs w v bs := by
  rcases h.2 with ⟨rfl, h0⟩ | ⟨g, cap, cur, rfl, hb, hg, r1, r2, r3, r4⟩
  · have : bs = [] := List.eq_nil_of_length_eq_zero h0
    subst this
    exact ⟨none, 0, rfl, Nat.le_refl _, Nat.zero_le _, fun h => absurd rfl h⟩
  · refine ⟨_, cap, rfl, r1, r2, fun _ => ⟨g, 0, rfl, fun k hk => ?_⟩⟩
    have := h.cells (g := g) rfl k (B (bs.getD k 0)) (by simp [List.getD, hk])
    rw [addr_add] at this
    exact this

theorem bs_kept {S : Nat → Prop} {w w' : World} {v : Value} {bs : List UInt8} (h : Bs w v bs) (hk : Kp S w w') (hn : ∀ b o n c, v = .slice (some ⟨b, o, none⟩) n c → ¬ S b) : Bs w' v bs := by
  obtain ⟨a, cap, rfl, h1, h2, h3⟩ := h
  refine ⟨a, cap, rfl, h1, h2, fun hne => ?_⟩
  obtain ⟨b, o, rfl, hc⟩ := h3 hne
  exact ⟨b, o, rfl, fun k hkk => hk.cell' (hc k hkk) (hn b o _ _ rfl)⟩
theorem bs_no {w w' : World} {v : Value} {bs : List UInt8} (h : Bs w v bs) (hk : Kp No w w') : Bs w' v bs := bs_kept h hk fun _ _ _ _ _ x => x

theorem bs_inj {w : World} {v : Value} {bs cs : List UInt8} (h : Bs w v bs) (k : Bs w v cs) : bs = cs := by
  obtain ⟨a, cap, rfl, h1, h2, h3⟩ := h
  obtain ⟨a', cap', e, k1, k2, k3⟩ := k
  simp only [Value.slice.injEq] at e
  obtain ⟨rfl, hl, rfl⟩ := e
  refine List.ext_getElem hl fun i hi hi' => ?_
  obtain ⟨b, o, rfl, hc⟩ := h3 (by intro e; subst e; simp at hi)
  obtain ⟨b', o', e, kc⟩ := k3 (by intro e; subst e; simp at hi')
  cases e
  have := (hc i hi).symm.trans (kc i hi')
  have e2 : bs[i].toNat = cs[i].toNat := by simp [B, List.getD, hi, hi'] at this; omega
  exact UInt8.toNat_inj.1 e2

/-- A Writer at block p whose slice is v: its bytes. -/
structure Wr (base : Nat) (w : World) (p : Nat) (v : Value) (bs : List UInt8) : Prop where
  cell : w.cell? ⟨p, 0, none⟩ = some v
  warm : w.frozen? ⟨p, 0, none⟩ = false
  owns : w.ownsRow base 5 1 v bs.length (bs.map B)
  apart : v.ownBlock ≠ some p
  room : base ≤ w.heap.size

theorem Wr.kept {S : Nat → Prop} {base : Nat} {w w' : World} {p : Nat} {v : Value} {bs : List UInt8} (h : Wr base w p v bs) (hk : Kp S w w') (hp : ¬ S p) (hv : ∀ k, v.ownBlock = some k → ¬ S k) : Wr base w' p v bs :=
  ⟨hk.cell' h.cell hp, (hk.frozen (World.block_lt_of_cell? w _ h.cell) hp).trans h.warm, owns_kept h.owns hk hv, h.apart, Nat.le_trans h.room hk.size⟩

/-- What a call on a Writer leaves: the bytes laid now; of old memory only the Writer and its row have turned; the row is the old one or new. -/
def WrAt (base p : Nat) (v : Value) (bs : List UInt8) (w : World) (v' : Value) (w' : World) : Prop :=
  Wr base w' p v' bs ∧ Kp (fun k => k = p ∨ some k = v.ownBlock) w w' ∧ (v'.ownBlock = v.ownBlock ∨ ∀ g, v'.ownBlock = some g → w.heap.size ≤ g)
def WrPost (base p : Nat) (v : Value) (bs : List UInt8) (w : World) (e : Ending) (w' : World) : Prop :=
  e = .returned (.tuple #[]) ∧ ∃ v', WrAt base p v bs w v' w'

end Go.Proofs.YtannbdbhkhmppaaGreatDoor.kept

namespace Go.Proofs.YtannbdbhkhmppaaGreatDoor.app
open Go.RowKit Go.Proofs.YtannbdbhkhmppaaGreatDoor.sum Go.Proofs.YtannbdbhkhmppaaGreatDoor.kept
set_option linter.unusedVariables false

theorem info5 : (Tryz.prog.info? 5).map (fun i => (i.zero, i.size, i.bytes)) = some (some (.int .u8 0), 1, 1) := by kernel_rfl

/-- what append leaves -/
def App (base : Nat) (w : World) (v : Value) (bs cs : List UInt8) (v' : Value) (w' : World) : Prop :=
  w'.ownsRow base 5 1 v' (bs ++ cs).length ((bs ++ cs).map B) ∧ w.grownBy w' v.ownBlock ∧ (v' = .slice none 0 0 ↔ v = .slice none 0 0 ∧ cs = []) ∧ (v'.ownBlock = v.ownBlock ∨ v'.ownBlock = some w.heap.size)

theorem run_append_zero (w : World) (ty : TypeId) (v : Value) (base n : Nat) (xs : List Value) (hown : w.ownsRow base 5 1 v n xs) (a : Option Addr) (c : Nat) :
    (Builtin.append_ #[32, 32] ty #[v, .slice a 0 c]).run Tryz.prog w = .ok v w := by
  obtain ⟨i0, hi, hz0, hz1, hz2⟩ := info_parts info5
  have hf : ∀ w : World, (Builtin.firstCells 1 0 (.slice a 0 c)).run Tryz.prog w = .ok #[] w := by
    intro w
    cases a with
    | none => exact run_firstCells_none w 1 0 0 c
    | some a => exact run_firstCells_some w 1 0 a 0 c [] rfl (fun j u h => by simp at h)
  rcases hown.2 with ⟨rfl, rfl⟩ | ⟨g, cap, cur, rfl, _, hg, h1, _⟩
  · simp [Builtin.append_, run_underlying Tryz.underlying32, sizeOf, typeInfo, hi, hz1, Builtin.lenOf, hf]
  · simp [Builtin.append_, run_underlying Tryz.underlying32, sizeOf, typeInfo, hi, hz1, Builtin.lenOf, hf, h1, storeCells]

theorem run_append_bs (w : World) (ty : TypeId) (base : Nat) (v : Value) (bs : List UInt8) (hown : w.ownsRow base 5 1 v bs.length (bs.map B)) (xv : Value) (cs : List UInt8) (hx : Bs w xv cs)
    (hb : bs.length + cs.length ≤ 140737488355328) (hbase : base ≤ w.heap.size) :
    ∃ v' w', (Builtin.append_ #[32, 32] ty #[v, xv]).run Tryz.prog w = .ok v' w' ∧ App base w v bs cs v' w' := by
  obtain ⟨i0, hi, hz0, hz1, hz2⟩ := info_parts info5
  obtain ⟨a, cap, rfl, h1, h2, h3⟩ := hx
  by_cases hcs : cs = []
  · subst hcs
    refine ⟨v, w, run_append_zero w ty v base _ _ hown a cap, ?_, World.grownBy.refl _ _, by simp, .inl rfl⟩
    simpa using hown
  · obtain ⟨b, o, rfl, hc⟩ := h3 hcs
    have hmx : bs.length + cs.length ≤ maxLen := by unfold maxLen; omega
    obtain ⟨v', w', hr, k1, k2, k3, k4⟩ := run_append_own_at (P := Tryz.prog) w base 32 ty 5 i0 (.int .u8 0) 1 1 Tryz.underlying32 hi hz0 hz1 hz2 rfl (by decide) v bs.length _ hown ⟨b, o, none⟩ cs.length cap (cs.map B)
      (by simp) (fun j u hu => by
        rw [addr_add]
        have hj : j < cs.length := by simpa using (List.getElem?_eq_some_iff.1 hu).1
        rw [hc j hj]
        simpa [List.getD, hj] using hu) (fun u hu => by obtain ⟨_, _, rfl⟩ := List.mem_map.1 hu; rfl) hmx (by omega) hbase
    refine ⟨v', w', hr, by simpa using k1, k2, ?_, k4⟩
    rw [k3]
    simp [List.length_eq_zero_iff]

theorem wpList_append_bs (w : World) {ops : Array Oper} {rest : List Oper} {o : Oper} {a : Act} {Q : Exit → Act → World → Prop} (hgd : o.guard = none) (s x : Operand)
    (ho : o.op = .call { callee := .builtin .append, args := #[s, x], argTypes := #[32, 32] })
    (base : Nat) (v : Value) (bs : List UInt8) (hs : a.eval s = v) (hown : w.ownsRow base 5 1 v bs.length (bs.map B)) (xv : Value) (cs : List UInt8) (hx : a.eval x = xv) (hxs : Bs w xv cs)
    (hb : bs.length + cs.length ≤ 140737488355328) (hbase : base ≤ w.heap.size)
    (h : ∀ v' w', App base w v bs cs v' w' → wpList Tryz.prog ops Q rest (a.put o.dst v') w') :
    wpList Tryz.prog ops Q (o :: rest) a w := by
  refine wpList_plain hgd fun K hK => ?_
  obtain ⟨v', w', hr, h2⟩ := run_append_bs w o.type base v bs hown xv cs hxs hb hbase
  unfold Oper.wp execOp
  simp only [ho, resolve, invoke, builtin, Sem.run_bind, Sem.run_pure, Result.andThen_ok, List.map_toArray, List.map_cons, List.map_nil, hs, hx, hr]
  exact hK _ _ (h v' w' h2)

theorem strCells_bs (s : ByteArray) : Lib.strCells s = s.data.toList.map B := rfl

theorem run_append_str (w : World) (ty : TypeId) (base : Nat) (v : Value) (bs : List UInt8) (hown : w.ownsRow base 5 1 v bs.length (bs.map B)) (s : ByteArray)
    (hb : bs.length + s.size ≤ 140737488355328) (hbase : base ≤ w.heap.size) :
    ∃ v' w', (Builtin.append_ #[32, 9] ty #[v, .string s]).run Tryz.prog w = .ok v' w' ∧ App base w v bs s.data.toList v' w' := by
  obtain ⟨i0, hi, hz0, hz1, hz2⟩ := info_parts info5
  have hmx : bs.length + s.size ≤ maxLen := by unfold maxLen; omega
  obtain ⟨v', w', hr, k1, k2, k3⟩ := Lib.run_append_own_string (P := Tryz.prog) w base 32 9 ty 5 i0 Tryz.underlying32 Tryz.underlying9 hi hz0 hz1 hz2 v bs.length _ hown s hmx hb hbase
  have hsz : s.data.toList.length = s.size := by rw [Array.length_toList]; rfl
  refine ⟨v', w', hr, ?_, k2, ?_, ?_⟩
  · rw [List.length_append, hsz, List.map_append, ← strCells_bs]; exact k1
  · rw [k3]
    constructor
    · rintro ⟨h1, h2⟩; exact ⟨h1, List.eq_nil_of_length_eq_zero (by omega)⟩
    · rintro ⟨h1, h2⟩; rw [h2] at hsz; exact ⟨h1, by simpa using hsz.symm⟩
  · have hS : Src Tryz.prog i0.size 9 (.string s) s.size (Go.byteCells s) w := by rw [hz1]; exact Src.ofString w Tryz.underlying9 s
    have hsl : (Go.byteCells s).length = s.size := byteCells_length s
    rcases hown.2 with ⟨rfl, h0⟩ | ⟨g, cap, cur, rfl, _, hg, r1, r2, r3, r4⟩
    · by_cases hs0 : s.size = 0
      · left; rw [k3.2 ⟨rfl, hs0⟩]
      · have hgr := run_append_grow_src (P := Tryz.prog) w 32 9 ty 5 i0 (.int .u8 0) Tryz.underlying32 hi hz0 none 0 0 [] (run_firstCells_none w.drew i0.size 0 0 0) (.string s) s.size _ hS (by omega) (by omega)
          (by rw [hz2]; exact growslice_fits (by omega) (by omega))
        rw [hgr] at hr
        injection hr with e1 e2
        right; rw [← e1]; rfl
    · by_cases hroom : bs.length + s.size ≤ cap
      · have hrm := run_append_room_src (P := Tryz.prog) w 32 9 ty 5 i0 Tryz.underlying32 hi g 0 bs.length cap (.string s) s.size _ hS hroom
          (by
            intro j hj
            rw [hz1, cell_of_row w g _ cur _ (0, 0) hg]
            have hlt : 0 + bs.length * 1 + j < cur.size := by omega
            simp; omega)
          (by
            intro j hj
            rw [hz1]
            simp [World.frozen?, hg])
        rw [hrm] at hr
        injection hr with e1 e2
        left; rw [← e1]; rfl
      · have holds : ∀ j u, (bs.map B)[j]? = some u → w.drew.cell? ((⟨g, 0, none⟩ : Addr).add j) = some u := hown.cells (g := g) rfl
        have hgr := run_append_grow_src (P := Tryz.prog) w 32 9 ty 5 i0 (.int .u8 0) Tryz.underlying32 hi hz0 (some ⟨g, 0, none⟩) bs.length cap (bs.map B)
          (run_firstCells_some w.drew i0.size bs.length ⟨g, 0, none⟩ bs.length cap _ (by rw [hz1]; simp) holds) (.string s) s.size _ hS (by omega) (by omega) (by rw [hz2]; exact growslice_fits (by omega) (by omega))
        rw [hgr] at hr
        injection hr with e1 e2
        right; rw [← e1]; rfl

theorem wpList_append_str (w : World) {ops : Array Oper} {rest : List Oper} {o : Oper} {a : Act} {Q : Exit → Act → World → Prop} (hgd : o.guard = none) (sl x : Operand)
    (ho : o.op = .call { callee := .builtin .append, args := #[sl, x], argTypes := #[32, 9] })
    (base : Nat) (v : Value) (bs : List UInt8) (hs : a.eval sl = v) (hown : w.ownsRow base 5 1 v bs.length (bs.map B)) (s : ByteArray) (hx : a.eval x = .string s)
    (hb : bs.length + s.size ≤ 140737488355328) (hbase : base ≤ w.heap.size)
    (h : ∀ v' w', App base w v bs s.data.toList v' w' → wpList Tryz.prog ops Q rest (a.put o.dst v') w') :
    wpList Tryz.prog ops Q (o :: rest) a w := by
  refine wpList_plain hgd fun K hK => ?_
  obtain ⟨v', w', hr, h2⟩ := run_append_str w o.type base v bs hown s hb hbase
  unfold Oper.wp execOp
  simp only [ho, resolve, invoke, builtin, Sem.run_bind, Sem.run_pure, Result.andThen_ok, List.map_toArray, List.map_cons, List.map_nil, hs, hx, hr]
  exact hK _ _ (h v' w' h2)

end Go.Proofs.YtannbdbhkhmppaaGreatDoor.app

namespace Go.Proofs.YtannbdbhkhmppaaGreatDoor.writer
open Go.RowKit Go.Proofs.YtannbdbhkhmppaaGreatDoor.sum Go.Proofs.YtannbdbhkhmppaaGreatDoor.kept Go.Proofs.YtannbdbhkhmppaaGreatDoor.app
set_option linter.unusedVariables false

theorem getD_lt {bs : List UInt8} {k : Nat} (h : k < bs.length) : bs.getD k 0 = bs[k] := by simp [List.getD, h]

/-- a literal of one byte, as laid by the call -/
theorem bs_one (w : World) (x : UInt8) : Bs (w.alloc (.cells #[.int .u8 (x.toNat : Int)] 5)) (.slice (some ⟨w.heap.size, 0, none⟩) 1 1) [x] := by
  refine ⟨_, 1, rfl, Nat.le_refl _, by decide, fun _ => ⟨_, _, rfl, fun k hk => ?_⟩⟩
  simp only [List.length_singleton] at hk
  obtain rfl : k = 0 := by omega
  simp [B]

theorem app_kept {S : Nat → Prop} {base : Nat} {w w1 : World} {o : Obj} {v v' : Value} {bs cs : List UInt8} (h : App base (w.alloc o) v bs cs v' w1) (hs : ∀ k, k < w.heap.size → v.ownBlock = some k → S k) : Kp S w w1 :=
  ((Kp.refl _ w).alloc _).grown h.2.1 fun k hk e => hs k hk e
theorem app_kept0 {S : Nat → Prop} {base : Nat} {w w1 : World} {v v' : Value} {bs cs : List UInt8} (h : App base w v bs cs v' w1) (hs : ∀ k, k < w.heap.size → v.ownBlock = some k → S k) : Kp S w w1 :=
  (Kp.refl _ w).grown h.2.1 fun k hk e => hs k hk e
theorem app_fresh {base : Nat} {w w1 : World} {o : Obj} {v v' : Value} {bs cs : List UInt8} (h : App base (w.alloc o) v bs cs v' w1) : v'.ownBlock = v.ownBlock ∨ ∀ g, v'.ownBlock = some g → w.heap.size ≤ g := by
  rcases h.2.2.2 with h | h
  · exact .inl h
  · right; intro g hg; rw [h] at hg; simp at hg; omega
theorem app_fresh0 {base : Nat} {w w1 : World} {v v' : Value} {bs cs : List UInt8} (h : App base w v bs cs v' w1) : v'.ownBlock = v.ownBlock ∨ ∀ g, v'.ownBlock = some g → w.heap.size ≤ g := by
  rcases h.2.2.2 with h | h
  · exact .inl h
  · right; intro g hg; rw [h] at hg; simp at hg; omega

/-- the Writer's one cell behind the append, and the store into it -/
theorem wr_store {base p : Nat} {w w1 : World} {v v' : Value} {bs cs : List UInt8} (h : Wr base w p v bs) (hb : base ≤ w1.heap.size) (hw : w1.ownsRow base 5 1 v' (bs ++ cs).length ((bs ++ cs).map B)) (hk : Kp (fun k => some k = v.ownBlock) w w1)
    (hf : v'.ownBlock = v.ownBlock ∨ ∀ g, v'.ownBlock = some g → w.heap.size ≤ g) :
    WrPost base p v (bs ++ cs) w (.returned (.tuple #[])) (w1.setCell ⟨p, 0, none⟩ v') := by
  have hp := World.block_lt_of_cell? w _ h.cell
  simp only at hp
  have hc1 : w1.cell? ⟨p, 0, none⟩ = some v := hk.cell' h.cell (fun e => h.apart e.symm)
  have hf1 : w1.frozen? ⟨p, 0, none⟩ = false := (hk.frozen hp (fun e => h.apart e.symm)).trans h.warm
  have hap : v'.ownBlock ≠ some p := by
    rcases hf with e | e
    · rw [e]; exact h.apart
    · intro e2; have := e p e2; omega
  have hk2 : Kp (fun k => k = p) w1 (w1.setCell ⟨p, 0, none⟩ v') := (Kp.refl (fun k => k = p) _).setCell (fun _ => rfl) _
  refine ⟨rfl, v', ⟨World.cell?_setCell_same w1 _ v' hc1, ?_, owns_kept hw hk2 ?_, hap, ?_⟩, ?_, hf⟩
  · rw [World.frozen?_setCell]; exact hf1
  · rintro k e rfl; exact hap e
  · simp [World.setCell]; exact hb
  · exact (hk.mono (fun k _ e => Or.inr e)).trans hk2 (fun i _ e => Or.inl e)

theorem WrPost.refl {base p : Nat} {w : World} {v : Value} {bs : List UInt8} (h : Wr base w p v bs) : WrPost base p v bs w (.returned (.tuple #[])) w := ⟨rfl, v, h, Kp.refl _ _, .inl rfl⟩

/-- A Writer call behind another. -/
theorem wr_join {base p : Nat} {w w1 w2 : World} {v v1 : Value} {bs cs : List UInt8} {e : Ending} (h : WrAt base p v bs w v1 w1) (k : WrPost base p v1 cs w1 e w2) : WrPost base p v cs w e w2 := by
  obtain ⟨h1, h2, h3⟩ := h
  obtain ⟨rfl, v2, k1, k2, k3⟩ := k
  refine ⟨rfl, v2, k1, h2.trans k2 ?_, ?_⟩
  · rintro i hi (e | e)
    · exact .inl e
    · rcases h3 with h3 | h3
      · right; rw [← h3]; exact e
      · have := h3 i e.symm; omega
  · rcases k3 with k3 | k3
    · rw [k3]
      rcases h3 with h3 | h3
      · exact .inl h3
      · exact .inr h3
    · right; intro g hg; have := k3 g hg; have := h2.size; omega

/-- how many numbers a uint64 has: behind a name, for the walk's sake -/
def U64 : Nat := 18446744073709551616
theorem u64_eq : U64 = 18446744073709551616 := rfl

/-- a number's bytes -/
def num (n : Nat) : List UInt8 := if h : n < 128 then [n.toUInt8] else (n % 128 + 128).toUInt8 :: num (n / 128)
termination_by n
decreasing_by omega

theorem num_small {n : Nat} (h : n < 128) : num n = [n.toUInt8] := by rw [num]; simp [h]
theorem num_big {n : Nat} (h : ¬ n < 128) : num n = (n % 128 + 128).toUInt8 :: num (n / 128) := by rw [num]; simp [h]
theorem num_len (n k : Nat) (hk : n < 128 ^ k) (h1 : 0 < k) : (num n).length ≤ k := by
  induction k generalizing n with
  | zero => omega
  | succ k ih =>
    by_cases h : n < 128
    · rw [num_small h]; simp
    · rw [num_big h]
      have h2 : n / 128 < 128 ^ k := by rw [Nat.pow_succ] at hk; omega
      have hk0 : 0 < k := by
        rcases Nat.eq_zero_or_pos k with rfl | h3
        · simp at h2; omega
        · exact h3
      have := ih (n / 128) h2 hk0
      simp; omega

theorem or128_fin : ∀ k : Fin 256, bits .or .u8 ((k.val : Nat) : Int) 128 = ((k.val % 128 + 128 : Nat) : Int) := by decide +kernel
theorem or128 (m : Nat) : bits .or .u8 ((m : Int) % 256) 128 = ((m % 128 + 128 : Nat) : Int) := by
  have h := or128_fin ⟨m % 256, by omega⟩
  simp only at h
  rw [show ((m : Int) % 256) = ((m % 256 : Nat) : Int) by omega, h]
  congr 1
  omega

def NumRel (base p : Nat) (v : Value) (bs : List UInt8) (n : Nat) (w : World) (t : Value) (wr : World) : Prop :=
  ∃ (m : Nat) (pre : List UInt8), t = .int .u64 m ∧ m < U64 ∧ pre ++ num m = num n ∧ WrPost base p v (bs ++ pre) w (.returned (.tuple #[])) wr

end Go.Proofs.YtannbdbhkhmppaaGreatDoor.writer

namespace Go.Proofs.YtannbdbhkhmppaaGreatDoor.str
open Go.RowKit Go.Proofs.YtannbdbhkhmppaaGreatDoor.sum Go.Proofs.YtannbdbhkhmppaaGreatDoor.kept
set_option linter.unusedVariables false

/-- bytes as a text -/
def st (l : List UInt8) : ByteArray := ⟨l.toArray⟩
theorem st_size (l : List UInt8) : (st l).size = l.length := by simp [st, ByteArray.size]
theorem st_list (l : List UInt8) : (st l).toList = l := by rw [ByteArray.toList_eq]; simp [st]
theorem st_data (l : List UInt8) : (st l).data.toList = l := by simp [st]
theorem st_of (s : ByteArray) : st s.data.toList = s := by
  apply ByteArray.ext
  simp [st]
theorem st_get (l : List UInt8) (k : Nat) (h : k < (st l).size) : ((st l)[k]).toNat = (l.getD k 0).toNat := by
  have hk : k < l.length := by rw [st_size] at h; exact h
  have e : ((st l)[k]'h) = l[k] := by
    show l.toArray[k] = l[k]
    simp
  exact (congrArg UInt8.toNat e).trans (by simp [List.getD, hk])
/-- from a place on -/
theorem st_from (l : List UInt8) (i : Nat) : (st l).extract i l.length = st (l.drop i) := by
  apply ByteArray.ext
  rw [ByteArray.data_extract]
  apply Array.ext'
  simp [st, List.take_of_length_le]
theorem st_piece (l : List UInt8) (i j : Nat) : (st l).extract i j = st ((l.drop i).take (j - i)) := by
  apply ByteArray.ext
  rw [ByteArray.data_extract]
  apply Array.ext'
  simp [st, List.take_drop]
theorem getD_lt (l : List UInt8) (k : Nat) : (l.getD k 0).toNat < 256 := (l.getD k 0).toNat_lt

end Go.Proofs.YtannbdbhkhmppaaGreatDoor.str

namespace Go.Proofs.YtannbdbhkhmppaaGreatDoor.clone
open Go.RowKit Go.Proofs.YtannbdbhkhmppaaGreatDoor.sum Go.Proofs.YtannbdbhkhmppaaGreatDoor.kept Go.Proofs.YtannbdbhkhmppaaGreatDoor.app Go.Proofs.YtannbdbhkhmppaaGreatDoor.writer
set_option linter.unusedVariables false

/-- A new row of these bytes, in new memory. -/
def NewBs (w : World) (bs : List UInt8) (e : Ending) (w' : World) : Prop :=
  ∃ v', e = .returned v' ∧ w'.ownsRow w.heap.size 5 1 v' bs.length (bs.map B) ∧ Kp No w w'

end Go.Proofs.YtannbdbhkhmppaaGreatDoor.clone

namespace Go.Proofs.YtannbdbhkhmppaaGreatDoor.known
open Go.RowKit Go.Proofs.YtannbdbhkhmppaaGreatDoor.sum Go.Proofs.YtannbdbhkhmppaaGreatDoor.kept Go.Proofs.YtannbdbhkhmppaaGreatDoor.app Go.Proofs.YtannbdbhkhmppaaGreatDoor.writer Go.Proofs.YtannbdbhkhmppaaGreatDoor.clone
set_option linter.unusedVariables false

/-- bytes as a text -/
theorem conv_bs {w : World} {v : Value} {bs : List UInt8} (h : Bs w v bs) : (convert 32 9 v).run Tryz.prog w = .ok (.string ⟨bs.toArray⟩) w := by
  obtain ⟨a, cap, rfl, h1, h2, h3⟩ := h
  by_cases hbs : bs = []
  · subst hbs
    cases a with
    | none => exact run_convert_bytes_nil w 32 5 Tryz.underlying32 Tryz.underlying5 _ _ _ Tryz.underlying9
    | some ad => exact run_convert_bytes_back w 32 9 5 ad cap [] Tryz.underlying32 Tryz.underlying5 Tryz.underlying9 (fun j hj => by simp at hj)
  · obtain ⟨b, o, rfl, hc⟩ := h3 hbs
    refine run_convert_bytes_back w 32 9 5 ⟨b, o, none⟩ cap bs Tryz.underlying32 Tryz.underlying5 Tryz.underlying9 (fun j hj => ?_)
    rw [addr_add, hc j hj]
    simp [B, List.getD, hj]

/-- a literal of bytes, as laid by the call -/
theorem bs_lit (w : World) (bs : List UInt8) (fr : Nat × Nat) (hl : bs.length ≤ maxLen) : Bs (w.alloc (.cells (bs.map B).toArray 5 fr)) (.slice (some ⟨w.heap.size, 0, none⟩) bs.length bs.length) bs := by
  refine ⟨_, _, rfl, Nat.le_refl _, hl, fun _ => ⟨_, _, rfl, fun k hk => ?_⟩⟩
  rw [World.cell?_alloc_mark]
  simp [List.getD, hk]

end Go.Proofs.YtannbdbhkhmppaaGreatDoor.known
