/- Bytes in memory; a hypothesis that the walk does not look into. How memory may turn in a call: 'Kp S w w'': of what was there only the blocks of S may have turned. And the pieces of memory that package pack makes: a row of bytes, a Writer. How the arguments of the statements are read: a slice of bytes as its bytes. A slice of bytes as an argument, where what comes in is of bounded bulk. How a tailracehand.Tree among the arguments is read: by recursion, each node once. A raw tree among the arguments, out of what its type says. Counting bits: a word as its bits, how many of them are 1, and what the library's parallel sums come to. No program in it. -/
import Derived.Test.YtaneblecgjahbabProg
import Derived.WalkKit
import Derived.WalkLawsBesides
import Derived.Deep.QuietTactic
import Derived.BigQuiet
import Derived.Outline
import Derived.Laws.Externs
import Derived.KernelRfl
import Derived.Test.YtaneblecgjahbabRows
import Derived.ProofKit
import Derived.OpenShut
import Derived.ShutString
import Derived.ChangeOld
import Derived.SizedLaws
import Derived.Deep.Slices
import Derived.JoinedCond
import Derived.Deep.Fields
import Derived.Laws.BitsAllLaws

namespace Go.Proofs.Ytaneblecgjahbab.sum
open Go.RowKit
set_option linter.unusedVariables false

theorem Hid_mk {p : Prop} (h : p) : Hid p := h

/-- A byte as a value. -/
def B (x : UInt8) : Value := .int .u8 (x.toNat : Int)

/-- A slice value that reads, in this world, as these bytes. -/
def Bs (w : World) (v : Value) (bs : List UInt8) : Prop :=
  ∃ a cap, v = .slice a bs.length cap ∧ bs.length ≤ cap ∧ cap ≤ maxLen ∧
    (bs ≠ [] → ∃ b o, a = some ⟨b, o, none⟩ ∧ ∀ k, k < bs.length → w.cell? ⟨b, o + k, none⟩ = some (B (bs.getD k 0)))

theorem take_snoc {bs : List UInt8} {k : Nat} (h : k < bs.length) : bs.take (k + 1) = bs.take k ++ [bs.getD k 0] := by
  rw [List.take_succ_eq_append_getElem h]; simp [List.getD, h]

end Go.Proofs.Ytaneblecgjahbab.sum

namespace Go.Proofs.Ytaneblecgjahbab.kept
open Go.RowKit Go.Proofs.Ytaneblecgjahbab.sum

structure Kp (S : Nat → Prop) (w w' : World) : Prop where
  os : w'.os = w.os
  tape : w'.tape = w.tape
  output : w'.output = w.output
  size : w.heap.size ≤ w'.heap.size
  block : ∀ k, k < w.heap.size → ¬ S k → w'.heap[k]? = w.heap[k]?

def No : Nat → Prop := fun _ => False
theorem no_iff (k : Nat) : No k ↔ False := Iff.rfl

theorem Kp.refl (S : Nat → Prop) (w : World) : Kp S w w := ⟨rfl, rfl, rfl, Nat.le_refl _, fun _ _ _ => rfl⟩
theorem Kp.mono {S T : Nat → Prop} {w w' : World} (h : Kp S w w') (hs : ∀ k, k < w.heap.size → S k → T k) : Kp T w w' := ⟨h.os, h.tape, h.output, h.size, fun k hk hn => h.block k hk (fun s => hn (hs k hk s))⟩
/-- two steps; what the second one turns may be new, or is among S -/
theorem Kp.trans {S T : Nat → Prop} {a b c : World} (h : Kp S a b) (k : Kp T b c) (hs : ∀ i, i < a.heap.size → T i → S i) : Kp S a c :=
  ⟨k.os.trans h.os, k.tape.trans h.tape, k.output.trans h.output, Nat.le_trans h.size k.size, fun i hi hn => (k.block i (Nat.lt_of_lt_of_le hi h.size) (fun t => hn (hs i hi t))).trans (h.block i hi hn)⟩
theorem Kp.trans' {S : Nat → Prop} {a b c : World} (h : Kp S a b) (k : Kp S b c) : Kp S a c := h.trans k fun _ _ x => x
theorem Kp.alloc {S : Nat → Prop} {a w : World} (h : Kp S a w) (o : Obj) : Kp S a (w.alloc o) :=
  h.trans' ⟨rfl, rfl, rfl, by simp, fun k hk _ => Below.heap_alloc _ _ _ hk⟩
theorem Kp.drew {S : Nat → Prop} {a w : World} (h : Kp S a w) : Kp S a w.drew := ⟨h.os, h.tape, h.output, h.size, h.block⟩
theorem Kp.drewN {S : Nat → Prop} {a w : World} (n : Nat) (h : Kp S a w) : Kp S a (w.drewN n) := h.trans' ⟨rfl, rfl, rfl, Nat.le_refl _, fun _ _ _ => rfl⟩
theorem Kp.setCell {S : Nat → Prop} {a w : World} (h : Kp S a w) {p : Addr} (hp : p.block < a.heap.size → S p.block) (u : Value) : Kp S a (w.setCell p u) := by
  refine h.trans (T := fun k => k = p.block) ⟨rfl, rfl, rfl, by simp [World.setCell], fun k hk hn => Below.heap_setCell _ _ _ _ hn⟩ ?_
  rintro i hi rfl; exact hp hi
theorem Kp.grown {S : Nat → Prop} {a w w' : World} {row : Option Nat} (h : Kp S a w) (hg : w.grownBy w' row) (hr : ∀ k, k < a.heap.size → row = some k → S k) : Kp S a w' :=
  h.trans (T := fun k => some k = row) ⟨hg.os, hg.tape, hg.output, hg.size, hg.block⟩ fun i hi e => hr i hi e.symm
theorem Kp.cell {S : Nat → Prop} {w w' : World} (h : Kp S w w') {p : Addr} (hp : p.block < w.heap.size) (hn : ¬ S p.block) : w'.cell? p = w.cell? p := World.cell?_of_block (w := w) (h.block p.block hp hn)
theorem Kp.cell' {S : Nat → Prop} {w w' : World} (h : Kp S w w') {p : Addr} {u : Value} (hc : w.cell? p = some u) (hn : ¬ S p.block) : w'.cell? p = some u := (h.cell (World.block_lt_of_cell? w p hc) hn).trans hc
theorem Kp.frozen {S : Nat → Prop} {w w' : World} (h : Kp S w w') {p : Addr} (hp : p.block < w.heap.size) (hn : ¬ S p.block) : w'.frozen? p = w.frozen? p := World.frozen?_of_block (w := w) (h.block p.block hp hn)
theorem Kp.below {w w' : World} (h : Kp No w w') : Below w.heap.size w w' := ⟨h.os, h.tape, h.output, h.size, fun k hk => h.block k hk id⟩
theorem Kp.of_below {w w' : World} (h : Below w.heap.size w w') : Kp No w w' := ⟨h.os, h.tape, h.output, h.size, fun k hk _ => h.block k hk⟩
theorem Kp.to {S : Nat → Prop} {w w' : World} (h : Kp No w w') : Kp S w w' := h.mono fun _ _ x => x.elim

theorem owns_kept {S : Nat → Prop} {w w' : World} {base : Nat} {e : TypeId} {size : Nat} {v : Value} {n : Nat} {xs : List Value} (h : w.ownsRow base e size v n xs) (hk : Kp S w w') (hn : ∀ k, v.ownBlock = some k → ¬ S k) : w'.ownsRow base e size v n xs := by
  refine ⟨h.1, ?_⟩
  rcases h.2 with hh | ⟨g, cap, cur, rfl, hb, hg, rest⟩
  · exact .inl hh
  · refine .inr ⟨g, cap, cur, rfl, hb, ?_, rest⟩
    rw [hk.block g (Array.getElem?_eq_some_iff.1 hg).1 (hn g rfl)]
    exact hg

theorem owns_base {w : World} {base base' : Nat} {e : TypeId} {size : Nat} {v : Value} {n : Nat} {xs : List Value} (h : w.ownsRow base e size v n xs) (hb : base' ≤ base) : w.ownsRow base' e size v n xs := by
  refine ⟨h.1, ?_⟩
  rcases h.2 with hh | ⟨g, cap, cur, rfl, hb', hg, rest⟩
  · exact .inl hh
  · exact .inr ⟨g, cap, cur, rfl, by omega, hg, rest⟩

/-- the shape of an owned value that is not empty -/
theorem owns_some {w : World} {base : Nat} {e : TypeId} {size : Nat} {v : Value} {n : Nat} {xs : List Value} (h : w.ownsRow base e size v n xs) (hn : 0 < n) : ∃ g cap, v = .slice (some ⟨g, 0, none⟩) n cap ∧ base ≤ g ∧ g < w.heap.size := by
  rcases h.2 with ⟨_, h0⟩ | ⟨g, cap, cur, rfl, hb, hg, _⟩
  · omega
  · exact ⟨g, cap, rfl, hb, (Array.getElem?_eq_some_iff.1 hg).1⟩
theorem owns_any {w : World} {base : Nat} {e : TypeId} {size : Nat} {v : Value} {n : Nat} {xs : List Value} (h : w.ownsRow base e size v n xs) : (v = .slice none 0 0 ∧ n = 0) ∨ ∃ g cap, v = .slice (some ⟨g, 0, none⟩) n cap ∧ base ≤ g ∧ g < w.heap.size ∧ n ≤ cap ∧ cap ≤ maxLen := by
  rcases h.2 with h0 | ⟨g, cap, cur, rfl, hb, hg, r1, r2, _⟩
  · exact .inl h0
  · exact .inr ⟨g, cap, rfl, hb, (Array.getElem?_eq_some_iff.1 hg).1, r1, r2⟩

theorem addr_add (g o j : Nat) : (⟨g, o, none⟩ : Addr).add j = ⟨g, o + j, none⟩ := by unfold Addr.add; split <;> simp_all

/-- an owned row of bytes reads as its bytes -/
theorem owns_bs {w : World} {base : Nat} {v : Value} {bs : List UInt8} (h : w.ownsRow base 5 1 v bs.length (bs.map B)) : Bs w v bs := by
  rcases h.2 with ⟨rfl, h0⟩ | ⟨g, cap, cur, rfl, hb, hg, r1, r2, r3, r4⟩
  · have : bs = [] := List.eq_nil_of_length_eq_zero h0
    subst this
    exact ⟨none, 0, rfl, Nat.le_refl _, Nat.zero_le _, fun h => absurd rfl h⟩
  · refine ⟨_, cap, rfl, r1, r2, fun _ => ⟨g, 0, rfl, fun k hk => ?_⟩⟩
    have := h.cells (g := g) rfl k (B (bs.getD k 0)) (by simp [List.getD, hk])
    rw [addr_add] at this
    exact this

theorem bs_kept {S : Nat → Prop} {w w' : World} {v : Value} {bs : List UInt8} (h : Bs w v bs) (hk : Kp S w w') (hn : ∀ b o n c, v = .slice (some ⟨b, o, none⟩) n c → ¬ S b) : Bs w' v bs := by
  obtain ⟨a, cap, rfl, h1, h2, h3⟩ := h
  refine ⟨a, cap, rfl, h1, h2, fun hne => ?_⟩
  obtain ⟨b, o, rfl, hc⟩ := h3 hne
  exact ⟨b, o, rfl, fun k hkk => hk.cell' (hc k hkk) (hn b o _ _ rfl)⟩
theorem bs_no {w w' : World} {v : Value} {bs : List UInt8} (h : Bs w v bs) (hk : Kp No w w') : Bs w' v bs := bs_kept h hk fun _ _ _ _ _ x => x

theorem bs_inj {w : World} {v : Value} {bs cs : List UInt8} (h : Bs w v bs) (k : Bs w v cs) : bs = cs := by
  obtain ⟨a, cap, rfl, h1, h2, h3⟩ := h
  obtain ⟨a', cap', e, k1, k2, k3⟩ := k
  simp only [Value.slice.injEq] at e
  obtain ⟨rfl, hl, rfl⟩ := e
  refine List.ext_getElem hl fun i hi hi' => ?_
  obtain ⟨b, o, rfl, hc⟩ := h3 (by intro e; subst e; simp at hi)
  obtain ⟨b', o', e, kc⟩ := k3 (by intro e; subst e; simp at hi')
  cases e
  have := (hc i hi).symm.trans (kc i hi')
  have e2 : bs[i].toNat = cs[i].toNat := by simp [B, List.getD, hi, hi'] at this; omega
  exact UInt8.toNat_inj.1 e2

/-- A Writer at block p whose slice is v: its bytes. -/
structure Wr (base : Nat) (w : World) (p : Nat) (v : Value) (bs : List UInt8) : Prop where
  cell : w.cell? ⟨p, 0, none⟩ = some v
  warm : w.frozen? ⟨p, 0, none⟩ = false
  owns : w.ownsRow base 5 1 v bs.length (bs.map B)
  apart : v.ownBlock ≠ some p
  room : base ≤ w.heap.size

theorem Wr.kept {S : Nat → Prop} {base : Nat} {w w' : World} {p : Nat} {v : Value} {bs : List UInt8} (h : Wr base w p v bs) (hk : Kp S w w') (hp : ¬ S p) (hv : ∀ k, v.ownBlock = some k → ¬ S k) : Wr base w' p v bs :=
  ⟨hk.cell' h.cell hp, (hk.frozen (World.block_lt_of_cell? w _ h.cell) hp).trans h.warm, owns_kept h.owns hk hv, h.apart, Nat.le_trans h.room hk.size⟩

/-- What a call on a Writer leaves: the bytes laid now; of old memory only the Writer and its row have turned; the row is the old one or new. -/
def WrAt (base p : Nat) (v : Value) (bs : List UInt8) (w : World) (v' : Value) (w' : World) : Prop :=
  Wr base w' p v' bs ∧ Kp (fun k => k = p ∨ some k = v.ownBlock) w w' ∧ (v'.ownBlock = v.ownBlock ∨ ∀ g, v'.ownBlock = some g → w.heap.size ≤ g)
def WrPost (base p : Nat) (v : Value) (bs : List UInt8) (w : World) (e : Ending) (w' : World) : Prop :=
  e = .returned (.tuple #[]) ∧ ∃ v', WrAt base p v bs w v' w'

end Go.Proofs.Ytaneblecgjahbab.kept

namespace Go.Proofs.Ytaneblecgjahbab.row
open Go.ChangeShapes Go.WideShapes Go.ChangeAt Go.RowKit Go.Proofs.Ytaneblecgjahbab.sum Go.Proofs.Ytaneblecgjahbab.kept
set_option linter.unusedVariables false

theorem own : ownKnob Try.prog.godebug = none := by kernel_rfl
theorem laidOut : laidOutB Try.prog = true := by kernel_rfl
theorem bytes5 : Try.prog.bytesOf 5 = 1 := by kernel_rfl

theorem u8_of {n : Int} (h : (Lit.int .u8 n).wf = true) : ((n.toNat.toUInt8).toNat : Int) = n := by
  have hx : 0 ≤ n ∧ n ≤ 255 := by simpa [Lit.wf, IntKind.min, IntKind.max, IntKind.signed, IntKind.bits] using h
  simp [Nat.toUInt8]
  omega

theorem open_bs_any {H : Type} {enc : TypeId × Value → H} {W : World} {a : Option Addr} {len cap : Nat} {d : DataW H} {p : List MemPlace}
    (h0 : DataW.Trod enc Try.prog W 0 (fun _ => true) true 40 (.slice a len cap) d p) : ∃ bs, Bs W (.slice a len cap) bs := by
  obtain ⟨fuel, hf⟩ := h0
  rcases open_ints Try.underlying40 Try.underlying5 (by kernel_rfl) hf with ⟨hcs, _⟩ | ⟨x, l, c, zs, hcs, _, hl, hm, hz, hx, hcell, hwz⟩
  · simp [Value.cells] at hcs
    obtain ⟨rfl, rfl, rfl⟩ := hcs
    exact ⟨[], none, 0, rfl, Nat.le_refl _, Nat.zero_le _, fun h => absurd rfl h⟩
  · simp [Value.cells] at hcs
    obtain ⟨rfl, rfl, rfl⟩ := hcs
    simp only [if_true] at hz
    have hlen : ((zs.take len).map fun n => n.toNat.toUInt8).length = len := by simp; omega
    refine ⟨(zs.take len).map fun n => n.toNat.toUInt8, some x, cap, by rw [hlen], by omega, hm, fun hne => ?_⟩
    have h0 : 0 < zs.length := by
      rcases Nat.eq_zero_or_pos len with e | e
      · subst e; simp at hne
      · omega
    have hc0 := hcell 0 h0
    obtain ⟨b, o, spot⟩ := x
    have hspot : spot = none := by simpa [Addr.add] using World.cell?_spot hc0
    subst hspot
    refine ⟨b, o, rfl, fun k hk => ?_⟩
    rw [hlen] at hk
    have hkz : k < zs.length := by omega
    have hc := hcell k hkz
    rw [addr_add] at hc
    rw [hc]
    have e1 : (List.map (fun n : Int => n.toNat.toUInt8) (zs.take len)).getD k 0 = (zs.getD k 0).toNat.toUInt8 := by simp [List.getD, hk, hkz]
    rw [e1]
    unfold B
    rw [u8_of (hwz (zs.getD k 0) (by simp [List.getD, hkz]))]

theorem open_bs {H : Type} {enc : TypeId × Value → H} {W : World} {a : Option Addr} {len cap : Nat} {d : DataW H} {p : List MemPlace}
    (h0 : DataW.Trod enc Try.prog W 0 (fun _ => true) true 40 (.slice a len cap) d p) {ts : List TypeId} {ds : List (DataW H)} (hsz : (DataW.weightsEach Try.prog ts ds).all (· ≤ reachBytes) = true) (j : Nat)
    (ht : ts[j]? = some 40) (hd : ds[j]? = some d) : ∃ bs, Bs W (.slice a len cap) bs ∧ bs.length ≤ reachBytes := by
  obtain ⟨bs, hb⟩ := open_bs_any h0
  refine ⟨bs, hb, ?_⟩
  obtain ⟨_, _, e, -, -, -⟩ := hb
  simp only [Value.slice.injEq] at e
  obtain ⟨fuel, hf⟩ := h0
  rcases open_ints Try.underlying40 Try.underlying5 (by kernel_rfl) hf with ⟨hcs, _⟩ | ⟨x, l, c, zs, hcs, _, hl, hm, hz, hx, hcell, hwz⟩
  · simp [Value.cells] at hcs
    omega
  · simp [Value.cells] at hcs
    obtain ⟨rfl, rfl, rfl⟩ := hcs
    simp only [if_true] at hz
    obtain ⟨rfl, rfl⟩ := Prod.mk.inj hx
    have hw := sized_slice hsz ht hd Try.underlying40
    rw [bytes5] at hw
    simp only [lits, List.length_map, List.length_take, List.length_drop] at hw
    omega

end Go.Proofs.Ytaneblecgjahbab.row

namespace Go.Proofs.Ytaneblecgjahbab.layRow
open Go.ChangeShapes Go.WideShapes Go.ChangeAt Go.RowKit Go.Deep Go.Proofs.Ytaneblecgjahbab.sum Go.Proofs.Ytaneblecgjahbab.kept Go.Proofs.Ytaneblecgjahbab.row
set_option linter.unusedVariables false

section
variable {H : Type} {enc : TypeId × Value → H} {W : World}

theorem len_bulk (l : List (DataW H)) : l.length ≤ Rows.uptoBulkAll l := by
  induction l with
  | nil => simp
  | cons y l ih =>
    have h1 : 1 ≤ Rows.uptoBulk y := by cases y with
      | lit l => cases l <;> simp [Rows.uptoBulk]
      | _ => simp [Rows.uptoBulk]
    simp only [List.length_cons, Rows.uptoBulkAll]; omega

/-- A slice of bytes, opened, of bounded bulk. -/
theorem open_bs_bulk {a : Option Addr} {len cap : Nat} {d : DataW H} {p : List MemPlace} (h0 : DataW.Trod enc Try.prog W 0 (fun _ => true) true 40 (.slice a len cap) d p) (hk : Rows.uptoBulk d ≤ 1048576) :
    ∃ bs, Bs W (.slice a len cap) bs ∧ bs.length ≤ 1048576 := by
  have h := h0
  obtain ⟨fuel, hf⟩ := h0
  obtain ⟨bs, hb⟩ := open_bs_any h
  refine ⟨bs, hb, ?_⟩
  obtain ⟨_, _, e, -, -, -⟩ := hb
  simp only [Value.slice.injEq] at e
  rcases open_ints Try.underlying40 Try.underlying5 (by kernel_rfl) hf with ⟨hcs, _⟩ | ⟨x, l, c, zs, hcs, _, hl, hm, hz, hx, hcell, hwz⟩
  · simp [Value.cells] at hcs
    omega
  · simp [Value.cells] at hcs
    obtain ⟨rfl, rfl, rfl⟩ := hcs
    simp only [if_true] at hz
    obtain ⟨rfl, rfl⟩ := Prod.mk.inj hx
    simp only [Rows.uptoBulk] at hk
    have := len_bulk (lits (H := H) .u8 (zs.take len))
    have hl2 : (lits (H := H) .u8 (zs.take len)).length = len := by simp [lits]; omega
    rw [hl2] at this
    omega

end
end Go.Proofs.Ytaneblecgjahbab.layRow

namespace Go.Proofs.Ytaneblecgjahbab.treeArg
open Go.ChangeShapes Go.WideShapes Go.ChangeAt Go.RowKit Go.Deep Go.Proofs.Ytaneblecgjahbab.sum Go.Proofs.Ytaneblecgjahbab.kept Go.Proofs.Ytaneblecgjahbab.row
set_option linter.unusedVariables false

/-- a raw tree: two numbers, and its kids -/
inductive TT where
  | mk (k n : Int) (l : List TT)
mutual
/-- how many nodes -/
def TT.nodes : TT → Nat
  | .mk _ _ l => nodesL l + 1
def nodesL : List TT → Nat
  | [] => 0
  | t :: l => t.nodes + nodesL l
end
mutual
/-- a value is this raw tree -/
def AtT (w : World) : TT → Value → Prop
  | .mk k n l, v => ∃ a c, v = .agg #[.int .i64 k, .int .i64 n, .slice a l.length c] ∧ (Lit.int .i64 k).wf = true ∧ (Lit.int .i64 n).wf = true ∧ l.length ≤ c ∧ c ≤ maxLen ∧ (l ≠ [] → ∃ b o, a = some ⟨b, o, none⟩ ∧ b < w.heap.size ∧ AtTL w b o l)
/-- these lie one behind the other -/
def AtTL (w : World) (b : Nat) : Nat → List TT → Prop
  | _, [] => True
  | o, t :: l => (∃ x0 x1 x2, w.cell? ⟨b, o, none⟩ = some x0 ∧ w.cell? ⟨b, o + 1, none⟩ = some x1 ∧ w.cell? ⟨b, o + 2, none⟩ = some x2 ∧ AtT w t (.agg #[x0, x1, x2])) ∧ AtTL w b (o + 3) l
end
mutual
theorem AtT.no {w w' : World} (hk : Kp No w w') : ∀ (t : TT) (v : Value), AtT w t v → AtT w' t v
  | .mk k n l, v, ⟨a, c, h1, h2, h3, h4, h5, h6⟩ => ⟨a, c, h1, h2, h3, h4, h5, fun hne => by
    obtain ⟨b, o, e, hb, h⟩ := h6 hne
    exact ⟨b, o, e, Nat.lt_of_lt_of_le hb hk.size, AtTL.no hk b o l h⟩⟩
theorem AtTL.no {w w' : World} (hk : Kp No w w') (b : Nat) : ∀ (o : Nat) (l : List TT), AtTL w b o l → AtTL w' b o l
  | _, [], _ => trivial
  | o, t :: l, ⟨⟨x0, x1, x2, h0, h1, h2, hv⟩, hl⟩ => ⟨⟨x0, x1, x2, hk.cell' h0 id, hk.cell' h1 id, hk.cell' h2 id, AtT.no hk t _ hv⟩, AtTL.no hk b (o + 3) l hl⟩
end
theorem AtTL.get {w : World} {b : Nat} : ∀ {l : List TT} {o : Nat}, AtTL w b o l → ∀ (i : Nat) (h : i < l.length), ∃ x0 x1 x2, w.cell? ⟨b, o + i * 3, none⟩ = some x0 ∧ w.cell? ⟨b, o + i * 3 + 1, none⟩ = some x1 ∧ w.cell? ⟨b, o + i * 3 + 2, none⟩ = some x2 ∧ AtT w l[i] (.agg #[x0, x1, x2])
  | t :: l, o, ⟨⟨x0, x1, x2, h0, h1, h2, hv⟩, _⟩, 0, _ => ⟨x0, x1, x2, by simpa using h0, by simpa using h1, by simpa using h2, hv⟩
  | t :: l, o, ⟨_, hl⟩, i + 1, h => by
    have := AtTL.get hl i (by simpa using h)
    rw [show o + (i + 1) * 3 = o + 3 + i * 3 by omega]
    exact this
theorem AtTL.of {w : World} {b : Nat} : ∀ (l : List TT) (o : Nat), (∀ i (h : i < l.length), ∃ x0 x1 x2, w.cell? ⟨b, o + i * 3, none⟩ = some x0 ∧ w.cell? ⟨b, o + i * 3 + 1, none⟩ = some x1 ∧ w.cell? ⟨b, o + i * 3 + 2, none⟩ = some x2 ∧ AtT w l[i] (.agg #[x0, x1, x2])) → AtTL w b o l
  | [], _, _ => trivial
  | t :: l, o, h => by
    have h0 := h 0 (by simp)
    simp only [Nat.zero_mul, Nat.add_zero, List.getElem_cons_zero] at h0
    refine ⟨h0, AtTL.of l (o + 3) fun i hi => ?_⟩
    have := h (i + 1) (by simpa using hi)
    rw [show o + (i + 1) * 3 = o + 3 + i * 3 by omega] at this
    simpa using this

theorem cells3 : Try.prog.cellsOf 24 = 3 := by kernel_rfl
theorem one_cellT : Try.prog.cellsOf 3 = 1 ∧ Try.prog.cellsOf 22 = 1 := ⟨by kernel_rfl, by kernel_rfl⟩
section
variable {H : Type} {enc : TypeId × Value → H} {W : World}

theorem three {α : Type} {cs : List α} (h : cs.length = 3) : ∃ c0 c1 c2, cs = [c0, c1, c2] := by
  match cs, h with
  | [c0, c1, c2], _ => exact ⟨c0, c1, c2, rfl⟩
theorem bulk_pos (d : DataW H) : 1 ≤ Rows.uptoBulk d := by
  cases d with
  | lit l => cases l <;> simp [Rows.uptoBulk]
  | _ => simp [Rows.uptoBulk]
theorem nodes_le (D : Nat → DataW H) (f : Nat → TT) : ∀ (n : Nat), (∀ i, i < n → (f i).nodes ≤ Rows.uptoBulk (D i)) → nodesL ((List.range n).map f) ≤ Rows.uptoBulkAll ((List.range n).map D) := by
  have hgen : ∀ (l : List Nat), (∀ i ∈ l, (f i).nodes ≤ Rows.uptoBulk (D i)) → nodesL (l.map f) ≤ Rows.uptoBulkAll (l.map D) := by
    intro l
    induction l with
    | nil => intro _; simp [nodesL]
    | cons i l ih =>
      intro h
      have h1 := h i (by simp)
      have h2 := ih fun j hj => h j (by simp [hj])
      simp only [List.map_cons, nodesL, Rows.uptoBulkAll]
      omega
  exact fun n h => hgen _ fun i hi => h i (List.mem_range.1 hi)

theorem open_tt : ∀ (n : Nat) (cs : List Value) (y : DataW H × List MemPlace), DataW.trod enc Try.prog W 0 (fun _ => true) true n 24 cs = some y → ∃ (t : TT) (k m : Int) (a : Option Addr) (len c : Nat), cs = [.int .i64 k, .int .i64 m, .slice a len c] ∧ AtT W t (.agg #[.int .i64 k, .int .i64 m, .slice a len c]) ∧ t.nodes ≤ Rows.uptoBulk y.1 := by
  intro n
  induction n using Nat.strongRecOn with
  | ind n ih =>
    intro cs y h
    obtain ⟨ys, m, hnm, hx, hlen, hyl, hf⟩ := DataW.trod_struct Try.underlying24 h
    rw [cells3] at hlen
    obtain ⟨c0, c1, c2, rfl⟩ := three hlen
    obtain ⟨y0, y1, y2, rfl⟩ := three hyl
    obtain ⟨o1, o2⟩ := one_cellT
    have h0 := hf 0 _ rfl
    have h1 := hf 1 _ rfl
    have h2 := hf 2 _ rfl
    simp [o1] at h0 h1
    simp [o2] at h2
    obtain ⟨a0, e0, -, w0⟩ := DataW.trod_int Try.underlying3 h0
    obtain ⟨a1, e1, -, w1⟩ := DataW.trod_int Try.underlying3 h1
    simp only [List.cons.injEq, and_true] at e0 e1
    subst e0 e1
    have hy1 : Rows.uptoBulk y.1 = Rows.uptoBulk y0.1 + (Rows.uptoBulk y1.1 + (Rows.uptoBulk y2.1 + 0)) + 1 := by
      rw [hx]
      simp [Rows.uptoBulk, Rows.uptoBulkAll]
    have hb2 := bulk_pos y2.1
    rcases DataW.trod_slice Try.underlying22 h2 with ⟨hcs, hy2⟩ | ⟨x, len, cap, elems, rest, n', hn', hcs, hx2, -, hl, hm, hlen2, hel, -, -⟩
    · simp at hcs
      subst hcs
      exact ⟨.mk a0 a1 [], a0, a1, none, 0, 0, rfl, ⟨none, 0, rfl, w0, w1, Nat.le_refl _, Nat.zero_le _, fun h => absurd rfl h⟩, by simp [TT.nodes, nodesL]; omega⟩
    · simp at hcs
      subst hcs
      rw [cells3] at hel
      have hex : ∀ i, ∃ s : TT, i < len → (∃ cs', W.cells? 0 (x.add (i * 3)) 3 = some cs' ∧ ∃ (k m : Int) (a : Option Addr) (len c : Nat), cs' = [.int .i64 k, .int .i64 m, .slice a len c] ∧ AtT W s (.agg #[.int .i64 k, .int .i64 m, .slice a len c])) ∧ s.nodes ≤ Rows.uptoBulk (elems.getD i (.nil, [])).1 := by
        intro i
        by_cases him : i < len
        · have he := hel i him
          rw [List.getElem?_eq_getElem (by omega)] at he
          obtain ⟨cs', h1, h3⟩ := Option.bind_eq_some_iff.1 he
          obtain ⟨s, k, m', a, len', c, e4, h5, h6⟩ := ih n' (by omega) cs' _ h3
          refine ⟨s, fun _ => ⟨⟨cs', h1, k, m', a, len', c, e4, h5⟩, ?_⟩⟩
          rw [List.getD_eq_getElem?_getD, List.getElem?_eq_getElem (by omega)]
          exact h6
        · exact ⟨.mk 0 0 [], fun h => absurd h him⟩
      obtain ⟨f, hf2⟩ := Classical.axiomOfChoice hex
      have hfl : ((List.range len).map f).length = len := by simp
      have hnodes : nodesL ((List.range len).map f) + 1 ≤ Rows.uptoBulk y2.1 := by
        have h1 := nodes_le (fun i => (elems.getD i (.nil, [])).1) f len fun i hi => (hf2 i hi).2
        rw [hx2]
        simp only [Rows.uptoBulk]
        rw [map_by_index elems (.nil, []) (·.1), hlen2]
        omega
      refine ⟨.mk a0 a1 ((List.range len).map f), a0, a1, some x, len, cap, rfl, ⟨some x, cap, by rw [hfl], w0, w1, by rw [hfl]; exact hl, hm, fun hne => ?_⟩, by rw [TT.nodes]; omega⟩
      have hpos : 0 < len := by
        rcases Nat.eq_zero_or_pos len with e | e
        · subst e; simp at hne
        · exact e
      obtain ⟨b, o, spot⟩ := x
      have hspot : spot = none := by
        obtain ⟨cs', h1, k, m', a, len', c, e4, -⟩ := (hf2 0 hpos).1
        have := (World.cells?_some h1).2.2 0 (by omega)
        rw [e4] at this
        simpa [Addr.add] using World.cell?_spot this
      subst hspot
      have hq : ∀ i, i < len → ∃ x0 x1 x2, W.cell? ⟨b, o + i * 3, none⟩ = some x0 ∧ W.cell? ⟨b, o + i * 3 + 1, none⟩ = some x1 ∧ W.cell? ⟨b, o + i * 3 + 2, none⟩ = some x2 ∧ AtT W (f i) (.agg #[x0, x1, x2]) := by
        intro i hi
        obtain ⟨cs', h1, k, m', a, len', c, e4, h5⟩ := (hf2 i hi).1
        have hat := (World.cells?_some h1).2.2
        rw [e4] at hat
        have q := fun j hj => hat j hj
        simp only [addr_add] at q
        exact ⟨_, _, _, by simpa using q 0 (by omega), q 1 (by omega), q 2 (by omega), h5⟩
      refine ⟨b, o, rfl, ?_, AtTL.of _ _ fun i hi => ?_⟩
      · obtain ⟨x0, _, _, h0', _⟩ := hq 0 hpos
        exact World.block_lt_of_cell? W ⟨b, o + 0 * 3, none⟩ h0'
      · have hi' : i < len := by rw [hfl] at hi; exact hi
        have := hq i hi'
        simpa using this
/-- such an argument -/
theorem open_tree {v : Value} {d : DataW H} {p : List MemPlace} {k m : Int} {a : Option Addr} {len c : Nat} (h0 : DataW.Trod enc Try.prog W 0 (fun _ => true) true 24 v d p) (hv : v = .agg #[.int .i64 k, .int .i64 m, .slice a len c]) : ∃ t : TT, AtT W t v ∧ t.nodes ≤ Rows.uptoBulk d := by
  subst hv
  obtain ⟨fuel, hf⟩ := h0
  obtain ⟨t, k', m', a', len', c', e, h1, h2⟩ := open_tt fuel _ _ hf
  simp [Value.cells] at e
  obtain ⟨rfl, rfl, rfl, rfl, rfl⟩ := e
  exact ⟨t, h1, h2⟩

end
end Go.Proofs.Ytaneblecgjahbab.treeArg

namespace Go.Proofs.Ytaneblecgjahbab.treeArg
open Go.ChangeShapes Go.WideShapes Go.ChangeAt Go.RowKit Go.Deep Go.Proofs.Ytaneblecgjahbab.sum Go.Proofs.Ytaneblecgjahbab.kept Go.Proofs.Ytaneblecgjahbab.row
set_option linter.unusedVariables false

set_option maxRecDepth 100000 in
theorem open_tree2 {H : Type} {enc : TypeId × Value → H} {W : World} {r : Reach} {b0 : Nat} {v : Value} {d : DataW H} {p : List MemPlace}
    (hv : Value.okWide Try.prog W r b0 24 v) (h : DataW.Trod enc Try.prog W 0 (fun _ => true) true 24 v d p) :
    ∃ (t : TT) (k m : Int) (a : Option Addr) (len c : Nat), v = .agg #[.int .i64 k, .int .i64 m, .slice a len c] ∧ AtT W t (.agg #[.int .i64 k, .int .i64 m, .slice a len c]) ∧ t.nodes ≤ Rows.uptoBulk d := by
  have hu := Try.underlying24
  simp only [Value.okWide, hu] at hv
  obtain ⟨cs, rfl, -⟩ := hv
  obtain ⟨fuel, hf⟩ := h
  obtain ⟨t, k, m, a, len, c, e, h1, h2⟩ := open_tt fuel _ _ hf
  refine ⟨t, k, m, a, len, c, ?_, h1, h2⟩
  obtain ⟨l⟩ := cs
  have e : l = [.int .i64 k, .int .i64 m, .slice a len c] := e
  rw [e]

end Go.Proofs.Ytaneblecgjahbab.treeArg

namespace Go.Proofs.Ytaneblecgjahbab.pop

/-- a word out of bits -/
def wd (f : Nat → Bool) (o : Nat) : Nat → Nat
  | 0 => 0
  | n + 1 => wd f o n + (if f (o + n) then 2 ^ n else 0)
theorem wd_lt (f : Nat → Bool) (o : Nat) : ∀ n, wd f o n < 2 ^ n
  | 0 => by simp [wd]
  | n + 1 => by
    have := wd_lt f o n
    simp only [wd]
    have h2 : 2 ^ (n + 1) = 2 ^ n + 2 ^ n := by rw [Nat.pow_succ]; omega
    split <;> omega
theorem wd_bit (f : Nat → Bool) (o : Nat) : ∀ n j, (wd f o n).testBit j = (decide (j < n) && f (o + j))
  | 0, j => by simp [wd]
  | n + 1, j => by
    have hl := wd_lt f o n
    have ih := wd_bit f o n j
    simp only [wd]
    by_cases hf : f (o + n)
    · rw [if_pos hf, Nat.add_comm]
      by_cases hj : j = n
      · subst hj
        rw [Nat.testBit_two_pow_add_eq, ih]
        simp [hf]
      · by_cases hlt : j < n
        · rw [Nat.testBit_two_pow_add_gt hlt, ih]
          simp [hlt, Nat.lt_succ_of_lt hlt]
        · have hj2 : n < j := by omega
          have e : 2 ^ n + wd f o n < 2 ^ (n + 1) := by rw [Nat.pow_succ]; omega
          rw [Nat.testBit_lt_two_pow (Nat.lt_of_lt_of_le e (Nat.pow_le_pow_right (by decide) (by omega)))]
          simp; omega
    · rw [if_neg hf, Nat.add_zero, ih]
      by_cases hj : j = n
      · subst hj
        simp [hf]
      · have : (j < n + 1) ↔ (j < n) := by omega
        simp [this]
theorem wd_eq {f : Nat → Bool} {o n x : Nat} (hx : x < 2 ^ n) (h : ∀ j, j < n → x.testBit j = f (o + j)) : x = wd f o n := by
  refine Nat.eq_of_testBit_eq fun j => ?_
  rw [wd_bit]
  by_cases hj : j < n
  · simp [hj, h j hj]
  · simp only [hj, decide_false, Bool.false_and]
    exact Nat.testBit_lt_two_pow (Nat.lt_of_lt_of_le hx (Nat.pow_le_pow_right (by decide) (by omega)))
theorem wd_congr {f g : Nat → Bool} {o n : Nat} (h : ∀ j, j < n → f (o + j) = g (o + j)) : wd f o n = wd g o n :=
  wd_eq (wd_lt f o n) fun j hj => by rw [wd_bit]; simp [hj, h j hj]

/-- how many of n bits from o on are set -/
def cnt (f : Nat → Bool) (o : Nat) : Nat → Nat
  | 0 => 0
  | n + 1 => cnt f o n + (if f (o + n) then 1 else 0)
theorem cnt_add (f : Nat → Bool) (o m : Nat) : ∀ n, cnt f o (m + n) = cnt f o m + cnt f (o + m) n
  | 0 => rfl
  | n + 1 => by rw [← Nat.add_assoc]; simp only [cnt]; rw [cnt_add f o m n, Nat.add_assoc, Nat.add_assoc]
theorem wd_add (f : Nat → Bool) (o m : Nat) : ∀ n, wd f o (m + n) = wd f o m + 2 ^ m * wd f (o + m) n
  | 0 => by simp [wd]
  | n + 1 => by
    rw [← Nat.add_assoc]; simp only [wd]; rw [wd_add f o m n, Nat.mul_add, Nat.add_assoc, Nat.add_assoc o]
    congr 2
    split <;> simp [Nat.pow_add]

/-- bytes, the least first -/
def num : List Nat → Nat
  | [] => 0
  | b :: l => b + 256 * num l
theorem land_split (a b c d : Nat) (hb : b < 256) (hd : d < 256) : (b + 256 * a) &&& (d + 256 * c) = (b &&& d) + 256 * (a &&& c) := by
  have hx : b &&& d < 2 ^ 8 := Nat.and_lt_two_pow b hd
  refine Nat.eq_of_testBit_eq fun j => ?_
  have e : ∀ p q : Nat, p < 256 → (p + 256 * q).testBit j = if j < 8 then p.testBit j else q.testBit (j - 8) := fun p q hp => by
    rw [Nat.add_comm, show (256 : Nat) = 2 ^ 8 from rfl, Nat.testBit_two_pow_mul_add q hp]
  rw [Nat.testBit_and, e b a hb, e d c hd, e _ _ hx, Nat.testBit_and, Nat.testBit_and]
  split <;> rfl

def t1 (b : Nat) : Nat := (b / 2 &&& 85) + (b &&& 85)
def t2 (b : Nat) : Nat := (b / 4 &&& 51) + (b &&& 51)
def t3 (b : Nat) : Nat := (b / 16 + b) &&& 15
/-- a byte's bits that are set -/
def pb (b : Nat) : Nat := b % 2 + b / 2 % 2 + b / 4 % 2 + b / 8 % 2 + b / 16 % 2 + b / 32 % 2 + b / 64 % 2 + b / 128 % 2
theorem t_pb : ∀ b, b < 256 → t3 (t2 (t1 b)) = pb b ∧ pb b ≤ 8 ∧ t1 b < 256 ∧ t2 (t1 b) < 256 ∧ t2 (t1 b) % 16 ≤ 4 ∧ t2 (t1 b) / 16 ≤ 4 := by decide +kernel
theorem a1 : ∀ r, r < 2 → ∀ b, b < 256 → (r * 128 + b / 2) &&& 85 = b / 2 &&& 85 := by decide +kernel
theorem a2 : ∀ r, r < 4 → ∀ b, b < 256 → (r * 64 + b / 4) &&& 51 = b / 4 &&& 51 := by decide +kernel
theorem a3 : ∀ r, r < 5 → ∀ b, b < 256 → (r * 16 + b / 16 + b) &&& 15 = (b / 16 + b) &&& 15 := by
  intro r hr b hb
  rw [Nat.and_two_pow_sub_one_eq_mod _ 4, Nat.and_two_pow_sub_one_eq_mod _ 4]
  omega

def mask (m : Nat) : Nat → Nat
  | 0 => 0
  | k + 1 => m + 256 * mask m k
theorem s1 : ∀ l : List Nat, (∀ b ∈ l, b < 256) → (num l / 2 &&& mask 85 l.length) + (num l &&& mask 85 l.length) = num (l.map t1)
  | [], _ => rfl
  | b :: l, h => by
    have hb := h b (by simp)
    have ih := s1 l fun c hc => h c (by simp [hc])
    simp only [num, List.map, List.length, mask]
    have e : (b + 256 * num l) / 2 = (num l % 2 * 128 + b / 2) + 256 * (num l / 2) := by omega
    rw [e, land_split _ _ _ _ (by omega) (by omega), land_split _ _ _ _ hb (by omega), a1 _ (by omega) _ hb, ← ih]
    unfold t1
    omega
theorem s2 : ∀ l : List Nat, (∀ b ∈ l, b < 256) → (num l / 4 &&& mask 51 l.length) + (num l &&& mask 51 l.length) = num (l.map t2)
  | [], _ => rfl
  | b :: l, h => by
    have hb := h b (by simp)
    have ih := s2 l fun c hc => h c (by simp [hc])
    simp only [num, List.map, List.length, mask]
    have e : (b + 256 * num l) / 4 = (num l % 4 * 64 + b / 4) + 256 * (num l / 4) := by omega
    rw [e, land_split _ _ _ _ (by omega) (by omega), land_split _ _ _ _ hb (by omega), a2 _ (by omega) _ hb, ← ih]
    unfold t2
    omega
theorem s3 : ∀ l : List Nat, (∀ b ∈ l, b % 16 ≤ 4 ∧ b / 16 ≤ 4) → (num l / 16 + num l) &&& mask 15 l.length = num (l.map t3)
  | [], _ => rfl
  | b :: l, h => by
    have hb := h b (by simp)
    have ih := s3 l fun c hc => h c (by simp [hc])
    simp only [num, List.map, List.length, mask]
    have hr : num l % 16 < 5 := by
      cases l with
      | nil => simp [num]
      | cons c l' =>
        have := (h c (by simp)).1
        simp only [num]
        omega
    have e : (b + 256 * num l) / 16 + (b + 256 * num l) = (num l % 16 * 16 + b / 16 + b) + 256 * (num l / 16 + num l) := by omega
    rw [e, land_split _ _ _ _ (by omega) (by omega), a3 _ hr _ (by omega), ← ih]
    unfold t3
    rfl

/-- a byte's bits that are set, by its bits -/
theorem pb_wd (f : Nat → Bool) (o : Nat) : pb (wd f o 8) = cnt f o 8 := by
  have hb : ∀ j, j < 8 → wd f o 8 / 2 ^ j % 2 = if f (o + j) then 1 else 0 := fun j hj => by
    have h := wd_bit f o 8 j
    rw [Nat.testBit_eq_decide_div_mod_eq] at h
    simp only [hj, decide_true, Bool.true_and] at h
    have h2 : wd f o 8 / 2 ^ j % 2 < 2 := Nat.mod_lt _ (by decide)
    cases hf : f (o + j) with
    | true => rw [hf] at h; simpa using h
    | false =>
      rw [hf] at h
      simp only [decide_eq_false_iff_not] at h
      simp
      omega
  have h0 := hb 0 (by decide); have h1 := hb 1 (by decide); have h2 := hb 2 (by decide); have h3 := hb 3 (by decide)
  have h4 := hb 4 (by decide); have h5 := hb 5 (by decide); have h6 := hb 6 (by decide); have h7 := hb 7 (by decide)
  simp only [Nat.reducePow, Nat.div_one] at h0 h1 h2 h3 h4 h5 h6 h7
  unfold pb
  rw [h0, h1, h2, h3, h4, h5, h6, h7]
  simp [cnt]

theorem d8 (a A : Nat) (h : a < 256) : (a + 256 * A) / 256 = A := by omega
theorem d16 (a b A : Nat) (h : a < 256) (hb : b < 256) : (a + 256 * (b + 256 * A)) / 65536 = A := by omega
theorem d32 (a b c d A : Nat) (h : a < 256) (hb : b < 256) (hc : c < 256) (hd : d < 256) : (a + 256 * (b + 256 * (c + 256 * (d + 256 * A)))) / 4294967296 = A := by
  rw [show (4294967296 : Nat) = 65536 * 65536 from rfl, ← Nat.div_div_eq_div_mul, d16 _ _ _ h hb, d16 _ _ _ hc hd]
theorem top1 (a A B : Nat) (ha : a ≤ 64) (hA : A < B) : a + 256 * A < 256 * B := by omega
theorem top8 (c0 c1 c2 c3 c4 c5 c6 c7 : Nat) (h0 : c0 ≤ 64) (h1 : c1 ≤ 64) (h2 : c2 ≤ 64) (h3 : c3 ≤ 64) (h4 : c4 ≤ 64) (h5 : c5 ≤ 64) (h6 : c6 ≤ 64) (h7 : c7 ≤ 64) :
    c0 + 256 * (c1 + 256 * (c2 + 256 * (c3 + 256 * (c4 + 256 * (c5 + 256 * (c6 + 256 * c7)))))) < 18446744073709551616 :=
  top1 _ _ 72057594037927936 h0 (top1 _ _ 281474976710656 h1 (top1 _ _ 1099511627776 h2 (top1 _ _ 4294967296 h3 (top1 _ _ 16777216 h4 (top1 _ _ 65536 h5 (top1 _ _ 256 h6 (by omega)))))))
theorem low7 (a A : Nat) (h : a ≤ 64) : (a + 256 * A) % 128 = a := by omega
theorem add1 (a A b B : Nat) : (a + 256 * A) + (b + 256 * B) = (a + b) + 256 * (A + B) := by omega
theorem fold (c0 c1 c2 c3 c4 c5 c6 c7 : Nat) (h0 : c0 ≤ 8) (h1 : c1 ≤ 8) (h2 : c2 ≤ 8) (h3 : c3 ≤ 8) (h4 : c4 ≤ 8) (h5 : c5 ≤ 8) (h6 : c6 ≤ 8) (h7 : c7 ≤ 8) :
    ∀ n p q r : Nat, n = c0 + 256 * (c1 + 256 * (c2 + 256 * (c3 + 256 * (c4 + 256 * (c5 + 256 * (c6 + 256 * c7)))))) → p = n + n / 256 → q = p + p / 65536 → r = q + q / 4294967296 →
    n < 18446744073709551616 ∧ p < 18446744073709551616 ∧ q < 18446744073709551616 ∧ r < 18446744073709551616 ∧ r % 128 = c0 + c1 + c2 + c3 + c4 + c5 + c6 + c7 := by
  have b01 : c0 + c1 ≤ 16 := by omega
  have b12 : c1 + c2 ≤ 16 := by omega
  have b23 : c2 + c3 ≤ 16 := by omega
  have b34 : c3 + c4 ≤ 16 := by omega
  have b45 : c4 + c5 ≤ 16 := by omega
  have b56 : c5 + c6 ≤ 16 := by omega
  have b67 : c6 + c7 ≤ 16 := by omega
  have f0 : c0 + c1 + (c2 + c3) ≤ 32 := Nat.add_le_add b01 b23
  have f1 : c1 + c2 + (c3 + c4) ≤ 32 := Nat.add_le_add b12 b34
  have f2 : c2 + c3 + (c4 + c5) ≤ 32 := Nat.add_le_add b23 b45
  have f3 : c3 + c4 + (c5 + c6) ≤ 32 := Nat.add_le_add b34 b56
  have f4 : c4 + c5 + (c6 + c7) ≤ 32 := Nat.add_le_add b45 b67
  have f5 : c5 + c6 + c7 ≤ 24 := Nat.add_le_add b56 h7
  have g0 : c0 + c1 + (c2 + c3) + (c4 + c5 + (c6 + c7)) ≤ 64 := Nat.add_le_add f0 f4
  have g1 : c1 + c2 + (c3 + c4) + (c5 + c6 + c7) ≤ 64 := Nat.le_trans (Nat.add_le_add f1 f5) (by decide)
  have g2 : c2 + c3 + (c4 + c5) + (c6 + c7) ≤ 64 := Nat.le_trans (Nat.add_le_add f2 b67) (by decide)
  have g3 : c3 + c4 + (c5 + c6) + c7 ≤ 64 := Nat.le_trans (Nat.add_le_add f3 h7) (by decide)
  have lt8 : ∀ {a : Nat}, a ≤ 8 → a < 256 := fun h => Nat.lt_of_le_of_lt h (by decide)
  have lt16 : ∀ {a : Nat}, a ≤ 16 → a < 256 := fun h => Nat.lt_of_le_of_lt h (by decide)
  have lt32 : ∀ {a : Nat}, a ≤ 32 → a < 256 := fun h => Nat.lt_of_le_of_lt h (by decide)
  have up : ∀ {a : Nat} {k : Nat}, a ≤ k → k ≤ 64 → a ≤ 64 := fun h h' => Nat.le_trans h h'
  have es : c0 + c1 + (c2 + c3) + (c4 + c5 + (c6 + c7)) = c0 + c1 + c2 + c3 + c4 + c5 + c6 + c7 := by omega
  have t0 := top8 c0 c1 c2 c3 c4 c5 c6 c7 (up h0 (by decide)) (up h1 (by decide)) (up h2 (by decide)) (up h3 (by decide)) (up h4 (by decide)) (up h5 (by decide)) (up h6 (by decide)) (up h7 (by decide))
  have t1 := top8 _ _ _ _ _ _ _ _ (up b01 (by decide)) (up b12 (by decide)) (up b23 (by decide)) (up b34 (by decide)) (up b45 (by decide)) (up b56 (by decide)) (up b67 (by decide)) (up h7 (by decide))
  have t2 := top8 _ _ _ _ _ _ _ _ (up f0 (by decide)) (up f1 (by decide)) (up f2 (by decide)) (up f3 (by decide)) (up f4 (by decide)) (up f5 (by decide)) (up b67 (by decide)) (up h7 (by decide))
  have t3 := top8 _ _ _ _ _ _ _ _ g0 g1 g2 g3 (up f4 (by decide)) (up f5 (by decide)) (up b67 (by decide)) (up h7 (by decide))
  intro n p q r hn hp hq hr
  have e1 : n / 256 = c1 + 256 * (c2 + 256 * (c3 + 256 * (c4 + 256 * (c5 + 256 * (c6 + 256 * c7))))) := by rw [hn, d8 _ _ (lt8 h0)]
  have e2 : p = (c0 + c1) + 256 * ((c1 + c2) + 256 * ((c2 + c3) + 256 * ((c3 + c4) + 256 * ((c4 + c5) + 256 * ((c5 + c6) + 256 * ((c6 + c7) + 256 * c7)))))) := by
    rw [hp, e1, hn, add1, add1, add1, add1, add1, add1, Nat.add_assoc c6, Nat.add_comm (256 * c7) c7, ← Nat.add_assoc c6]
  have e3 : p / 65536 = (c2 + c3) + 256 * ((c3 + c4) + 256 * ((c4 + c5) + 256 * ((c5 + c6) + 256 * ((c6 + c7) + 256 * c7)))) := by rw [e2, d16 _ _ _ (lt16 b01) (lt16 b12)]
  have e4 : q = (c0 + c1 + (c2 + c3)) + 256 * ((c1 + c2 + (c3 + c4)) + 256 * ((c2 + c3 + (c4 + c5)) + 256 * ((c3 + c4 + (c5 + c6)) + 256 * ((c4 + c5 + (c6 + c7)) + 256 * ((c5 + c6 + c7) + 256 * ((c6 + c7) + 256 * c7)))))) := by
    rw [hq, e3, e2, add1, add1, add1, add1, add1, Nat.add_assoc (c5 + c6), Nat.add_comm (256 * _) c7, ← Nat.add_assoc (c5 + c6)]
  have e5 : q / 4294967296 = (c4 + c5 + (c6 + c7)) + 256 * ((c5 + c6 + c7) + 256 * ((c6 + c7) + 256 * c7)) := by rw [e4, d32 _ _ _ _ _ (lt32 f0) (lt32 f1) (lt32 f2) (lt32 f3)]
  have e6 : r = (c0 + c1 + (c2 + c3) + (c4 + c5 + (c6 + c7))) + 256 * ((c1 + c2 + (c3 + c4) + (c5 + c6 + c7)) + 256 * ((c2 + c3 + (c4 + c5) + (c6 + c7)) + 256 * ((c3 + c4 + (c5 + c6) + c7) + 256 * ((c4 + c5 + (c6 + c7)) + 256 * ((c5 + c6 + c7) + 256 * ((c6 + c7) + 256 * c7)))))) := by
    rw [hr, e5, e4, add1, add1, add1, Nat.add_assoc (c3 + c4 + (c5 + c6)), Nat.add_comm (256 * _) c7, ← Nat.add_assoc (c3 + c4 + (c5 + c6))]
  refine ⟨?_, ?_, ?_, ?_, ?_⟩
  · rw [hn]; exact t0
  · rw [e2]; exact t1
  · rw [e4]; exact t2
  · rw [e6]; exact t3
  · rw [e6, low7 _ _ g0, es]
theorem wd_bytes (f : Nat → Bool) (o : Nat) : ∀ k, wd f o (8 * k) = num ((List.range k).map fun i => wd f (o + 8 * i) 8)
  | 0 => rfl
  | k + 1 => by
    rw [List.range_succ_eq_map, List.map_cons, List.map_map, num, show 8 * (k + 1) = 8 + 8 * k from by omega, wd_add, wd_bytes f (o + 8) k]
    show _ + 256 * _ = _ + 256 * _
    have e : (List.range k).map (fun i => wd f (o + 8 + 8 * i) 8) = (List.range k).map ((fun i => wd f (o + 8 * i) 8) ∘ Nat.succ) :=
      List.map_congr_left fun i _ => by
        show wd f (o + 8 + 8 * i) 8 = wd f (o + 8 * (i + 1)) 8
        rw [show o + 8 + 8 * i = o + 8 * (i + 1) from by omega]
    rw [e]
    rfl
theorem cnt_bytes (f : Nat → Bool) (o : Nat) : cnt f o 64 = cnt f o 8 + cnt f (o + 8) 8 + cnt f (o + 16) 8 + cnt f (o + 24) 8 + cnt f (o + 32) 8 + cnt f (o + 40) 8 + cnt f (o + 48) 8 + cnt f (o + 56) 8 := by
  rw [show 64 = 8 + 56 from rfl, cnt_add, show 56 = 8 + 48 from rfl, cnt_add, show 48 = 8 + 40 from rfl, cnt_add, show 40 = 8 + 32 from rfl, cnt_add, show 32 = 8 + 24 from rfl, cnt_add, show 24 = 8 + 16 from rfl, cnt_add, show 16 = 8 + 8 from rfl, cnt_add]
  simp only [Nat.add_assoc, Nat.reduceAdd]
theorem num_lt : ∀ l : List Nat, (∀ b ∈ l, b < 256) → num l < 256 ^ l.length
  | [], _ => by simp [num]
  | b :: l, h => by
    have hb := h b (by simp)
    have ih := num_lt l fun c hc => h c (by simp [hc])
    simp only [num, List.length_cons, Nat.pow_succ]
    omega
theorem num_half : ∀ l : List Nat, (∀ b ∈ l, b ≤ 127) → 2 * num l < 256 ^ l.length
  | [], _ => by simp [num]
  | b :: l, h => by
    have hb := h b (by simp)
    have ih := num_half l fun c hc => h c (by simp [hc])
    simp only [num, List.length_cons, Nat.pow_succ]
    omega
/-- the sums, step by step: what the library's parallel sums of a word come to -/
theorem ones (f : Nat → Bool) (o : Nat) : ∃ y z n : Nat, y = (wd f o 64 / 2 &&& 6148914691236517205) + (wd f o 64 &&& 6148914691236517205) ∧ z = (y / 4 &&& 3689348814741910323) + (y &&& 3689348814741910323) ∧ n = (z / 16 + z) &&& 1085102592571150095 ∧
    y < 18446744073709551616 ∧ z < 18446744073709551616 ∧ z / 16 + z < 18446744073709551616 ∧ n < 18446744073709551616 ∧ ∀ p q r, p = n + n / 256 → q = p + p / 65536 → r = q + q / 4294967296 →
      p < 18446744073709551616 ∧ q < 18446744073709551616 ∧ r < 18446744073709551616 ∧ r % 128 = cnt f o 64 := by
  have hb : ∀ b ∈ (List.range 8).map (fun i => wd f (o + 8 * i) 8), b < 256 := by
    intro b h
    obtain ⟨i, -, rfl⟩ := List.mem_map.1 h
    exact wd_lt f _ 8
  have hb1 : ∀ b ∈ ((List.range 8).map (fun i => wd f (o + 8 * i) 8)).map t1, b < 256 := by
    intro b h
    obtain ⟨c, hc, rfl⟩ := List.mem_map.1 h
    exact (t_pb c (hb c hc)).2.2.1
  have hb2 : ∀ b ∈ (((List.range 8).map (fun i => wd f (o + 8 * i) 8)).map t1).map t2, b % 16 ≤ 4 ∧ b / 16 ≤ 4 := by
    intro b h
    obtain ⟨c, hc, rfl⟩ := List.mem_map.1 h
    obtain ⟨d, hd, rfl⟩ := List.mem_map.1 hc
    exact (t_pb d (hb d hd)).2.2.2.2
  have e0 := wd_bytes f o 8
  have e1 := s1 _ hb
  have e2 := s2 _ hb1
  have e3 := s3 _ hb2
  have l1 := num_lt _ hb1
  have l2 := num_half _ (fun b h => by have := hb2 b h; omega : ∀ b ∈ (((List.range 8).map (fun i => wd f (o + 8 * i) 8)).map t1).map t2, b ≤ 127)
  simp only [List.length_map, List.length_range] at e1 e2 e3 l1 l2
  rw [show mask 85 8 = 6148914691236517205 from rfl, ← e0] at e1
  rw [show mask 51 8 = 3689348814741910323 from rfl] at e2
  rw [show mask 15 8 = 1085102592571150095 from rfl] at e3
  have e5 : ((((List.range 8).map (fun i => wd f (o + 8 * i) 8)).map t1).map t2).map t3 = (List.range 8).map (fun i => pb (wd f (o + 8 * i) 8)) := by
    rw [List.map_map, List.map_map, List.map_map]
    exact List.map_congr_left fun i _ => (t_pb _ (wd_lt f _ 8)).1
  rw [e5] at e3
  have e6 : (List.range 8).map (fun i => pb (wd f (o + 8 * i) 8)) = [pb (wd f o 8), pb (wd f (o + 8) 8), pb (wd f (o + 16) 8), pb (wd f (o + 24) 8), pb (wd f (o + 32) 8), pb (wd f (o + 40) 8), pb (wd f (o + 48) 8), pb (wd f (o + 56) 8)] := rfl
  rw [e6] at e3
  simp only [num, Nat.mul_zero, Nat.add_zero] at e3
  have hb8 : ∀ a, pb (wd f a 8) ≤ 8 := fun a => (t_pb _ (wd_lt f a 8)).2.1
  have h := fold _ _ _ _ _ _ _ _ (hb8 o) (hb8 (o + 8)) (hb8 (o + 16)) (hb8 (o + 24)) (hb8 (o + 32)) (hb8 (o + 40)) (hb8 (o + 48)) (hb8 (o + 56))
  rw [← e3] at h
  clear e3 e5 e6 hb hb1 hb2 hb8
  have p8 : 256 ^ 8 = 18446744073709551616 := rfl
  rw [p8] at l1 l2
  refine ⟨_, _, _, rfl, rfl, rfl, ?_⟩
  rw [e1, e2]
  refine ⟨l1, by omega, by omega, (h _ _ _ _ rfl rfl rfl rfl).1, fun p q r hp hq hr => ?_⟩
  have h2 := (h _ p q r rfl hp hq hr).2
  rw [cnt_bytes]
  simp only [pb_wd] at h2
  exact h2

end Go.Proofs.Ytaneblecgjahbab.pop
