/- How the arguments of the statements are read, where none is a slice. Bytes in memory; a hypothesis that the walk does not look into. How memory may turn in a call: 'Kp S w w'': of what was there only the blocks of S may have turned. And the pieces of memory that package pack makes: a row of bytes, a Writer. Texts of known bytes: their length, an index, a piece, a test, as the walk asks for them. Package num: where a numeral stands. internal/strconv: small calls that reckon. -/
import Derived.Test.YtgnddabdjjkgiaaGreatDoorRows
import Derived.ProofKit
import Derived.OpenShut
import Derived.ChangeOld
import Derived.SizedLaws
import Derived.Test.YtgnddabdjjkgiaaGreatDoorProg
import Derived.WalkKit
import Derived.WalkLawsBesides
import Derived.Deep.QuietTactic
import Derived.BigQuiet
import Derived.Outline
import Derived.Laws.Externs
import Derived.KernelRfl
import Derived.Laws.DeepStrings4

namespace Go.Proofs.YtgnddabdjjkgiaaGreatDoor.row
open Go.ChangeShapes Go.WideShapes Go.ChangeAt Go.RowKit
set_option linter.unusedVariables false

theorem own : ownKnob Tryz.prog.godebug = none := by kernel_rfl
/-- a world is above itself -/
theorem bel_refl (w : World) : Below w.heap.size w w := ⟨rfl, rfl, rfl, Nat.le_refl _, fun _ _ => rfl⟩

end Go.Proofs.YtgnddabdjjkgiaaGreatDoor.row

namespace Go.Proofs.YtgnddabdjjkgiaaGreatDoor.sum
open Go.RowKit
set_option linter.unusedVariables false

theorem Hid_mk {p : Prop} (h : p) : Hid p := h

/-- A byte as a value. -/
def B (x : UInt8) : Value := .int .u8 (x.toNat : Int)

/-- A slice value that reads, in this world, as these bytes. -/
def Bs (w : World) (v : Value) (bs : List UInt8) : Prop :=
  ∃ a cap, v = .slice a bs.length cap ∧ bs.length ≤ cap ∧ cap ≤ maxLen ∧
    (bs ≠ [] → ∃ b o, a = some ⟨b, o, none⟩ ∧ ∀ k, k < bs.length → w.cell? ⟨b, o + k, none⟩ = some (B (bs.getD k 0)))

theorem take_snoc {bs : List UInt8} {k : Nat} (h : k < bs.length) : bs.take (k + 1) = bs.take k ++ [bs.getD k 0] := by
  rw [List.take_succ_eq_append_getElem h]; simp [List.getD, h]

end Go.Proofs.YtgnddabdjjkgiaaGreatDoor.sum

namespace Go.Proofs.YtgnddabdjjkgiaaGreatDoor.kept
open Go.RowKit Go.Proofs.YtgnddabdjjkgiaaGreatDoor.sum

structure Kp (S : Nat → Prop) (w w' : World) : Prop where
  os : w'.os = w.os
  tape : w'.tape = w.tape
  output : w'.output = w.output
  size : w.heap.size ≤ w'.heap.size
  block : ∀ k, k < w.heap.size → ¬ S k → w'.heap[k]? = w.heap[k]?

def No : Nat → Prop := fun _ => False
theorem no_iff (k : Nat) : No k ↔ False := Iff.rfl

theorem Kp.refl (S : Nat → Prop) (w : World) : Kp S w w := ⟨rfl, rfl, rfl, Nat.le_refl _, fun _ _ _ => rfl⟩
theorem Kp.mono {S T : Nat → Prop} {w w' : World} (h : Kp S w w') (hs : ∀ k, k < w.heap.size → S k → T k) : Kp T w w' := ⟨h.os, h.tape, h.output, h.size, fun k hk hn => h.block k hk (fun s => hn (hs k hk s))⟩
/-- two steps; what the second one turns may be new, or is among S -/
theorem Kp.trans {S T : Nat → Prop} {a b c : World} (h : Kp S a b) (k : Kp T b c) (hs : ∀ i, i < a.heap.size → T i → S i) : Kp S a c :=
  ⟨k.os.trans h.os, k.tape.trans h.tape, k.output.trans h.output, Nat.le_trans h.size k.size, fun i hi hn => (k.block i (Nat.lt_of_lt_of_le hi h.size) (fun t => hn (hs i hi t))).trans (h.block i hi hn)⟩
theorem Kp.trans' {S : Nat → Prop} {a b c : World} (h : Kp S a b) (k : Kp S b c) : Kp S a c := h.trans k fun _ _ x => x
theorem Kp.alloc {S : Nat → Prop} {a w : World} (h : Kp S a w) (o : Obj) : Kp S a (w.alloc o) :=
  h.trans' ⟨rfl, rfl, rfl, by simp, fun k hk _ => Below.heap_alloc _ _ _ hk⟩
theorem Kp.drew {S : Nat → Prop} {a w : World} (h : Kp S a w) : Kp S a w.drew := ⟨h.os, h.tape, h.output, h.size, h.block⟩
theorem Kp.drewN {S : Nat → Prop} {a w : World} (n : Nat) (h : Kp S a w) : Kp S a (w.drewN n) := h.trans' ⟨rfl, rfl, rfl, Nat.le_refl _, fun _ _ _ => rfl⟩
theorem Kp.setCell {S : Nat → Prop} {a w : World} (h : Kp S a w) {p : Addr} (hp : p.block < a.heap.size → S p.block) (u : Value) : Kp S a (w.setCell p u) := by
  refine h.trans (T := fun k => k = p.block) ⟨rfl, rfl, rfl, by simp [World.setCell], fun k hk hn => Below.heap_setCell _ _ _ _ hn⟩ ?_
  rintro i hi rfl; exact hp hi
theorem Kp.grown {S : Nat → Prop} {a w w' : World} {row : Option Nat} (h : Kp S a w) (hg : w.grownBy w' row) (hr : ∀ k, k < a.heap.size → row = some k → S k) : Kp S a w' :=
  h.trans (T := fun k => some k = row) ⟨hg.os, hg.tape, hg.output, hg.size, hg.block⟩ fun i hi e => hr i hi e.symm
theorem Kp.cell {S : Nat → Prop} {w w' : World} (h : Kp S w w') {p : Addr} (hp : p.block < w.heap.size) (hn : ¬ S p.block) : w'.cell? p = w.cell? p := World.cell?_of_block (w := w) (h.block p.block hp hn)
theorem Kp.cell' {S : Nat → Prop} {w w' : World} (h : Kp S w w') {p : Addr} {u : Value} (hc : w.cell? p = some u) (hn : ¬ S p.block) : w'.cell? p = some u := (h.cell (World.block_lt_of_cell? w p hc) hn).trans hc
theorem Kp.frozen {S : Nat → Prop} {w w' : World} (h : Kp S w w') {p : Addr} (hp : p.block < w.heap.size) (hn : ¬ S p.block) : w'.frozen? p = w.frozen? p := World.frozen?_of_block (w := w) (h.block p.block hp hn)
theorem Kp.below {w w' : World} (h : Kp No w w') : Below w.heap.size w w' := ⟨h.os, h.tape, h.output, h.size, fun k hk => h.block k hk id⟩
theorem Kp.of_below {w w' : World} (h : Below w.heap.size w w') : Kp No w w' := ⟨h.os, h.tape, h.output, h.size, fun k hk _ => h.block k hk⟩
theorem Kp.to {S : Nat → Prop} {w w' : World} (h : Kp No w w') : Kp S w w' := h.mono fun _ _ x => x.elim

theorem owns_kept {S : Nat → Prop} {w w' : World} {base : Nat} {e : TypeId} {size : Nat} {v : Value} {n : Nat} {xs : List Value} (h : w.ownsRow base e size v n xs) (hk : Kp S w w') (hn : ∀ k, v.ownBlock = some k → ¬ S k) : w'.ownsRow base e size v n xs := by
  refine ⟨h.1, ?_⟩
  rcases h.2 with hh | ⟨g, cap, cur, rfl, hb, hg, rest⟩
  · exact .inl hh
  · refine .inr ⟨g, cap, cur, rfl, hb, ?_, rest⟩
    rw [hk.block g (Array.getElem?_eq_some_iff.1 hg).1 (hn g rfl)]
    exact hg

theorem owns_base {w : World} {base base' : Nat} {e : TypeId} {size : Nat} {v : Value} {n : Nat} {xs : List Value} (h : w.ownsRow base e size v n xs) (hb : base' ≤ base) : w.ownsRow base' e size v n xs := by
  refine ⟨h.1, ?_⟩
  rcases h.2 with hh | ⟨g, cap, cur, rfl, hb', hg, rest⟩
  · exact .inl hh
  · exact .inr ⟨g, cap, cur, rfl, by omega, hg, rest⟩

/-- the shape of an owned value that is not empty -/
theorem owns_some {w : World} {base : Nat} {e : TypeId} {size : Nat} {v : Value} {n : Nat} {xs : List Value} (h : w.ownsRow base e size v n xs) (hn : 0 < n) : ∃ g cap, v = .slice (some ⟨g, 0, none⟩) n cap ∧ base ≤ g ∧ g < w.heap.size := by
  rcases h.2 with ⟨_, h0⟩ | ⟨g, cap, cur, rfl, hb, hg, _⟩
  · omega
  · exact ⟨g, cap, rfl, hb, (Array.getElem?_eq_some_iff.1 hg).1⟩
theorem owns_any {w : World} {base : Nat} {e : TypeId} {size : Nat} {v : Value} {n : Nat} {xs : List Value} (h : w.ownsRow base e size v n xs) : (v = .slice none 0 0 ∧ n = 0) ∨ ∃ g cap, v = .slice (some ⟨g, 0, none⟩) n cap ∧ base ≤ g ∧ g < w.heap.size ∧ n ≤ cap ∧ cap ≤ maxLen := by
  rcases h.2 with h0 | ⟨g, cap, cur, rfl, hb, hg, r1, r2, _⟩
  · exact .inl h0
  · exact .inr ⟨g, cap, rfl, hb, (Array.getElem?_eq_some_iff.1 hg).1, r1, r2⟩

theorem addr_add (g o j : Nat) : (⟨g, o, none⟩ : Addr).add j = ⟨g, o + j, none⟩ := by unfold Addr.add; split <;> simp_all

/-- an owned row of bytes reads as its bytes -/
theorem owns_bs {w : World} {base : Nat} {v : Value} {bs : List UInt8} (h : w.ownsRow base 5 1 v bs.length (bs.map B)) : Bs w v bs := by
  rcases h.2 with ⟨rfl, h0⟩ | ⟨g, cap, cur, rfl, hb, hg, r1, r2, r3, r4⟩
  · have : bs = [] := List.eq_nil_of_length_eq_zero h0
    subst this
    exact ⟨none, 0, rfl, Nat.le_refl _, Nat.zero_le _, fun h => absurd rfl h⟩
  · refine ⟨_, cap, rfl, r1, r2, fun _ => ⟨g, 0, rfl, fun k hk => ?_⟩⟩
    have := h.cells (g := g) rfl k (B (bs.getD k 0)) (by simp [List.getD, hk])
    rw [addr_add] at this
    exact this

theorem bs_kept {S : Nat → Prop} {w w' : World} {v : Value} {bs : List UInt8} (h : Bs w v bs) (hk : Kp S w w') (hn : ∀ b o n c, v = .slice (some ⟨b, o, none⟩) n c → ¬ S b) : Bs w' v bs := by
  obtain ⟨a, cap, rfl, h1, h2, h3⟩ := h
  refine ⟨a, cap, rfl, h1, h2, fun hne => ?_⟩
  obtain ⟨b, o, rfl, hc⟩ := h3 hne
  exact ⟨b, o, rfl, fun k hkk => hk.cell' (hc k hkk) (hn b o _ _ rfl)⟩
theorem bs_no {w w' : World} {v : Value} {bs : List UInt8} (h : Bs w v bs) (hk : Kp No w w') : Bs w' v bs := bs_kept h hk fun _ _ _ _ _ x => x

theorem bs_inj {w : World} {v : Value} {bs cs : List UInt8} (h : Bs w v bs) (k : Bs w v cs) : bs = cs := by
  obtain ⟨a, cap, rfl, h1, h2, h3⟩ := h
  obtain ⟨a', cap', e, k1, k2, k3⟩ := k
  simp only [Value.slice.injEq] at e
  obtain ⟨rfl, hl, rfl⟩ := e
  refine List.ext_getElem hl fun i hi hi' => ?_
  obtain ⟨b, o, rfl, hc⟩ := h3 (by intro e; subst e; simp at hi)
  obtain ⟨b', o', e, kc⟩ := k3 (by intro e; subst e; simp at hi')
  cases e
  have := (hc i hi).symm.trans (kc i hi')
  have e2 : bs[i].toNat = cs[i].toNat := by simp [B, List.getD, hi, hi'] at this; omega
  exact UInt8.toNat_inj.1 e2

/-- A Writer at block p whose slice is v: its bytes. -/
structure Wr (base : Nat) (w : World) (p : Nat) (v : Value) (bs : List UInt8) : Prop where
  cell : w.cell? ⟨p, 0, none⟩ = some v
  warm : w.frozen? ⟨p, 0, none⟩ = false
  owns : w.ownsRow base 5 1 v bs.length (bs.map B)
  apart : v.ownBlock ≠ some p
  room : base ≤ w.heap.size

theorem Wr.kept {S : Nat → Prop} {base : Nat} {w w' : World} {p : Nat} {v : Value} {bs : List UInt8} (h : Wr base w p v bs) (hk : Kp S w w') (hp : ¬ S p) (hv : ∀ k, v.ownBlock = some k → ¬ S k) : Wr base w' p v bs :=
  ⟨hk.cell' h.cell hp, (hk.frozen (World.block_lt_of_cell? w _ h.cell) hp).trans h.warm, owns_kept h.owns hk hv, h.apart, Nat.le_trans h.room hk.size⟩

/-- What a call on a Writer leaves: the bytes laid now; of old memory only the Writer and its row have turned; the row is the old one or new. -/
def WrAt (base p : Nat) (v : Value) (bs : List UInt8) (w : World) (v' : Value) (w' : World) : Prop :=
  Wr base w' p v' bs ∧ Kp (fun k => k = p ∨ some k = v.ownBlock) w w' ∧ (v'.ownBlock = v.ownBlock ∨ ∀ g, v'.ownBlock = some g → w.heap.size ≤ g)
def WrPost (base p : Nat) (v : Value) (bs : List UInt8) (w : World) (e : Ending) (w' : World) : Prop :=
  e = .returned (.tuple #[]) ∧ ∃ v', WrAt base p v bs w v' w'

end Go.Proofs.YtgnddabdjjkgiaaGreatDoor.kept

namespace Go.Proofs.YtgnddabdjjkgiaaGreatDoor.str
open Go.RowKit Go.Proofs.YtgnddabdjjkgiaaGreatDoor.sum Go.Proofs.YtgnddabdjjkgiaaGreatDoor.kept
set_option linter.unusedVariables false

/-- bytes as a text -/
def st (l : List UInt8) : ByteArray := ⟨l.toArray⟩
theorem st_size (l : List UInt8) : (st l).size = l.length := by simp [st, ByteArray.size]
theorem st_list (l : List UInt8) : (st l).toList = l := by rw [ByteArray.toList_eq]; simp [st]
theorem st_data (l : List UInt8) : (st l).data.toList = l := by simp [st]
theorem st_of (s : ByteArray) : st s.data.toList = s := by
  apply ByteArray.ext
  simp [st]
theorem st_get (l : List UInt8) (k : Nat) (h : k < (st l).size) : ((st l)[k]).toNat = (l.getD k 0).toNat := by
  have hk : k < l.length := by rw [st_size] at h; exact h
  have e : ((st l)[k]'h) = l[k] := by
    show l.toArray[k] = l[k]
    simp
  exact (congrArg UInt8.toNat e).trans (by simp [List.getD, hk])
/-- from a place on -/
theorem st_from (l : List UInt8) (i : Nat) : (st l).extract i l.length = st (l.drop i) := by
  apply ByteArray.ext
  rw [ByteArray.data_extract]
  apply Array.ext'
  simp [st, List.take_of_length_le]
theorem st_piece (l : List UInt8) (i j : Nat) : (st l).extract i j = st ((l.drop i).take (j - i)) := by
  apply ByteArray.ext
  rw [ByteArray.data_extract]
  apply Array.ext'
  simp [st, List.take_drop]
theorem getD_lt (l : List UInt8) (k : Nat) : (l.getD k 0).toNat < 256 := (l.getD k 0).toNat_lt

end Go.Proofs.YtgnddabdjjkgiaaGreatDoor.str

namespace Go.Proofs.YtgnddabdjjkgiaaGreatDoor.nums
open Go.RowKit Go.Proofs.YtgnddabdjjkgiaaGreatDoor.sum Go.Proofs.YtgnddabdjjkgiaaGreatDoor.kept Go.Proofs.YtgnddabdjjkgiaaGreatDoor.str
set_option linter.unusedVariables false

def dgB (b : Nat) : Bool := decide (48 ≤ b) && decide (b ≤ 57)
def blB (b : Nat) : Bool := (decide (9 ≤ b) && decide (b ≤ 13)) || decide (b = 32)
def bt (l : List UInt8) (k : Nat) : Nat := (l.getD k 0).toNat
/-- past all that are such -/
def pastS (p : Nat → Bool) (l : List UInt8) : Nat → Nat → Nat
  | 0, k => k
  | f + 1, k => if k < l.length ∧ p (bt l k) = true then pastS p l f (k + 1) else k
def past (p : Nat → Bool) (l : List UInt8) (k : Nat) : Nat := pastS p l (l.length - k) k
theorem pastS_le (p : Nat → Bool) (l : List UInt8) : ∀ f k, k ≤ l.length → k ≤ pastS p l f k ∧ pastS p l f k ≤ l.length
  | 0, k, h => ⟨Nat.le_refl _, h⟩
  | f + 1, k, h => by
    rw [pastS]
    split
    · rename_i hc
      obtain ⟨h1, h2⟩ := pastS_le p l f (k + 1) hc.1
      exact ⟨by omega, h2⟩
    · exact ⟨Nat.le_refl _, h⟩
theorem past_le (p : Nat → Bool) (l : List UInt8) (k : Nat) (h : k ≤ l.length) : k ≤ past p l k ∧ past p l k ≤ l.length := pastS_le p l _ k h
theorem past_yes {p : Nat → Bool} {l : List UInt8} {k : Nat} (h : k < l.length) (hp : p (bt l k) = true) : past p l k = past p l (k + 1) := by
  unfold past
  obtain ⟨m, hm⟩ : ∃ m, l.length - k = m + 1 := ⟨l.length - k - 1, by omega⟩
  rw [hm, pastS, if_pos ⟨h, hp⟩, show l.length - (k + 1) = m by omega]
theorem past_no {p : Nat → Bool} {l : List UInt8} {k : Nat} (h : k < l.length → p (bt l k) = false) : past p l k = k := by
  unfold past
  rcases hm : l.length - k with _ | m
  · rfl
  · rw [pastS, if_neg]
    rintro ⟨h1, h2⟩
    rw [h h1] at h2
    cases h2
theorem bt_get (l : List UInt8) (k : Nat) (h : k < (st l).size) : ((st l)[k]'h).toNat = bt l k := by
  unfold bt
  have hk : k < l.length := by rw [st_size] at h; exact h
  have e : ((st l)[k]'h) = l[k] := by
    show l.toArray[k] = l[k]
    simp
  exact (congrArg UInt8.toNat e).trans (by simp [List.getD, hk])
theorem bt_lt (l : List UInt8) (k : Nat) : bt l k < 256 := UInt8.toNat_lt _
def RInt (w : World) (r : Nat) (e : Ending) (w' : World) : Prop := e = .returned (.int .i64 (r : Int)) ∧ w = w'

set_option maxRecDepth 100000 in
set_option maxHeartbeats 4000000 in
theorem digits_any (w : World) (l : List UInt8) (k : Nat) (hk : k ≤ l.length) (hl : l.length ≤ 140737488355327) :
    Calls Tryz.prog 48 #[.string (st l), .int .i64 (k : Int)] w (RInt w (past dgB l k)) := by
  have hsz := st_size l
  obtain ⟨R, hR⟩ : ∃ R, past dgB l k = R := ⟨_, rfl⟩
  rw [hR]
  have HR := Hid_mk hR
  have HK := Hid_mk hk
  have HL := Hid_mk hl
  clear hR hk hl
  go_enter Tryz.func48, Tryz.ntmps48
  go_wp2
  go_loop [1] (fun i => ∃ j : Nat, i = .int .i64 (j : Int) ∧ j ≤ l.length ∧ past dgB l j = R) (fun i => l.length - (intOf i).toNat)
  case atStart => exact ⟨k, rfl, HK.out, HR.out⟩
  case round =>
    obtain ⟨j, rfl, hj, hr⟩ := hrel
    have hj0 : (0 : Int) ≤ (j : Int) := Int.natCast_nonneg _
    have hjl : (j : Int) ≤ 140737488355327 := by have := HL.out; omega
    have HJ := Hid_mk hj
    have HRr := Hid_mk hr
    by_cases hlt : j < l.length
    · have hlt2 : j < (st l).size := by rw [hsz]; exact hlt
      have hlti : (j : Int) < (l.length : Int) := by omega
      have hg := bt_get l j hlt2
      obtain ⟨b, hb⟩ : ∃ b, bt l j = b := ⟨_, rfl⟩
      rw [hb] at hg
      have HB := Hid_mk hb
      have HLt := Hid_mk hlt
      by_cases h1 : 48 ≤ b
      · have h1i : (48 : Int) ≤ (b : Int) := by omega
        by_cases h2 : b ≤ 57
        · have h2i : (b : Int) ≤ (57 : Int) := by omega
          have HD := Hid_mk (show dgB b = true by simp [dgB, h1, h2])
          clear hj hr hlt hb h1 h2
          go_wp2
          go_round
          case rel => exact ⟨j + 1, by go_num, HLt.out, by rw [← HRr.out]; exact (past_yes HLt.out (by rw [HB.out]; exact HD.out)).symm⟩
          case measure => have := HLt.out; simp [intOf]; omega
        · have h2i : ¬ (b : Int) ≤ (57 : Int) := by omega
          have HD := Hid_mk (show dgB b = false by simp [dgB, h1, h2])
          clear hj hr hlt hb h1 h2
          go_wp2
          go_ret
          exact ⟨by rw [← HRr.out, past_no (fun _ => by rw [HB.out]; exact HD.out)]; rfl, rfl⟩
      · have h1i : ¬ (48 : Int) ≤ (b : Int) := by omega
        have HD := Hid_mk (show dgB b = false by simp [dgB, h1])
        clear hj hr hlt hb h1
        go_wp2
        go_ret
        exact ⟨by rw [← HRr.out, past_no (fun _ => by rw [HB.out]; exact HD.out)]; rfl, rfl⟩
    · have hlti : ¬ (j : Int) < (l.length : Int) := by omega
      have HLt := Hid_mk hlt
      clear hj hr hlt
      go_wp2
      go_ret
      exact ⟨by rw [← HRr.out, past_no (fun h => absurd h HLt.out)]; rfl, rfl⟩

set_option maxRecDepth 100000 in
set_option maxHeartbeats 4000000 in
theorem blanks_any (w : World) (l : List UInt8) (k : Nat) (hk : k ≤ l.length) (hl : l.length ≤ 140737488355327) :
    Calls Tryz.prog 27 #[.string (st l), .int .i64 (k : Int)] w (RInt w (past blB l k)) := by
  have hsz := st_size l
  obtain ⟨R, hR⟩ : ∃ R, past blB l k = R := ⟨_, rfl⟩
  rw [hR]
  have HR := Hid_mk hR
  have HK := Hid_mk hk
  have HL := Hid_mk hl
  clear hR hk hl
  go_enter Tryz.func27, Tryz.ntmps27
  go_wp2
  go_loop [1] (fun i => ∃ j : Nat, i = .int .i64 (j : Int) ∧ j ≤ l.length ∧ past blB l j = R) (fun i => l.length - (intOf i).toNat)
  case atStart => exact ⟨k, rfl, HK.out, HR.out⟩
  case round =>
    obtain ⟨j, rfl, hj, hr⟩ := hrel
    have hj0 : (0 : Int) ≤ (j : Int) := Int.natCast_nonneg _
    have hjl : (j : Int) ≤ 140737488355327 := by have := HL.out; omega
    have HJ := Hid_mk hj
    have HRr := Hid_mk hr
    by_cases hlt : j < l.length
    · have hlt2 : j < (st l).size := by rw [hsz]; exact hlt
      have hlti : (j : Int) < (l.length : Int) := by omega
      have hg := bt_get l j hlt2
      obtain ⟨b, hb⟩ : ∃ b, bt l j = b := ⟨_, rfl⟩
      rw [hb] at hg
      have HB := Hid_mk hb
      have HLt := Hid_mk hlt
      by_cases h3 : b = 32
      · by_cases h1 : 9 ≤ b
        · have h1i : (9 : Int) ≤ (b : Int) := by omega
          have h2i : ¬ (b : Int) ≤ (13 : Int) := by omega
          have h3i : (b : Int) = 32 := by omega
          have HD := Hid_mk (show blB b = true by simp [blB, h3])
          clear hj hr hlt hb h1 h3
          go_wp2
          go_round
          case rel => exact ⟨j + 1, by go_num, HLt.out, by rw [← HRr.out]; exact (past_yes HLt.out (by rw [HB.out]; exact HD.out)).symm⟩
          case measure => have := HLt.out; simp [intOf]; omega
        · omega
      · have h3i : ¬ (b : Int) = 32 := by omega
        by_cases h1 : 9 ≤ b
        · have h1i : (9 : Int) ≤ (b : Int) := by omega
          by_cases h2 : b ≤ 13
          · have h2i : (b : Int) ≤ (13 : Int) := by omega
            have HD := Hid_mk (show blB b = true by simp [blB, h1, h2])
            clear hj hr hlt hb h1 h2 h3
            go_wp2
            go_round
            case rel => exact ⟨j + 1, by go_num, HLt.out, by rw [← HRr.out]; exact (past_yes HLt.out (by rw [HB.out]; exact HD.out)).symm⟩
            case measure => have := HLt.out; simp [intOf]; omega
          · have h2i : ¬ (b : Int) ≤ (13 : Int) := by omega
            have HD := Hid_mk (show blB b = false by simp [blB, h2, h3])
            clear hj hr hlt hb h1 h2 h3
            go_wp2
            go_ret
            exact ⟨by rw [← HRr.out, past_no (fun _ => by rw [HB.out]; exact HD.out)]; rfl, rfl⟩
        · have h1i : ¬ (9 : Int) ≤ (b : Int) := by omega
          have HD := Hid_mk (show blB b = false by simp [blB, h1, h3])
          clear hj hr hlt hb h1 h3
          go_wp2
          go_ret
          exact ⟨by rw [← HRr.out, past_no (fun _ => by rw [HB.out]; exact HD.out)]; rfl, rfl⟩
    · have hlti : ¬ (j : Int) < (l.length : Int) := by omega
      have HLt := Hid_mk hlt
      clear hj hr hlt
      go_wp2
      go_ret
      exact ⟨by rw [← HRr.out, past_no (fun h => absurd h HLt.out)]; rfl, rfl⟩


def signS (l : List UInt8) (k : Nat) : Nat := if k < l.length ∧ (bt l k = 43 ∨ bt l k = 45) then k + 1 else k
def mantS (l : List UInt8) (k : Nat) : Nat :=
  if past dgB l k = l.length ∨ bt l (past dgB l k) ≠ 46 then past dgB l k else if past dgB l (past dgB l k + 1) = k + 1 then k else past dgB l (past dgB l k + 1)
def expS (l : List UInt8) (k : Nat) : Nat :=
  if k = l.length ∨ (bt l k ≠ 101 ∧ bt l k ≠ 69) then k else if past dgB l (signS l (k + 1)) = signS l (k + 1) then k else past dgB l (signS l (k + 1))
def findS (l : List UInt8) : Nat × Nat :=
  if mantS l (signS l (past blB l 0)) = signS l (past blB l 0) then (0, 0) else (past blB l 0, expS l (mantS l (signS l (past blB l 0))))
def looksS (l : List UInt8) : Bool := decide (0 < (findS l).2) && decide (past blB l (findS l).2 = l.length)
theorem sign_le {l : List UInt8} {k : Nat} (h : k ≤ l.length) : k ≤ signS l k ∧ signS l k ≤ l.length := by
  unfold signS
  split
  · rename_i h1; exact ⟨by omega, h1.1⟩
  · exact ⟨Nat.le_refl _, h⟩
theorem mant_le {l : List UInt8} {k : Nat} (h : k ≤ l.length) : k ≤ mantS l k ∧ mantS l k ≤ l.length := by
  have h1 := past_le dgB l k h
  unfold mantS
  split
  · exact h1
  · rename_i h2
    have h3 := past_le dgB l (past dgB l k + 1) (by omega)
    split
    · exact ⟨Nat.le_refl _, h⟩
    · exact ⟨by omega, h3.2⟩
theorem exp_le {l : List UInt8} {k : Nat} (h : k ≤ l.length) : k ≤ expS l k ∧ expS l k ≤ l.length := by
  unfold expS
  split
  · exact ⟨Nat.le_refl _, h⟩
  · rename_i h2
    have h3 := sign_le (l := l) (k := k + 1) (by omega)
    have h4 := past_le dgB l (signS l (k + 1)) h3.2
    split
    · exact ⟨Nat.le_refl _, h⟩
    · exact ⟨by omega, h4.2⟩
theorem find_le (l : List UInt8) : (findS l).1 ≤ (findS l).2 ∧ (findS l).2 ≤ l.length := by
  unfold findS
  split
  · exact ⟨Nat.le_refl _, Nat.zero_le _⟩
  · have h1 := past_le blB l 0 (Nat.zero_le _)
    have h2 := sign_le h1.2
    have h3 := mant_le h2.2
    have h4 := exp_le h3.2
    exact ⟨by show past blB l 0 ≤ expS l _; omega, h4.2⟩

set_option maxRecDepth 100000 in
set_option maxHeartbeats 4000000 in
theorem sign_any (w : World) (l : List UInt8) (k : Nat) (hk : k ≤ l.length) (hl : l.length ≤ 140737488355327) :
    Calls Tryz.prog 37 #[.string (st l), .int .i64 (k : Int)] w (RInt w (signS l k)) := by
  have hsz := st_size l
  obtain ⟨R, hR⟩ : ∃ R, signS l k = R := ⟨_, rfl⟩
  rw [hR]
  unfold signS at hR
  have hk0 : (0 : Int) ≤ (k : Int) := Int.natCast_nonneg _
  have hkl : (k : Int) ≤ 140737488355327 := by omega
  by_cases hlt : k < l.length
  · have hlt2 : k < (st l).size := by rw [hsz]; exact hlt
    have hlti : (k : Int) < (l.length : Int) := by omega
    have hg := bt_get l k hlt2
    obtain ⟨b, hb⟩ : ∃ b, bt l k = b := ⟨_, rfl⟩
    rw [hb] at hg hR
    by_cases h1 : b = 43
    · rw [if_pos ⟨hlt, .inl h1⟩] at hR
      have h1i : (b : Int) = 43 := by omega
      subst hR
      clear hk hl hlt hb h1
      go_enter Tryz.func37, Tryz.ntmps37
      go_wp2
      go_ret
      exact ⟨by simp [Int.natCast_add], rfl⟩
    · have h1i : ¬ (b : Int) = 43 := by omega
      by_cases h2 : b = 45
      · rw [if_pos ⟨hlt, .inr h2⟩] at hR
        have h2i : (b : Int) = 45 := by omega
        subst hR
        clear hk hl hlt hb h1 h2
        go_enter Tryz.func37, Tryz.ntmps37
        go_wp2
        go_ret
        exact ⟨by simp [Int.natCast_add], rfl⟩
      · rw [if_neg (by rintro ⟨-, h | h⟩; exact h1 h; exact h2 h)] at hR
        have h2i : ¬ (b : Int) = 45 := by omega
        have h1b : ((b : Int) == 43) = false := by simpa using h1i
        have h2b : ((b : Int) == 45) = false := by simpa using h2i
        subst hR
        clear hk hl hlt hb h1 h2
        go_enter Tryz.func37, Tryz.ntmps37
        go_wp2
        go_ret
        exact ⟨rfl, rfl⟩
  · rw [if_neg (fun h => hlt h.1)] at hR
    have hlti : ¬ (k : Int) < (l.length : Int) := by omega
    subst hR
    clear hk hl hlt
    go_enter Tryz.func37, Tryz.ntmps37
    go_wp2
    go_ret
    exact ⟨rfl, rfl⟩

set_option maxRecDepth 100000 in
set_option maxHeartbeats 4000000 in
theorem mant_any (w : World) (l : List UInt8) (k : Nat) (hk : k ≤ l.length) (hl : l.length ≤ 140737488355327) :
    Calls Tryz.prog 38 #[.string (st l), .int .i64 (k : Int)] w (RInt w (mantS l k)) := by
  have hsz := st_size l
  obtain ⟨R, hR⟩ : ∃ R, mantS l k = R := ⟨_, rfl⟩
  rw [hR]
  unfold mantS at hR
  have h1 := past_le dgB l k hk
  have HD1 := Hid_mk (digits_any w l k hk hl)
  obtain ⟨e, he⟩ : ∃ e, past dgB l k = e := ⟨_, rfl⟩
  rw [he] at hR h1 HD1
  have hk0 : (0 : Int) ≤ (k : Int) := Int.natCast_nonneg _
  have he0 : (0 : Int) ≤ (e : Int) := Int.natCast_nonneg _
  have hel : (e : Int) ≤ 140737488355327 := by omega
  have hkl : (k : Int) ≤ 140737488355327 := by omega
  clear he
  go_enter Tryz.func38, Tryz.ntmps38
  go_wp2_with fail
  with_reducible refine HD1.out.mono ?_
  rintro e1 w1 ⟨rfl, rfl⟩
  by_cases hlt : e < l.length
  · have hlt2 : e < (st l).size := by rw [hsz]; exact hlt
    have hnei : ¬ (e : Int) = (l.length : Int) := by omega
    have hlti : (e : Int) < (l.length : Int) := by omega
    have hg := bt_get l e hlt2
    have HD2 := Hid_mk (digits_any w l (e + 1) (by omega) hl)
    have h3 := past_le dgB l (e + 1) (by omega)
    obtain ⟨b, hb⟩ : ∃ b, bt l e = b := ⟨_, rfl⟩
    rw [hb] at hg hR
    by_cases h2 : b = 46
    · have h2i : (b : Int) = 46 := by omega
      rw [if_neg (by rintro (h | h); omega; exact h h2)] at hR
      obtain ⟨e2, he2⟩ : ∃ e2, past dgB l (e + 1) = e2 := ⟨_, rfl⟩
      rw [he2] at hR h3 HD2
      have HD2' : Hid (Calls Tryz.prog 48 #[.string (st l), .int .i64 ((e : Int) + 1)] w (RInt w e2)) := Hid_mk (by have h := HD2.out; rw [Int.natCast_add] at h; exact h)
      have HL3 := Hid_mk h3
      clear he2 hk hl hlt hb h1 h3 HD1 HD2
      go_wp2_with fail
      with_reducible refine HD2'.out.mono ?_
      rintro e3 w1 ⟨rfl, rfl⟩
      by_cases h4 : e2 = k + 1
      · rw [if_pos h4] at hR
        have h4i : (e2 : Int) = (k : Int) + 1 := by omega
        subst hR
        clear h2 h4 HD2'
        go_wp2
        go_ret
        exact ⟨rfl, rfl⟩
      · rw [if_neg h4] at hR
        have h4i : ¬ (e2 : Int) = (k : Int) + 1 := by omega
        subst hR
        clear h2 h4 HD2'
        go_wp2
        go_ret
        exact ⟨rfl, rfl⟩
    · have h2i : ¬ (b : Int) = 46 := by omega
      have h2b : ((b : Int) != 46) = true := by simpa using h2i
      rw [if_pos (.inr h2)] at hR
      subst hR
      clear hk hl hlt hb h1 h2 h3 HD1 HD2
      go_wp2
      go_ret
      exact ⟨rfl, rfl⟩
  · obtain rfl : e = l.length := by omega
    rw [if_pos (.inl rfl)] at hR
    subst hR
    clear hk hl hlt h1 HD1
    go_wp2
    go_ret
    exact ⟨rfl, rfl⟩

set_option maxRecDepth 100000 in
set_option maxHeartbeats 4000000 in
theorem exp_any (w : World) (l : List UInt8) (k : Nat) (hk : k ≤ l.length) (hl : l.length ≤ 140737488355327) :
    Calls Tryz.prog 39 #[.string (st l), .int .i64 (k : Int)] w (RInt w (expS l k)) := by
  have hsz := st_size l
  obtain ⟨R, hR⟩ : ∃ R, expS l k = R := ⟨_, rfl⟩
  rw [hR]
  unfold expS at hR
  have hk0 : (0 : Int) ≤ (k : Int) := Int.natCast_nonneg _
  have hkl : (k : Int) ≤ 140737488355327 := by omega
  go_enter Tryz.func39, Tryz.ntmps39
  by_cases hlt : k < l.length
  · have hlt2 : k < (st l).size := by rw [hsz]; exact hlt
    have hnei : ¬ (k : Int) = (l.length : Int) := by omega
    have hlti : (k : Int) < (l.length : Int) := by omega
    have hg := bt_get l k hlt2
    have h2 := sign_le (l := l) (k := k + 1) (by omega)
    have HS := Hid_mk (sign_any w l (k + 1) (by omega) hl)
    have HD := Hid_mk (digits_any w l (signS l (k + 1)) h2.2 hl)
    have h3 := past_le dgB l (signS l (k + 1)) h2.2
    obtain ⟨b, hb⟩ : ∃ b, bt l k = b := ⟨_, rfl⟩
    rw [hb] at hg hR
    obtain ⟨d, hd⟩ : ∃ d, signS l (k + 1) = d := ⟨_, rfl⟩
    rw [hd] at hR h2 h3 HS HD
    obtain ⟨e, he⟩ : ∃ e, past dgB l d = e := ⟨_, rfl⟩
    rw [he] at hR h3 HD
    have HS' : Hid (Calls Tryz.prog 37 #[.string (st l), .int .i64 ((k : Int) + 1)] w (RInt w d)) := Hid_mk (by have h := HS.out; rw [Int.natCast_add] at h; exact h)
    have hbc : (b = 101 ∨ b = 69) ∨ (b ≠ 101 ∧ b ≠ 69) := by omega
    clear hk hl hlt hb hd he HS h2 h3
    rcases hbc with hbc | ⟨h5, h6⟩
    · rw [if_neg (by rintro (h | h) <;> omega)] at hR
      have hb1 : (b : Int) = 101 ∨ (((b : Int) != 101) = true ∧ (b : Int) = 69) := by
        rcases hbc with h | h
        · exact .inl (by omega)
        · exact .inr ⟨by simp; omega, by omega⟩
      clear hbc
      rcases hb1 with h5 | ⟨h5, h6⟩
      all_goals
        go_wp2_with fail
        with_reducible refine HS'.out.mono ?_
        rintro e1 w1 ⟨rfl, rfl⟩
        go_wp2_with fail
        with_reducible refine HD.out.mono ?_
        rintro e1 w1 ⟨rfl, rfl⟩
        by_cases h4 : e = d
        · rw [if_pos h4] at hR
          have h4i : (e : Int) = (d : Int) := by omega
          subst hR
          clear h4 HS' HD
          go_wp2
          go_ret
          exact ⟨rfl, rfl⟩
        · rw [if_neg h4] at hR
          have h4i : ¬ (e : Int) = (d : Int) := by omega
          subst hR
          clear h4 HS' HD
          go_wp2
          go_ret
          exact ⟨rfl, rfl⟩
    · rw [if_pos (.inr ⟨h5, h6⟩)] at hR
      have h5i : ¬ (b : Int) = 101 := by omega
      have h6i : ¬ (b : Int) = 69 := by omega
      have h5b : ((b : Int) != 101) = true := by simpa using h5i
      have h6b : ((b : Int) != 69) = true := by simpa using h6i
      subst hR
      clear h5 h6 HS' HD
      go_wp2
      go_ret
      exact ⟨rfl, rfl⟩
  · obtain rfl : k = l.length := by omega
    rw [if_pos (.inl rfl)] at hR
    subst hR
    clear hk hl hlt
    go_wp2
    go_ret
    exact ⟨rfl, rfl⟩

set_option maxRecDepth 100000 in
set_option maxHeartbeats 4000000 in
theorem find_any (w : World) (l : List UInt8) (hl : l.length ≤ 140737488355327) :
    Calls Tryz.prog 23 #[.string (st l)] w fun e w' => e = .returned (.tuple #[.int .i64 ((findS l).1 : Int), .int .i64 ((findS l).2 : Int)]) ∧ w = w' := by
  have h1 := past_le blB l 0 (Nat.zero_le _)
  have h2 := sign_le h1.2
  have h3 := mant_le h2.2
  have HB : Hid (Calls Tryz.prog 27 #[.string (st l), .int .i64 0] w (RInt w (past blB l 0))) := Hid_mk (blanks_any w l 0 (Nat.zero_le _) hl)
  have HS := Hid_mk (sign_any w l _ h1.2 hl)
  have HM := Hid_mk (mant_any w l _ h2.2 hl)
  have HE := Hid_mk (exp_any w l _ h3.2 hl)
  obtain ⟨R, hR⟩ : ∃ R, findS l = R := ⟨_, rfl⟩
  rw [hR]
  unfold findS at hR
  obtain ⟨f, hf⟩ : ∃ f, past blB l 0 = f := ⟨_, rfl⟩
  rw [hf] at hR HB HS HM HE
  obtain ⟨g, hg⟩ : ∃ g, signS l f = g := ⟨_, rfl⟩
  rw [hg] at hR HS HM HE
  obtain ⟨m, hm⟩ : ∃ m, mantS l g = m := ⟨_, rfl⟩
  rw [hm] at hR HM HE
  obtain ⟨x, hx⟩ : ∃ x, expS l m = x := ⟨_, rfl⟩
  rw [hx] at hR HE
  clear h1 h2 h3 hf hg hm hx hl
  go_enter Tryz.func23, Tryz.ntmps23
  go_wp2_with fail
  with_reducible refine HB.out.mono ?_
  rintro e1 w1 ⟨rfl, rfl⟩
  go_wp2_with fail
  with_reducible refine HS.out.mono ?_
  rintro e1 w1 ⟨rfl, rfl⟩
  go_wp2_with fail
  with_reducible refine HM.out.mono ?_
  rintro e1 w1 ⟨rfl, rfl⟩
  by_cases h : m = g
  · rw [if_pos h] at hR
    have hi : (m : Int) = (g : Int) := by omega
    subst hR
    clear h HB HS HM HE
    go_wp2
    go_ret2
    exact ⟨rfl, rfl⟩
  · rw [if_neg h] at hR
    have hi : ¬ (m : Int) = (g : Int) := by omega
    subst hR
    clear h HB HS HM
    go_wp2_with fail
    with_reducible refine HE.out.mono ?_
    rintro e1 w1 ⟨rfl, rfl⟩
    go_wp2
    go_ret2
    exact ⟨rfl, rfl⟩

set_option maxRecDepth 100000 in
set_option maxHeartbeats 4000000 in
theorem looks_any (w : World) (l : List UInt8) (hl : l.length ≤ 140737488355327) :
    Calls Tryz.prog 11 #[.string (st l)] w fun e w' => e = .returned (.bool (looksS l)) ∧ w = w' := by
  have hsz := st_size l
  have h1 := (find_le l).2
  have HF := Hid_mk (find_any w l hl)
  have HB := Hid_mk (blanks_any w l _ h1 hl)
  obtain ⟨R, hR⟩ : ∃ R, looksS l = R := ⟨_, rfl⟩
  rw [hR]
  unfold looksS at hR
  obtain ⟨a, ha⟩ : ∃ a, (findS l).1 = a := ⟨_, rfl⟩
  obtain ⟨x, hx⟩ : ∃ x, (findS l).2 = x := ⟨_, rfl⟩
  rw [ha, hx] at HF
  rw [hx] at hR HB
  obtain ⟨y, hy⟩ : ∃ y, past blB l x = y := ⟨_, rfl⟩
  rw [hy] at hR HB
  clear h1 ha hx hy hl
  go_enter Tryz.func11, Tryz.ntmps11
  go_wp2_with fail
  with_reducible refine HF.out.mono ?_
  rintro e1 w1 ⟨rfl, rfl⟩
  by_cases h : 0 < x
  · have hi : (0 : Int) < (x : Int) := by omega
    rw [decide_eq_true h, Bool.true_and] at hR
    go_wp2_with fail
    with_reducible refine HB.out.mono ?_
    rintro e1 w1 ⟨rfl, rfl⟩
    by_cases h2 : y = l.length
    · rw [decide_eq_true h2] at hR
      have h2i : ((y : Int) == (l.length : Int)) = true := by simp; omega
      subst hR
      clear h h2 HF HB
      go_wp2
      go_ret
      exact ⟨rfl, rfl⟩
    · rw [decide_eq_false h2] at hR
      have h2i : ((y : Int) == (l.length : Int)) = false := by simp; omega
      subst hR
      clear h h2 HF HB
      go_wp2
      go_ret
      exact ⟨rfl, rfl⟩
  · have hi : ¬ (0 : Int) < (x : Int) := by omega
    rw [decide_eq_false h, Bool.false_and] at hR
    subst hR
    clear h HF HB
    go_wp2
    go_ret
    exact ⟨rfl, rfl⟩

end Go.Proofs.YtgnddabdjjkgiaaGreatDoor.nums

namespace Go.Proofs.YtgnddabdjjkgiaaGreatDoor.fmtf
open Go.RowKit Go.Proofs.YtgnddabdjjkgiaaGreatDoor.sum Go.Proofs.YtgnddabdjjkgiaaGreatDoor.kept
set_option linter.unusedVariables false

def lg10 (x : Int) : Int := x * 78913 / 262144
def lg2 (x : Int) : Int := x * 108853 / 32768
/-- 1 of what is true, else 0 -/
def b2 (b : Bool) : Int := if b = true then 1 else 0
def RV (w : World) (v : Value) (e : Ending) (w' : World) : Prop := e = .returned v ∧ w = w'
set_option maxRecDepth 100000 in
set_option maxHeartbeats 2000000 in
theorem lg10_any (w : World) (x : Int) (h1 : -100000 ≤ x) (h2 : x ≤ 100000) : Calls Tryz.prog 79 #[.int .i64 x] w (RV w (.int .i64 (lg10 x))) := by
  have h3 : -7891300000 ≤ x * 78913 := by omega
  have h4 : x * 78913 ≤ 7891300000 := by omega
  unfold lg10
  go_enter Tryz.func79, Tryz.ntmps79
  go_wp2
  go_ret
  exact ⟨rfl, rfl⟩
set_option maxRecDepth 100000 in
set_option maxHeartbeats 2000000 in
theorem lg2_any (w : World) (x : Int) (h1 : -100000 ≤ x) (h2 : x ≤ 100000) : Calls Tryz.prog 105 #[.int .i64 x] w (RV w (.int .i64 (lg2 x))) := by
  have h3 : -10885300000 ≤ x * 108853 := by omega
  have h4 : x * 108853 ≤ 10885300000 := by omega
  unfold lg2
  go_enter Tryz.func105, Tryz.ntmps105
  go_wp2
  go_ret
  exact ⟨rfl, rfl⟩
set_option maxRecDepth 100000 in
set_option maxHeartbeats 2000000 in
theorem bool2i_any (w : World) (b : Bool) : Calls Tryz.prog 112 #[.bool b] w (RV w (.int .i64 (b2 b))) := by
  go_enter Tryz.func112, Tryz.ntmps112
  cases b
  · go_wp2
    go_ret
    exact ⟨rfl, rfl⟩
  · go_wp2
    go_ret
    exact ⟨rfl, rfl⟩
set_option maxRecDepth 100000 in
set_option maxHeartbeats 2000000 in
theorem bool2w_any (w : World) (b : Bool) : Calls Tryz.prog 94 #[.bool b] w (RV w (.int .u64 (b2 b))) := by
  go_enter Tryz.func94, Tryz.ntmps94
  cases b
  · go_wp2
    go_ret
    exact ⟨rfl, rfl⟩
  · go_wp2
    go_ret
    exact ⟨rfl, rfl⟩
set_option maxRecDepth 100000 in
set_option maxHeartbeats 2000000 in
theorem bool2u_any (w : World) (b : Bool) : Calls Tryz.prog 132 #[.bool b] w (RV w (.int .u64 (b2 b))) := by
  go_enter Tryz.func132, Tryz.ntmps132
  cases b
  · go_wp2
    go_ret
    exact ⟨rfl, rfl⟩
  · go_wp2
    go_ret
    exact ⟨rfl, rfl⟩
set_option maxRecDepth 100000 in
set_option maxHeartbeats 2000000 in
theorem unmin_any (w : World) (x : Nat) (h1 : 1 ≤ x) (h2 : x ≤ 4611686018427387903) : Calls Tryz.prog 113 #[.int .u64 (x : Int)] w (RV w (.int .u64 ((4 * x - 2 : Nat) : Int))) := by
  have h3 : (1 : Int) ≤ (x : Int) := by omega
  have h4 : (x : Int) ≤ 4611686018427387903 := by omega
  have h5 : ((4 * x - 2 : Nat) : Int) = (x : Int) * 4 - 2 := by omega
  rw [h5]
  clear h1 h2 h5
  go_enter Tryz.func113, Tryz.ntmps113
  go_wp2
  go_ret
  exact ⟨rfl, rfl⟩
def rndI (x : Int) : Int := IntKind.u64.wrap (IntKind.u64.wrap (x + 1) + bits .and .u64 (x / 4) 1) / 4
set_option maxRecDepth 100000 in
set_option maxHeartbeats 2000000 in
theorem round_any (w : World) (x : Int) (h3 : 0 ≤ x) : Calls Tryz.prog 110 #[.int .u64 x] w (RV w (.int .u64 (rndI x))) := by
  unfold rndI
  go_enter Tryz.func110, Tryz.ntmps110
  go_wp2
  go_ret
  exact ⟨rfl, rfl⟩
def divI (x : Int) : Int := bits .or .u64 (bits .or .u64 (IntKind.u64.wrap (x.tdiv 10)) (bits .and .u64 x 1)) (b2 (x % 10 != 0))

end Go.Proofs.YtgnddabdjjkgiaaGreatDoor.fmtf
