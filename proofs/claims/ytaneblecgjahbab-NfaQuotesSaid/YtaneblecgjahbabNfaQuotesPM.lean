/- Package nfa, plainly: what a text that is quoted matches. Two texts, one behind the other. tailracehand.Letters: a text of few letters, of raw bytes. The reference's reader of a regular expression: its state; what stands next; what fails. Package ere: a list of trees in a block of its own. -/
import Derived.Test.YtaneblecgjahbabNfaTrue
import Derived.Test.YtaneblecgjahbabNfaAllM
import Derived.Test.YtaneblecgjahbabNamedM
import Derived.Laws.DeepStrings4
import Derived.BigQuiet
import Derived.Deep.Cut
import Derived.Deep.QuietTactic
import Derived.Test.YtaneblecgjahbabRefRightM
import Derived.Test.YtaneblecgjahbabEreAtomM
import Derived.Test.YtaneblecgjahbabEreCount2M
import Derived.Test.YtaneblecgjahbabEreQuoteM

namespace Go.Proofs.Ytaneblecgjahbab.nfa
open Go.RowKit Go.Proofs.Ytaneblecgjahbab.sum Go.Proofs.Ytaneblecgjahbab.kept Go.Proofs.Ytaneblecgjahbab.pop Go.Proofs.Ytaneblecgjahbab.cls Go.Proofs.Ytaneblecgjahbab.tre Go.Proofs.Ytaneblecgjahbab.ere Go.Proofs.Ytaneblecgjahbab.str
set_option linter.unusedVariables false

theorem byt_st' (l : List UInt8) (a : Nat) : byt (st l) a = (l.getD a 0).toNat := rfl
theorem ofL_one (x : UInt8) (b : Nat) : ofL [x] b = true ↔ b = x.toNat := by
  unfold ofL
  simp only [List.any_cons, List.any_nil, Bool.or_false, beq_iff_eq]
  exact ⟨fun h => h.symm, fun h => h.symm⟩
theorem mt_set (s : Nat → Nat) (n : Nat) (x : UInt8) (a e : Nat) : Mt s n (setT (ofL [x])) a e ↔ a < n ∧ s a = x.toNat ∧ e = a + 1 := by
  unfold setT
  rw [mt_nil, if_pos rfl, ofL_one]
/-- of a row of bytes: just these -/
theorem mt_row (s : Nat → Nat) (n : Nat) : ∀ (l : List UInt8), l ≠ [] → ∀ a e, Mt s n (joinT 2 (setsFrom l)) a e ↔ e = a + l.length ∧ ∀ i, i < l.length → a + i < n ∧ s (a + i) = (l.getD i 0).toNat
  | [], h, _, _ => absurd rfl h
  | [x], _, a, e => by
    show Mt s n (setT (ofL [x])) a e ↔ _
    rw [mt_set]
    constructor
    · rintro ⟨h1, h2, h3⟩
      refine ⟨h3, fun i hi => ?_⟩
      have : i = 0 := by simp at hi; omega
      subst this
      exact ⟨h1, h2⟩
    · rintro ⟨h1, h2⟩
      obtain ⟨h3, h4⟩ := h2 0 (by simp)
      exact ⟨h3, h4, h1⟩
  | x :: y :: l, _, a, e => by
    have ih := mt_row s n (y :: l) (by simp)
    show Mt s n (kid2 2 (setT (ofL [x])) (joinT 2 (setsFrom (y :: l)))) a e ↔ _
    unfold kid2
    rw [mt_two, if_pos rfl]
    constructor
    · rintro ⟨b, h1, h2⟩
      obtain ⟨h3, h4, rfl⟩ := (mt_set s n x a b).1 h1
      obtain ⟨h5, h6⟩ := (ih (a + 1) e).1 h2
      refine ⟨by rw [h5]; simp; omega, fun i hi => ?_⟩
      rcases i with _ | i
      · exact ⟨h3, h4⟩
      · have h7 := h6 i (by simpa using hi)
        rw [show a + 1 + i = a + (i + 1) by omega] at h7
        exact h7
    · rintro ⟨h1, h2⟩
      refine ⟨a + 1, (mt_set s n x a _).2 ⟨(h2 0 (by simp)).1, (h2 0 (by simp)).2, rfl⟩, (ih (a + 1) e).2 ⟨by rw [h1]; simp; omega, fun i hi => ?_⟩⟩
      have h7 := h2 (i + 1) (by simpa using hi)
      rw [show a + (i + 1) = a + 1 + i by omega] at h7
      exact h7
/-- a quoted text's tree -/
def quT (l : List UInt8) : Tr := if l = [] then leafT 0 else joinT 2 (setsFrom l)
theorem qu_parse (l : List UInt8) (hl : l.length ≤ 400) : parseS (quoteS l) (fun _ => none) (8 * (quoteS l).length + 8) = (quT l, 0, 0) := by
  by_cases h : l = []
  · subst h; rfl
  · unfold quT
    rw [if_neg h]
    exact q_parse l _ h hl
/-- the text stands at a place of another one -/
def Stands (x y : List UInt8) (j : Nat) : Prop := j + x.length ≤ y.length ∧ (y.drop j).take x.length = x
theorem stands_iff (x y : List UInt8) (j : Nat) : Stands x y j ↔ j ≤ y.length ∧ ∀ i, i < x.length → j + i < y.length ∧ (y.getD (j + i) 0).toNat = (x.getD i 0).toNat := by
  constructor
  · rintro ⟨h1, h2⟩
    refine ⟨by omega, fun i hi => ⟨by omega, ?_⟩⟩
    have h3 : ((y.drop j).take x.length).getD i 0 = x.getD i 0 := by rw [h2]
    rw [List.getD_eq_getElem?_getD, List.getElem?_take, if_pos hi, List.getElem?_drop, ← List.getD_eq_getElem?_getD] at h3
    rw [h3]
  · rintro ⟨h1, h2⟩
    have hle : j + x.length ≤ y.length := by
      rcases Nat.eq_zero_or_pos x.length with h | h
      · omega
      · have := (h2 (x.length - 1) (by omega)).1; omega
    refine ⟨hle, ?_⟩
    apply List.ext_getElem?
    intro i
    rw [List.getElem?_take]
    by_cases hi : i < x.length
    · rw [if_pos hi, List.getElem?_drop]
      have h3 := (h2 i hi).2
      have h4 : y.getD (j + i) 0 = x.getD i 0 := UInt8.toNat_inj.1 h3
      rw [List.getD_eq_getElem?_getD, List.getD_eq_getElem?_getD, List.getElem?_eq_getElem (by omega : j + i < y.length), List.getElem?_eq_getElem hi] at h4
      rw [List.getElem?_eq_getElem (by omega : j + i < y.length), List.getElem?_eq_getElem hi]
      exact congrArg some h4
    · rw [if_neg hi, List.getElem?_eq_none (by omega)]
theorem qu_mt (x y : List UInt8) (j e : Nat) : (j ≤ y.length ∧ Mt (byt (st y)) (st y).size (quT x) j e) ↔ e = j + x.length ∧ Stands x y j := by
  rw [stands_iff, st_size]
  unfold quT
  by_cases h : x = []
  · subst h
    rw [if_pos rfl]
    unfold leafT
    rw [mt_nil, if_neg (by decide), if_neg (by decide), if_neg (by decide)]
    simp
    exact ⟨fun ⟨a, b⟩ => ⟨b.symm, a⟩, fun ⟨a, b⟩ => ⟨b, a.symm⟩⟩
  · rw [if_neg h, mt_row _ _ x h]
    simp only [byt_st']
    exact ⟨fun ⟨a, b, c⟩ => ⟨b, a, c⟩, fun ⟨a, b, c⟩ => ⟨b, a, c⟩⟩
theorem qu_shaped (x : List UInt8) (hx : x.length ≤ 400) : shapedS (quT x) = true := by
  unfold quT
  split
  · rfl
  · rename_i h
    clear hx
    induction x with
    | nil => exact absurd rfl h
    | cons a l ih =>
      cases l with
      | nil => show shapedS (setT (ofL [a])) = true; unfold setT; rw [shapedS, shapedL]; simp [kidsS]
      | cons b l =>
        have ih := ih (by simp)
        show shapedS (kid2 2 (setT (ofL [a])) (joinT 2 (setsFrom (b :: l)))) = true
        unfold kid2
        have hz : zeroB nul = true := by simp [zeroB, wd_nul]
        have h1 : shapedS (setT (ofL [a])) = true := by unfold setT; rw [shapedS, shapedL]; simp [kidsS]
        rw [shapedS, shapedL, shapedL, shapedL, ih, h1, hz]
        simp [kidsS]
/-- what the law's loop has found: the first place behind i where it stands -/
def AtRel (x y : List UInt8) (i : Int) (v : Int) : Prop := (v = -1 ∧ ∀ j : Nat, i < (j : Int) → ¬ Stands x y j) ∨ ∃ j : Nat, v = (j : Int) ∧ i < (j : Int) ∧ Stands x y j ∧ ∀ k : Nat, i < (k : Int) → Stands x y k → j ≤ k
theorem at_start (x y : List UInt8) : AtRel x y ((y.length : Int) - (x.length : Int)) (-1) := .inl ⟨rfl, fun j h hs => by have := hs.1; omega⟩
theorem at_end {x y : List UInt8} {i v : Int} (hi : i < 0) (h : AtRel x y i v) : AtRel x y (-1) v := by
  rcases h with ⟨h, h2⟩ | ⟨j, h, h1, h2, h3⟩
  · exact .inl ⟨h, fun j _ => h2 j (by omega)⟩
  · exact .inr ⟨j, h, by omega, h2, fun k _ => h3 k (by omega)⟩
theorem at_yes {x y : List UInt8} {q : Nat} {v : Int} (h : AtRel x y (q : Int) v) (hs : Stands x y q) : AtRel x y ((q : Int) - 1) (q : Int) :=
  .inr ⟨q, rfl, by omega, hs, fun k hk _ => by omega⟩
theorem at_no {x y : List UInt8} {q : Nat} {v : Int} (h : AtRel x y (q : Int) v) (hs : ¬ Stands x y q) : AtRel x y ((q : Int) - 1) v := by
  rcases h with ⟨h, h2⟩ | ⟨j, h, h1, h2, h3⟩
  · refine .inl ⟨h, fun j hj hsj => ?_⟩
    by_cases e : j = q
    · rw [e] at hsj; exact hs hsj
    · exact h2 j (by omega) hsj
  · refine .inr ⟨j, h, by omega, h2, fun k hk hsk => ?_⟩
    by_cases e : k = q
    · rw [e] at hsk; exact absurd hsk hs
    · exact h3 k (by omega) hsk
theorem at_bound {x y : List UInt8} {i v : Int} (h : AtRel x y i v) : -1 ≤ v ∧ v ≤ (y.length : Int) := by
  rcases h with ⟨h, -⟩ | ⟨j, h, h1, h2, -⟩
  · omega
  · have := h2.1; omega
/-- what Find answers -/
theorem qu_find (x y : List UInt8) (hx : x.length ≤ 400) (v : Int) (h : AtRel x y (-1) v) : ∃ a e : Nat, ∃ ok : Bool, fdRun (oS (progS (quT x) false) false (st y)) ((st y).size + 1) (newS (oS (progS (quT x) false) false (st y)) 0) (0, 0) false = ((a, e), ok) ∧ ((ok = false ∧ v = -1) ∨ (ok = true ∧ v = (a : Int) ∧ e = a + x.length ∧ a ≤ y.length)) := by
  have hsz := st_size y
  rcases fd_means (quT x) (qu_shaped x hx) (st y) 0 (Nat.zero_le _) _ rfl with ⟨h1, h2, h3, h4, h5, h6⟩ | ⟨h1, h2⟩
  · generalize fdRun (oS (progS (quT x) false) false (st y)) ((st y).size + 1) (newS (oS (progS (quT x) false) false (st y)) 0) (0, 0) false = R at *
    obtain ⟨⟨a, e⟩, ok⟩ := R
    simp only at h1 h2 h3 h4 h5 h6
    obtain ⟨g1, g2⟩ := (qu_mt x y a e).1 ⟨by omega, h5⟩
    refine ⟨a, e, ok, rfl, .inr ⟨h1, ?_, g1, by omega⟩⟩
    rcases h with ⟨-, h⟩ | ⟨j, rfl, -, h7, h8⟩
    · exact absurd g2 (h a (by omega))
    · have h9 := h8 a (by omega) g2
      have hj := (qu_mt x y j (j + x.length)).2 ⟨rfl, h7⟩
      have h10 := (h6 j _ (Nat.zero_le _) (by omega) hj.2).1
      omega
  · refine ⟨0, 0, false, h1, .inl ⟨rfl, ?_⟩⟩
    rcases h with ⟨h, -⟩ | ⟨j, rfl, -, h7, h8⟩
    · exact h
    · have hj := (qu_mt x y j (j + x.length)).2 ⟨rfl, h7⟩
      exact absurd hj.2 (h2 j _ (Nat.zero_le _) (by omega))

end Go.Proofs.Ytaneblecgjahbab.nfa

namespace Go.Proofs.Ytaneblecgjahbab.ere
open Go.RowKit Go.Proofs.Ytaneblecgjahbab.sum Go.Proofs.Ytaneblecgjahbab.kept Go.Proofs.Ytaneblecgjahbab.str
set_option linter.unusedVariables false

theorem run_add_str (xs ys : List UInt8) (h : xs.length + ys.length ≤ 1000000000) (W : World) : (Op.stringOp .add ⟨xs.toArray⟩ ⟨ys.toArray⟩).run Try.prog W = .ok (.string ⟨(xs ++ ys).toArray⟩) W := by
  have e : (⟨xs.toArray⟩ : ByteArray) ++ ⟨ys.toArray⟩ = ⟨(xs ++ ys).toArray⟩ := by
    apply ByteArray.ext
    simp
  rw [← e]
  refine run_string_add_sum (P := Try.prog) (w := W) _ _ ?_
  show xs.toArray.size + ys.toArray.size ≤ _
  simp
  omega

end Go.Proofs.Ytaneblecgjahbab.ere

namespace Go.Proofs.Ytaneblecgjahbab.ere
open Go.RowKit Go.Proofs.Ytaneblecgjahbab.sum Go.Proofs.Ytaneblecgjahbab.kept Go.Proofs.Ytaneblecgjahbab.str
set_option linter.unusedVariables false

def lets : List UInt8 := [97, 97, 98, 98, 99, 49, 10, 65]
set_option maxRecDepth 100000 in
theorem st_slice (l : List UInt8) (k : IntKind) (i j : Nat) (h1 : i ≤ j) (h2 : j ≤ l.length) (W : World) : (Instr.sliceAt 9 (.string (st l)) (some (.int k (i : Int))) (some (.int k (j : Int))) none).run Try.prog W = .ok (.string (st ((l.drop i).take (j - i)))) W := by
  have hu : Try.prog.underlying 9 = some .string := Try.underlying9
  rw [run_sliceAt_string W _ _ _ _ _ hu, run_slice_string_if (P := Try.prog) W 9 (st l) k k (i : Int) (j : Int) hu]
  rw [if_pos ⟨by omega, by rw [st_size]; omega⟩, if_pos ⟨by omega, by omega⟩]
  congr 2
  apply ByteArray.ext
  simp only [Int.toNat_natCast]
  rw [ByteArray.data_extract]
  apply Array.ext'
  simp [st, List.take_drop, Nat.min_eq_left h2]
theorem let_piece (r : Nat) (h : r < 8) (W : World) : (Instr.sliceAt 9 (.string ⟨#[97, 97, 98, 98, 99, 49, 10, 65]⟩) (some (.int .u8 (r : Int))) (some (.int .u8 ((r : Int) + 1))) none).run Try.prog W = .ok (.string ⟨#[lets.getD r 0]⟩) W := by
  have h1 := st_slice lets .u8 r (r + 1) (Nat.le_succ r) (by show r + 1 ≤ 8; omega) W
  rcases (by omega : r = 0 ∨ r = 1 ∨ r = 2 ∨ r = 3 ∨ r = 4 ∨ r = 5 ∨ r = 6 ∨ r = 7) with rfl | rfl | rfl | rfl | rfl | rfl | rfl | rfl <;> exact h1
def LtPost (w : World) (m : Nat) (e : Ending) (w' : World) : Prop := ∃ l : List UInt8, l.length ≤ m ∧ e = .returned (.string (st l)) ∧ Kp No w w'

set_option maxRecDepth 100000 in
set_option maxHeartbeats 8000000 in
theorem letters_any (w : World) (bv : Value) (bb : List UInt8) (hb : Bs w bv bb) (hbl : bb.length ≤ 281474976710656) (m : Nat) (hm : m ≤ 1000) : Calls Try.prog 14 #[bv, .int .i64 (m : Int)] w (LtPost w m) := by
  obtain ⟨ba, cap, rfl, hb1, hb2, hb3⟩ := hb
  have HB3 := Hid_mk hb3
  have HBl := Hid_mk hbl
  have HM := Hid_mk hm
  clear hb3 hbl hm
  go_enter Try.func14, Try.ntmps14
  go_wp2
  go_loopw [5, 6] (fun s i wr => ∃ (k : Nat) (l : List UInt8), k ≤ m ∧ k ≤ bb.length ∧ i = .int .i64 (k : Int) ∧ s = .string ⟨l.toArray⟩ ∧ l.length = k ∧ Kp No w wr) (fun _ i _ => m - (intOf i).toNat)
  case atStart => exact ⟨0, [], Nat.zero_le _, Nat.zero_le _, rfl, rfl, rfl, Kp.refl No _⟩
  case round =>
    obtain ⟨k, l, hkm, hkb, rfl, rfl, hl, hkp⟩ := hrel
    have HKp := Hid_mk hkp
    have HKm := Hid_mk hkm
    have HKb := Hid_mk hkb
    have HL := Hid_mk hl
    have hk0 : (0 : Int) ≤ (k : Int) := Int.natCast_nonneg _
    have hk1000 : (k : Int) ≤ 1000 := by have h8 := HKm.out; have h9 := HM.out; omega
    by_cases hlt : k < bb.length
    · have hki : (k : Int) < (bb.length : Int) := by omega
      by_cases hlm : k < m
      · have hmi : (k : Int) < (m : Int) := by omega
        obtain ⟨b, o, hab, hcell⟩ := HB3.out (by intro e; rw [e] at hlt; simp at hlt)
        have hc := hkp.cell' (hcell k hlt) id
        obtain ⟨y, hy⟩ : ∃ y, (bb.getD k 0).toNat = y := ⟨_, rfl⟩
        have hy256 : y < 256 := by rw [← hy]; exact UInt8.toNat_lt _
        have hB : B (bb.getD k 0) = .int .u8 (y : Int) := by rw [← hy]; rfl
        rw [hB] at hc
        subst hab
        have hy0 : (0 : Int) ≤ (y : Int) := Int.natCast_nonneg _
        have hr1 : (y : Int) % 8 = ((y % 8 : Nat) : Int) := by omega
        have hr2 : (y : Int).tmod 8 = ((y % 8 : Nat) : Int) := by rw [Int.tmod_eq_emod_of_nonneg hy0]; omega
        have hr8 : y % 8 < 8 := Nat.mod_lt _ (by decide)
        obtain ⟨r, hr⟩ : ∃ r, y % 8 = r := ⟨_, rfl⟩
        rw [hr] at hr1 hr2 hr8
        have hw1 : IntKind.u8.wrap ((r : Int) + 1) = (r : Int) + 1 := by simp [IntKind.wrap, IntKind.bits, IntKind.signed]; omega
        obtain ⟨lc, hlc⟩ : ∃ lc, lets.getD r 0 = lc := ⟨_, rfl⟩
        have hpc : ∀ W, (Instr.sliceAt 9 (.string ⟨#[97, 97, 98, 98, 99, 49, 10, 65]⟩) (some (.int .u8 (r : Int))) (some (.int .u8 ((r : Int) + 1))) none).run Try.prog W = .ok (.string ⟨#[lc]⟩) W := fun W => by have h := let_piece r hr8 W; rw [hlc] at h; exact h
        have hadd := fun W => run_add_str l [lc] (by have := HKm.out; have := HL.out; have := HM.out; simp; omega) W
        have HLt := Hid_mk hlt
        have HLm := Hid_mk hlm
        clear hkm hkb hl hlt hlm hcell hy hB hy256 hr hr8 hkp hlc
        go_upto_region 5 with fail
        go_quiet (fail)
        go_wp2
        go_roundw
        case rel => exact ⟨k + 1, l ++ [lc], HLm.out, HLt.out, by go_num, rfl, by simp [HL.out], HKp.out.drewN _⟩
        case measure => have := HLm.out; simp [intOf]; omega
      · have hmi : ¬ (k : Int) < (m : Int) := by omega
        clear hkm hkb hl hlt hlm hkp
        go_wp2
        go_ret
        exact ⟨l, by have := HL.out; have := HKm.out; omega, rfl, HKp.out⟩
    · have hki : ¬ (k : Int) < (bb.length : Int) := by omega
      clear hkm hkb hl hlt hkp
      go_wp2
      go_ret
      exact ⟨l, by have := HL.out; have := HKm.out; omega, rfl, HKp.out⟩

end Go.Proofs.Ytaneblecgjahbab.ere

namespace Go.Proofs.Ytaneblecgjahbab.ere
open Go.RowKit Go.Proofs.Ytaneblecgjahbab.sum Go.Proofs.Ytaneblecgjahbab.kept Go.Proofs.Ytaneblecgjahbab.pop Go.Proofs.Ytaneblecgjahbab.cls Go.Proofs.Ytaneblecgjahbab.tre Go.Proofs.Ytaneblecgjahbab.str
set_option linter.unusedVariables false

/-- the reference's reader at block q: its place, how many brackets are open, what is wrong, and where -/
structure RC (w0 w : World) (q : Nat) (l : List UInt8) (x1 x2 be tt : Int) : Prop where
  c0 : w.cell? ⟨q, 0, none⟩ = some (.string (st l))
  c1 : w.cell? ⟨q, 1, none⟩ = some (.int .i64 x1)
  c2 : w.cell? ⟨q, 2, none⟩ = some (.int .i64 x2)
  c3 : w.cell? ⟨q, 3, none⟩ = some (.int .i64 be)
  c4 : w.cell? ⟨q, 4, none⟩ = some (.int .i64 tt)
  warm : ∀ i, w.frozen? ⟨q, i, none⟩ = false
  ge : w0.heap.size ≤ q
  kp : Kp No w0 w
theorem RC.lt {w0 w : World} {q : Nat} {l : List UInt8} {x1 x2 be tt : Int} (h : RC w0 w q l x1 x2 be tt) : q < w.heap.size := World.block_lt_of_cell? w ⟨q, 0, none⟩ h.c0
theorem RC.kept {S : Nat → Prop} {w0 w w' : World} {q : Nat} {l : List UInt8} {x1 x2 be tt : Int} (h : RC w0 w q l x1 x2 be tt) (hk : Kp S w w') (hq : ¬ S q) (h0 : ∀ i, S i → i < w.heap.size → w0.heap.size ≤ i) : RC w0 w' q l x1 x2 be tt :=
  ⟨hk.cell' h.c0 hq, hk.cell' h.c1 hq, hk.cell' h.c2 hq, hk.cell' h.c3 hq, hk.cell' h.c4 hq, fun i => (hk.frozen (p := ⟨q, i, none⟩) h.lt hq).trans (h.warm i), h.ge, h.kp.trans hk fun i hi e => by
    have := h0 i e (Nat.lt_of_lt_of_le hi h.kp.size)
    omega⟩
theorem RC.no {w0 w w' : World} {q : Nat} {l : List UInt8} {x1 x2 be tt : Int} (h : RC w0 w q l x1 x2 be tt) (hk : Kp No w w') : RC w0 w' q l x1 x2 be tt := h.kept hk id fun _ e => e.elim
theorem RC.at' {w0 w : World} {q : Nat} {l : List UInt8} {x1 x2 be tt : Int} (h : RC w0 w q l x1 x2 be tt) (y : Int) : RC w0 (w.setCell ⟨q, 1, none⟩ (.int .i64 y)) q l y x2 be tt :=
  ⟨by rw [World.cell?_setCell_other _ _ _ _ (by intro e; cases e)]; exact h.c0, World.cell?_setCell_same _ _ _ h.c1, by rw [World.cell?_setCell_other _ _ _ _ (by intro e; cases e)]; exact h.c2, by rw [World.cell?_setCell_other _ _ _ _ (by intro e; cases e)]; exact h.c3, by rw [World.cell?_setCell_other _ _ _ _ (by intro e; cases e)]; exact h.c4, fun i => by simp only [World.frozen?_setCell]; exact h.warm i, h.ge, h.kp.setCell (p := ⟨q, 1, none⟩) (fun e => by have := h.ge; simp only at e; omega) _⟩
theorem RC.open' {w0 w : World} {q : Nat} {l : List UInt8} {x1 x2 be tt : Int} (h : RC w0 w q l x1 x2 be tt) (y : Int) : RC w0 (w.setCell ⟨q, 2, none⟩ (.int .i64 y)) q l x1 y be tt :=
  ⟨by rw [World.cell?_setCell_other _ _ _ _ (by intro e; cases e)]; exact h.c0, by rw [World.cell?_setCell_other _ _ _ _ (by intro e; cases e)]; exact h.c1, World.cell?_setCell_same _ _ _ h.c2, by rw [World.cell?_setCell_other _ _ _ _ (by intro e; cases e)]; exact h.c3, by rw [World.cell?_setCell_other _ _ _ _ (by intro e; cases e)]; exact h.c4, fun i => by simp only [World.frozen?_setCell]; exact h.warm i, h.ge, h.kp.setCell (p := ⟨q, 2, none⟩) (fun e => by have := h.ge; simp only at e; omega) _⟩
theorem RC.bad' {w0 w : World} {q : Nat} {l : List UInt8} {x1 x2 be tt : Int} (h : RC w0 w q l x1 x2 be tt) (y z : Int) : RC w0 ((w.setCell ⟨q, 3, none⟩ (.int .i64 y)).setCell ⟨q, 4, none⟩ (.int .i64 z)) q l x1 x2 y z :=
  ⟨by rw [World.cell?_setCell_other _ _ _ _ (by intro e; cases e), World.cell?_setCell_other _ _ _ _ (by intro e; cases e)]; exact h.c0, by rw [World.cell?_setCell_other _ _ _ _ (by intro e; cases e), World.cell?_setCell_other _ _ _ _ (by intro e; cases e)]; exact h.c1,
    by rw [World.cell?_setCell_other _ _ _ _ (by intro e; cases e), World.cell?_setCell_other _ _ _ _ (by intro e; cases e)]; exact h.c2, by rw [World.cell?_setCell_other _ _ _ _ (by intro e; cases e)]; exact World.cell?_setCell_same _ _ _ h.c3,
    World.cell?_setCell_same _ _ _ (by rw [World.cell?_setCell_other _ _ _ _ (by intro e; cases e)]; exact h.c4), fun i => by simp only [World.frozen?_setCell]; exact h.warm i, h.ge,
    (h.kp.setCell (p := ⟨q, 3, none⟩) (fun e => by have := h.ge; simp only at e; omega) _).setCell (p := ⟨q, 4, none⟩) (fun e => by have := h.ge; simp only at e; omega) _⟩

set_option maxRecDepth 100000 in
set_option maxHeartbeats 1000000 in
theorem ris_any {w0 w : World} {q : Nat} {l : List UInt8} {k : Nat} {x2 be tt : Int} (h : RC w0 w q l (k : Int) x2 be tt) (hk : k ≤ l.length) (hl : l.length < 1000000000) (c : Nat) :
    Calls Try.prog 68 #[.pointer (some ⟨q, 0, none⟩), .int .u8 (c : Int)] w fun e w' => e = .returned (.bool (seesB l k [c])) ∧ ∃ n, w' = w.drewN n := by
  have c0 := h.c0
  have c1 := h.c1
  have hsz := st_size l
  have hg := fun hh => st_get l k hh
  have hki0 : (0 : Int) ≤ (k : Int) := Int.natCast_nonneg _
  obtain ⟨R, hR⟩ : ∃ R, seesB l k [c] = R := ⟨_, rfl⟩
  rw [hR]
  by_cases hlt : k < l.length
  · have hki : (k : Int) < (l.length : Int) := by omega
    obtain ⟨y, hy⟩ : ∃ y, atB l k = y := ⟨_, rfl⟩
    have hg2 : ∀ hh : k < (st l).size, ((st l)[k]).toNat = y := fun hh => (hg hh).trans hy
    have hRy : R = decide (y = c) := by
      rw [← hR, ← hy]
      unfold seesB
      rw [decide_eq_true hlt]
      simp
    have HRy := Hid_mk hRy
    clear h hk hl hR hy hg hlt hRy
    by_cases hc : y = c
    · have he : ((y : Int) == (c : Int)) = true := by rw [beq_iff_eq]; omega
      have HC := Hid_mk hc
      clear hc
      go_enter Try.func68, Try.ntmps68
      go_wp2
      go_quiet (fail)
      go_wp2
      go_ret
      exact ⟨by rw [HRy.out, decide_eq_true HC.out]; rfl, _, rfl⟩
    · have he : ((y : Int) == (c : Int)) = false := by rw [beq_eq_false_iff_ne]; omega
      have HC := Hid_mk hc
      clear hc
      go_enter Try.func68, Try.ntmps68
      go_wp2
      go_quiet (fail)
      go_wp2
      go_ret
      exact ⟨by rw [HRy.out, decide_eq_false HC.out]; rfl, _, rfl⟩
  · have hki : ¬ (k : Int) < (l.length : Int) := by omega
    have hRf : R = false := by
      rw [← hR]
      unfold seesB
      rw [decide_eq_false hlt]
      rfl
    have HRf := Hid_mk hRf
    have hkd : decide (k < l.length) = false := decide_eq_false hlt
    clear h hk hl hR hg hlt hRf
    go_enter Try.func68, Try.ntmps68
    go_wp2
    go_quiet (fail)
    go_wp2
    go_ret
    exact ⟨by rw [HRf.out]; rfl, _, rfl⟩

set_option maxRecDepth 100000 in
set_option maxHeartbeats 1000000 in
theorem fails_any {w0 w : World} {q : Nat} {l : List UInt8} {x1 x2 tt : Int} (h : RC w0 w q l x1 x2 0 tt) (y z : Int) :
    Calls Try.prog 50 #[.pointer (some ⟨q, 0, none⟩), .int .i64 y, .int .i64 z] w fun e w' => e = .returned (.agg #[.int .i64 0, .int .u64 0, .int .u64 0, .int .u64 0, .int .u64 0, .slice none 0 0]) ∧ RC w0 w' q l x1 x2 y z ∧ Kp (fun b => b = q) w w' := by
  obtain ⟨W1, hW1⟩ : ∃ W1, w.alloc (.cells #[.int .i64 0, .int .u64 0, .int .u64 0, .int .u64 0, .int .u64 0, .slice none 0 0] 30) = W1 := ⟨_, rfl⟩
  obtain ⟨r, hr⟩ : ∃ r, w.heap.size = r := ⟨_, rfl⟩
  have hk1 : Kp No w W1 := by rw [← hW1]; exact (Kp.refl No w).alloc _
  have hb := RAt.new w (.int .i64 0) (.int .u64 0) (.int .u64 0) (.int .u64 0) (.int .u64 0) (.slice none 0 0) 30
  rw [hW1, hr] at hb
  have h1 := h.no hk1
  have hqr : q < r := by have := h.lt; omega
  have HW1 := Hid_mk hW1
  have HR := Hid_mk hr
  have HK1 := Hid_mk hk1
  have HB := Hid_mk hb
  have H1 := Hid_mk h1
  have HQr := Hid_mk hqr
  have c3 := h1.c3
  have c4 := h1.c4
  have cw := h1.warm
  clear hW1 hr hk1 hb h1 hqr h
  go_enter Try.func50, Try.ntmps50
  go_upto_region 1 with fail
  rw [HR.out, HW1.out]
  clear HW1
  go_upto_region 4 with fail
  have hs : Kp (fun b => b = q) W1 ((W1.setCell ⟨q, 3, none⟩ (.int .i64 y)).setCell ⟨q, 4, none⟩ (.int .i64 z)) := ((Kp.refl (fun b => b = q) W1).setCell (p := ⟨q, 3, none⟩) (fun _ => rfl) _).setCell (p := ⟨q, 4, none⟩) (fun _ => rfl) _
  refine wp_name (fun W => Kp (fun b => b = q) W1 W ∧ RC w0 W q l x1 x2 y z ∧ RAt W r (.int .i64 0) (.int .u64 0) (.int .u64 0) (.int .u64 0) (.int .u64 0) (.slice none 0 0)) ⟨hs, H1.out.bad' y z, HB.out.kept hs (by show ¬ r = q; have := HQr.out; omega)⟩ ?_
  clear hs c3 c4 cw
  rintro W2 ⟨hk2, h2, hb2⟩
  have HK2 := Hid_mk hk2
  have H2 := Hid_mk h2
  obtain ⟨r0, r1, r2, r3, r4, r5, rw'⟩ := hb2
  clear hk2 h2
  go_wp2
  have hkz : Kp (fun b => b = r) W2 (putR W2 r (.int .i64 0) (.int .u64 0) (.int .u64 0) (.int .u64 0) (.int .u64 0) (.slice none 0 0)) := kp_putR (q := r) (Kp.refl (fun b => b = r) W2) (fun _ => rfl) _ _ _ _ _ _
  refine bodyPost_ret (v := .agg #[.int .i64 0, .int .u64 0, .int .u64 0, .int .u64 0, .int .u64 0, .slice none 0 0]) ?_ rfl ?_
  · simp [results, Try.results50, go_sem, r0, r1, r2, r3, r4, r5]
  · exact ⟨rfl, H2.out.kept hkz (by show ¬ q = r; have := HQr.out; omega) (fun i e _ => by have h1 := H2.out.ge; have h2 := HQr.out; show w0.heap.size ≤ i; have e : i = r := e; omega), ((HK1.out.to).trans' HK2.out).trans hkz (T := fun b => b = r) fun i hi e => by have := HR.out; omega⟩

end Go.Proofs.Ytaneblecgjahbab.ere

namespace Go.Proofs.Ytaneblecgjahbab.ere
open Go.RowKit Go.Proofs.Ytaneblecgjahbab.sum Go.Proofs.Ytaneblecgjahbab.kept Go.Proofs.Ytaneblecgjahbab.pop Go.Proofs.Ytaneblecgjahbab.cls Go.Proofs.Ytaneblecgjahbab.tre Go.Proofs.Ytaneblecgjahbab.str
set_option linter.unusedVariables false

theorem infoRe : (Try.prog.info? 30).map (fun i => (i.zero, i.size, i.bytes)) = some (some (.agg #[.int .i64 0, .int .u64 0, .int .u64 0, .int .u64 0, .int .u64 0, .slice none 0 0]), 6, 64) := by kernel_rfl
/-- what slices.Clone leaves: the same cells in a block of its own -/
def ClPost (w : World) (n : Nat) (news : List Value) (e : Ending) (w' : World) : Prop :=
  ∃ a' c', e = .returned (.slice a' n c') ∧ n ≤ c' ∧ c' ≤ 9223372036854775807 ∧ (n ≠ 0 → ∃ g, a' = some ⟨g, 0, none⟩ ∧ w.heap.size ≤ g ∧ g < w'.heap.size ∧ (∀ j u, news[j]? = some u → w'.cell? ⟨g, j, none⟩ = some u) ∧ ∀ j, w'.frozen? ⟨g, j, none⟩ = false) ∧ Kp No w w'

set_option maxRecDepth 100000 in
set_option maxHeartbeats 1000000 in
theorem rclone_any (w : World) (a : Option Addr) (n c : Nat) (news : List Value) (hlen : news.length = n * 6) (hc : n ≠ 0 → ∃ b o, a = some ⟨b, o, none⟩ ∧ ∀ j u, news[j]? = some u → w.cell? ⟨b, o + j, none⟩ = some u) (h1 : ∀ u ∈ news, u.oneCell' = true) (hn : n ≤ 1000000000) :
    Calls Try.prog 124 #[.slice a n c] w (ClPost w n news) := by
  cases a with
  | none =>
    have hn0 : n = 0 := Decidable.byContradiction fun h => by obtain ⟨_, _, e, _⟩ := hc h; cases e
    subst hn0
    have hq : ∀ w, (binOp .eql 28 (.slice none 0 c) (.slice none 0 0)).run Try.prog w = .ok (.bool true) w := fun w => Lib.run_eql_slice_nil w 28 30 none 0 c 0 0 Try.underlying28
    clear hc
    go_enter Try.func124, Try.ntmps124
    go_wp2
    go_ret
    exact ⟨none, 0, rfl, Nat.le_refl _, by decide, fun h => absurd rfl h, Kp.refl _ _⟩
  | some ad =>
    have hq : ∀ w, (binOp .eql 28 (.slice (some ad) n c) (.slice none 0 0)).run Try.prog w = .ok (.bool false) w := fun w => Lib.run_eql_slice_nil w 28 30 (some ad) n c 0 0 Try.underlying28
    obtain ⟨i0, hi, hz0, hz1, hz2⟩ := info_parts infoRe
    obtain ⟨W0, hW0⟩ : ∃ W0, w.alloc (.cells #[] 30) = W0 := ⟨_, rfl⟩
    have k0 : Kp No w W0 := by rw [← hW0]; exact (Kp.refl _ _).alloc _
    have h0 : W0.ownsRow w.heap.size 30 6 (.slice (some ⟨w.heap.size, 0, none⟩) 0 0) 0 [] := by rw [← hW0]; exact World.ownsRow_made w #[] 0 (Nat.le_refl _) (by decide) rfl
    obtain ⟨v', w2, hr, ho, hg, -, hloc⟩ : ∃ v' w', (Builtin.append_ #[28, 28] 28 #[.slice (some ⟨w.heap.size, 0, none⟩) 0 0, .slice (some ad) n c]).run Try.prog W0 = .ok v' w' ∧ w'.ownsRow w.heap.size 30 6 v' (0 + n) ([] ++ news) ∧ W0.grownBy w' (Value.ownBlock (.slice (some ⟨w.heap.size, 0, none⟩) 0 0)) ∧ (v' = .slice none 0 0 ↔ (Value.slice (some ⟨w.heap.size, 0, none⟩) 0 0) = .slice none 0 0 ∧ n = 0) ∧ (v'.ownBlock = Value.ownBlock (.slice (some ⟨w.heap.size, 0, none⟩) 0 0) ∨ v'.ownBlock = some W0.heap.size) :=
      run_append_own_at (P := Try.prog) W0 w.heap.size 28 28 30 i0 _ 6 64 Try.underlying28 hi hz0 hz1 hz2 rfl (by decide) (.slice (some ⟨w.heap.size, 0, none⟩) 0 0) 0 [] h0 ad n c news hlen
        (fun j u hu => by
          have hn0 : n ≠ 0 := fun e => by subst e; have := List.eq_nil_of_length_eq_zero (by omega : news.length = 0); rw [this] at hu; cases hu
          obtain ⟨b, o, e, hcc⟩ := hc hn0
          cases e
          rw [addr_add]
          exact k0.cell' (hcc j u hu) id) h1 (by unfold maxLen; omega) (by omega) k0.size
    rw [Nat.zero_add, List.nil_append] at ho
    have hkf : Kp No w w2 := k0.grown hg fun k hk e => by simp [Value.ownBlock] at e; omega
    have hfin : ClPost w n news (.returned v') w2 := by
      rcases ho.2 with ⟨rfl, h00⟩ | ⟨g, cap, cur, rfl, hgb, hcur, r1, r2, _⟩
      · subst h00
        exact ⟨none, 0, rfl, Nat.le_refl _, by decide, fun h => absurd rfl h, hkf⟩
      · refine ⟨_, cap, rfl, r1, by unfold maxLen at r2; omega, fun _ => ⟨g, rfl, hgb, (Array.getElem?_eq_some_iff.1 hcur).1, fun j u hu => ?_, fun j => ho.frozenAt j⟩, hkf⟩
        have := World.ownsRow.cells (g := g) ho rfl j u hu
        rw [addr_add, Nat.zero_add] at this
        exact this
    have HF := Hid_mk hfin
    have HW0 := Hid_mk hW0
    clear h0 k0 hg hloc hkf hfin ho hlen hc h1
    go_enter Try.func124, Try.ntmps124
    subst hW0
    go_wp2_with (at_builtin; (refine wpList_append_run rfl _ _ _ _ rfl hr ?_))
    go_wp2
    go_ret
    exact HF.out

end Go.Proofs.Ytaneblecgjahbab.ere
