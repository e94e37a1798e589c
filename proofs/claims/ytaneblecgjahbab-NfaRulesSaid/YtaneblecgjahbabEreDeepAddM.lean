/- Two texts, one behind the other. tailracehand.Letters: a text of few letters, of raw bytes. Package nfa, plainly: how many bytes a match has at least. Regular expressions, plain: how deep; what is right. The walk of the statement tailracelaw10.NfaRules. -/
import Derived.Test.YtaneblecgjahbabNamedM
import Derived.Laws.DeepStrings4
import Derived.BigQuiet
import Derived.Deep.Cut
import Derived.Deep.QuietTactic
import Derived.Test.YtaneblecgjahbabNfaOkM
import Derived.Test.YtaneblecgjahbabRefRightM
import Derived.Test.YtaneblecgjahbabErePureM
import Derived.Test.YtaneblecgjahbabNfaTrue
import Derived.Test.YtaneblecgjahbabNfaAllM
import Derived.Test.YtaneblecgjahbabTreeRe

namespace Go.Proofs.Ytaneblecgjahbab.ere
open Go.RowKit Go.Proofs.Ytaneblecgjahbab.sum Go.Proofs.Ytaneblecgjahbab.kept Go.Proofs.Ytaneblecgjahbab.str
set_option linter.unusedVariables false

theorem run_add_str (xs ys : List UInt8) (h : xs.length + ys.length ≤ 1000000000) (W : World) : (Op.stringOp .add ⟨xs.toArray⟩ ⟨ys.toArray⟩).run Try.prog W = .ok (.string ⟨(xs ++ ys).toArray⟩) W := by
  have e : (⟨xs.toArray⟩ : ByteArray) ++ ⟨ys.toArray⟩ = ⟨(xs ++ ys).toArray⟩ := by
    apply ByteArray.ext
    simp
  rw [← e]
  refine run_string_add_sum (P := Try.prog) (w := W) _ _ ?_
  show xs.toArray.size + ys.toArray.size ≤ _
  simp
  omega

end Go.Proofs.Ytaneblecgjahbab.ere

namespace Go.Proofs.Ytaneblecgjahbab.ere
open Go.RowKit Go.Proofs.Ytaneblecgjahbab.sum Go.Proofs.Ytaneblecgjahbab.kept Go.Proofs.Ytaneblecgjahbab.str
set_option linter.unusedVariables false

def lets : List UInt8 := [97, 97, 98, 98, 99, 49, 10, 65]
set_option maxRecDepth 100000 in
theorem st_slice (l : List UInt8) (k : IntKind) (i j : Nat) (h1 : i ≤ j) (h2 : j ≤ l.length) (W : World) : (Instr.sliceAt 9 (.string (st l)) (some (.int k (i : Int))) (some (.int k (j : Int))) none).run Try.prog W = .ok (.string (st ((l.drop i).take (j - i)))) W := by
  have hu : Try.prog.underlying 9 = some .string := Try.underlying9
  rw [run_sliceAt_string W _ _ _ _ _ hu, run_slice_string_if (P := Try.prog) W 9 (st l) k k (i : Int) (j : Int) hu]
  rw [if_pos ⟨by omega, by rw [st_size]; omega⟩, if_pos ⟨by omega, by omega⟩]
  congr 2
  apply ByteArray.ext
  simp only [Int.toNat_natCast]
  rw [ByteArray.data_extract]
  apply Array.ext'
  simp [st, List.take_drop, Nat.min_eq_left h2]
theorem let_piece (r : Nat) (h : r < 8) (W : World) : (Instr.sliceAt 9 (.string ⟨#[97, 97, 98, 98, 99, 49, 10, 65]⟩) (some (.int .u8 (r : Int))) (some (.int .u8 ((r : Int) + 1))) none).run Try.prog W = .ok (.string ⟨#[lets.getD r 0]⟩) W := by
  have h1 := st_slice lets .u8 r (r + 1) (Nat.le_succ r) (by show r + 1 ≤ 8; omega) W
  rcases (by omega : r = 0 ∨ r = 1 ∨ r = 2 ∨ r = 3 ∨ r = 4 ∨ r = 5 ∨ r = 6 ∨ r = 7) with rfl | rfl | rfl | rfl | rfl | rfl | rfl | rfl <;> exact h1
def LtPost (w : World) (m : Nat) (e : Ending) (w' : World) : Prop := ∃ l : List UInt8, l.length ≤ m ∧ e = .returned (.string (st l)) ∧ Kp No w w'

set_option maxRecDepth 100000 in
set_option maxHeartbeats 8000000 in
theorem letters_any (w : World) (bv : Value) (bb : List UInt8) (hb : Bs w bv bb) (hbl : bb.length ≤ 281474976710656) (m : Nat) (hm : m ≤ 1000) : Calls Try.prog 14 #[bv, .int .i64 (m : Int)] w (LtPost w m) := by
  obtain ⟨ba, cap, rfl, hb1, hb2, hb3⟩ := hb
  have HB3 := Hid_mk hb3
  have HBl := Hid_mk hbl
  have HM := Hid_mk hm
  clear hb3 hbl hm
  go_enter Try.func14, Try.ntmps14
  go_wp2
  go_loopw [5, 6] (fun s i wr => ∃ (k : Nat) (l : List UInt8), k ≤ m ∧ k ≤ bb.length ∧ i = .int .i64 (k : Int) ∧ s = .string ⟨l.toArray⟩ ∧ l.length = k ∧ Kp No w wr) (fun _ i _ => m - (intOf i).toNat)
  case atStart => exact ⟨0, [], Nat.zero_le _, Nat.zero_le _, rfl, rfl, rfl, Kp.refl No _⟩
  case round =>
    obtain ⟨k, l, hkm, hkb, rfl, rfl, hl, hkp⟩ := hrel
    have HKp := Hid_mk hkp
    have HKm := Hid_mk hkm
    have HKb := Hid_mk hkb
    have HL := Hid_mk hl
    have hk0 : (0 : Int) ≤ (k : Int) := Int.natCast_nonneg _
    have hk1000 : (k : Int) ≤ 1000 := by have h8 := HKm.out; have h9 := HM.out; omega
    by_cases hlt : k < bb.length
    · have hki : (k : Int) < (bb.length : Int) := by omega
      by_cases hlm : k < m
      · have hmi : (k : Int) < (m : Int) := by omega
        obtain ⟨b, o, hab, hcell⟩ := HB3.out (by intro e; rw [e] at hlt; simp at hlt)
        have hc := hkp.cell' (hcell k hlt) id
        obtain ⟨y, hy⟩ : ∃ y, (bb.getD k 0).toNat = y := ⟨_, rfl⟩
        have hy256 : y < 256 := by rw [← hy]; exact UInt8.toNat_lt _
        have hB : B (bb.getD k 0) = .int .u8 (y : Int) := by rw [← hy]; rfl
        rw [hB] at hc
        subst hab
        have hy0 : (0 : Int) ≤ (y : Int) := Int.natCast_nonneg _
        have hr1 : (y : Int) % 8 = ((y % 8 : Nat) : Int) := by omega
        have hr2 : (y : Int).tmod 8 = ((y % 8 : Nat) : Int) := by rw [Int.tmod_eq_emod_of_nonneg hy0]; omega
        have hr8 : y % 8 < 8 := Nat.mod_lt _ (by decide)
        obtain ⟨r, hr⟩ : ∃ r, y % 8 = r := ⟨_, rfl⟩
        rw [hr] at hr1 hr2 hr8
        have hw1 : IntKind.u8.wrap ((r : Int) + 1) = (r : Int) + 1 := by simp [IntKind.wrap, IntKind.bits, IntKind.signed]; omega
        obtain ⟨lc, hlc⟩ : ∃ lc, lets.getD r 0 = lc := ⟨_, rfl⟩
        have hpc : ∀ W, (Instr.sliceAt 9 (.string ⟨#[97, 97, 98, 98, 99, 49, 10, 65]⟩) (some (.int .u8 (r : Int))) (some (.int .u8 ((r : Int) + 1))) none).run Try.prog W = .ok (.string ⟨#[lc]⟩) W := fun W => by have h := let_piece r hr8 W; rw [hlc] at h; exact h
        have hadd := fun W => run_add_str l [lc] (by have := HKm.out; have := HL.out; have := HM.out; simp; omega) W
        have HLt := Hid_mk hlt
        have HLm := Hid_mk hlm
        clear hkm hkb hl hlt hlm hcell hy hB hy256 hr hr8 hkp hlc
        go_upto_region 5 with fail
        go_quiet (fail)
        go_wp2
        go_roundw
        case rel => exact ⟨k + 1, l ++ [lc], HLm.out, HLt.out, by go_num, rfl, by simp [HL.out], HKp.out.drewN _⟩
        case measure => have := HLm.out; simp [intOf]; omega
      · have hmi : ¬ (k : Int) < (m : Int) := by omega
        clear hkm hkb hl hlt hlm hkp
        go_wp2
        go_ret
        exact ⟨l, by have := HL.out; have := HKm.out; omega, rfl, HKp.out⟩
    · have hki : ¬ (k : Int) < (bb.length : Int) := by omega
      clear hkm hkb hl hlt hkp
      go_wp2
      go_ret
      exact ⟨l, by have := HL.out; have := HKm.out; omega, rfl, HKp.out⟩

end Go.Proofs.Ytaneblecgjahbab.ere

namespace Go.Proofs.Ytaneblecgjahbab.nfa
open Go.RowKit Go.Proofs.Ytaneblecgjahbab.sum Go.Proofs.Ytaneblecgjahbab.kept Go.Proofs.Ytaneblecgjahbab.pop Go.Proofs.Ytaneblecgjahbab.cls Go.Proofs.Ytaneblecgjahbab.tre Go.Proofs.Ytaneblecgjahbab.ere
set_option linter.unusedVariables false

/-- how many bytes a match has at least -/
def leastS : Tr → Nat
  | .mk k f [] => if k = 1 then 1 else 0
  | .mk k f [u] => if k = 5 then leastS u else 0
  | .mk k f [x, y] => if k = 2 then leastS x + leastS y else min (leastS x) (leastS y)
  | .mk k f (_ :: _ :: _ :: _) => 0
theorem tg_least {R : Nat → Nat → Prop} {m : Nat} (h : ∀ a e, R a e → a + m ≤ e) {a e : Nat} (g : Tg R a e) : a + m ≤ e := by
  induction g with
  | one g => exact h _ _ g
  | more g _ ih => have := h _ _ g; omega
theorem least_ok (s : Nat → Nat) (n : Nat) : ∀ (t : Tr) (a e : Nat), Mt s n t a e → a + leastS t ≤ e
  | .mk k f [], a, e, h => by
    rw [mt_nil] at h
    rw [leastS]
    by_cases k1 : k = 1
    · rw [if_pos k1] at h ⊢; omega
    · rw [if_neg k1] at h ⊢
      split at h
      · omega
      · split at h <;> omega
  | .mk k f [u], a, e, h => by
    rw [mt_one] at h
    rw [leastS]
    have hu := least_ok s n u
    by_cases k5 : k = 5
    · rw [if_pos k5]
      rcases h with ⟨h, -⟩ | h | ⟨-, h⟩
      · simp [k5] at h
      · exact hu a e h
      · exact tg_least hu h
    · rw [if_neg k5]
      rcases h with ⟨-, rfl⟩ | h | ⟨-, h⟩
      · omega
      · have := hu a e h; omega
      · have := tg_least hu h; omega
  | .mk k f [x, y], a, e, h => by
    rw [mt_two] at h
    rw [leastS]
    by_cases k2 : k = 2
    · rw [if_pos k2] at h ⊢
      obtain ⟨b, h1, h2⟩ := h
      have := least_ok s n x a b h1
      have := least_ok s n y b e h2
      omega
    · rw [if_neg k2] at h ⊢
      rcases h with h | h
      · have := least_ok s n x a e h; omega
      · have := least_ok s n y a e h; omega
  | .mk k f (_ :: _ :: _ :: _), a, e, h => by rw [leastS]; rw [Mt.eq_def] at h; exact h.elim

end Go.Proofs.Ytaneblecgjahbab.nfa

namespace Go.Proofs.Ytaneblecgjahbab.ere
open Go.RowKit Go.Proofs.Ytaneblecgjahbab.sum Go.Proofs.Ytaneblecgjahbab.kept Go.Proofs.Ytaneblecgjahbab.pop Go.Proofs.Ytaneblecgjahbab.cls Go.Proofs.Ytaneblecgjahbab.tre Go.Proofs.Ytaneblecgjahbab.str
set_option linter.unusedVariables false

mutual
theorem deep_high : ∀ (t : Tr) (n : Nat), deepS t n = decide (highS t ≤ n)
  | .mk k f l, 0 => by
    rw [deepS, highS]
    symm
    exact decide_eq_false (by omega)
  | .mk k f l, n + 1 => by
    rw [deepS, highS, deepL_high k l 0 (n + 1) (by omega)]
    rw [Bool.eq_iff_iff]
    simp
    omega
theorem deepL_high (k : Int) : ∀ (l : List Tr) (i n : Nat), 1 ≤ n → deepL k n i l = decide (highL k i l ≤ n)
  | [], i, n, _ => by simp [deepL, highL]
  | t :: l, i, n, hn => by
    rw [deepL, highL, deep_high t, deepL_high k l (i + 1) n hn, Bool.eq_iff_iff]
    by_cases h : sameB k i = true
    · rw [if_pos h, if_pos h]
      simp
      omega
    · rw [if_neg h, if_neg h]
      simp
      omega
end
theorem right_fits {t : Tr} (h : shapedS t = true) : rightS t = fitsB t := by
  unfold rightS fitsB
  rw [h, deep_high, Bool.true_and, Bool.and_comm]

end Go.Proofs.Ytaneblecgjahbab.ere

namespace Go.Proofs.Ytaneblecgjahbab.nfa
open Go.RowKit Go.Proofs.Ytaneblecgjahbab.sum Go.Proofs.Ytaneblecgjahbab.kept Go.Proofs.Ytaneblecgjahbab.pop Go.Proofs.Ytaneblecgjahbab.cls Go.Proofs.Ytaneblecgjahbab.tre Go.Proofs.Ytaneblecgjahbab.ere Go.Proofs.Ytaneblecgjahbab.str Go.Proofs.Ytaneblecgjahbab.turned Go.Proofs.Ytaneblecgjahbab.treeArg
set_option linter.unusedVariables false

/-- the law's six trees -/
def six (a b : Tr) : List Tr := [a, b, .mk 3 nul [a, b], .mk 4 nul [a], .mk 5 nul [a], .mk 6 nul [a]]
theorem gdt_right {m : Nat} (hm : m ≤ 3) {t : Tr} (h : Gdt m t) : rightS t = true := by
  have h1 : 2 ^ m ≤ 2 ^ 3 := Nat.pow_le_pow_right (by decide) hm
  have h2 := h.1
  have h3 := h.2.2
  rw [right_fits h.2.1]
  unfold fitsB
  rw [decide_eq_true (by omega), decide_eq_true (by omega)]
  rfl
theorem six_right {a b : Tr} (ha : Gdt 2 a) (hb : Gdt 2 b) (q : Nat) (hq : q < 6) : rightS ((six a b).getD q a) = true := by
  rcases (by omega : q = 0 ∨ q = 1 ∨ q = 2 ∨ q = 3 ∨ q = 4 ∨ q = 5) with rfl | rfl | rfl | rfl | rfl | rfl
  · exact gdt_right (by decide) ha
  · exact gdt_right (by decide) hb
  · exact gdt_right (m := 3) (by decide) (gdt_two (d := 3) ha hb (by decide) 3 (by decide))
  · exact gdt_right (m := 3) (by decide) (gdt_one (d := 3) ha (by decide) 4 (by decide))
  · exact gdt_right (m := 3) (by decide) (gdt_one (d := 3) ha (by decide) 5 (by decide))
  · exact gdt_right (m := 3) (by decide) (gdt_one (d := 3) ha (by decide) 6 (by decide))
/-- what At answers of each of the six -/
def ruR (a b : Tr) (l : List UInt8) (F q : Nat) : Nat × Bool := atRun (oS (progS ((six a b).getD q a) false) false (st l)) ((st l).size + 1) (begS (oS (progS ((six a b).getD q a) false) false (st l)) (newS (oS (progS ((six a b).getD q a) false) false (st l)) F)) (0, false)
/-- the law's two arrays, so far -/
structure RuAt (W7 : World) (Z n : Nat) (R : Nat → Nat × Bool) (wr : World) : Prop where
  kp : Kp No W7 wr
  ends : ∀ q, q < 6 → wr.cell? ⟨Z, q, none⟩ = some (.int .i64 (if q < n then ((R q).1 : Int) else 0))
  iss : ∀ q, q < 6 → wr.cell? ⟨Z + 1, q, none⟩ = some (.bool (if q < n then (R q).2 else false))
  cz : ∀ q, wr.frozen? ⟨Z, q, none⟩ = false
  cy : ∀ q, wr.frozen? ⟨Z + 1, q, none⟩ = false
def RuRel (W7 : World) (Z : Nat) (R : Nat → Nat × Bool) (i : Value) (wr : World) : Prop := ∃ n : Nat, n ≤ 6 ∧ i = .int .i64 (n : Int) ∧ RuAt W7 Z n R wr
theorem RuAt.no {W7 w w' : World} {Z n : Nat} {R : Nat → Nat × Bool} (h : RuAt W7 Z n R w) (hk : Kp No w w') : RuAt W7 Z n R w' := by
  have l1 : Z < w.heap.size := World.block_lt_of_cell? w ⟨Z, 0, none⟩ (h.ends 0 (by decide))
  have l2 : Z + 1 < w.heap.size := World.block_lt_of_cell? w ⟨Z + 1, 0, none⟩ (h.iss 0 (by decide))
  exact ⟨h.kp.trans' hk, fun q hq => hk.cell' (h.ends q hq) id, fun q hq => hk.cell' (h.iss q hq) id, fun q => (hk.frozen (p := ⟨Z, q, none⟩) l1 id).trans (h.cz q), fun q => (hk.frozen (p := ⟨Z + 1, q, none⟩) l2 id).trans (h.cy q)⟩
theorem RuAt.put {W7 w : World} {Z n : Nat} {R : Nat → Nat × Bool} (h : RuAt W7 Z n R w) (hZ : W7.heap.size = Z) : RuAt W7 Z (n + 1) R ((w.setCell ⟨Z, n, none⟩ (.int .i64 ((R n).1 : Int))).setCell ⟨Z + 1, n, none⟩ (.bool (R n).2)) := by
  refine ⟨(h.kp.setCell (p := ⟨Z, n, none⟩) (fun hb => by have hb : Z < W7.heap.size := hb; omega) _).setCell (p := ⟨Z + 1, n, none⟩) (fun hb => by have hb : Z + 1 < W7.heap.size := hb; omega) _, fun q hq => ?_, fun q hq => ?_, fun q => by simp only [World.frozen?_setCell]; exact h.cz q, fun q => by simp only [World.frozen?_setCell]; exact h.cy q⟩
  · rw [World.cell?_setCell_other _ _ _ _ (by intro e; injection e with e; omega)]
    by_cases e : q = n
    · subst e
      rw [World.cell?_setCell_same _ _ _ (h.ends q hq), if_pos (Nat.lt_succ_self _)]
    · rw [World.cell?_setCell_other _ _ _ _ (by intro e2; injection e2 with _ e2; exact e e2.symm), h.ends q hq]
      by_cases e2 : q < n
      · rw [if_pos e2, if_pos (by omega)]
      · rw [if_neg e2, if_neg (by omega)]
  · by_cases e : q = n
    · subst e
      rw [World.cell?_setCell_same _ _ _ (by rw [World.cell?_setCell_other _ _ _ _ (by intro e; injection e with e; omega)]; exact h.iss q hq), if_pos (Nat.lt_succ_self _)]
    · rw [World.cell?_setCell_other _ _ _ _ (by intro e2; injection e2 with _ e2; exact e e2.symm), World.cell?_setCell_other _ _ _ _ (by intro e2; injection e2 with e2; omega), h.iss q hq]
      by_cases e2 : q < n
      · rw [if_pos e2, if_pos (by omega)]
      · rw [if_neg e2, if_neg (by omega)]
theorem RuAt.start {W7 : World} {Z : Nat} (hZ : W7.heap.size = Z) (R : Nat → Nat × Bool) (t1 t2 : TypeId) : RuAt W7 Z 0 R ((W7.alloc (.cells #[.int .i64 0, .int .i64 0, .int .i64 0, .int .i64 0, .int .i64 0, .int .i64 0] t1)).alloc (.cells #[.bool false, .bool false, .bool false, .bool false, .bool false, .bool false] t2)) := by
  subst hZ
  have e1 : W7.heap.size + 1 = (W7.alloc (.cells #[.int .i64 0, .int .i64 0, .int .i64 0, .int .i64 0, .int .i64 0, .int .i64 0] t1)).heap.size := by simp
  have hlt : W7.heap.size < (W7.alloc (.cells #[.int .i64 0, .int .i64 0, .int .i64 0, .int .i64 0, .int .i64 0, .int .i64 0] t1)).heap.size := by simp
  refine ⟨((Kp.refl No W7).alloc _).alloc _, fun q hq => ?_, fun q hq => ?_, fun q => ?_, fun q => ?_⟩
  · rw [if_neg (Nat.not_lt_zero _)]
    refine Kp.cell' ((Kp.refl No _).alloc _) ?_ id
    rcases (by omega : q = 0 ∨ q = 1 ∨ q = 2 ∨ q = 3 ∨ q = 4 ∨ q = 5) with rfl | rfl | rfl | rfl | rfl | rfl <;> simp
  · rw [if_neg (Nat.not_lt_zero _), e1]
    rcases (by omega : q = 0 ∨ q = 1 ∨ q = 2 ∨ q = 3 ∨ q = 4 ∨ q = 5) with rfl | rfl | rfl | rfl | rfl | rfl <;> simp
  · rw [(((Kp.refl No _).alloc _ : Kp No (W7.alloc (.cells #[.int .i64 0, .int .i64 0, .int .i64 0, .int .i64 0, .int .i64 0, .int .i64 0] t1)) _).frozen (p := ⟨W7.heap.size, q, none⟩) hlt id)]
    simp
  · rw [e1]
    simp
theorem cells_new (W : World) (L : List Value) (ty : TypeId) (j : Nat) (x : Value) (h : L[j]? = some x) : (W.alloc (.cells L.toArray ty)).cell? ⟨W.heap.size, j, none⟩ = some x := by
  rw [← h]
  simp
set_option maxHeartbeats 4000000 in
theorem six_made {W : World} {a b : Tr} {k k' : Int} {f f' : Nat → Bool} {p p' : Option Addr} {n c n' c' : Nat} (ha : ReV All W a (.agg #[.int .i64 k, .int .u64 (wd f 0 64 : Nat), .int .u64 (wd f 64 64 : Nat), .int .u64 (wd f 128 64 : Nat), .int .u64 (wd f 192 64 : Nat), .slice p n c])) (hb : ReV All W b (.agg #[.int .i64 k', .int .u64 (wd f' 0 64 : Nat), .int .u64 (wd f' 64 64 : Nat), .int .u64 (wd f' 128 64 : Nat), .int .u64 (wd f' 192 64 : Nat), .slice p' n' c'])) (ty : TypeId) (V : World)
    (hV : ((((W.alloc (.cells #[.int .i64 k, .int .u64 (wd f 0 64 : Nat), .int .u64 (wd f 64 64 : Nat), .int .u64 (wd f 128 64 : Nat), .int .u64 (wd f 192 64 : Nat), .slice p n c, .int .i64 k', .int .u64 (wd f' 0 64 : Nat), .int .u64 (wd f' 64 64 : Nat), .int .u64 (wd f' 128 64 : Nat), .int .u64 (wd f' 192 64 : Nat), .slice p' n' c'] ty)).alloc (.cells #[.int .i64 k, .int .u64 (wd f 0 64 : Nat), .int .u64 (wd f 64 64 : Nat), .int .u64 (wd f 128 64 : Nat), .int .u64 (wd f 192 64 : Nat), .slice p n c] ty)).alloc (.cells #[.int .i64 k, .int .u64 (wd f 0 64 : Nat), .int .u64 (wd f 64 64 : Nat), .int .u64 (wd f 128 64 : Nat), .int .u64 (wd f 192 64 : Nat), .slice p n c] ty)).alloc (.cells #[.int .i64 k, .int .u64 (wd f 0 64 : Nat), .int .u64 (wd f 64 64 : Nat), .int .u64 (wd f 128 64 : Nat), .int .u64 (wd f 192 64 : Nat), .slice p n c] ty)).alloc (.cells #[.int .i64 k, .int .u64 (wd f 0 64 : Nat), .int .u64 (wd f 64 64 : Nat), .int .u64 (wd f 128 64 : Nat), .int .u64 (wd f 192 64 : Nat), .slice p n c, .int .i64 k', .int .u64 (wd f' 0 64 : Nat), .int .u64 (wd f' 64 64 : Nat), .int .u64 (wd f' 128 64 : Nat), .int .u64 (wd f' 192 64 : Nat), .slice p' n' c', .int .i64 3, .int .u64 0, .int .u64 0, .int .u64 0, .int .u64 0, .slice (some ⟨W.heap.size, 0, none⟩) 2 2, .int .i64 4, .int .u64 0, .int .u64 0, .int .u64 0, .int .u64 0, .slice (some ⟨W.heap.size + 1, 0, none⟩) 1 1, .int .i64 5, .int .u64 0, .int .u64 0, .int .u64 0, .int .u64 0, .slice (some ⟨W.heap.size + 1 + 1, 0, none⟩) 1 1, .int .i64 6, .int .u64 0, .int .u64 0, .int .u64 0, .int .u64 0, .slice (some ⟨W.heap.size + 1 + 1 + 1, 0, none⟩) 1 1] ty) = V) :
    Kp No W V ∧ ReL All V (W.heap.size + 1 + 1 + 1 + 1) 0 (six a b) ∧ V.heap.size = W.heap.size + 5 := by
  have m3 := made2 (T := All) ha hb trivial 3 nul ty
  unfold cellsR at m3
  simp only [List.append_toArray, List.cons_append, List.nil_append, wd_nul, Int.natCast_zero] at m3
  obtain ⟨W1, hW1⟩ : ∃ W1, W.alloc (.cells #[.int .i64 k, .int .u64 (wd f 0 64 : Nat), .int .u64 (wd f 64 64 : Nat), .int .u64 (wd f 128 64 : Nat), .int .u64 (wd f 192 64 : Nat), .slice p n c, .int .i64 k', .int .u64 (wd f' 0 64 : Nat), .int .u64 (wd f' 64 64 : Nat), .int .u64 (wd f' 128 64 : Nat), .int .u64 (wd f' 192 64 : Nat), .slice p' n' c'] ty) = W1 := ⟨_, rfl⟩
  have s1 : W1.heap.size = W.heap.size + 1 := by rw [← hW1]; simp
  have k1 : Kp No W W1 := by rw [← hW1]; exact (Kp.refl No W).alloc _
  rw [hW1] at m3 hV
  have m4 := made1 (T := All) (ReV.no k1 _ _ ha) trivial 4 nul ty
  unfold cellsR at m4
  simp only [wd_nul, Int.natCast_zero] at m4
  obtain ⟨W2, hW2⟩ : ∃ W2, W1.alloc (.cells #[.int .i64 k, .int .u64 (wd f 0 64 : Nat), .int .u64 (wd f 64 64 : Nat), .int .u64 (wd f 128 64 : Nat), .int .u64 (wd f 192 64 : Nat), .slice p n c] ty) = W2 := ⟨_, rfl⟩
  have s2 : W2.heap.size = W.heap.size + 1 + 1 := by rw [← hW2]; simp [s1]
  have k2 : Kp No W1 W2 := by rw [← hW2]; exact (Kp.refl No W1).alloc _
  rw [hW2] at m4 hV
  rw [s1] at m4
  have m5 := made1 (T := All) (ReV.no (k1.trans' k2) _ _ ha) trivial 5 nul ty
  unfold cellsR at m5
  simp only [wd_nul, Int.natCast_zero] at m5
  obtain ⟨W3, hW3⟩ : ∃ W3, W2.alloc (.cells #[.int .i64 k, .int .u64 (wd f 0 64 : Nat), .int .u64 (wd f 64 64 : Nat), .int .u64 (wd f 128 64 : Nat), .int .u64 (wd f 192 64 : Nat), .slice p n c] ty) = W3 := ⟨_, rfl⟩
  have s3 : W3.heap.size = W.heap.size + 1 + 1 + 1 := by rw [← hW3]; simp [s2]
  have k3 : Kp No W2 W3 := by rw [← hW3]; exact (Kp.refl No W2).alloc _
  rw [hW3] at m5 hV
  rw [s2] at m5
  have m6 := made1 (T := All) (ReV.no ((k1.trans' k2).trans' k3) _ _ ha) trivial 6 nul ty
  unfold cellsR at m6
  simp only [wd_nul, Int.natCast_zero] at m6
  obtain ⟨W4, hW4⟩ : ∃ W4, W3.alloc (.cells #[.int .i64 k, .int .u64 (wd f 0 64 : Nat), .int .u64 (wd f 64 64 : Nat), .int .u64 (wd f 128 64 : Nat), .int .u64 (wd f 192 64 : Nat), .slice p n c] ty) = W4 := ⟨_, rfl⟩
  have s4 : W4.heap.size = W.heap.size + 1 + 1 + 1 + 1 := by rw [← hW4]; simp [s3]
  have k4 : Kp No W3 W4 := by rw [← hW4]; exact (Kp.refl No W3).alloc _
  rw [hW4] at m6 hV
  rw [s3] at m6
  have k5 : Kp No W4 V := by rw [← hV]; exact (Kp.refl No W4).alloc _
  have k14 := ((k1.trans' k2).trans' k3).trans' k4
  refine ⟨k14.trans' k5, ?_, by rw [← hV]; simp [s4]⟩
  have q1 := ReV.no (k14.trans' k5) _ _ ha
  have q2 := ReV.no (k14.trans' k5) _ _ hb
  have q3 := ReV.no (((k2.trans' k3).trans' k4).trans' k5) _ _ m3
  have q4 := ReV.no ((k3.trans' k4).trans' k5) _ _ m4
  have q5 := ReV.no (k4.trans' k5) _ _ m5
  have q6 := ReV.no k5 _ _ m6
  rw [← s4]
  have hc : ∀ (j : Nat) (x : Value), ([.int .i64 k, .int .u64 (wd f 0 64 : Nat), .int .u64 (wd f 64 64 : Nat), .int .u64 (wd f 128 64 : Nat), .int .u64 (wd f 192 64 : Nat), .slice p n c, .int .i64 k', .int .u64 (wd f' 0 64 : Nat), .int .u64 (wd f' 64 64 : Nat), .int .u64 (wd f' 128 64 : Nat), .int .u64 (wd f' 192 64 : Nat), .slice p' n' c', .int .i64 3, .int .u64 0, .int .u64 0, .int .u64 0, .int .u64 0, .slice (some ⟨W.heap.size, 0, none⟩) 2 2, .int .i64 4, .int .u64 0, .int .u64 0, .int .u64 0, .int .u64 0, .slice (some ⟨W.heap.size + 1, 0, none⟩) 1 1, .int .i64 5, .int .u64 0, .int .u64 0, .int .u64 0, .int .u64 0, .slice (some ⟨W.heap.size + 1 + 1, 0, none⟩) 1 1, .int .i64 6, .int .u64 0, .int .u64 0, .int .u64 0, .int .u64 0, .slice (some ⟨W.heap.size + 1 + 1 + 1, 0, none⟩) 1 1] : List Value)[j]? = some x → V.cell? ⟨W4.heap.size, j, none⟩ = some x := fun j x h => by
    rw [← hV]
    exact cells_new W4 _ ty j x h
  refine ⟨⟨_, _, _, _, _, _, hc 0 _ rfl, hc 1 _ rfl, hc 2 _ rfl, hc 3 _ rfl, hc 4 _ rfl, hc 5 _ rfl, q1⟩, ⟨_, _, _, _, _, _, hc 6 _ rfl, hc 7 _ rfl, hc 8 _ rfl, hc 9 _ rfl, hc 10 _ rfl, hc 11 _ rfl, q2⟩, ⟨_, _, _, _, _, _, hc 12 _ rfl, hc 13 _ rfl, hc 14 _ rfl, hc 15 _ rfl, hc 16 _ rfl, hc 17 _ rfl, q3⟩, ⟨_, _, _, _, _, _, hc 18 _ rfl, hc 19 _ rfl, hc 20 _ rfl, hc 21 _ rfl, hc 22 _ rfl, hc 23 _ rfl, q4⟩, ⟨_, _, _, _, _, _, hc 24 _ rfl, hc 25 _ rfl, hc 26 _ rfl, hc 27 _ rfl, hc 28 _ rfl, hc 29 _ rfl, q5⟩, ⟨_, _, _, _, _, _, hc 30 _ rfl, hc 31 _ rfl, hc 32 _ rfl, hc 33 _ rfl, hc 34 _ rfl, hc 35 _ rfl, q6⟩, trivial⟩

/-- what the six answer, beside one another -/
structure RuOk (F : Nat) (R : Nat → Nat × Bool) : Prop where
  alt : (R 2).2 = ((R 0).2 || (R 1).2)
  star : (R 3).2 = true
  opt : (R 5).2 = true
  plus : (R 4).2 = (R 0).2
  most0 : (R 0).2 = true → (R 1).2 = false → (R 2).1 = (R 0).1
  most1 : (R 0).2 = false → (R 1).2 = true → (R 2).1 = (R 1).1
  most2 : (R 0).2 = true → (R 1).2 = true → (R 2).1 = max (R 0).1 (R 1).1
  ge : F ≤ (R 3).1
  ge0 : (R 0).2 = true → (R 0).1 ≤ (R 3).1 ∧ (R 4).1 = (R 3).1 ∧ (R 5).1 = max F (R 0).1
  no0 : (R 0).2 = false → (R 3).1 = F ∧ (R 5).1 = F
theorem rules_ok {a b : Tr} (ha : Gdt 2 a) (hb : Gdt 2 b) (l : List UInt8) (F : Nat) (hF : F ≤ l.length) : RuOk F (ruR a b l F) := by
  have hsz := st_size l
  have hm : ∀ q, q < 6 → ((ruR a b l F q).2 = true ∧ F ≤ (ruR a b l F q).1 ∧ (ruR a b l F q).1 ≤ (st l).size ∧ Mt (byt (st l)) (st l).size ((six a b).getD q a) F (ruR a b l F q).1 ∧ ∀ e, Mt (byt (st l)) (st l).size ((six a b).getD q a) F e → e ≤ (ruR a b l F q).1) ∨ (ruR a b l F q = (0, false) ∧ ∀ e, ¬ Mt (byt (st l)) (st l).size ((six a b).getD q a) F e) := fun q hq => by
    have hr := six_right ha hb q hq
    unfold rightS at hr
    simp only [Bool.and_eq_true] at hr
    exact at_means _ hr.1.1 (st l) F (by omega) _ rfl
  have g0 := hm 0 (by decide)
  have g1 := hm 1 (by decide)
  have g2 := hm 2 (by decide)
  have g3 := hm 3 (by decide)
  have g4 := hm 4 (by decide)
  have g5 := hm 5 (by decide)
  clear hm
  generalize ruR a b l F = R at *
  have t0 : (six a b).getD 0 a = a := rfl
  have t1 : (six a b).getD 1 a = b := rfl
  have t2 : (six a b).getD 2 a = .mk 3 nul [a, b] := rfl
  have t3 : (six a b).getD 3 a = .mk 4 nul [a] := rfl
  have t4 : (six a b).getD 4 a = .mk 5 nul [a] := rfl
  have t5 : (six a b).getD 5 a = .mk 6 nul [a] := rfl
  rw [t0] at g0
  rw [t1] at g1
  rw [t2] at g2
  rw [t3] at g3
  rw [t4] at g4
  rw [t5] at g5
  clear t0 t1 t2 t3 t4 t5
  have la := least_ok (byt (st l)) (st l).size a
  have lb := least_ok (byt (st l)) (st l).size b
  have i2 : ∀ e, Mt (byt (st l)) (st l).size (.mk 3 nul [a, b]) F e ↔ Mt (byt (st l)) (st l).size a F e ∨ Mt (byt (st l)) (st l).size b F e := fun e => by rw [mt_two, if_neg (by decide)]
  have i3 : ∀ e, Mt (byt (st l)) (st l).size (.mk 4 nul [a]) F e ↔ F = e ∨ Mt (byt (st l)) (st l).size a F e ∨ Tg (Mt (byt (st l)) (st l).size a) F e := fun e => by rw [mt_one]; unfold Wm; simp
  have i4 : ∀ e, Mt (byt (st l)) (st l).size (.mk 5 nul [a]) F e ↔ Mt (byt (st l)) (st l).size a F e ∨ Tg (Mt (byt (st l)) (st l).size a) F e := fun e => by rw [mt_one]; unfold Wm; simp
  have i5 : ∀ e, Mt (byt (st l)) (st l).size (.mk 6 nul [a]) F e ↔ F = e ∨ Mt (byt (st l)) (st l).size a F e := fun e => by rw [mt_one]; unfold Wm; simp
  simp only [i2] at g2
  simp only [i3] at g3
  simp only [i4] at g4
  simp only [i5] at g5
  have htg : ∀ e, Tg (Mt (byt (st l)) (st l).size a) F e → (∃ x, Mt (byt (st l)) (st l).size a F x) ∧ F ≤ e := fun e h => by
    refine ⟨?_, ?_⟩
    · cases h with
      | one h => exact ⟨_, h⟩
      | more h _ => exact ⟨_, h⟩
    · have := tg_least (m := 0) (fun x y h => by have := la x y h; omega) h
      omega
  obtain ⟨A, hA⟩ : ∃ A, Mt (byt (st l)) (st l).size a F = A := ⟨_, rfl⟩
  obtain ⟨B, hB⟩ : ∃ B, Mt (byt (st l)) (st l).size b F = B := ⟨_, rfl⟩
  obtain ⟨T, hT⟩ : ∃ T, Tg (Mt (byt (st l)) (st l).size a) F = T := ⟨_, rfl⟩
  rw [hT] at htg g3 g4
  rw [hA] at htg g0 g2 g3 g4 g5
  rw [hB] at g1 g2
  clear i2 i3 i4 i5 hA hB hT la lb
  have hd : ∀ q, R q = ((R q).1, (R q).2) := fun q => rfl
  rcases g3 with ⟨s1, s2, s3, s4, s5⟩ | ⟨-, hno⟩
  · rcases g5 with ⟨o1, o2, o3, o4, o5⟩ | ⟨-, hno⟩
    · rcases g0 with ⟨a1, a2, a3, a4, a5⟩ | ⟨a1, a2⟩
      · rcases g4 with ⟨p1, p2, p3, p4, p5⟩ | ⟨-, hno⟩
        · rcases g2 with ⟨q1, q2, q3, q4, q5⟩ | ⟨-, hno⟩
          · have e3 := s5 _ (.inr (.inl a4))
            have e4 : (R 4).1 = (R 3).1 := by
              have h1 := s5 _ (.inr p4)
              rcases s4 with h | h
              · omega
              · have h2 := p5 _ h; omega
            have e5 : (R 5).1 = max F (R 0).1 := by
              have h1 := o5 _ (.inr a4)
              rcases o4 with h | h
              · omega
              · have h2 := a5 _ h; omega
            have h0 := q5 _ (.inl a4)
            rcases g1 with ⟨b1, b2, b3, b4, b5⟩ | ⟨b1, b2⟩
            · have h1 := q5 _ (.inr b4)
              have e2 : (R 2).1 = max (R 0).1 (R 1).1 := by
                rcases q4 with h | h
                · have := a5 _ h; omega
                · have := b5 _ h; omega
              exact ⟨by rw [q1, a1]; rfl, s1, o1, by rw [p1, a1], (fun _ h => by rw [b1] at h; cases h), (fun h => by rw [a1] at h; cases h), fun _ _ => e2, s2, fun _ => ⟨e3, e4, e5⟩, fun h => by rw [a1] at h; cases h⟩
            · have e2 : (R 2).1 = (R 0).1 := by
                rcases q4 with h | h
                · have := a5 _ h; omega
                · exact absurd h (b2 _)
              exact ⟨by rw [q1, a1]; rfl, s1, o1, by rw [p1, a1], fun _ _ => e2, (fun h => by rw [a1] at h; cases h), (fun _ h => by rw [b1] at h; cases h), s2, fun _ => ⟨e3, e4, e5⟩, fun h => by rw [a1] at h; cases h⟩
          · exact absurd (.inl a4) (hno _)
        · exact absurd (.inl a4) (hno _)
      · have hT : ∀ e, ¬ T e := fun e h => by obtain ⟨⟨x, hx⟩, -⟩ := htg e h; exact a2 x hx
        have e3 : (R 3).1 = F := by
          rcases s4 with h | h | h
          · exact h.symm
          · exact absurd h (a2 _)
          · exact absurd h (hT _)
        have e5 : (R 5).1 = F := by
          rcases o4 with h | h
          · exact h.symm
          · exact absurd h (a2 _)
        have e4 : (R 4).2 = false := by
          rcases g4 with ⟨p1, p2, p3, p4 | p4, p5⟩ | ⟨h, -⟩
          · exact absurd p4 (a2 _)
          · exact absurd p4 (hT _)
          · rw [h]
        have a1' : (R 0).2 = false := by rw [a1]
        rcases g1 with ⟨b1, b2, b3, b4, b5⟩ | ⟨b1, b2⟩
        · rcases g2 with ⟨q1, q2, q3, q4, q5⟩ | ⟨-, hno⟩
          · have e2 : (R 2).1 = (R 1).1 := by
              have h1 := q5 _ (.inr b4)
              rcases q4 with h | h
              · exact absurd h (a2 _)
              · have := b5 _ h; omega
            exact ⟨by rw [q1, a1', b1]; rfl, s1, o1, by rw [e4, a1'], (fun h => by rw [a1'] at h; cases h), fun _ _ => e2, (fun h => by rw [a1'] at h; cases h), s2, (fun h => by rw [a1'] at h; cases h), fun _ => ⟨e3, e5⟩⟩
          · exact absurd (.inr b4) (hno _)
        · have b1' : (R 1).2 = false := by rw [b1]
          have q1' : (R 2).2 = false := by
            rcases g2 with ⟨q1, q2, q3, q4 | q4, q5⟩ | ⟨h, -⟩
            · exact absurd q4 (a2 _)
            · exact absurd q4 (b2 _)
            · rw [h]
          exact ⟨by rw [q1', a1', b1']; rfl, s1, o1, by rw [e4, a1'], (fun h => by rw [a1'] at h; cases h), (fun _ h => by rw [b1'] at h; cases h), (fun h => by rw [a1'] at h; cases h), s2, (fun h => by rw [a1'] at h; cases h), fun _ => ⟨e3, e5⟩⟩
    · exact absurd (.inl rfl) (hno F)
  · exact absurd (.inl rfl) (hno F)

set_option maxRecDepth 100000 in
set_option maxHeartbeats 16000000 in
theorem rules_walk (fr : Int) (t u : TT) (w : World) (k n k' n' : Int) (a a' : Option Addr) (len c len' c' : Nat) (ht : AtT w t (.agg #[.int .i64 k, .int .i64 n, .slice a len c])) (hu : AtT w u (.agg #[.int .i64 k', .int .i64 n', .slice a' len' c'])) (sv : Value) (sb : List UInt8) (hs : Bs w sv sb) (hsl : sb.length ≤ 281474976710656) :
    Calls Try.prog 4 #[.agg #[.int .i64 k, .int .i64 n, .slice a len c], .agg #[.int .i64 k', .int .i64 n', .slice a' len' c'], sv, .int .i64 fr] w fun e w' => e = .returned (.bool true) ∧ Kp No w w' := by
  obtain ⟨z, hz⟩ : ∃ z, w.heap.size = z := ⟨_, rfl⟩
  have HZ := Hid_mk hz
  have HT := Hid_mk ht
  have HU := Hid_mk hu
  have HL : Hid (∀ V, Kp No w V → Calls Try.prog 14 #[sv, .int .i64 20] V (LtPost V 20)) := Hid_mk fun V h => letters_any V sv sb (bs_no hs h) hsl 20 (by decide)
  have HKn := Hid_mk fun W => known10_any W
  clear hz ht hu hs hsl
  go_enter Try.func4, Try.ntmps4
  go_upto_region 1 with fail
  rw [HZ.out]
  refine wp_name (fun V => Kp No w V ∧ V.heap.size = z + 2 ∧ (V.cell? ⟨z, 0, none⟩ = some (.int .i64 k) ∧ V.cell? ⟨z, 1, none⟩ = some (.int .i64 n) ∧ V.cell? ⟨z, 2, none⟩ = some (.slice a len c)) ∧ V.cell? ⟨z + 1, 0, none⟩ = some (.int .i64 k') ∧ V.cell? ⟨z + 1, 1, none⟩ = some (.int .i64 n') ∧ V.cell? ⟨z + 1, 2, none⟩ = some (.slice a' len' c')) ?_ ?_
  · have hz := HZ.out
    have e1 : z + 1 = (w.alloc (.cells #[.int .i64 k, .int .i64 n, .slice a len c] 24)).heap.size := by simp [hz]
    refine ⟨((Kp.refl No w).alloc _).alloc _, by simp [hz], ⟨?_, ?_, ?_⟩, ?_, ?_, ?_⟩
    · refine Kp.cell' ((Kp.refl No _).alloc _) ?_ id; rw [← hz]; simp
    · refine Kp.cell' ((Kp.refl No _).alloc _) ?_ id; rw [← hz]; simp
    · refine Kp.cell' ((Kp.refl No _).alloc _) ?_ id; rw [← hz]; simp
    · rw [e1]; simp
    · rw [e1]; simp
    · rw [e1]; simp
  rintro W1 ⟨hk1, hz1, ⟨t0, t1, t2⟩, u0, u1, u2⟩
  have hc1 : Calls Try.prog 9 #[.agg #[.int .i64 k, .int .i64 n, .slice a len c], .int .i64 2] W1 (MkPost W1 2) := re_any 2 (by decide) t W1 k n a len c (AtT.no hk1 _ _ HT.out)
  have HC1 := Hid_mk hc1
  have HC2 : Hid (∀ V, Kp No w V → Calls Try.prog 9 #[.agg #[.int .i64 k', .int .i64 n', .slice a' len' c'], .int .i64 2] V (MkPost V 2)) := Hid_mk fun V hV => re_any 2 (by decide) u V k' n' a' len' c' (AtT.no hV _ _ HU.out)
  have HK1 := Hid_mk hk1
  have HZ1 := Hid_mk hz1
  clear hc1 hk1 hz1
  go_wp2_with fail
  with_reducible refine HC1.out.mono ?_
  rintro e w2 ⟨ak, af, aa, an, ac, ta, rfl, hva, hk2, hga⟩
  have HVa := Hid_mk (ReV.wider (T' := All) (fun _ _ _ => trivial) _ _ hva)
  have HK2 := Hid_mk hk2
  have HGa := Hid_mk hga
  obtain ⟨q, hq⟩ : ∃ q, w2.heap.size = q := ⟨_, rfl⟩
  have HQ := Hid_mk hq
  have u0 := hk2.cell' u0 id
  have u1 := hk2.cell' u1 id
  have u2 := hk2.cell' u2 id
  clear t0 t1 t2 hva hk2 hga hq HC1
  unfold cellsR
  go_upto_region 2 with fail
  rw [HQ.out]
  refine wp_name (fun V => Kp No w2 V ∧ V.heap.size = q + 1 ∧ RAt V q (.int .i64 ak) (.int .u64 (wd af 0 64 : Nat)) (.int .u64 (wd af 64 64 : Nat)) (.int .u64 (wd af 128 64 : Nat)) (.int .u64 (wd af 192 64 : Nat)) (.slice aa an ac)) ?_ ?_
  · have hq := HQ.out
    refine ⟨(Kp.refl No w2).alloc _, by simp [hq], by rw [← hq]; exact RAt.new _ _ _ _ _ _ _ _⟩
  rintro W3 ⟨hk3, hz3, hr3⟩
  have HK3 := Hid_mk ((HK1.out.trans' HK2.out).trans' hk3)
  have HR3 := Hid_mk hr3
  have HZ3 := Hid_mk hz3
  have HVa3 := Hid_mk (ReV.no hk3 _ _ HVa.out)
  have u0 := hk3.cell' u0 id
  have u1 := hk3.cell' u1 id
  have u2 := hk3.cell' u2 id
  clear hk3 hz3 hr3 HVa HK2
  go_wp2_with fail
  with_reducible refine (HC2.out _ HK3.out).mono ?_
  rintro e w4 ⟨bk, bf, ba, bn, bc, tb, rfl, hvb, hk4, hgb⟩
  have HVb := Hid_mk (ReV.wider (T' := All) (fun _ _ _ => trivial) _ _ hvb)
  have HVa4 := Hid_mk (ReV.no hk4 _ _ HVa3.out)
  have HR4 := Hid_mk (HR3.out.kept hk4 id)
  have HK4 := Hid_mk (HK3.out.trans' hk4)
  have HGb := Hid_mk hgb
  obtain ⟨p, hp⟩ : ∃ p, w4.heap.size = p := ⟨_, rfl⟩
  have HP := Hid_mk hp
  have HQP := Hid_mk (show q < p by have h1 := hk4.size; have h2 := HZ3.out; omega)
  clear u0 u1 u2 hvb hk4 hgb hp HC2 HVa3 HR3 HK3
  unfold cellsR
  go_upto_region 3 with fail
  rw [HP.out]
  refine wp_name (fun V => Kp No w4 V ∧ V.heap.size = p + 1 ∧ RAt V p (.int .i64 bk) (.int .u64 (wd bf 0 64 : Nat)) (.int .u64 (wd bf 64 64 : Nat)) (.int .u64 (wd bf 128 64 : Nat)) (.int .u64 (wd bf 192 64 : Nat)) (.slice ba bn bc)) ?_ ?_
  · have hp := HP.out
    refine ⟨(Kp.refl No w4).alloc _, by simp [hp], by rw [← hp]; exact RAt.new _ _ _ _ _ _ _ _⟩
  rintro W5 ⟨hk5, hz5, hr5⟩
  have HK5 := Hid_mk (HK4.out.trans' hk5)
  have HR5 := Hid_mk hr5
  have HS5 := Hid_mk (HR4.out.kept hk5 id)
  have HVa5 := Hid_mk (ReV.no hk5 _ _ HVa4.out)
  have HVb5 := Hid_mk (ReV.no hk5 _ _ HVb.out)
  clear hk5 hz5 hr5 HVa4 HVb HR4 HK4
  go_wp2_with fail
  with_reducible refine (HL.out _ HK5.out).mono ?_
  rintro e w6 ⟨l, hl, rfl, hk6⟩
  have HLl := Hid_mk hl
  have HK6 := Hid_mk (HK5.out.trans' hk6)
  have HVa6 := Hid_mk (ReV.no hk6 _ _ HVa5.out)
  have HVb6 := Hid_mk (ReV.no hk6 _ _ HVb5.out)
  have HR6 := HR5.out.kept hk6 id
  have HS6 := HS5.out.kept hk6 id
  have hsz := st_size l
  have hpk := pick_any fr ((l.length : Int) + 1) (by omega) (by omega) w6
  have hlt0 : 0 ≤ fr % ((l.length : Int) + 1) := Int.emod_nonneg _ (by omega)
  have hlt1 : fr % ((l.length : Int) + 1) < (l.length : Int) + 1 := Int.emod_lt_of_pos _ (by omega)
  obtain ⟨F, hF⟩ : ∃ F : Nat, fr % ((l.length : Int) + 1) = (F : Int) := ⟨(fr % ((l.length : Int) + 1)).toNat, by omega⟩
  rw [hF] at hpk hlt1
  have HF := Hid_mk (show F ≤ l.length by omega)
  have HPk := Hid_mk hpk
  have hl20 : (l.length : Int) ≤ 20 := by omega
  clear hl hk6 HL HVa5 HVb5 HK5 HR5 HS5 hpk hlt0 hlt1 hF
  go_wp2_with fail
  with_reducible refine HPk.out.mono ?_
  rintro e w7 ⟨rfl, rfl⟩
  obtain ⟨r0, r1, r2, r3, r4, r5, rw1⟩ := HR6
  obtain ⟨s0, s1, s2, s3, s4, s5, sw1⟩ := HS6
  have hq6 : q < w6.heap.size := World.block_lt_of_cell? w6 ⟨q, 0, none⟩ s0
  have hp6 : p < w6.heap.size := World.block_lt_of_cell? w6 ⟨p, 0, none⟩ r0
  have hq7 : q < w6.heap.size + 1 := by omega
  have hq8 : q < w6.heap.size + 1 + 1 := by omega
  have hq9 : q < w6.heap.size + 1 + 1 + 1 := by omega
  have hq10 : q < w6.heap.size + 1 + 1 + 1 + 1 := by omega
  have HSix := Hid_mk fun V => six_made HVa6.out HVb6.out 30 V
  go_upto_region 6 with fail
  refine wp_name (fun V => Kp No w6 V ∧ ReL All V (w6.heap.size + 1 + 1 + 1 + 1) 0 (six ta tb) ∧ V.heap.size = w6.heap.size + 5) (HSix.out _ rfl) ?_
  rintro W7 ⟨hk7, hl7, hz7⟩
  obtain ⟨b, hb⟩ : ∃ b, w6.heap.size + 1 + 1 + 1 + 1 = b := ⟨_, rfl⟩
  rw [hb] at hl7 ⊢
  obtain ⟨Z, hZ⟩ : ∃ Z, W7.heap.size = Z := ⟨_, rfl⟩
  have HZ7 := Hid_mk hZ
  have HK7 := Hid_mk (HK6.out.trans' hk7)
  have HL7 := Hid_mk hl7
  clear hk7 hl7 hz7 hb hZ hq6 hp6 hq7 hq8 hq9 hq10 r0 r1 r2 r3 r4 r5 rw1 s0 s1 s2 s3 s4 s5 sw1 HSix HVa6 HVb6 HPk
  go_upto_region 8 with fail
  rw [HZ7.out]
  refine wp_name (fun V => RuAt W7 Z 0 (ruR ta tb l F) V) ?_ ?_
  · exact RuAt.start HZ7.out _ _ _
  rintro W8 h8
  have H8 := Hid_mk h8
  clear h8
  have HRt := Hid_mk (six_right HGa.out HGb.out)
  have HFl := HF
  go_wp2_with fail
  go_loopw [15] (fun i wr => RuRel W7 Z (ruR ta tb l F) i wr) (fun i _ => 6 - (intOf i).toNat)
  case atStart => exact ⟨0, by decide, rfl, H8.out⟩
  case round =>
    obtain ⟨n, hn, rfl, hA⟩ := hrel
    have HA := Hid_mk hA
    by_cases hlt : n < 6
    · have hni : (n : Int) < 6 := by omega
      have hn0 : (0 : Int) ≤ (n : Int) := Int.natCast_nonneg _
      have hn6 : (n : Int) ≤ 6 := by omega
      have HLt := Hid_mk hlt
      obtain ⟨xk, xf, xa, xn, xc, c0, c1, c2, c3, c4, c5, hv⟩ := (ReL.no hA.kp _ _ _ HL7.out).get n hlt
      simp only [Nat.zero_add] at c0 c1 c2 c3 c4 c5
      have htr : (six ta tb)[n]'hlt = (six ta tb).getD n ta := by rw [List.getD_eq_getElem?_getD, List.getElem?_eq_getElem hlt]; rfl
      rw [htr] at hv
      have hrt := HRt.out n hlt
      obtain ⟨R, hR⟩ : ∃ R, ruR ta tb l F = R := ⟨_, rfl⟩
      have hRn : ruR ta tb l F n = R n := by rw [hR]
      rw [hR] at HA ⊢
      unfold ruR at hRn
      obtain ⟨tr, htr2⟩ : ∃ tr, (six ta tb).getD n ta = tr := ⟨_, rfl⟩
      rw [htr2] at hv hrt hRn
      have HRt2 := Hid_mk hrt
      have HRn := Hid_mk hRn
      have HCm := Hid_mk (compile_any wr tr xk xf xa xn xc hv)
      clear hA hlt hn hv htr htr2 hrt hR hRn
      go_wp2_with fail
      with_reducible refine HCm.out.mono ?_
      rintro e w1 ⟨hk1, hor⟩
      have H1 := Hid_mk (HA.out.no hk1)
      rcases hor with ⟨-, mb, rfl, hm, -⟩ | ⟨hno, -⟩
      · have HM := Hid_mk hm
        have hat := at_m w1 mb tr (st l) F hm HRt2.out (by rw [st_size]; omega) (by rw [st_size]; exact HF.out)
        rw [HRn.out] at hat
        have HAt := Hid_mk hat
        clear hk1 hm hat c0 c1 c2 c3 c4 c5 HCm
        go_wp2_with fail
        with_reducible refine HAt.out.mono ?_
        rintro e w2 ⟨rfl, hk2⟩
        have h2 := H1.out.no hk2
        have H2 := Hid_mk h2
        have y0 := h2.ends n HLt.out
        have y1 := h2.iss n HLt.out
        have y2 := h2.cz n
        have y3 := h2.cy n
        rw [if_neg (Nat.lt_irrefl n)] at y0 y1
        have HAgain := Hid_mk h2
        clear h2 hk2 HAt
        go_wp2
        go_roundw
        case rel => exact ⟨n + 1, HLt.out, by go_num, H2.out.put HZ7.out⟩
        case measure => have := HLt.out; simp [intOf]; omega
      · rw [HRt2.out] at hno; cases hno
    · obtain rfl : n = 6 := by omega
      have z0 := hA.ends 0 (by decide)
      have z1 := hA.ends 1 (by decide)
      have z2 := hA.ends 2 (by decide)
      have z3 := hA.ends 3 (by decide)
      have z4 := hA.ends 4 (by decide)
      have z5 := hA.ends 5 (by decide)
      have b0 := hA.iss 0 (by decide)
      have b1 := hA.iss 1 (by decide)
      have b2 := hA.iss 2 (by decide)
      have b3 := hA.iss 3 (by decide)
      have b4 := hA.iss 4 (by decide)
      have b5 := hA.iss 5 (by decide)
      rw [if_pos (by decide)] at z0 z1 z2 z3 z4 z5 b0 b1 b2 b3 b4 b5
      clear hn hlt hA
      go_wp2_with fail
      with_reducible refine (HKn.out _).mono ?_
      rintro e w5 ⟨rfl, hk5⟩
      have HK5 := Hid_mk ((HK7.out.trans' HA.out.kp).trans' hk5)
      have z0 := hk5.cell' z0 id
      have z1 := hk5.cell' z1 id
      have z2 := hk5.cell' z2 id
      have z3 := hk5.cell' z3 id
      have z4 := hk5.cell' z4 id
      have z5 := hk5.cell' z5 id
      have b0 := hk5.cell' b0 id
      have b1 := hk5.cell' b1 id
      have b2 := hk5.cell' b2 id
      have b3 := hk5.cell' b3 id
      have b4 := hk5.cell' b4 id
      have b5 := hk5.cell' b5 id
      have hrules := rules_ok HGa.out HGb.out l F HF.out
      obtain ⟨R, hR⟩ : ∃ R, ruR ta tb l F = R := ⟨_, rfl⟩
      rw [hR] at hrules z0 z1 z2 z3 z4 z5 b0 b1 b2 b3 b4 b5
      have f2 := hrules.alt
      have f3 := hrules.star
      have f4 := hrules.plus
      have f5 := hrules.opt
      have HRu := Hid_mk hrules
      clear hrules hk5 hR
      rw [f2] at b2
      rw [f3] at b3
      rw [f4] at b4
      rw [f5] at b5
      clear f2 f3 f4 f5
      obtain ⟨x0, hx0⟩ : ∃ x, (R 0).2 = x := ⟨_, rfl⟩
      obtain ⟨x1, hx1⟩ : ∃ x, (R 1).2 = x := ⟨_, rfl⟩
      rw [hx0] at b0 b2 b4
      rw [hx1] at b1 b2
      have HX0 := Hid_mk hx0
      have HX1 := Hid_mk hx1
      clear hx0 hx1
      have hge := HRu.out.ge
      have hno := HRu.out.no0
      have hg0 := HRu.out.ge0
      have hm0 := HRu.out.most0
      have hm1 := HRu.out.most1
      have hm2 := HRu.out.most2
      rw [HX0.out] at hno hg0 hm0 hm1 hm2
      rw [HX1.out] at hm0 hm1 hm2
      clear HRu HX0 HX1
      obtain ⟨e0, he0⟩ : ∃ e, (R 0).1 = e := ⟨_, rfl⟩
      obtain ⟨e1, he1⟩ : ∃ e, (R 1).1 = e := ⟨_, rfl⟩
      obtain ⟨e2, he2⟩ : ∃ e, (R 2).1 = e := ⟨_, rfl⟩
      obtain ⟨e3, he3⟩ : ∃ e, (R 3).1 = e := ⟨_, rfl⟩
      obtain ⟨e4, he4⟩ : ∃ e, (R 4).1 = e := ⟨_, rfl⟩
      obtain ⟨e5, he5⟩ : ∃ e, (R 5).1 = e := ⟨_, rfl⟩
      rw [he0] at z0 hg0 hm0 hm2
      rw [he1] at z1 hm1 hm2
      rw [he2] at z2 hm0 hm1 hm2
      rw [he3] at z3 hge hno hg0
      rw [he4] at z4 hg0
      rw [he5] at z5 hno hg0
      clear he0 he1 he2 he3 he4 he5
      have hge' : (F : Int) ≤ (e3 : Int) := by omega
      have c0 : (-1 : Int) ≤ (e0 : Int) := by omega
      have c1 : (-1 : Int) ≤ (e1 : Int) := by omega
      rcases x0 with _ | _
      · obtain ⟨rfl, rfl⟩ := hno rfl
        rcases x1 with _ | _
        · clear hm0 hm1 hm2 hg0 hge hno
          go_wp2
          go_ret
          exact ⟨rfl, HK5.out⟩
        · obtain ⟨g, hg⟩ : ∃ g, e1 = g := ⟨_, rfl⟩
          obtain rfl := hm1 rfl rfl
          clear hg
          have hmx : max (-1 : Int) (e2 : Int) = (e2 : Int) := by omega
          have hc1 : (0 : Int) ≤ (e2 : Int) := Int.natCast_nonneg _
          clear hm0 hm1 hm2 hg0 hge hno c0 c1
          go_wp2_with fail
          go_ret
          exact ⟨rfl, HK5.out⟩
      · obtain ⟨g1, rfl, rfl⟩ := hg0 rfl
        have g1' : (e0 : Int) ≤ (e4 : Int) := by omega
        have gm : ((max F e0 : Nat) : Int) = max (F : Int) (e0 : Int) := by omega
        rw [gm] at z5
        rcases x1 with _ | _
        · obtain rfl := hm0 rfl rfl
          clear hm0 hm1 hm2 hno hge g1 hg0
          go_wp2
          go_ret
          exact ⟨rfl, HK5.out⟩
        · obtain rfl := hm2 rfl rfl
          have gn : ((max e0 e1 : Nat) : Int) = max (e0 : Int) (e1 : Int) := by omega
          rw [gn] at z2
          clear hm0 hm1 hm2 hno hge g1 hg0
          go_wp2
          go_ret
          exact ⟨rfl, HK5.out⟩

end Go.Proofs.Ytaneblecgjahbab.nfa
