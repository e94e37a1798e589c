/- What is quoted is parsed as a row of its bytes: no program. -/
import Derived.Test.YtfgjfenbflihbaaEreQuote
import Derived.Test.YtfgjfenbflihbaaRefSame
import Derived.Test.YtfgjfenbflihbaaRefOne
namespace Go.Proofs.Ytfgjfenbflihbaa.ere
open Go.RowKit Go.Proofs.Ytfgjfenbflihbaa.sum Go.Proofs.Ytfgjfenbflihbaa.kept Go.Proofs.Ytfgjfenbflihbaa.pop Go.Proofs.Ytfgjfenbflihbaa.cls Go.Proofs.Ytfgjfenbflihbaa.tre Go.Proofs.Ytfgjfenbflihbaa.str
set_option linter.unusedVariables false

theorem octQ_len (x : Nat) : (octQ x).length = 4 := rfl
theorem quote_get : ∀ (l : List UInt8) (i j : Nat) (hi : i < l.length) (hj : j < 4), atB (quoteS l) (4 * i + j) = atB (octQ (atB l i)) j
  | x :: l, 0, j, _, hj => by
    have e : quoteS (x :: l) = octQ x.toNat ++ quoteS l := rfl
    unfold atB
    rw [e, Nat.mul_zero, Nat.zero_add, List.getD_eq_getElem?_getD, List.getElem?_append_left (by rw [octQ_len]; exact hj), ← List.getD_eq_getElem?_getD]
    rfl
  | x :: l, i + 1, j, hi, hj => by
    have e : quoteS (x :: l) = octQ x.toNat ++ quoteS l := rfl
    have ih := quote_get l i j (by simpa using hi) hj
    unfold atB at ih ⊢
    rw [e, List.getD_eq_getElem?_getD, List.getElem?_append_right (by rw [octQ_len]; omega), octQ_len, show 4 * (i + 1) + j - 4 = 4 * i + j by omega, ← List.getD_eq_getElem?_getD, ih]
    simp
/-- the four bytes -/
theorem quote_bytes (l : List UInt8) (i : Nat) (hi : i < l.length) : ∃ x, x = atB l i ∧ x < 256 ∧ atB (quoteS l) (4 * i) = 92 ∧ atB (quoteS l) (4 * i + 1) = 48 + x / 64 ∧ atB (quoteS l) (4 * i + 2) = 48 + x / 8 % 8 ∧ atB (quoteS l) (4 * i + 3) = 48 + x % 8 := by
  have hx : atB l i < 256 := (l.getD i 0).toNat_lt
  refine ⟨atB l i, rfl, hx, ?_, ?_, ?_, ?_⟩
  · have := quote_get l i 0 hi (by decide)
    rw [Nat.add_zero] at this
    rw [this]
    rfl
  · rw [quote_get l i 1 hi (by decide)]
    show ((48 + atB l i / 64).toUInt8).toNat = _
    simp
    omega
  · rw [quote_get l i 2 hi (by decide)]
    show ((48 + atB l i / 8 % 8).toUInt8).toNat = _
    simp
    omega
  · rw [quote_get l i 3 hi (by decide)]
    show ((48 + atB l i % 8).toUInt8).toNat = _
    simp
    omega

section
variable (l : List UInt8) (bk : Nat → Option ((Nat → Bool) × Nat))
theorem q_not (i : Nat) (hi : i < l.length) (bs : List Nat) (h : bs.contains 92 = false) : seesB (quoteS l) (4 * i) bs = false := by
  obtain ⟨x, -, -, h0, -⟩ := quote_bytes l i hi
  unfold seesB
  rw [h0, h, Bool.and_false]
theorem q_end (bs : List Nat) : seesB (quoteS l) (4 * l.length) bs = false := by
  unfold seesB
  rw [quote_len, decide_eq_false (by omega), Bool.false_and]
theorem q_nots (i : Nat) (hi : i ≤ l.length) (bs : List Nat) (h : bs.contains 92 = false) : seesB (quoteS l) (4 * i) bs = false := by
  by_cases e : i = l.length
  · rw [e]; exact q_end l bs
  · exact q_not l i (by omega) bs h
theorem q_atom (n o i : Nat) (hi : i < l.length) : atomF (quoteS l) bk (n + 1) o (4 * i) = .ok (setT (ofL [l.getD i 0])) (4 * (i + 1)) := by
  obtain ⟨x, hx, hx256, h0, h1, h2, h3⟩ := quote_bytes l i hi
  have hlen := quote_len l
  have ho1 : octB (quoteS l) (4 * i + 1) = true := by unfold octB; rw [h1, hlen, decide_eq_true (by omega), decide_eq_true (by omega), decide_eq_true (by omega)]; rfl
  have ho2 : octB (quoteS l) (4 * i + 1 + 1) = true := by unfold octB; rw [show 4 * i + 1 + 1 = 4 * i + 2 from rfl, h2, hlen, decide_eq_true (by omega), decide_eq_true (by omega), decide_eq_true (by omega)]; rfl
  have ho3 : octB (quoteS l) (4 * i + 1 + 2) = true := by unfold octB; rw [show 4 * i + 1 + 2 = 4 * i + 3 from rfl, h3, hlen, decide_eq_true (by omega), decide_eq_true (by omega), decide_eq_true (by omega)]; rfl
  have hn : octN (quoteS l) (4 * i + 1) = 3 := by unfold octN; rw [if_pos ho1, if_pos ho2, if_pos ho3]
  have hv : octV (quoteS l) (4 * i + 1) 3 = x := by
    simp only [octV, Nat.add_zero]
    rw [h1, show 4 * i + 1 + 1 = 4 * i + 2 from rfl, h2, show 4 * i + 1 + 2 = 4 * i + 3 from rfl, h3]
    omega
  rw [atomF, if_neg (fun e => e.elim (fun e => by omega) (fun e => by rw [q_not l i hi _ (by decide)] at e; cases e)), h0, if_neg (by decide), if_neg (by decide), if_pos rfl, if_neg (by omega), if_neg (by rw [hn]; decide), hn, hv, hx]
  have e : (atB l i).toUInt8 = l.getD i 0 := by unfold atB; simp
  rw [e, show 4 * i + 1 + 3 = 4 * (i + 1) by omega]
theorem q_piece (n o i : Nat) (hi : i < l.length) : pieceF (quoteS l) bk (n + 2) o (4 * i) = .ok (setT (ofL [l.getD i 0])) (4 * (i + 1)) := by
  rw [pieceF, q_atom l bk n o i hi]
  simp only
  rw [signsF, if_neg (by rw [q_nots l (i + 1) hi _ (by decide)]; simp)]
/-- the sets of the bytes from a place on -/
def setsFrom (l : List UInt8) : List Tr := l.map fun x => setT (ofL [x])
theorem q_pieces (o : Nat) : ∀ (d n i : Nat), i + (d + 1) = l.length → d + 3 ≤ n → piecesF (quoteS l) bk n o (4 * i) = .ok (setsFrom (l.drop i)) (4 * l.length)
  | d, n, i, hi, hn => by
    obtain ⟨m, rfl⟩ : ∃ m, n = m + 3 := ⟨n - 3, by omega⟩
    have hil : i < l.length := by omega
    have e : l.drop i = l.getD i 0 :: l.drop (i + 1) := by
      rw [List.drop_eq_getElem_cons hil]
      simp [List.getD, hil]
    rw [piecesF, q_piece l bk m o i hil]
    simp only
    cases d with
    | zero =>
      rw [if_pos (.inl (by rw [quote_len]; omega)), e, List.drop_eq_nil_of_le (by omega : l.length ≤ i + 1), show i + 1 = l.length by omega]
      rfl
    | succ d =>
      rw [if_neg (fun h => h.elim (fun h => by rw [quote_len] at h; omega) (fun h => by rw [q_not l (i + 1) (by omega) _ (by decide)] at h; cases h)), q_pieces o d (m + 2) (i + 1) (by omega) (by omega), e]
      rfl
end

theorem sets_of : ∀ l : List UInt8, setsL (setsFrom l) = l.length
  | [] => by simp [setsFrom, setsL]
  | x :: l => by
    have := sets_of l
    have e : setsFrom (x :: l) = setT (ofL [x]) :: setsFrom l := rfl
    have e1 : setsS (setT (ofL [x])) = 1 := by unfold setT; rw [setsS]
    rw [e, setsL, this, e1, List.length_cons]
    omega
theorem high_set (f : Nat → Bool) : highS (setT f) = 1 := by unfold setT; simp [highS, highL]
theorem high_of : ∀ l : List UInt8, l ≠ [] → highS (joinT 2 (setsFrom l)) ≤ 2
  | [], h => absurd rfl h
  | [x], _ => by
    show highS (setT (ofL [x])) ≤ 2
    rw [high_set]
    decide
  | x :: y :: l, _ => by
    have ih := high_of (y :: l) (by simp)
    show highS (kid2 2 (setT (ofL [x])) (joinT 2 (setsFrom (y :: l)))) ≤ 2
    rw [high2 2 (.inl rfl), high_set]
    omega
theorem fits_of (l : List UInt8) (h : l ≠ []) (hl : l.length ≤ 400) : fitsB (joinT 2 (setsFrom l)) = true := by
  unfold fitsB
  rw [setsJ 2 _ (by cases l with
    | nil => exact absurd rfl h
    | cons x l => simp [setsFrom]), sets_of, decide_eq_true hl, decide_eq_true (Nat.le_trans (high_of l h) (by decide))]
  rfl
theorem q_parse (l : List UInt8) (bk : Nat → Option ((Nat → Bool) × Nat)) (h : l ≠ []) (hl : l.length ≤ 400) : parseS (quoteS l) bk (8 * (quoteS l).length + 8) = (joinT 2 (setsFrom l), 0, 0) := by
  have hp : 0 < l.length := List.length_pos_iff.2 h
  have hne : quoteS l ≠ [] := fun e => by have := quote_len l; rw [e] at this; simp at this; omega
  obtain ⟨m, hm⟩ : ∃ m, 8 * (quoteS l).length + 8 = m + 2 := ⟨8 * (quoteS l).length + 6, rfl⟩
  have hmm : l.length + 2 ≤ m := by have := quote_len l; omega
  have hpc := q_pieces l bk 0 (l.length - 1) m 0 (by omega) (by omega)
  rw [Nat.mul_zero, List.drop_zero] at hpc
  unfold parseS
  rw [if_neg hne, hm, altsF, rowF, hpc]
  simp only [Ls.join]
  rw [if_neg (by rw [q_end]; simp)]
  simp only
  rw [quote_len, if_neg (Nat.lt_irrefl _)]
  show (if fitsB (joinT 2 (setsFrom l)) = true then (joinT 2 (setsFrom l), 0, 0) else (leafT 0, 0, 24)) = _
  rw [if_pos (fits_of l h hl)]
theorem q_no (l : List UInt8) (c : Nat) (h : c ≠ 92) (h2 : c < 48 ∨ 55 < c) : ∀ k, k < (quoteS l).length → atB (quoteS l) k ≠ c := fun k hk e => by
  rw [quote_len] at hk
  obtain ⟨x, -, hx, h0, h1, h2', h3⟩ := quote_bytes l (k / 4) (by omega)
  have : k = 4 * (k / 4) ∨ k = 4 * (k / 4) + 1 ∨ k = 4 * (k / 4) + 2 ∨ k = 4 * (k / 4) + 3 := by omega
  generalize k / 4 = i at *
  rcases this with rfl | rfl | rfl | rfl <;> omega
theorem same_one (x : UInt8) : sameS (setT (ofL [x])) (oneT x.toNat) = true := by
  have hf : ∀ b, ofL [x] b = oneS x.toNat b := fun b => by
    unfold ofL oneS
    simp only [List.any_cons, List.any_nil, Bool.or_false]
    rw [Bool.eq_iff_iff]
    simp only [beq_iff_eq]
    exact ⟨fun h => h.symm, fun h => h.symm⟩
  have he : ofL [x] = oneS x.toNat := funext hf
  unfold setT oneT
  rw [sameS, he]
  simp [eqB, sameL]

end Go.Proofs.Ytfgjfenbflihbaa.ere
