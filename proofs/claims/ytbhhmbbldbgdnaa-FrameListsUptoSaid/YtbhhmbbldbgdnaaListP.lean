/- What a list of frames is: plain lists. -/
import Derived.Test.YtbhhmbbldbgdnaaFirst
namespace Go.Proofs.Ytbhhmbbldbgdnaa.frm
open Go.RowKit Go.Proofs.Ytbhhmbbldbgdnaa.sum Go.Proofs.Ytbhhmbbldbgdnaa.kept Go.Proofs.Ytbhhmbbldbgdnaa.fl Go.Proofs.Ytbhhmbbldbgdnaa.seal Go.Proofs.Ytbhhmbbldbgdnaa.unseal Go.Proofs.Ytbhhmbbldbgdnaa.turnedPlain
set_option linter.unusedVariables false

theorem firstP_len {bs xs : List UInt8} (h : firstP bs = some xs) : xs.length + 10 ≤ bs.length ∧ xs.length = num4 bs ∧ xs.length ≤ 4194304 := by
  unfold firstP at h
  split at h
  · rename_i hc
    obtain ⟨h1, h2, h3, -⟩ := hc
    injection h with h
    subst h
    simp only [List.length_take, List.length_drop]
    omega
  · cases h

/-- the frames that are whole from the left, and where they end -/
def listP (bs : List UInt8) : List (List UInt8) × Nat :=
  match h : firstP bs with
  | none => ([], 0)
  | some xs => (xs :: (listP (bs.drop (xs.length + 10))).1, xs.length + 10 + (listP (bs.drop (xs.length + 10))).2)
termination_by bs.length
decreasing_by all_goals (have := (firstP_len h).1; rw [List.length_drop]; omega)

theorem listP_none {bs : List UInt8} (h : firstP bs = none) : listP bs = ([], 0) := by
  rw [listP]
  split
  · rfl
  · rename_i x e; rw [h] at e; cases e
theorem listP_some {bs xs : List UInt8} (h : firstP bs = some xs) : listP bs = (xs :: (listP (bs.drop (xs.length + 10))).1, xs.length + 10 + (listP (bs.drop (xs.length + 10))).2) := by
  rw [listP]
  split
  · rename_i e; rw [h] at e; cases e
  · rename_i x e
    rw [h] at e
    injection e with e
    subst e
    rfl

/-- A frame at the beginning of bytes. -/
theorem num4_len4 (n : Nat) (hn : n < 4294967296) (t : List UInt8) : num4 (len4 n ++ t) = n := by
  unfold num4 num3 len4
  simp only [List.cons_append, List.nil_append, List.getD_cons_zero, List.getD_cons_succ, u8_toNat]
  omega
theorem firstP_framed {bs : List UInt8} (h : bs.length ≤ 4194304) (t : List UInt8) : firstP (framed bs ++ t) = some bs := by
  have so := sealed_ok bs
  have e1 : (framed bs ++ t).drop 4 = sealed bs ++ t := by
    rw [framed_some h, List.append_assoc, List.drop_append_of_le_length (by rw [len4_len]; omega)]
    simp [len4]
  have e2 : (sealed bs ++ t).take (bs.length + 6) = sealed bs := by
    rw [List.take_append_of_le_length (by rw [so.1]; omega), List.take_of_length_le (by rw [so.1]; omega)]
  have e3 : num4 (framed bs ++ t) = bs.length := by
    rw [framed_some h, List.append_assoc]
    exact num4_len4 _ (by omega) _
  unfold firstP
  rw [e3, e1, e2, so.2.1, so.2.2]
  exact if_pos ⟨by rw [List.length_append, framed_len h]; omega, h, by rw [List.length_append, framed_len h]; omega, rfl⟩
theorem listP_framed {bs : List UInt8} (h : bs.length ≤ 4194304) (t : List UInt8) : listP (framed bs ++ t) = (bs :: (listP t).1, bs.length + 10 + (listP t).2) := by
  rw [listP_some (firstP_framed h t)]
  have e : (framed bs ++ t).drop (bs.length + 10) = t := by
    rw [List.drop_append, List.drop_of_length_le (by rw [framed_len h]; omega), framed_len h]
    simp
  rw [e]
theorem firstP_short {bs : List UInt8} (h : bs.length < 10) : firstP bs = none := by
  unfold firstP
  rw [if_neg (by omega)]

/-- frames one behind the other -/
def allF (l : List (List UInt8)) : List UInt8 := (l.map framed).flatten
theorem allF_cons (b : List UInt8) (l : List (List UInt8)) : allF (b :: l) = framed b ++ allF l := rfl
theorem allF_snoc (l : List (List UInt8)) (b : List UInt8) : allF (l ++ [b]) = allF l ++ framed b := by simp [allF]
theorem listP_all (l : List (List UInt8)) (h : ∀ b ∈ l, b.length ≤ 4194304) (t : List UInt8) : listP (allF l ++ t) = (l ++ (listP t).1, (allF l).length + (listP t).2) := by
  induction l with
  | nil => simp [allF]
  | cons b l ih =>
    rw [allF_cons, List.append_assoc, listP_framed (h b (by simp)), ih fun c hc => h c (by simp [hc])]
    simp only [List.cons_append, List.length_append, framed_len (h b (by simp))]
    congr 1
    omega
theorem listP_nil : listP [] = ([], 0) := listP_none (firstP_short (by simp))

/-- at a place, with these before it -/
def At (bs : List UInt8) (l : List (List UInt8)) (k : Nat) : Prop := k ≤ bs.length ∧ listP bs = (l ++ (listP (bs.drop k)).1, k + (listP (bs.drop k)).2)
theorem At.start (bs : List UInt8) : At bs [] 0 := ⟨Nat.zero_le _, by simp⟩
theorem At.next {bs xs : List UInt8} {l : List (List UInt8)} {k : Nat} (h : At bs l k) (hf : firstP (bs.drop k) = some xs) : At bs (l ++ [xs]) (k + (xs.length + 10)) := by
  have hl := (firstP_len hf).1
  rw [List.length_drop] at hl
  have h1 := h.1
  refine ⟨by omega, ?_⟩
  rw [h.2, listP_some hf, List.drop_drop]
  simp only [List.append_assoc, List.singleton_append]
  congr 1
  omega
theorem At.done {bs : List UInt8} {l : List (List UInt8)} {k : Nat} (h : At bs l k) (hf : firstP (bs.drop k) = none) : listP bs = (l, k) := by
  rw [h.2, listP_none hf]; simp

end Go.Proofs.Ytbhhmbbldbgdnaa.frm
