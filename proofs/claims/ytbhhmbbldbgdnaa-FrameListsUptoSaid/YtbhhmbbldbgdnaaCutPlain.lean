/- Frames cut off anywhere, and a frame with a byte turned: plain lists. -/
import Derived.Test.YtbhhmbbldbgdnaaListP
namespace Go.Proofs.Ytbhhmbbldbgdnaa.frm
open Go.RowKit Go.Proofs.Ytbhhmbbldbgdnaa.sum Go.Proofs.Ytbhhmbbldbgdnaa.kept Go.Proofs.Ytbhhmbbldbgdnaa.fl Go.Proofs.Ytbhhmbbldbgdnaa.seal Go.Proofs.Ytbhhmbbldbgdnaa.unseal Go.Proofs.Ytbhhmbbldbgdnaa.turnedPlain
set_option linter.unusedVariables false

theorem num4_take {bs : List UInt8} {k : Nat} (h : 4 ≤ k) : num4 (bs.take k) = num4 bs := by
  unfold num4 num3
  simp [List.getD, show 0 < k by omega, show 1 < k by omega, show 2 < k by omega, show 3 < k by omega]

theorem firstP_cut {bs : List UInt8} (h : bs.length ≤ 4194304) {k : Nat} (hk : k < bs.length + 10) : firstP ((framed bs).take k) = none := by
  unfold firstP
  have hl := framed_len h
  rw [if_neg]
  rintro ⟨h1, h2, h3, -⟩
  rw [List.length_take] at h1 h3
  rw [num4_take (by omega)] at h3
  have e : num4 (framed bs) = bs.length := by rw [framed_some h]; exact num4_len4 _ (by omega) _
  omega

/-- where frame n begins -/
def place (l : List (List UInt8)) (n : Nat) : Nat := (allF (l.take n)).length
theorem place_zero (l : List (List UInt8)) : place l 0 = 0 := by simp [place, allF]
theorem place_all (l : List (List UInt8)) {n : Nat} (h : l.length ≤ n) : place l n = (allF l).length := by rw [place, List.take_of_length_le h]
theorem allF_append (a b : List (List UInt8)) : allF (a ++ b) = allF a ++ allF b := by simp [allF]

theorem listP_cut {l : List (List UInt8)} (h : ∀ b ∈ l, b.length ≤ 4194304) {n cut : Nat} (hn : n ≤ l.length) (h1 : place l n ≤ cut) (h2 : cut ≤ (allF l).length) (h3 : n < l.length → cut < place l (n + 1)) :
    listP ((allF l).take cut) = (l.take n, place l n) := by
  have hh : ∀ b ∈ l.take n, b.length ≤ 4194304 := fun b hb => h b (List.mem_of_mem_take hb)
  have e0 : allF l = allF (l.take n) ++ allF (l.drop n) := by rw [← allF_append, List.take_append_drop]
  have e1 : (allF l).take cut = allF (l.take n) ++ (allF (l.drop n)).take (cut - place l n) := by
    rw [e0, List.take_append, List.take_of_length_le (by unfold place at h1; omega)]
    rfl
  rw [e1, listP_all _ hh]
  have key : listP ((allF (l.drop n)).take (cut - place l n)) = ([], 0) := by
    rcases Nat.lt_or_ge n l.length with hlt | hge
    · have h4 := h3 hlt
      have e2 : l.drop n = l[n] :: l.drop (n + 1) := List.drop_eq_getElem_cons hlt
      have hb := h l[n] (List.getElem_mem hlt)
      have e3 : place l (n + 1) = place l n + (l[n].length + 10) := by
        unfold place
        rw [List.take_succ_eq_append_getElem hlt, allF_append, List.length_append]
        congr 1
        rw [allF_cons]
        simp [allF, framed_len hb]
      rw [e2, allF_cons, List.take_append_of_le_length (by rw [framed_len hb]; omega)]
      exact listP_none (firstP_cut hb (by omega))
    · rw [List.drop_of_length_le hge]
      simp only [allF, List.map_nil, List.flatten_nil, List.take_nil]
      exact listP_nil
  rw [key]
  simp [place]

/-- a frame with a byte behind its length turned is none -/
theorem firstP_turned {bs : List UInt8} (h : bs.length ≤ 4194304) {k : Nat} (hk : k < bs.length + 6) (y : UInt8) (hy : (framed bs).getD (4 + k) 0 ≠ y) : firstP ((framed bs).set (4 + k) y) = none := by
  have so := sealed_ok bs
  have e0 : (framed bs).set (4 + k) y = len4 bs.length ++ (sealed bs).set k y := by
    rw [framed_some h, List.set_append_right _ _ (by rw [len4_len]; omega), len4_len]
    congr 2
    omega
  have hy2 : (sealed bs).getD k 0 ≠ y := by
    intro e
    apply hy
    rw [framed_some h]
    simp only [List.getD] at e ⊢
    rw [List.getElem?_append_right (by rw [len4_len]; omega), len4_len, show 4 + k - 4 = k by omega]
    exact e
  have hbad := turned_bad bs k hk y hy2
  have hl : ((sealed bs).set k y).length = bs.length + 6 := by rw [List.length_set, so.1]
  unfold firstP
  rw [if_neg]
  rintro ⟨-, -, -, h4⟩
  rw [e0, num4_len4 _ (by omega)] at h4
  have e1 : ((len4 bs.length ++ (sealed bs).set k y).drop 4).take (bs.length + 6) = (sealed bs).set k y := by
    have : (len4 bs.length ++ (sealed bs).set k y).drop 4 = (sealed bs).set k y := by simp [len4]
    rw [this, List.take_of_length_le (by omega)]
  rw [e1] at h4
  exact hbad h4

end Go.Proofs.Ytbhhmbbldbgdnaa.frm
