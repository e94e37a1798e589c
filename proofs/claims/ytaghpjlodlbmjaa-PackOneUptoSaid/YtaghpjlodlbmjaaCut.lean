/- PackCut: the law's walk. -/
import Derived.Test.YtaghpjlodlbmjaaBackPlain
namespace Go.Proofs.Ytaghpjlodlbmjaa.cut
open Go.RowKit Go.Proofs.Ytaghpjlodlbmjaa.sum Go.Proofs.Ytaghpjlodlbmjaa.kept Go.Proofs.Ytaghpjlodlbmjaa.app Go.Proofs.Ytaghpjlodlbmjaa.writer Go.Proofs.Ytaghpjlodlbmjaa.clone Go.Proofs.Ytaghpjlodlbmjaa.known Go.Proofs.Ytaghpjlodlbmjaa.unseal Go.Proofs.Ytaghpjlodlbmjaa.number Go.Proofs.Ytaghpjlodlbmjaa.words Go.Proofs.Ytaghpjlodlbmjaa.turned Go.Proofs.Ytaghpjlodlbmjaa.laid Go.Proofs.Ytaghpjlodlbmjaa.back Go.Proofs.Ytaghpjlodlbmjaa.reader
set_option linter.unusedVariables false

/-- the first m of the bytes, k things read: all well, or it has ended too early -/
def CutSt (ls : List LayD) (m k at_ bad : Nat) : Prop :=
  (bad = 0 ∧ at_ = (layAll (ls.take k)).length ∧ at_ ≤ m) ∨ bad = 10

/-- where one stands before the next thing -/
theorem cut_step {ls : List LayD} {m k at_ : Nat} {d : LayD} (h : k < ls.length) (hd : ls[k] = d) (hst : CutSt ls m k at_ 0) :
    (∃ r, ((layAll ls).take m).drop at_ = layOne d ++ r ∧ CutSt ls m (k + 1) (at_ + (layOne d).length) 0) ∨ (∃ q, ((layAll ls).take m).drop at_ = (layOne d).take q ∧ q < (layOne d).length) := by
  subst hd
  rcases hst with ⟨-, rfl, hle⟩ | h
  · have e : layAll ls = layAll (ls.take k) ++ (layOne ls[k] ++ layAll (ls.drop (k + 1))) := by
      have e1 : ls = ls.take k ++ ls[k] :: ls.drop (k + 1) := by
        conv => lhs; rw [← List.take_append_drop k ls]
        rw [List.drop_eq_getElem_cons h]
      unfold layAll
      conv => lhs; rw [e1, List.flatMap_append, List.flatMap_cons]
    have hdrop : ((layAll ls).take m).drop (layAll (ls.take k)).length = (layOne ls[k] ++ layAll (ls.drop (k + 1))).take (m - (layAll (ls.take k)).length) := by
      rw [List.drop_take, e, List.drop_left]
    rw [hdrop]
    by_cases hq : (layOne ls[k]).length ≤ m - (layAll (ls.take k)).length
    · left
      refine ⟨_, by rw [List.take_append, List.take_of_length_le hq], .inl ⟨rfl, ?_, by omega⟩⟩
      rw [layAll_snoc h, List.length_append]
    · right
      exact ⟨m - (layAll (ls.take k)).length, by rw [List.take_append_of_le_length (by omega)], by omega⟩
  · omega

theorem st_byte {ls : List LayD} {m k at_ bad : Nat} {b : UInt8} (hb : bad = 0 ∨ bad = 10)
    (hs : bad = 0 → (∃ r, ((layAll ls).take m).drop at_ = [b] ++ r ∧ CutSt ls m (k + 1) (at_ + [b].length) 0) ∨ (∃ q, ((layAll ls).take m).drop at_ = [b].take q ∧ q < [b].length)) :
    CutSt ls m (k + 1) (rByte ((layAll ls).take m) at_ bad 255).2.1 (rByte ((layAll ls).take m) at_ bad 255).2.2 := by
  have hx : b.toNat < 256 := UInt8.toNat_lt _
  rcases hb with rfl | rfl
  · rcases hs rfl with ⟨r, h1, h2⟩ | ⟨q, h1, h2⟩
    · rw [byte_ok (b := b) (r := r) h1 (by omega)]; exact h2
    · obtain rfl : q = 0 := by simp at h2; omega
      rw [byte_cut h1]; exact .inr rfl
  · right; unfold rByte; simp
theorem st_num {ls : List LayD} {m k at_ bad n : Nat} (hn : n < U64) (hb : bad = 0 ∨ bad = 10)
    (hs : bad = 0 → (∃ r, ((layAll ls).take m).drop at_ = num n ++ r ∧ CutSt ls m (k + 1) (at_ + (num n).length) 0) ∨ (∃ q, ((layAll ls).take m).drop at_ = (num n).take q ∧ q < (num n).length)) :
    CutSt ls m (k + 1) (rNum ((layAll ls).take m) at_ bad 18446744073709551615).2.1 (rNum ((layAll ls).take m) at_ bad 18446744073709551615).2.2 := by
  rcases hb with rfl | rfl
  · rcases hs rfl with ⟨r, h1, h2⟩ | ⟨q, h1, h2⟩
    · rw [num_ok h1 hn (by rw [u64_eq] at hn; omega)]; exact h2
    · rw [num_cut h1 hn h2]; exact .inr rfl
  · right; unfold rNum; simp
theorem st_float {ls : List LayD} {m k at_ bad x : Nat} (hx : x < U64) (hb : bad = 0 ∨ bad = 10)
    (hs : bad = 0 → (∃ r, ((layAll ls).take m).drop at_ = bytesN 8 (canon x) ++ r ∧ CutSt ls m (k + 1) (at_ + (bytesN 8 (canon x)).length) 0) ∨ (∃ q, ((layAll ls).take m).drop at_ = (bytesN 8 (canon x)).take q ∧ q < (bytesN 8 (canon x)).length)) :
    CutSt ls m (k + 1) (rFloat ((layAll ls).take m) at_ bad).2.1 (rFloat ((layAll ls).take m) at_ bad).2.2 := by
  rcases hb with rfl | rfl
  · rcases hs rfl with ⟨r, h1, h2⟩ | ⟨q, h1, h2⟩
    · rw [float_ok h1 hx]
      rw [bytesN_len] at h2
      exact h2
    · rw [bytesN_len] at h2
      rw [float_cut (by rw [h1, List.length_take, bytesN_len]; omega)]; exact .inr rfl
  · right; unfold rFloat; simp
theorem st_text {ls : List LayD} {m k at_ bad : Nat} {t : List UInt8} (ht : t.length < U64) (hb : bad = 0 ∨ bad = 10)
    (hs : bad = 0 → (∃ r, ((layAll ls).take m).drop at_ = num t.length ++ t ++ r ∧ CutSt ls m (k + 1) (at_ + (num t.length ++ t).length) 0) ∨ (∃ q, ((layAll ls).take m).drop at_ = (num t.length ++ t).take q ∧ q < (num t.length ++ t).length)) :
    CutSt ls m (k + 1) (rText ((layAll ls).take m) at_ bad t.length).2.1 (rText ((layAll ls).take m) at_ bad t.length).2.2 := by
  rcases hb with rfl | rfl
  · rcases hs rfl with ⟨r, h1, h2⟩ | ⟨q, h1, h2⟩
    · rw [text_ok h1 ht (Nat.le_refl _)]; exact h2
    · exact .inr (text_cut h1 ht (Nat.le_refl _) h2)
  · right; unfold rText rNum; simp

theorem st_bad {ls : List LayD} {m k at_ bad : Nat} (h : CutSt ls m k at_ bad) : bad = 0 ∨ bad = 10 := by
  rcases h with ⟨h, _⟩ | h
  · exact .inl h
  · exact .inr h

theorem num_max (w : World) (p : Nat) (v : Value) (bs : List UInt8) (at_ bad : Nat) (h : Rd w p v bs at_ bad) :
    Calls Try.prog 39 #[.pointer (some ⟨p, 0, none⟩), .int .u64 18446744073709551615] w (RdPost w p v bs (.int .u64 ((rNum bs at_ bad 18446744073709551615).1 : Int)) (rNum bs at_ bad 18446744073709551615).2.1 (rNum bs at_ bad 18446744073709551615).2.2) :=
  reader.num_any w p v bs at_ bad 18446744073709551615 h
theorem text_len (w : World) (p : Nat) (v : Value) (bs : List UInt8) (at_ bad : Nat) (t : ByteArray) (ht : t.size < 140737488355328) (h : Rd w p v bs at_ bad) :
    Calls Try.prog 41 #[.pointer (some ⟨p, 0, none⟩), .int .i64 (t.size : Int)] w (RdPost w p v bs (.string ⟨(rText bs at_ bad t.data.toList.length).1.toArray⟩) (rText bs at_ bad t.data.toList.length).2.1 (rText bs at_ bad t.data.toList.length).2.2) := by
  have := reader.text_any w p v bs at_ bad (t.size : Int) (by omega) h
  rw [show ((t.size : Int)).toNat = t.data.toList.length by rw [Array.length_toList]; show _ = t.size; omega] at this
  exact this

def CutRel (w : World) (p : Nat) (vR : Value) (ls : List LayD) (m : Nat) (i : Value) (wr : World) : Prop :=
  ∃ k at_ bad, k ≤ ls.length ∧ i = .int .i64 ((k : Nat) : Int) ∧ CutSt ls m k at_ bad ∧ Rd wr p vR ((layAll ls).take m) at_ bad ∧ Kp No w wr

end Go.Proofs.Ytaghpjlodlbmjaa.cut
