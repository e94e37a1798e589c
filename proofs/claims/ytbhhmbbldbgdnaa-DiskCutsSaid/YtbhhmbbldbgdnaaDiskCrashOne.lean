/- A crash of a disk with one file, to which parts are pending: what can be left. -/
import Derived.Test.YtbhhmbbldbgdnaaDiskOwnWalk
namespace Go.Proofs.Ytbhhmbbldbgdnaa.dsk
open Go.RowKit Go.Maps Go.Proofs.Ytbhhmbbldbgdnaa.sum Go.Proofs.Ytbhhmbbldbgdnaa.kept Go.Proofs.Ytbhhmbbldbgdnaa.app Go.Proofs.Ytbhhmbbldbgdnaa.writer Go.Proofs.Ytbhhmbbldbgdnaa.clone Go.Proofs.Ytbhhmbbldbgdnaa.unseal Go.Proofs.Ytbhhmbbldbgdnaa.fs Go.Proofs.Ytbhhmbbldbgdnaa.fsMem Go.Proofs.Ytbhhmbbldbgdnaa.fsDo Go.Proofs.Ytbhhmbbldbgdnaa.fsUsed Go.Proofs.Ytbhhmbbldbgdnaa.turned Go.Proofs.Ytbhhmbbldbgdnaa.lst
set_option linter.unusedVariables false

theorem all_take (n : ByteArray) (x : Option (List UInt8)) (l : List (List UInt8)) (k : Nat) : all (oneF (nm n) x) ((l.map (appC n)).take k) = oneF (nm n) (after x (l.take k)) := by
  rw [← List.map_take, all_oneF]

theorem tear_app (n : ByteArray) (x : Option (List UInt8)) (bs : List UInt8) (torn : Int) :
    tearF (oneF (nm n) x) (appC n bs) torn = if tornN (appC n bs) torn = 0 then oneF (nm n) x else oneF (nm n) (some (x.getD [] ++ bs.take (tornN (appC n bs) torn))) := by
  unfold tearF
  split
  · rfl
  · exact doit_oneF n x (bs.take _)

theorem tornN_le (n : ByteArray) (bs : List UInt8) (torn : Int) : tornN (appC n bs) torn ≤ bs.length := by
  by_cases h : (appC n bs).bytes.length = 0
  · unfold tornN; rw [if_pos h]; exact Nat.zero_le _
  · have := (tornN_lt (appC n bs) torn h).1
    exact Nat.le_of_lt this

/-- Behind a crash: the file that was synced, and a beginning of what was pending. -/
theorem crash_one (n : ByteArray) (f : Int) (F : List UInt8) (l : List (List UInt8)) (keep torn : Int) :
    ∃ g, g ≤ l.flatten.length ∧ crashD (apD n f (some F) l) keep torn = apD n (-1) (some (F ++ l.flatten.take g)) [] := by
  obtain ⟨hk, -⟩ := crashK_le (apD n f (some F) l) keep
  have hcl : (apD n f (some F) l).cs.length = l.length := by show (l.map (appC n)).length = _; simp
  rw [hcl] at hk
  generalize hK : crashK (apD n f (some F) l) keep = K at *
  have hsome : ∀ m : List (List UInt8), after (some F) m = some (F ++ m.flatten) := fun m => by
    unfold after
    by_cases h : m = []
    · subst h; simp
    · rw [if_neg h]; rfl
  have e : ∀ G : Files, crashF (apD n f (some F) l) keep torn = G → crashD (apD n f (some F) l) keep torn = ⟨8388608, -1, false, G, []⟩ := fun G hG => by unfold crashD; rw [hG]; rfl
  have hpre : (l.take K).flatten = l.flatten.take (l.take K).flatten.length := by
    conv => rhs; rw [← List.take_append_drop K l, List.flatten_append]
    simp
  have hcs : (apD n f (some F) l).cs[K]? = (l[K]?).map (appC n) := by show (l.map (appC n))[K]? = _; simp
  have hbase : all (apD n f (some F) l).syn ((apD n f (some F) l).cs.take K) = oneF (nm n) (some (F ++ (l.take K).flatten)) := by
    show all (oneF (nm n) (some F)) ((l.map (appC n)).take K) = _
    rw [all_take, hsome]
  have hlen : (l.take K).flatten.length ≤ l.flatten.length := by
    conv => rhs; rw [← List.take_append_drop K l, List.flatten_append, List.length_append]
    omega
  cases hc : l[K]? with
  | none =>
    refine ⟨(l.take K).flatten.length, hlen, e _ ?_⟩
    unfold crashF
    rw [hK, hcs, hc, ← hpre]
    exact hbase
  | some bs =>
    have hKl := (List.getElem?_eq_some_iff.1 hc).1
    have hKe := (List.getElem?_eq_some_iff.1 hc).2
    have ht := tornN_le n bs torn
    have e2 : l.flatten = (l.take K).flatten ++ (bs ++ (l.drop (K + 1)).flatten) := by
      conv => lhs; rw [← List.take_append_drop K l, List.flatten_append, List.drop_eq_getElem_cons hKl, hKe, List.flatten_cons]
    refine ⟨(l.take K).flatten.length + tornN (appC n bs) torn, ?_, e _ ?_⟩
    · rw [e2]
      simp only [List.length_append]
      omega
    · unfold crashF
      rw [hK, hcs, hc]
      show tearF (all (apD n f (some F) l).syn ((apD n f (some F) l).cs.take K)) (appC n bs) torn = _
      rw [hbase, tear_app]
      have e3 : l.flatten.take ((l.take K).flatten.length + tornN (appC n bs) torn) = (l.take K).flatten ++ bs.take (tornN (appC n bs) torn) := by
        rw [e2, List.take_length_add_append, List.take_append_of_le_length ht]
      rw [e3]
      split
      · rename_i h0
        rw [h0]
        simp
      · simp

/-- Crash on such a disk -/
theorem crash_ap (w : World) (base p M : Nat) (ρ : Nat → Role) (n : ByteArray) (f : Int) (F : List UInt8) (l : List (List UInt8)) (keep torn : Int) (h : Dk w base p ρ (apD n f (some F) l)) (hok : DOk M (apD n f (some F) l)) (hM : M ≤ 1000000) :
    ∃ g, g ≤ l.flatten.length ∧ Calls Try.prog 17 #[.pointer (some ⟨p, 0, none⟩), .int .i64 keep, .int .i64 torn] w (StPost base p ρ (apD n (-1) (some (F ++ l.flatten.take g)) []) w (.int .i64 (crashK (apD n f (some F) l) keep : Int))) ∧
      DOk M (apD n (-1) (some (F ++ l.flatten.take g)) []) := by
  obtain ⟨g, hg, he⟩ := crash_one n f F l keep torn
  have hc := crash_any w base p M ρ _ keep torn h hok hM
  have ho := crash_ok hok hM keep torn
  rw [he] at hc ho
  exact ⟨g, hg, hc, ho⟩

/-- a crash where nothing is pending -/
theorem crash_none (w : World) (base p M : Nat) (ρ : Nat → Role) (n : ByteArray) (x : Option (List UInt8)) (keep torn : Int) (h : Dk w base p ρ (apD n (-1) x [])) (hok : DOk M (apD n (-1) x [])) (hM : M ≤ 1000000) :
    Calls Try.prog 17 #[.pointer (some ⟨p, 0, none⟩), .int .i64 keep, .int .i64 torn] w (StPost base p ρ (apD n (-1) x []) w (.int .i64 (crashK (apD n (-1) x []) keep : Int))) := by
  have hc := crash_any w base p M ρ _ keep torn h hok hM
  have he : crashD (apD n (-1) x []) keep torn = apD n (-1) x [] := by
    unfold crashD
    have : crashF (apD n (-1) x []) keep torn = oneF (nm n) x := by
      unfold crashF
      have hcs : (apD n (-1) x []).cs = [] := rfl
      rw [hcs]
      simp [all_nil]
      rfl
    rw [this]
    rfl
  rw [he] at hc
  exact hc

/-- Sync on such a disk -/
theorem sync_ap (w : World) (base p M : Nat) (ρ : Nat → Role) (n : ByteArray) (x : Option (List UInt8)) (l : List (List UInt8)) (h : Dk w base p ρ (apD n (-1) x l)) (hok : DOk M (apD n (-1) x l)) (hM : M ≤ 1000000) :
    Calls Try.prog 16 #[.pointer (some ⟨p, 0, none⟩)] w (StPost base p ρ (apD n (-1) (after x l) []) w (.int .i64 0)) ∧ DOk M (apD n (-1) (after x l) []) := by
  have hs := sync_any w base p M ρ _ h hok hM rfl
  have ho := sync_ok hok
  have he : ({ stopD (apD n (-1) x l) with syn := (apD n (-1) x l).now, cs := [] } : DSt) = apD n (-1) (after x l) [] := by
    rw [apD_now]; rfl
  rw [he] at hs ho
  exact ⟨hs, ho⟩

end Go.Proofs.Ytbhhmbbldbgdnaa.dsk
