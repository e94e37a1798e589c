/- A disk with at most one file, to which is appended: plain lists. -/
import Derived.Test.YtbhhmbbldbgdnaaDiskSteps
namespace Go.Proofs.Ytbhhmbbldbgdnaa.dsk
open Go.Proofs.Ytbhhmbbldbgdnaa.fs
set_option linter.unusedVariables false

def oneF (n : Name) (x : Option (List UInt8)) : Files := match x with | none => [] | some b => [(n, b)]

theorem oneF_rising (n : Name) (x : Option (List UInt8)) : Rising (oneF n x) := by
  cases x with
  | none => exact rising_nil
  | some b => exact List.pairwise_singleton _ _
theorem oneF_get (n : Name) (x : Option (List UInt8)) : fs.get (oneF n x) n = x := by
  cases x <;> simp [oneF, fs.get]
theorem oneF_old (n : Name) (x : Option (List UInt8)) : old (oneF n x) n = x.getD [] := by unfold old; rw [oneF_get]
theorem oneF_used (n : Name) (x : Option (List UInt8)) : used (oneF n x) = (x.getD []).length := by cases x <;> simp [oneF, used]
theorem oneF_length (n : Name) (x : Option (List UInt8)) : (oneF n x).length ≤ 1 := by cases x <;> simp [oneF]
theorem doit_oneF (name : ByteArray) (x : Option (List UInt8)) (bs : List UInt8) : doit (oneF (nm name) x) (appC name bs) = oneF (nm name) (some (x.getD [] ++ bs)) := by
  show put (oneF (nm name) x) (nm name) (old (oneF (nm name) x) (nm name) ++ bs) = _
  rw [oneF_old]
  cases x <;> simp [oneF, put, drop, ins]

/-- what parts leave that are appended to one file -/
def after (x : Option (List UInt8)) (parts : List (List UInt8)) : Option (List UInt8) := if parts = [] then x else some (x.getD [] ++ parts.flatten)
theorem all_oneF (name : ByteArray) (x : Option (List UInt8)) (parts : List (List UInt8)) : all (oneF (nm name) x) (parts.map (appC name)) = oneF (nm name) (after x parts) := by
  induction parts generalizing x with
  | nil => rfl
  | cons b r ih =>
    rw [List.map_cons, all_cons, doit_oneF, ih]
    congr 1
    unfold after
    by_cases hr : r = []
    · subst hr; simp
    · simp [hr]
theorem bytesOf_apps (name : ByteArray) (parts : List (List UInt8)) : bytesOf (parts.map (appC name)) = parts.flatten.length := by
  induction parts with
  | nil => rfl
  | cons b r ih => simp only [List.map_cons, bytesOf, ih, List.flatten_cons, List.length_append]; rfl

end Go.Proofs.Ytbhhmbbldbgdnaa.dsk
