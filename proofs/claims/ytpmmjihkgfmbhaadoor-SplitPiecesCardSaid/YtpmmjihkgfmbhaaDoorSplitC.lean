/- What is asked of the project's Splitter: its calls, over whatever lies where. -/
import Derived.Test.YtpmmjihkgfmbhaaDoorSplitPlain
import Derived.Test.YtpmmjihkgfmbhaaDoorClone
import Derived.Test.YtpmmjihkgfmbhaaDoorTx
namespace Go.Proofs.YtpmmjihkgfmbhaaDoor.spl
open Go.RowKit Go.Maps Go.Proofs.YtpmmjihkgfmbhaaDoor.sum Go.Proofs.YtpmmjihkgfmbhaaDoor.kept Go.Proofs.YtpmmjihkgfmbhaaDoor.app Go.Proofs.YtpmmjihkgfmbhaaDoor.writer Go.Proofs.YtpmmjihkgfmbhaaDoor.clone Go.Proofs.YtpmmjihkgfmbhaaDoor.known Go.Proofs.YtpmmjihkgfmbhaaDoor.snp
set_option linter.unusedVariables false

/-- where it lies: the world, the base, its pointer, which blocks are its own, its most, its state -/
abbrev SpT := World → Nat → Nat → (Nat → Bool) → Nat → SpS → Prop
/-- only its own blocks are turned; what was not its own is not -/
def FrS (ρ : Nat → Bool) (w : World) (ρ' : Nat → Bool) (w' : World) : Prop := Kp (fun k => ρ k = true) w w' ∧ ∀ k, k < w.heap.size → ρ k = false → ρ' k = false
theorem FrS.trans {ρ ρ' ρ'' : Nat → Bool} {w w' w'' : World} (h : FrS ρ w ρ' w') (k : FrS ρ' w' ρ'' w'') : FrS ρ w ρ'' w'' := by
  refine ⟨h.1.trans k.1 fun i hi e => ?_, fun i hi e => k.2 i (Nat.lt_of_lt_of_le hi h.1.size) (h.2 i hi e)⟩
  cases hρ : ρ i with
  | true => rfl
  | false =>
    have e2 := h.2 i hi hρ
    have e3 : ρ' i = true := e
    rw [e3] at e2; cases e2
theorem FrS.refl (ρ : Nat → Bool) (w : World) : FrS ρ w ρ w := ⟨Kp.refl _ _, fun _ _ h => h⟩
theorem FrS.of_no {ρ : Nat → Bool} {w w' : World} (h : Kp No w w') : FrS ρ w ρ w' := ⟨h.to, fun _ _ h => h⟩

/-- what a call leaves -/
def SpPost (Sp : SpT) (w : World) (base p : Nat) (ρ : Nat → Bool) (m : Nat) (t : SpS) (res : Value) (e : Ending) (w' : World) : Prop := e = .returned res ∧ ∃ ρ', Sp w' base p ρ' m t ∧ FrS ρ w ρ' w'
def ansV (o : Option (List UInt8)) : Value := .tuple #[.string (tx (o.getD [])), .bool o.isSome]

structure SplitC (Sp : SpT) : Prop where
  kept : ∀ {S : Nat → Prop} {w w' : World} {base p : Nat} {ρ : Nat → Bool} {m : Nat} {s : SpS}, Sp w base p ρ m s → Kp S w w' → (∀ k, ρ k = true → ¬ S k) → Sp w' base p ρ m s
  low : ∀ {w : World} {base p : Nat} {ρ : Nat → Bool} {m : Nat} {s : SpS}, Sp w base p ρ m s → ∀ k, ρ k = true → base ≤ k ∧ k < w.heap.size
  new_ok : ∀ (w : World) (m : Nat), 1 ≤ m → m ≤ 200 → Calls Tryd.prog 7 #[.int .i64 (m : Int)] w fun e w' => ∃ p ρ, e = .returned (.tuple #[.pointer (some ⟨p, 0, none⟩), .int .i64 0]) ∧ Sp w' w.heap.size p ρ m zeroS ∧ Kp No w w'
  feed : ∀ (w : World) (base p : Nat) (ρ : Nat → Bool) (m : Nat) (s : SpS) (v : Value) (bs : List UInt8), Sp w base p ρ m s → Bs w v bs → (bs ≠ [] → ∀ x o n c, v = .slice (some ⟨x, o, none⟩) n c → ρ x = false) → s.rest.length + bs.length ≤ 140737488355328 →
    Calls Tryd.prog 10 #[.pointer (some ⟨p, 0, none⟩), v] w (SpPost Sp w base p ρ m (feedS s bs) (.tuple #[]))
  next : ∀ (w : World) (base p : Nat) (ρ : Nat → Bool) (m : Nat) (s : SpS) (rs : List UInt8), Sp w base p ρ m s → OkS m s → m ≤ 200 → s.rest.length ≤ 140737488355328 → rs.length ≤ maxLen →
    Calls Tryd.prog 11 #[.pointer (some ⟨p, 0, none⟩), .string (tx rs)] w (SpPost Sp w base p ρ m (nextS m rs s).2 (ansV (nextS m rs s).1))
  last : ∀ (w : World) (base p : Nat) (ρ : Nat → Bool) (m : Nat) (s : SpS) (rs : List UInt8), Sp w base p ρ m s → OkS m s → m ≤ 200 → s.rest.length ≤ 140737488355328 → rs.length ≤ maxLen →
    Calls Tryd.prog 14 #[.pointer (some ⟨p, 0, none⟩), .string (tx rs)] w (SpPost Sp w base p ρ m (lastS m rs s).2 (ansV (lastS m rs s).1))

theorem SplitC.no {Sp : SpT} (C : SplitC Sp) {w w' : World} {base p : Nat} {ρ : Nat → Bool} {m : Nat} {s : SpS} (h : Sp w base p ρ m s) (hk : Kp No w w') : Sp w' base p ρ m s := C.kept h hk fun _ _ => id

end Go.Proofs.YtpmmjihkgfmbhaaDoor.spl
