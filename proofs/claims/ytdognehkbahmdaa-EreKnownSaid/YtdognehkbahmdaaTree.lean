/- Regular expressions as trees: plain, and in memory. -/
import Derived.Test.YtdognehkbahmdaaClassKnown0
namespace Go.Proofs.Ytdognehkbahmdaa.tre
open Go.RowKit Go.Proofs.Ytdognehkbahmdaa.sum Go.Proofs.Ytdognehkbahmdaa.kept Go.Proofs.Ytdognehkbahmdaa.pop Go.Proofs.Ytdognehkbahmdaa.cls
set_option linter.unusedVariables false

/-- a tree: its kind, its set, its kids -/
inductive Tr where
  | mk (k : Int) (f : Nat → Bool) (l : List Tr)
def Tr.kind : Tr → Int
  | .mk k _ _ => k
def Tr.set : Tr → Nat → Bool
  | .mk _ f _ => f
def Tr.kids : Tr → List Tr
  | .mk _ _ l => l
mutual
/-- how many nodes -/
def Tr.size : Tr → Nat
  | .mk _ _ l => sizeL l + 1
def sizeL : List Tr → Nat
  | [] => 0
  | t :: l => t.size + sizeL l
end
theorem size_get : ∀ (l : List Tr) (i : Nat) (h : i < l.length), (l[i]).size ≤ sizeL l
  | t :: l, 0, _ => by simp only [List.getElem_cons_zero, sizeL]; omega
  | t :: l, i + 1, h => by
    have := size_get l i (by simpa using h)
    simp only [List.getElem_cons_succ, sizeL]
    omega
/-- six cells of a tree whose kids lie at a -/
abbrev cellsR (k : Int) (f : Nat → Bool) (a : Option Addr) (n c : Nat) : Array Value := #[.int .i64 k, .int .u64 (wd f 0 64 : Nat), .int .u64 (wd f 64 64 : Nat), .int .u64 (wd f 128 64 : Nat), .int .u64 (wd f 192 64 : Nat), .slice a n c]
mutual
/-- a value is this tree; what its kids lie in is among T -/
def ReV (T : Nat → Prop) (w : World) : Tr → Value → Prop
  | .mk k f l, v => ∃ a c, v = .agg (cellsR k f a l.length c) ∧ l.length ≤ c ∧ c ≤ 9223372036854775807 ∧ (l ≠ [] → ∃ b o, a = some ⟨b, o, none⟩ ∧ (T b ∧ b < w.heap.size) ∧ ReL T w b o l)
/-- these trees lie one behind the other -/
def ReL (T : Nat → Prop) (w : World) (b : Nat) : Nat → List Tr → Prop
  | _, [] => True
  | o, t :: l => (∃ x0 x1 x2 x3 x4 x5, w.cell? ⟨b, o, none⟩ = some x0 ∧ w.cell? ⟨b, o + 1, none⟩ = some x1 ∧ w.cell? ⟨b, o + 2, none⟩ = some x2 ∧ w.cell? ⟨b, o + 3, none⟩ = some x3 ∧ w.cell? ⟨b, o + 4, none⟩ = some x4 ∧ w.cell? ⟨b, o + 5, none⟩ = some x5 ∧ ReV T w t (.agg #[x0, x1, x2, x3, x4, x5])) ∧ ReL T w b (o + 6) l
end
mutual
theorem ReV.kept {S T : Nat → Prop} {w w' : World} (hk : Kp S w w') (hS : ∀ b, T b → b < w.heap.size → ¬ S b) : ∀ (t : Tr) (v : Value), ReV T w t v → ReV T w' t v
  | .mk k f l, v, ⟨a, c, h1, h2, h3, h4⟩ => ⟨a, c, h1, h2, h3, fun hne => by
    obtain ⟨b, o, e, ⟨hb, hlt⟩, h⟩ := h4 hne
    exact ⟨b, o, e, ⟨hb, Nat.lt_of_lt_of_le hlt hk.size⟩, ReL.kept hk hS b (hS b hb hlt) o l h⟩⟩
theorem ReL.kept {S T : Nat → Prop} {w w' : World} (hk : Kp S w w') (hS : ∀ b, T b → b < w.heap.size → ¬ S b) (b : Nat) (hb : ¬ S b) : ∀ (o : Nat) (l : List Tr), ReL T w b o l → ReL T w' b o l
  | _, [], _ => trivial
  | o, t :: l, ⟨⟨x0, x1, x2, x3, x4, x5, h0, h1, h2, h3, h4, h5, hv⟩, hl⟩ =>
    ⟨⟨x0, x1, x2, x3, x4, x5, hk.cell' h0 hb, hk.cell' h1 hb, hk.cell' h2 hb, hk.cell' h3 hb, hk.cell' h4 hb, hk.cell' h5 hb, ReV.kept hk hS t _ hv⟩, ReL.kept hk hS b hb (o + 6) l hl⟩
end
theorem ReV.no {T : Nat → Prop} {w w' : World} (hk : Kp No w w') (t : Tr) (v : Value) (h : ReV T w t v) : ReV T w' t v := ReV.kept hk (fun _ _ _ => id) t v h
theorem ReL.no {T : Nat → Prop} {w w' : World} (hk : Kp No w w') (b o : Nat) (l : List Tr) (h : ReL T w b o l) : ReL T w' b o l := ReL.kept hk (fun _ _ _ => id) b id o l h
mutual
theorem ReV.wider {T T' : Nat → Prop} {w : World} (hT : ∀ b, T b → b < w.heap.size → T' b) : ∀ (t : Tr) (v : Value), ReV T w t v → ReV T' w t v
  | .mk k f l, v, ⟨a, c, h1, h2, h3, h4⟩ => ⟨a, c, h1, h2, h3, fun hne => by
    obtain ⟨b, o, e, ⟨hb, hlt⟩, h⟩ := h4 hne
    exact ⟨b, o, e, ⟨hT b hb hlt, hlt⟩, ReL.wider hT b o l h⟩⟩
theorem ReL.wider {T T' : Nat → Prop} {w : World} (hT : ∀ b, T b → b < w.heap.size → T' b) (b : Nat) : ∀ (o : Nat) (l : List Tr), ReL T w b o l → ReL T' w b o l
  | _, [], _ => trivial
  | o, t :: l, ⟨⟨x0, x1, x2, x3, x4, x5, h0, h1, h2, h3, h4, h5, hv⟩, hl⟩ =>
    ⟨⟨x0, x1, x2, x3, x4, x5, h0, h1, h2, h3, h4, h5, ReV.wider hT t _ hv⟩, ReL.wider hT b (o + 6) l hl⟩
end
/-- the i-th one -/
theorem ReL.get {T : Nat → Prop} {w : World} {b : Nat} : ∀ {l : List Tr} {o : Nat}, ReL T w b o l → ∀ (i : Nat) (h : i < l.length), ∃ k f a n c, w.cell? ⟨b, o + i * 6, none⟩ = some (.int .i64 k) ∧ w.cell? ⟨b, o + i * 6 + 1, none⟩ = some (.int .u64 (wd f 0 64 : Nat)) ∧ w.cell? ⟨b, o + i * 6 + 2, none⟩ = some (.int .u64 (wd f 64 64 : Nat)) ∧ w.cell? ⟨b, o + i * 6 + 3, none⟩ = some (.int .u64 (wd f 128 64 : Nat)) ∧ w.cell? ⟨b, o + i * 6 + 4, none⟩ = some (.int .u64 (wd f 192 64 : Nat)) ∧ w.cell? ⟨b, o + i * 6 + 5, none⟩ = some (.slice a n c) ∧ ReV T w l[i] (.agg (cellsR k f a n c))
  | t :: l, o, ⟨⟨x0, x1, x2, x3, x4, x5, h0, h1, h2, h3, h4, h5, hv⟩, hl⟩, 0, _ => by
    obtain ⟨k, f, l'⟩ := t
    obtain ⟨a, c, e, g1, g2, g3⟩ := hv
    simp only [Value.agg.injEq, Array.mk.injEq, List.cons.injEq, and_true] at e
    obtain ⟨rfl, rfl, rfl, rfl, rfl, rfl⟩ := e
    simp only [Nat.zero_mul, Nat.add_zero]
    exact ⟨k, f, a, l'.length, c, h0, h1, h2, h3, h4, h5, ⟨a, c, rfl, g1, g2, g3⟩⟩
  | t :: l, o, ⟨_, hl⟩, i + 1, h => by
    have := ReL.get hl i (by simpa using h)
    rw [show o + (i + 1) * 6 = o + 6 + i * 6 by omega]
    exact this

/-- is a set zero? -/
def zeroB (f : Nat → Bool) : Bool := wd f 0 64 == 0 && wd f 64 64 == 0 && wd f 128 64 == 0 && wd f 192 64 == 0
/-- how many kids a kind has -/
def kidsS (k : Int) : Int := if k = 0 ∨ k = 1 ∨ k = 7 ∨ k = 8 then 0 else if k = 4 ∨ k = 5 ∨ k = 6 then 1 else if k = 2 ∨ k = 3 then 2 else -1
mutual
def shapedS : Tr → Bool
  | .mk k f l => decide ((l.length : Int) = kidsS k) && (decide (k = 1) || zeroB f) && shapedL l
def shapedL : List Tr → Bool
  | [] => true
  | t :: l => shapedS t && shapedL l
end
mutual
def setsS : Tr → Nat
  | .mk _ _ [] => 1
  | .mk _ _ (t :: l) => setsS t + setsL l
def setsL : List Tr → Nat
  | [] => 0
  | t :: l => setsS t + setsL l
end
/-- is a kid as deep as its parent? -/
def sameB (k : Int) (i : Nat) : Bool := decide (i = 1) && (decide (k = 2) || decide (k = 3))
mutual
def deepS : Tr → Nat → Bool
  | .mk _ _ _, 0 => false
  | .mk k _ l, n + 1 => deepL k (n + 1) 0 l
def deepL (k : Int) (n : Nat) : Nat → List Tr → Bool
  | _, [] => true
  | i, t :: l => deepS t (if sameB k i = true then n else n - 1) && deepL k n (i + 1) l
end

end Go.Proofs.Ytdognehkbahmdaa.tre
