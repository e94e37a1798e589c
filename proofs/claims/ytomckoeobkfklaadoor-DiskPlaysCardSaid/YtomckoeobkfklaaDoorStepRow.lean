/- How a slice of Step is read as an argument. -/
import Derived.Test.YtomckoeobkfklaaDoorRow
import Derived.Deep.Slices
import Derived.Deep.Fields
namespace Go.Proofs.YtomckoeobkfklaaDoor.stepRow
open Go.ChangeShapes Go.WideShapes Go.ChangeAt Go.RowKit Go.Deep Go.Proofs.YtomckoeobkfklaaDoor.sum Go.Proofs.YtomckoeobkfklaaDoor.kept Go.Proofs.YtomckoeobkfklaaDoor.row
set_option linter.unusedVariables false

structure SR where
  what : Int
  a : Int
  b : Int
  name : ByteArray
  to : ByteArray
  x : Value
  bs : List UInt8
  near : Bool

/-- read: a slice of these -/
def Sts (w : World) (v : Value) (l : List SR) : Prop :=
  (∃ a cap, v = .slice a l.length cap ∧ l.length ≤ cap ∧ cap ≤ maxLen ∧ (l ≠ [] → ∃ b o, a = some ⟨b, o, none⟩ ∧ ∀ k (h : k < l.length), w.cell? ⟨b, o + k * 7, none⟩ = some (.int .i64 l[k].what) ∧
    w.cell? ⟨b, o + k * 7 + 1, none⟩ = some (.int .i64 l[k].a) ∧ w.cell? ⟨b, o + k * 7 + 2, none⟩ = some (.int .i64 l[k].b) ∧ w.cell? ⟨b, o + k * 7 + 3, none⟩ = some (.string l[k].name) ∧ w.cell? ⟨b, o + k * 7 + 4, none⟩ = some (.string l[k].to) ∧
    w.cell? ⟨b, o + k * 7 + 5, none⟩ = some l[k].x ∧ w.cell? ⟨b, o + k * 7 + 6, none⟩ = some (.bool l[k].near))) ∧ ∀ s ∈ l, Bs w s.x s.bs ∧ s.bs.length ≤ reachBytes

theorem cells7 : Tryd.prog.cellsOf 36 = 7 := by kernel_rfl
theorem one_cell : Tryd.prog.cellsOf 3 = 1 ∧ Tryd.prog.cellsOf 9 = 1 ∧ Tryd.prog.cellsOf 34 = 1 ∧ Tryd.prog.cellsOf 4 = 1 := ⟨by kernel_rfl, by kernel_rfl, by kernel_rfl, by kernel_rfl⟩

section
variable {H : Type} {enc : TypeId × Value → H} {W : World}

theorem seven {α : Type} {cs : List α} (h : cs.length = 7) : ∃ c0 c1 c2 c3 c4 c5 c6, cs = [c0, c1, c2, c3, c4, c5, c6] := by
  match cs, h with
  | [c0, c1, c2, c3, c4, c5, c6], _ => exact ⟨c0, c1, c2, c3, c4, c5, c6, rfl⟩

/-- one field of bytes -/
theorem open_el {n : Nat} {cs : List Value} {y : DataW H × List MemPlace} (h : DataW.trod enc Tryd.prog W 0 (fun _ => true) true n 34 cs = some y) :
    ∃ v bs, cs = [v] ∧ Bs W v bs ∧ ∀ R, (∀ m ∈ y.1.weights Tryd.prog 34, m ≤ R) → bs.length ≤ R := by
  have h' := h
  rcases open_ints Tryd.underlying34 Tryd.underlying5 (by kernel_rfl) h with ⟨hcs, _⟩ | ⟨x, l, c, zs, hcs, _, hl, hm, hz, hx, hcell, hwz⟩
  · exact ⟨_, [], hcs, ⟨none, 0, rfl, Nat.le_refl _, Nat.zero_le _, fun h => absurd rfl h⟩, fun R _ => Nat.zero_le _⟩
  · obtain ⟨bs, hb⟩ := open_bs_any (W := W) (enc := enc) ⟨n, by rw [hcs] at h'; exact h'⟩
    refine ⟨_, bs, hcs, hb, fun R hR => ?_⟩
    have hlen : bs.length = l := by obtain ⟨_, _, e, -⟩ := hb; simp only [Value.slice.injEq] at e; exact e.2.1.symm
    simp only [if_true] at hz
    have := hR _ (by rw [hx]; simp only [DataW.weights, Tryd.underlying34]; exact List.mem_cons_self ..)
    rw [bytes5] at this
    simp only [lits, List.length_map, List.length_take, List.length_drop] at this
    omega

theorem open_bool1 {n : Nat} {cs : List Value} {y : DataW H × List MemPlace} (h : DataW.trod enc Tryd.prog W 0 (fun _ => true) true n 4 cs = some y) : ∃ b, cs = [.bool b] := by
  obtain ⟨b, e, _⟩ := DataW.trod_bool Tryd.underlying4 h
  exact ⟨b, e⟩

/-- one element -/
theorem open_one {n : Nat} {cs : List Value} {y : DataW H × List MemPlace} (h : DataW.trod enc Tryd.prog W 0 (fun _ => true) true n 36 cs = some y) :
    ∃ s : SR, cs = [.int .i64 s.what, .int .i64 s.a, .int .i64 s.b, .string s.name, .string s.to, s.x, .bool s.near] ∧ Bs W s.x s.bs ∧ (s.name.size ≤ maxLen ∧ s.to.size ≤ maxLen) ∧ ∀ R, (∀ m ∈ y.1.weights Tryd.prog 36, m ≤ R) → s.bs.length ≤ R := by
  obtain ⟨ys, m, -, hx, hlen, hyl, hf⟩ := DataW.trod_struct Tryd.underlying36 h
  rw [cells7] at hlen
  obtain ⟨c0, c1, c2, c3, c4, c5, c6, rfl⟩ := seven hlen
  obtain ⟨y0, y1, y2, y3, y4, y5, y6, rfl⟩ := seven hyl
  obtain ⟨o1, o2, o3, o4⟩ := one_cell
  have h0 := hf 0 _ rfl
  have h1 := hf 1 _ rfl
  have h2 := hf 2 _ rfl
  have h3 := hf 3 _ rfl
  have h4 := hf 4 _ rfl
  have h5 := hf 5 _ rfl
  have h6 := hf 6 _ rfl
  simp [o1] at h0 h1 h2
  simp [o2] at h3 h4
  simp [o3] at h5
  simp [o4] at h6
  obtain ⟨a0, e0, -, -⟩ := DataW.trod_int Tryd.underlying3 h0
  obtain ⟨a1, e1, -, -⟩ := DataW.trod_int Tryd.underlying3 h1
  obtain ⟨a2, e2, -, -⟩ := DataW.trod_int Tryd.underlying3 h2
  obtain ⟨a3, e3, -, z3⟩ := DataW.trod_string Tryd.underlying9 h3
  obtain ⟨a4, e4, -, z4⟩ := DataW.trod_string Tryd.underlying9 h4
  obtain ⟨v5, bs, e5, hb, hR⟩ := open_el h5
  obtain ⟨b6, e6⟩ := open_bool1 h6
  simp only [List.cons.injEq, and_true] at e0 e1 e2 e3 e4 e5 e6
  subst e0 e1 e2 e3 e4 e5 e6
  refine ⟨⟨a0, a1, a2, a3, a4, c5, bs, b6⟩, rfl, hb, ⟨z3, z4⟩, fun R hw => hR R fun k hk => hw k ?_⟩
  rw [hx]
  simp only [DataW.weights, Tryd.underlying36]
  exact DataW.weights_mem_each (j := 5) (t := 34) (d := y5.1) rfl rfl k hk

theorem mem_all {P : Program} {e : TypeId} {d : DataW H} {n : Nat} (hn : n ∈ d.weights P e) : ∀ {l : List (DataW H)}, d ∈ l → n ∈ DataW.weightsAll P e l
  | [], h => by cases h
  | x :: r, h => by
    simp only [DataW.weightsAll, List.mem_append]
    rcases List.mem_cons.1 h with rfl | h
    · exact .inl hn
    · exact .inr (mem_all hn h)

theorem open_sts2 {a : Option Addr} {len cap : Nat} {d : DataW H} {p : List MemPlace} (h0 : DataW.Trod enc Tryd.prog W 0 (fun _ => true) true 22 (.slice a len cap) d p)
    {ts : List TypeId} {ds : List (DataW H)} (hsz : (DataW.weightsEach Tryd.prog ts ds).all (· ≤ reachBytes) = true) (j : Nat) (ht : ts[j]? = some 22) (hd : ds[j]? = some d) :
    ∃ l, Sts W (.slice a len cap) l ∧ ∀ s ∈ l, s.name.size ≤ maxLen ∧ s.to.size ≤ maxLen := by
  have hall : ∀ n ∈ d.weights Tryd.prog 22, n ≤ reachBytes := fun n hn => by simpa using List.all_eq_true.1 hsz _ (DataW.weights_mem_each ht hd n hn)
  obtain ⟨fuel, hf⟩ := h0
  rcases open_slice Tryd.underlying22 hf with ⟨hcs, _⟩ | ⟨x, l, c, m, n, D, Pl, hcs, _, hl, hm, hmm, hx, hi⟩
  · simp [Value.cells] at hcs
    obtain ⟨rfl, rfl, rfl⟩ := hcs
    exact ⟨[], ⟨⟨none, 0, rfl, Nat.le_refl _, Nat.zero_le _, fun h => absurd rfl h⟩, (fun e he => by cases he)⟩, (fun e he => by cases he)⟩
  · simp [Value.cells] at hcs
    obtain ⟨rfl, rfl, rfl⟩ := hcs
    simp only [if_true] at hmm
    subst hmm
    rw [cells7] at hi
    obtain ⟨rfl, -⟩ := Prod.mk.inj hx
    have hex : ∀ i, ∃ s : SR, i < m → (∃ cs', W.cells? 0 (x.add (i * 7)) 7 = some cs' ∧ cs' = [.int .i64 s.what, .int .i64 s.a, .int .i64 s.b, .string s.name, .string s.to, s.x, .bool s.near]) ∧ Bs W s.x s.bs ∧ (s.name.size ≤ maxLen ∧ s.to.size ≤ maxLen) ∧ ∀ R, (∀ m ∈ (D i).weights Tryd.prog 36, m ≤ R) → s.bs.length ≤ R := by
      intro i
      by_cases him : i < m
      · obtain ⟨cs', h1, h2⟩ := hi i him
        obtain ⟨s, h3, h4, h5, h6⟩ := open_one h2
        exact ⟨s, fun _ => ⟨⟨cs', h1, h3⟩, h4, h5, h6⟩⟩
      · exact ⟨⟨0, 0, 0, ByteArray.empty, ByteArray.empty, .slice none 0 0, [], false⟩, fun h => absurd h him⟩
    obtain ⟨f, hf2⟩ := Classical.axiomOfChoice hex
    have hlen : ((List.range len).map f).length = len := by simp
    refine ⟨(List.range len).map f, ⟨⟨some x, m, by rw [hlen], by omega, hm, fun hne => ?_⟩, fun s hs => ?_⟩, fun s hs => ?_⟩
    · have hpos : 0 < len := by
        rcases Nat.eq_zero_or_pos len with e | e
        · subst e; simp at hne
        · exact e
      obtain ⟨b, o, spot⟩ := x
      have hspot : spot = none := by
        obtain ⟨cs', h1, h2⟩ := (hf2 0 (by omega)).1
        have := (World.cells?_some h1).2.2 0 (by omega)
        rw [h2] at this
        simpa [Addr.add] using World.cell?_spot this
      subst hspot
      refine ⟨b, o, rfl, fun k hk => ?_⟩
      rw [hlen] at hk
      obtain ⟨cs', h1, h2⟩ := (hf2 k (by omega)).1
      have hat := (World.cells?_some h1).2.2
      rw [h2] at hat
      have e : ((List.range len).map f)[k] = f k := by simp
      rw [e]
      have q := fun j hj => hat j hj
      simp only [addr_add] at q
      exact ⟨by simpa using q 0 (by omega), q 1 (by omega), q 2 (by omega), q 3 (by omega), q 4 (by omega), q 5 (by omega), q 6 (by omega)⟩
    · obtain ⟨i, hi2, rfl⟩ := List.mem_map.1 hs
      have hil := List.mem_range.1 hi2
      obtain ⟨-, hb, -, hR⟩ := hf2 i (by omega)
      refine ⟨hb, hR _ fun k hk => hall k ?_⟩
      simp only [DataW.weights, Tryd.underlying22]
      refine List.mem_cons_of_mem _ (List.mem_append.2 (.inl (mem_all hk ?_)))
      exact List.mem_map.2 ⟨i, hi2, rfl⟩
    · obtain ⟨i, hi2, rfl⟩ := List.mem_map.1 hs
      have hil := List.mem_range.1 hi2
      exact (hf2 i (by omega)).2.2.1

theorem open_sts {a : Option Addr} {len cap : Nat} {d : DataW H} {p : List MemPlace} (h0 : DataW.Trod enc Tryd.prog W 0 (fun _ => true) true 22 (.slice a len cap) d p)
    {ts : List TypeId} {ds : List (DataW H)} (hsz : (DataW.weightsEach Tryd.prog ts ds).all (· ≤ reachBytes) = true) (j : Nat) (ht : ts[j]? = some 22) (hd : ds[j]? = some d) :
    ∃ l, Sts W (.slice a len cap) l := by
  obtain ⟨l, h, -⟩ := open_sts2 h0 hsz j ht hd
  exact ⟨l, h⟩

end
end Go.Proofs.YtomckoeobkfklaaDoor.stepRow
