/- How a slice of Lay, of Ask is read as an argument, where what comes in is of bounded bulk. -/
import Derived.Test.YtaghpjlodlbmjaaRow
import Derived.Test.YtaghpjlodlbmjaaLaid
import Derived.Deep.Slices
import Derived.Deep.Fields
import Derived.JoinedCond
namespace Go.Proofs.Ytaghpjlodlbmjaa.layRow
open Go.ChangeShapes Go.WideShapes Go.ChangeAt Go.RowKit Go.Deep Go.Proofs.Ytaghpjlodlbmjaa.sum Go.Proofs.Ytaghpjlodlbmjaa.kept Go.Proofs.Ytaghpjlodlbmjaa.row Go.Proofs.Ytaghpjlodlbmjaa.laid Go.Proofs.Ytaghpjlodlbmjaa.writer
set_option linter.unusedVariables false

theorem cells43 : Try.prog.cellsOf 51 = 5 := by kernel_rfl
theorem one_cell : Try.prog.cellsOf 3 = 1 ∧ Try.prog.cellsOf 5 = 1 ∧ Try.prog.cellsOf 48 = 1 ∧ Try.prog.cellsOf 49 = 1 ∧ Try.prog.cellsOf 9 = 1 := ⟨by kernel_rfl, by kernel_rfl, by kernel_rfl, by kernel_rfl, by kernel_rfl⟩

section
variable {H : Type} {enc : TypeId × Value → H} {W : World} {base : Nat} {spare : Nat → Bool} {held : Bool}

theorem trod_float {P : Program} {fuel : Nat} {t : TypeId} {k : FloatKind} {c : Value} {x : DataW H × List MemPlace} (ht : P.underlying t = some (.float k)) (h : DataW.trod enc P W base spare held fuel t [c] = some x) :
    ∃ b, c = .float k b ∧ x = (.lit (.float k b), []) ∧ (Lit.float k b).wf = true := by
  cases fuel with
  | zero => simp [DataW.trod] at h
  | succ n =>
    unfold DataW.trod at h
    rw [ht] at h
    cases c <;> simp at h
    rename_i k' b
    obtain ⟨⟨rfl, hw⟩, rfl⟩ := h
    exact ⟨b, rfl, rfl, hw⟩

/-- one cell of a struct's cells -/
theorem five {cs : List Value} (h : cs.length = 5) : ∃ c0 c1 c2 c3 c4, cs = [c0, c1, c2, c3, c4] := by
  match cs, h with
  | [c0, c1, c2, c3, c4], _ => exact ⟨c0, c1, c2, c3, c4, rfl⟩
theorem fivey {ys : List (DataW H × List MemPlace)} (h : ys.length = 5) : ∃ c0 c1 c2 c3 c4, ys = [c0, c1, c2, c3, c4] := by
  match ys, h with
  | [c0, c1, c2, c3, c4], _ => exact ⟨c0, c1, c2, c3, c4, rfl⟩

def datOf (d : LayD) : DataW H := .agg [.lit (.int .i64 d.what), .lit (.int .u8 (d.b.toNat : Int)), .lit (.int .u64 (d.n : Int)), .lit (.float .f64 d.x), .lit (.string d.t.data.toList)]

theorem bulk_dat (d : LayD) : Rows.uptoBulk (datOf (H := H) d) = d.t.size + 6 := by
  have e : d.t.data.toList.length = d.t.size := by rw [Array.length_toList]; rfl
  simp [datOf, Rows.uptoBulk, Rows.uptoBulkAll, e]
  omega

/-- one element -/
theorem open_one {n : Nat} {cs : List Value} {x : DataW H × List MemPlace} (h : DataW.trod enc Try.prog W base spare held n 51 cs = some x) :
    ∃ d : LayD, cs = [.int .i64 d.what, .int .u8 (d.b.toNat : Int), .int .u64 (d.n : Int), .float .f64 d.x, .string d.t] ∧ x.1 = datOf d ∧ d.n < U64 ∧ d.x < U64 := by
  obtain ⟨fs, hfs⟩ : ∃ fs, Try.prog.underlying 51 = some (.struct fs) := ⟨_, Try.underlying51⟩
  obtain ⟨ys, m, -, hx, hlen, hyl, hf⟩ := DataW.trod_struct Try.underlying51 h
  rw [cells43] at hlen
  obtain ⟨c0, c1, c2, c3, c4, rfl⟩ := five hlen
  obtain ⟨y0, y1, y2, y3, y4, rfl⟩ := fivey hyl
  have o := one_cell
  have h0 := hf 0 _ rfl
  have h1 := hf 1 _ rfl
  have h2 := hf 2 _ rfl
  have h3 := hf 3 _ rfl
  have h4 := hf 4 _ rfl
  simp [o.1] at h0
  simp [o.2.1] at h1
  simp [o.2.2.1] at h2
  simp [o.2.2.2.1] at h3
  simp [o.2.2.2.2] at h4
  obtain ⟨a0, e0, hy0, -⟩ := DataW.trod_int Try.underlying3 h0
  obtain ⟨a1, e1, hy1, w1⟩ := DataW.trod_int Try.underlying5 h1
  obtain ⟨a2, e2, hy2, w2⟩ := DataW.trod_int Try.underlying48 h2
  obtain ⟨a3, rfl, hy3, w3⟩ := trod_float Try.underlying49 h3
  obtain ⟨a4, e4, hy4, -⟩ := DataW.trod_string Try.underlying9 h4
  simp only [List.cons.injEq, and_true] at e0 e1 e2 e4
  subst e0 e1 e2 e4 hy0 hy1 hy2 hy3 hy4
  have b2 : 0 ≤ a2 ∧ a2 < 18446744073709551616 := by
    simp [Lit.wf, IntKind.min, IntKind.max, IntKind.signed, IntKind.bits] at w2
    omega
  have b3 : a3 < 18446744073709551616 := by
    simp only [Lit.wf] at w3
    simpa using w3
  refine ⟨⟨a0, a1.toNat.toUInt8, a2.toNat, a3, a4⟩, ?_, ?_, ?_, ?_⟩
  · simp only [u8_of w1]
    rw [show ((a2.toNat : Nat) : Int) = a2 by omega]
  · rw [hx]
    simp only [datOf, List.map_cons, List.map_nil, u8_of w1]
    rw [show ((a2.toNat : Nat) : Int) = a2 by omega]
  · rw [u64_eq]; show a2.toNat < _; omega
  · rw [u64_eq]; exact b3

theorem len_bulk (l : List (DataW H)) : l.length ≤ Rows.uptoBulkAll l := by
  induction l with
  | nil => simp
  | cons y l ih =>
    have h1 : 1 ≤ Rows.uptoBulk y := by cases y with
      | lit l => cases l <;> simp [Rows.uptoBulk]
      | _ => simp [Rows.uptoBulk]
    simp only [List.length_cons, Rows.uptoBulkAll]; omega

/-- A slice of bytes, opened, of bounded bulk. -/
theorem open_bs_bulk {a : Option Addr} {len cap : Nat} {d : DataW H} {p : List MemPlace} (h0 : DataW.Trod enc Try.prog W 0 (fun _ => true) true 28 (.slice a len cap) d p) (hk : Rows.uptoBulk d ≤ 1048576) :
    ∃ bs, Bs W (.slice a len cap) bs ∧ bs.length ≤ 1048576 := by
  have h := h0
  obtain ⟨fuel, hf⟩ := h0
  obtain ⟨bs, hb⟩ := open_bs_any h
  refine ⟨bs, hb, ?_⟩
  obtain ⟨_, _, e, -, -, -⟩ := hb
  simp only [Value.slice.injEq] at e
  rcases open_ints Try.underlying28 Try.underlying5 (by kernel_rfl) hf with ⟨hcs, _⟩ | ⟨x, l, c, zs, hcs, _, hl, hm, hz, hx, hcell, hwz⟩
  · simp [Value.cells] at hcs
    omega
  · simp [Value.cells] at hcs
    obtain ⟨rfl, rfl, rfl⟩ := hcs
    simp only [if_true] at hz
    obtain ⟨rfl, rfl⟩ := Prod.mk.inj hx
    simp only [Rows.uptoBulk] at hk
    have := len_bulk (lits (H := H) .u8 (zs.take len))
    have hl2 : (lits (H := H) .u8 (zs.take len)).length = len := by simp [lits]; omega
    rw [hl2] at this
    omega

theorem room_bulk (f : Nat → LayD) (D : Nat → DataW H) (l : List Nat) (h : ∀ i ∈ l, D i = datOf (f i)) : roomOf (l.map f) ≤ 10 * Rows.uptoBulkAll (l.map D) := by
  induction l with
  | nil => simp [roomOf]
  | cons i l ih =>
    have h1 := ih fun j hj => h j (by simp [hj])
    simp only [List.map_cons, roomOf, Rows.uptoBulkAll]
    rw [h i (by simp), bulk_dat]
    omega
theorem size_bulk (f : Nat → LayD) (D : Nat → DataW H) (l : List Nat) (h : ∀ i ∈ l, D i = datOf (f i)) : ∀ i ∈ l, (f i).t.size ≤ Rows.uptoBulkAll (l.map D) := by
  induction l with
  | nil => intro i hi; cases hi
  | cons j l ih =>
    intro i hi
    simp only [List.map_cons, Rows.uptoBulkAll]
    rcases List.mem_cons.1 hi with rfl | hi
    · rw [h i (by simp), bulk_dat]; omega
    · have := ih (fun j hj => h j (by simp [hj])) i hi; omega

/-- A slice of Lay, opened. -/
theorem open_lays {a : Option Addr} {len cap : Nat} {d : DataW H} {p : List MemPlace} (h0 : DataW.Trod enc Try.prog W 0 (fun _ => true) true 45 (.slice a len cap) d p) (hk : Rows.uptoBulk d ≤ 1048576) :
    ∃ ls, Lays W (.slice a len cap) ls ∧ (∀ e ∈ ls, e.ok) ∧ roomOf ls < 140737488355328 ∧ ls.length ≤ 1048576 := by
  obtain ⟨fuel, hf⟩ := h0
  rcases open_slice Try.underlying45 hf with ⟨hcs, _⟩ | ⟨x, l, c, m, n, D, Pl, hcs, _, hl, hm, hmm, hx, hi⟩
  · simp [Value.cells] at hcs
    obtain ⟨rfl, rfl, rfl⟩ := hcs
    exact ⟨[], ⟨none, 0, rfl, Nat.le_refl _, Nat.zero_le _, fun h => absurd rfl h⟩, (fun e he => by cases he), by simp [roomOf], by simp⟩
  · simp [Value.cells] at hcs
    obtain ⟨rfl, rfl, rfl⟩ := hcs
    simp only [if_true] at hmm
    subst hmm
    rw [cells43] at hi
    have hex : ∀ i, ∃ e : LayD, i < m → (∃ cs', W.cells? 0 (x.add (i * 5)) 5 = some cs' ∧ cs' = [.int .i64 e.what, .int .u8 (e.b.toNat : Int), .int .u64 (e.n : Int), .float .f64 e.x, .string e.t]) ∧ D i = datOf e ∧ e.n < U64 ∧ e.x < U64 := by
      intro i
      by_cases him : i < m
      · obtain ⟨cs', h1, h2⟩ := hi i him
        obtain ⟨e, h3, h4, h5, h6⟩ := open_one h2
        exact ⟨e, fun _ => ⟨⟨cs', h1, h3⟩, h4, h5, h6⟩⟩
      · exact ⟨⟨0, 0, 0, 0, ByteArray.empty⟩, fun h => absurd h him⟩
    obtain ⟨f, hf2⟩ := Classical.axiomOfChoice hex
    have hdat : ∀ i ∈ List.range len, D i = datOf (f i) := fun i hi => (hf2 i (by have := List.mem_range.1 hi; omega)).2.1
    obtain ⟨rfl, -⟩ := Prod.mk.inj hx
    simp only [Rows.uptoBulk] at hk
    have hrm := room_bulk f D _ hdat
    have hsz := size_bulk f D _ hdat
    have hlen : ((List.range len).map f).length = len := by simp
    have hlb : len ≤ Rows.uptoBulkAll ((List.range len).map D) := by
      have := len_bulk ((List.range len).map D)
      simpa using this
    refine ⟨(List.range len).map f, ⟨some x, m, by rw [hlen], by omega, hm, fun hne => ?_⟩, ?_, by omega, by omega⟩
    · have hpos : 0 < len := by
        rcases Nat.eq_zero_or_pos len with e | e
        · subst e; simp at hne
        · exact e
      have hcell : ∀ i, i < len → W.cell? (x.add (i * 5)) = some (.int .i64 (f i).what) := fun i hil => by
        obtain ⟨cs', h1, h2⟩ := (hf2 i (by omega)).1
        have := (World.cells?_some h1).2.2 0 (by omega)
        rw [h2] at this
        have e0 : (x.add (i * 5)).add 0 = x.add (i * 5) := by unfold Addr.add; simp
        rw [e0] at this
        exact this
      obtain ⟨b, o, spot⟩ := x
      have hspot : spot = none := by
        have := hcell 0 hpos
        simpa [Addr.add] using World.cell?_spot this
      subst hspot
      refine ⟨b, o, rfl, fun k hk => ?_⟩
      rw [hlen] at hk
      obtain ⟨cs', h1, h2⟩ := (hf2 k (by omega)).1
      have hat := (World.cells?_some h1).2.2
      rw [h2] at hat
      have e : ((List.range len).map f)[k] = f k := by simp
      rw [e]
      have q := fun j hj => hat j hj
      simp only [addr_add] at q
      exact ⟨by simpa using q 0 (by omega), q 1 (by omega), q 2 (by omega), q 3 (by omega), q 4 (by omega)⟩
    · intro e he
      obtain ⟨i, hi, rfl⟩ := List.mem_map.1 he
      have hil := List.mem_range.1 hi
      have := hf2 i (by omega)
      have hs := hsz i hi
      exact ⟨this.2.2.1, this.2.2.2, by omega⟩

end
end Go.Proofs.Ytaghpjlodlbmjaa.layRow
