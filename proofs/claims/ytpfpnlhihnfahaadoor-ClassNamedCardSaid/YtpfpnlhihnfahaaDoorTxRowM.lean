/- Rows of texts; the law's strs. The law's all: the records of bytes that are fed in pieces, over what is asked of the project's Splitter. The laws' table of separators, in plain words. How a slice of whole numbers is read as an argument; the laws' table of separators. -/
import Derived.Test.YtpfpnlhihnfahaaDoorSplitPlainM
import Derived.Test.YtpfpnlhihnfahaaDoorAppendM
import Derived.Test.YtpfpnlhihnfahaaDoorBaseM
import Derived.LaidMore
import Derived.LaidSub
import Derived.Stop.Joined

namespace Go.Proofs.YtpfpnlhihnfahaaDoor.spl
open Go.RowKit Go.Maps Go.Proofs.YtpfpnlhihnfahaaDoor.sum Go.Proofs.YtpfpnlhihnfahaaDoor.kept Go.Proofs.YtpfpnlhihnfahaaDoor.app Go.Proofs.YtpfpnlhihnfahaaDoor.writer Go.Proofs.YtpfpnlhihnfahaaDoor.clone Go.Proofs.YtpfpnlhihnfahaaDoor.known Go.Proofs.YtpfpnlhihnfahaaDoor.unseal Go.Proofs.YtpfpnlhihnfahaaDoor.snp
set_option linter.unusedVariables false

theorem infoT : (Tryd.prog.info? 9).map (fun i => (i.zero, i.size, i.bytes)) = some (some (.string ByteArray.empty), 1, 16) := by kernel_rfl

/-- a row of texts of the call's own -/
def TRow (w : World) (base : Nat) (v : Value) (l : List (List UInt8)) : Prop := w.ownsRow base 9 1 v l.length (l.map fun x => Value.string (tx x))
theorem TRow.no {w w' : World} {base : Nat} {v : Value} {l : List (List UInt8)} (h : TRow w base v l) (hk : Kp No w w') : TRow w' base v l := owns_kept h hk fun _ _ => id
theorem TRow.kept {S : Nat → Prop} {w w' : World} {base : Nat} {v : Value} {l : List (List UInt8)} (h : TRow w base v l) (hk : Kp S w w') (hn : ∀ g, v.ownBlock = some g → ¬ S g) : TRow w' base v l := owns_kept h hk hn
theorem TRow.nil (w : World) (base : Nat) : TRow w base (.slice none 0 0) [] := World.ownsRow_nil _ _ _ _

/-- read: a slice of texts -/
def Tr (w : World) (v : Value) (l : List (List UInt8)) : Prop :=
  ∃ a cap, v = .slice a l.length cap ∧ l.length ≤ cap ∧ cap ≤ 9223372036854775807 ∧ (l ≠ [] → ∃ b, a = some ⟨b, 0, none⟩ ∧ ∀ k (h : k < l.length), w.cell? ⟨b, k, none⟩ = some (.string (tx l[k])))
theorem TRow.tr {w : World} {base : Nat} {v : Value} {l : List (List UInt8)} (h : TRow w base v l) : Tr w v l := by
  have h' : w.ownsRow base 9 1 v l.length (l.map fun x => Value.string (tx x)) := h
  rcases h'.2 with ⟨rfl, h0⟩ | ⟨g, cap, cur, rfl, hb, hg, r1, r2, r3, r4⟩
  · have : l = [] := List.eq_nil_of_length_eq_zero h0
    subst this
    exact ⟨none, 0, rfl, Nat.le_refl _, by decide, fun h => absurd rfl h⟩
  · refine ⟨_, cap, rfl, r1, by unfold maxLen at r2; omega, fun _ => ⟨g, rfl, fun k hk => ?_⟩⟩
    have := h'.cells (g := g) rfl k (.string (tx l[k])) (by simp [hk])
    rw [addr_add, Nat.zero_add] at this
    exact this
theorem Tr.no {w w' : World} {v : Value} {l : List (List UInt8)} (h : Tr w v l) (hk : Kp No w w') : Tr w' v l := by
  obtain ⟨a, cap, rfl, h1, h2, h3⟩ := h
  refine ⟨a, cap, rfl, h1, h2, fun hne => ?_⟩
  obtain ⟨b, rfl, hc⟩ := h3 hne
  exact ⟨b, rfl, fun k hk2 => hk.cell' (hc k hk2) id⟩

def SsRel (n : Nat) (w : World) (i : Value) (wr : World) : Prop := ∃ k : Nat, i = .int .i64 (k : Int) ∧ k ≤ n ∧ Kp No w wr

end Go.Proofs.YtpfpnlhihnfahaaDoor.spl

namespace Go.Proofs.YtpfpnlhihnfahaaDoor.spl
open Go.RowKit Go.Maps Go.Proofs.YtpfpnlhihnfahaaDoor.sum Go.Proofs.YtpfpnlhihnfahaaDoor.kept Go.Proofs.YtpfpnlhihnfahaaDoor.app Go.Proofs.YtpfpnlhihnfahaaDoor.writer Go.Proofs.YtpfpnlhihnfahaaDoor.clone Go.Proofs.YtpfpnlhihnfahaaDoor.known Go.Proofs.YtpfpnlhihnfahaaDoor.unseal Go.Proofs.YtpfpnlhihnfahaaDoor.snp
set_option linter.unusedVariables false

/-- read: a slice of whole numbers -/
def Cu (w : World) (v : Value) (ns : List Int) : Prop :=
  ∃ a cap, v = .slice a ns.length cap ∧ ns.length ≤ cap ∧ cap ≤ 9223372036854775807 ∧ (ns ≠ [] → ∃ b o, a = some ⟨b, o, none⟩ ∧ ∀ k (h : k < ns.length), w.cell? ⟨b, o + k, none⟩ = some (.int .i64 ns[k]))
def lenOf : Value → Nat
  | .slice _ n _ => n
  | _ => 0
theorem TRow.len {w : World} {base : Nat} {v : Value} {l : List (List UInt8)} (h : TRow w base v l) : lenOf v = l.length := by
  rcases owns_any h with ⟨rfl, h0⟩ | ⟨g, cap, rfl, -⟩
  · exact h0.symm
  · rfl

/-- the records so far, beside the splitter -/
structure OutS (Sp : SpT) (w wr : World) (base p m : Nat) (rs : List UInt8) (out : Value) (ρ : Nat → Bool) (t : SpS) (l : List (List UInt8)) : Prop where
  sp : Sp wr base p ρ m t
  dry : DryS rs t
  ok : OkS m t
  row : TRow wr base out l
  apart : ∀ g, out.ownBlock = some g → ρ g = false
  kp : Kp No w wr
  low : w.heap.size ≤ base
  up : base ≤ wr.heap.size

section
variable {Sp : SpT} {w wr w' : World} {base p m : Nat} {rs : List UInt8} {out : Value} {ρ : Nat → Bool} {t t' : SpS} {l : List (List UInt8)}
/-- behind a call of the splitter -/
theorem OutS.call (C : SplitC Sp) (h : OutS Sp w wr base p m rs out ρ t l) {res : Value} {e : Ending} (hp : SpPost Sp wr base p ρ m t' res e w') (hd : DryS rs t') (ho : OkS m t') : e = .returned res ∧ ∃ ρ', OutS Sp w w' base p m rs out ρ' t' l := by
  obtain ⟨he, ρ', h1, h2⟩ := hp
  refine ⟨he, ρ', h1, hd, ho, h.row.kept h2.1 fun g hg e2 => ?_, fun g hg => h2.2 g (World.ownsRow.lt h.row g hg).2 (h.apart g hg), h.kp.trans h2.1 fun i hi e2 => ?_, h.low, Nat.le_trans h.up h2.1.size⟩
  · have e3 : ρ g = true := e2
    rw [h.apart g hg] at e3; cases e3
  · have := (C.low h.sp i e2).1
    have := h.low
    omega
/-- behind a text that was added -/
theorem OutS.add (C : SplitC Sp) (h : OutS Sp w wr base p m rs out ρ t l) {o : Obj} {out' : Value} {y : List UInt8} (hr : TRow w' base out' (l ++ [y])) (hk : Kp (fun k => out.ownBlock = some k) (wr.alloc o) w') (hb : out'.ownBlock = out.ownBlock ∨ out'.ownBlock = some (wr.alloc o).heap.size) : OutS Sp w w' base p m rs out' ρ t (l ++ [y]) := by
  have hk2 : Kp (fun k => out.ownBlock = some k) wr w' := (((Kp.refl No wr).alloc o).to).trans' hk
  refine ⟨C.kept h.sp hk2 fun k hk3 e => ?_, h.dry, h.ok, hr, fun g hg => ?_, h.kp.trans hk2 fun i hi e => ?_, h.low, Nat.le_trans h.up hk2.size⟩
  · rw [h.apart k e] at hk3; cases hk3
  · rcases hb with e | e
    · rw [e] at hg; exact h.apart g hg
    · rw [e] at hg
      cases hρ : ρ g with
      | false => rfl
      | true =>
        have h1 := (C.low h.sp g hρ).2
        cases hg
        simp at h1
        omega
  · have := (World.ownsRow.lt h.row i e).1
    have := h.low
    omega
end

def AlRel (Sp : SpT) (w : World) (base p m : Nat) (rs bs : List UInt8) (nc : Nat) (bv out iv : Value) (wr : World) : Prop :=
  ∃ (n i : Nat) (ρ : Nat → Bool) (t : SpS) (l : List (List UInt8)), Bs w bv (bs.drop n) ∧ n ≤ bs.length ∧ iv = .int .i64 (i : Int) ∧ i ≤ nc + 1 ∧ (i = nc + 1 → n = bs.length) ∧ (i = 0 → n = 0) ∧ t.rest = [] ∧ eatS m rs (bs.take n) zeroS = (l, t) ∧ OutS Sp w wr base p m rs out ρ t l
def AiRel (Sp : SpT) (w : World) (base p m : Nat) (rs : List UInt8) (E : List (List UInt8) × SpS) (out : Value) (wr : World) : Prop :=
  ∃ (ρ : Nat → Bool) (t : SpS) (l : List (List UInt8)), t.rest.length ≤ 1000000 ∧ l ++ (eatS m rs t.rest (dryR t)).1 = E.1 ∧ (eatS m rs t.rest (dryR t)).2 = E.2 ∧ OutS Sp w wr base p m rs out ρ t l
def ArRel (Sp : SpT) (w : World) (base p m : Nat) (rs : List UInt8) (R : List (List UInt8)) (out : Value) (wr : World) : Prop :=
  ∃ (ρ : Nat → Bool) (t : SpS) (l : List (List UInt8)), t.rest = [] ∧ l ++ tailS t = R ∧ OutS Sp w wr base p m rs out ρ t l

theorem feed_eat {m : Nat} {rs : List UInt8} {t : SpS} (h : t.rest = []) (y : List UInt8) : (feedS t y).rest = y ∧ dryR (feedS t y) = t := by
  obtain ⟨a, b, c, d⟩ := t
  simp only at h
  subst h
  exact ⟨rfl, rfl⟩
theorem eatS_few (m : Nat) (rs : List UInt8) : ∀ (b : List UInt8) (s : SpS), (eatS m rs b s).1.length ≤ b.length
  | [], s => Nat.le_refl _
  | b :: r, s => by
    rw [eatS_cons]
    split
    · have := eatS_few m rs r (endS (lookS m rs s b).2)
      simp; omega
    · have := eatS_few m rs r (lookS m rs s b).2
      simp; omega

end Go.Proofs.YtpfpnlhihnfahaaDoor.spl

namespace Go.Proofs.YtpfpnlhihnfahaaDoor.spl
open Go.RowKit Go.Proofs.YtpfpnlhihnfahaaDoor.sum Go.Proofs.YtpfpnlhihnfahaaDoor.kept Go.Proofs.YtpfpnlhihnfahaaDoor.snp
set_option linter.unusedVariables false

def sepL (k : Nat) : List UInt8 := match k with
  | 1 => []
  | 2 => [59]
  | 4 => [59, 120]
  | _ => [10]
theorem sepL_len (k : Nat) : (sepL k).length ≤ 2 := by unfold sepL; split <;> decide
/-- the table -/
def Sq (w : World) : Prop := ∀ K, K < 5 → w.cell? ⟨0, K, none⟩ = some (.string (tx (sepL K)))
theorem Sq.no {w w' : World} (h : Sq w) (hk : Kp No w w') : Sq w' := fun K hK => hk.cell' (h K hK) id

end Go.Proofs.YtpfpnlhihnfahaaDoor.spl

namespace Go.Proofs.YtpfpnlhihnfahaaDoor.cuRow
open Go.ChangeShapes Go.WideShapes Go.ChangeAt Go.RowKit Go.Proofs.YtpfpnlhihnfahaaDoor.sum Go.Proofs.YtpfpnlhihnfahaaDoor.kept Go.Proofs.YtpfpnlhihnfahaaDoor.row Go.Proofs.YtpfpnlhihnfahaaDoor.spl Go.Proofs.YtpfpnlhihnfahaaDoor.snp
set_option linter.unusedVariables false

theorem open_cu {H : Type} {enc : TypeId × Value → H} {W : World} {a : Option Addr} {len cap : Nat} {d : DataW H} {p : List MemPlace}
    (h0 : DataW.Trod enc Tryd.prog W 0 (fun _ => true) true 103 (.slice a len cap) d p) : ∃ ws, Cu W (.slice a len cap) ws := by
  obtain ⟨fuel, hf⟩ := h0
  rcases open_ints Tryd.underlying103 Tryd.underlying3 (by kernel_rfl) hf with ⟨hcs, _⟩ | ⟨x, l, c, zs, hcs, _, hl, hm, hz, hx, hcell, hwz⟩
  · simp [Value.cells] at hcs
    obtain ⟨rfl, rfl, rfl⟩ := hcs
    exact ⟨[], ⟨none, 0, rfl, Nat.le_refl _, by decide, fun h => absurd rfl h⟩⟩
  · simp [Value.cells] at hcs
    obtain ⟨rfl, rfl, rfl⟩ := hcs
    simp only [if_true] at hz
    have hlen : (zs.take len).length = len := by simp; omega
    refine ⟨zs.take len, ⟨some x, cap, by rw [hlen], by omega, by unfold maxLen at hm; omega, fun hne => ?_⟩⟩
    have h0 : 0 < zs.length := by
      rcases Nat.eq_zero_or_pos len with e | e
      · subst e; simp at hne
      · omega
    have hc0 := hcell 0 h0
    obtain ⟨b, o, spot⟩ := x
    have hspot : spot = none := by simpa [Addr.add] using World.cell?_spot hc0
    subst hspot
    refine ⟨b, o, rfl, fun k hk => ?_⟩
    rw [hlen] at hk
    have hkz : k < zs.length := by omega
    have hc := hcell k hkz
    rw [addr_add] at hc
    rw [hc]
    simp [List.getD, hkz]

theorem gSeps : Tryd.prog.globalNamed "tailrace/tailracelaw7.seps" = some 0 := by kernel_rfl
theorem tSeps : (Tryd.prog.globals[0]?).map (·.type) = some 46 := by kernel_rfl
theorem cellsStr : Tryd.prog.cellsOf 9 = 1 := by kernel_rfl

/-- one text of the list -/
theorem one_text {H : Type} {enc : TypeId × Value → H} {W : World} {sp : Nat → Bool} {m j base : Nat} {held : Bool} {cs : List Value} {x : DataW H × List MemPlace} {L : List UInt8} {s0 : ByteArray} (h : DataW.trod enc Tryd.prog W base sp held m 9 ((cs.drop (j * 1)).take 1) = some x) (hL : x.1 = .lit (.string L)) (hs : s0.data.toList = L) : cs[j]? = some (.string s0) := by
  obtain ⟨s, e1, e2, _⟩ := DataW.trod_string Tryd.underlying9 h
  rw [e2] at hL
  simp only [DataW.lit.injEq, Lit.string.injEq] at hL
  have es : s = s0 := by
    apply ByteArray.ext
    rw [← Array.toList_inj, hL, hs]
  subst es
  rw [Nat.mul_one] at e1
  have := congrArg (fun l => l[0]?) e1
  simpa using this

/-- What the condition gives the walk: the five texts' cells. -/
theorem of_seps {W : World} (h : laidMetH Tryd.prog [("tailrace/tailracelaw7.seps", Rows.laid_tailrace_tailracelaw7_seps)] W) : Sq W := by
  rw [MakeChecks.laidMetH_plain _ _ _ (by kernel_rfl)] at h
  obtain ⟨ps, ⟨g0, t0, cs0, f0, p0, q0, hg0, ht0, hv0, hd0, _, _⟩, _, _⟩ := h
  obtain rfl := Option.some.inj (gSeps.symm.trans hg0)
  obtain rfl := Option.some.inj (tSeps.symm.trans ht0)
  obtain ⟨xs, m1, rfl, hx1, hlen, hn3, hel⟩ := DataW.trod_array Tryd.underlying46 hd0
  rw [cellsStr] at hel
  simp only [Prod.mk.injEq, DataW.agg.injEq] at hx1
  match xs, hn3, hx1, hel with
  | [x0, x1, x2, x3, x4], _, hx1, hel =>
    simp only [List.map_cons, List.map_nil] at hx1
    obtain ⟨hxl, -⟩ := hx1
    unfold Rows.laid_tailrace_tailracelaw7_seps at hxl
    simp only [DataW.agg.injEq, List.cons.injEq, and_true] at hxl
    obtain ⟨e0, e1, e2, e3, e4⟩ := hxl
    have c := fun K u (hu : cs0.toList[K]? = some u) => (World.var?_cell hg0 hv0 K).trans (by rw [← Array.getElem?_toList, hu])
    intro K hK
    match K, hK with
    | 0, _ => exact c 0 _ (one_text (s0 := tx (sepL 0)) (hel 0 (by decide)) e0.symm rfl)
    | 1, _ => exact c 1 _ (one_text (s0 := tx (sepL 1)) (hel 1 (by decide)) e1.symm rfl)
    | 2, _ => exact c 2 _ (one_text (s0 := tx (sepL 2)) (hel 2 (by decide)) e2.symm rfl)
    | 3, _ => exact c 3 _ (one_text (s0 := tx (sepL 3)) (hel 3 (by decide)) e3.symm rfl)
    | 4, _ => exact c 4 _ (one_text (s0 := tx (sepL 4)) (hel 4 (by decide)) e4.symm rfl)

end Go.Proofs.YtpfpnlhihnfahaaDoor.cuRow
