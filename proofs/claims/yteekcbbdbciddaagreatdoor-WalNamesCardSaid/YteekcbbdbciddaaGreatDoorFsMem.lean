/- Files in memory: a map of slices of bytes; no two of them lie in one row. What is looked up, stored, deleted. -/
import Derived.Test.YteekcbbdbciddaaGreatDoorFsPlain
import Derived.Test.YteekcbbdbciddaaGreatDoorClone
import Derived.Maps.OwnSet
import Derived.Maps.RangeWalk
import Derived.Deep.RegionHeld3

namespace Go.Proofs.YteekcbbdbciddaaGreatDoor.fsMem
open Go.RowKit Go.Maps Go.Proofs.YteekcbbdbciddaaGreatDoor.sum Go.Proofs.YteekcbbdbciddaaGreatDoor.kept Go.Proofs.YteekcbbdbciddaaGreatDoor.app Go.Proofs.YteekcbbdbciddaaGreatDoor.writer Go.Proofs.YteekcbbdbciddaaGreatDoor.clone Go.Proofs.YteekcbbdbciddaaGreatDoor.fs
set_option linter.unusedVariables false

theorem law : Keyed Tryz.prog 9 := string_keyed Tryz.underlying9
theorem zeroS (w : World) : (zeroValue 34).run Tryz.prog w = .ok (.slice none 0 0) w := by kernel_rfl

/-- an element as it is -/
def raw (v : Value) : Option (DataW Value × List MemPlace) := some (.held v, [])
def dat (val : Name → Value) (es : Files) : DataW Value := .map (es.map fun e => (.string e.1, .held (val e.1)))

theorem sameKey_str (a b : Name) : (Lit.string a).sameKey (.string b) = (a == b) := rfl

theorem dat_at (val : Name → Value) (es : Files) (n : Name) (z : DataW Value) : (dat val es).atKey (.string n) z = if (get es n).isSome then .held (val n) else z := by
  unfold dat fs.get DataW.atKey
  simp only
  induction es with
  | nil => simp
  | cons y r ih =>
    simp only [List.map_cons, List.find?_cons, sameKey_str]
    by_cases e : y.1 = n
    · subst e; simp
    · have e' : (y.1 == n) = false := by simpa using e
      simp only [e']
      exact ih

theorem dat_has (val : Name → Value) (es : Files) (n : Name) : Maps.has (dat val es) (.string n) = (get es n).isSome := by
  unfold dat fs.get
  rw [Maps.has_eq]
  induction es with
  | nil => simp
  | cons y r ih =>
    simp only [List.map_cons, List.any_cons, List.find?_cons, sameKey_str]
    by_cases e : y.1 = n
    · subst e; simp
    · have e' : (y.1 == n) = false := by simpa using e
      simp only [e', Bool.false_or]
      exact ih

theorem dat_size (val : Name → Value) (es : Files) : Maps.size (dat val es) = es.length := by simp [dat, Maps.size]

theorem dat_congr {val val' : Name → Value} {es : Files} (h : ∀ e ∈ es, val e.1 = val' e.1) : dat val es = dat val' es := by
  unfold dat
  congr 1
  exact List.map_congr_left fun e he => by rw [h e he]

theorem insert_map (val : Name → Value) (x : Name × List UInt8) : ∀ es : Files, DataW.insert (Lit.string x.1, DataW.held (val x.1)) (es.map fun e => (Lit.string e.1, DataW.held (val e.1))) = (ins x es).map fun e => (Lit.string e.1, DataW.held (val e.1))
  | [] => rfl
  | y :: r => by
    have hb : (Lit.string x.1).before (.string y.1) = bef x.1 y.1 := rfl
    unfold ins
    simp only [List.map_cons, DataW.insert, hb]
    split
    · rfl
    · rw [insert_map val x r]; rfl

theorem filter_map (val : Name → Value) (n : Name) (es : Files) : ((es.map fun e => (Lit.string e.1, DataW.held (val e.1))).filter fun p => !p.1.sameKey (.string n)) = (drop es n).map fun e => (Lit.string e.1, DataW.held (val e.1)) := by
  unfold drop
  rw [List.filter_map]
  rfl

theorem dat_del (val : Name → Value) (es : Files) (n : Name) : (dat val es).del (.string n) = dat val (drop es n) := by
  show DataW.map _ = _
  unfold dat
  rw [filter_map]

def upd (val : Name → Value) (n : Name) (v : Value) : Name → Value := fun m => if m = n then v else val m
theorem upd_same (val : Name → Value) (n : Name) (v : Value) : upd val n v n = v := by simp [upd]
theorem upd_other (val : Name → Value) {n m : Name} (v : Value) (h : m ≠ n) : upd val n v m = val m := by simp [upd, h]

theorem dat_put (val : Name → Value) (es : Files) (n : Name) (v : Value) (bs : List UInt8) : (dat val es).put (.string n) (.held v) = dat (upd val n v) (put es n bs) := by
  show DataW.map (DataW.insert (.string n, .held v) ((es.map fun e => (Lit.string e.1, DataW.held (val e.1))).filter fun p => !p.1.sameKey (.string n))) = _
  rw [filter_map]
  have e1 : (drop es n).map (fun e => (Lit.string e.1, DataW.held (val e.1))) = (drop es n).map fun e => (Lit.string e.1, DataW.held (upd val n v e.1)) :=
    List.map_congr_left fun e he => by rw [upd_other _ _ (mem_drop.1 he).2]
  rw [e1]
  have := insert_map (upd val n v) (n, bs) (drop es n)
  simp only [upd_same] at this
  rw [this]
  rfl

/-- a row of a file's bytes, and whose it is -/
def RowOf (w : World) (base : Nat) (ρ : Nat → Option Name) (v : Value) (n : Name) (bs : List UInt8) : Prop :=
  w.ownsRow base 5 1 v bs.length (bs.map B) ∧ ∀ g, v.ownBlock = some g → ρ g = some n

/-- Block b is a map of these files, but that the file called x, if there is one, may have any value. -/
def FMx (x : Option Name) (w : World) (base b : Nat) (ρ : Nat → Option Name) (es : Files) : Prop :=
  Rising es ∧ ρ b = none ∧ base ≤ b ∧ ∃ val, w.ownsMap Tryz.prog 9 raw b es.length (dat val es) ∧ ∀ e ∈ es, x ≠ some e.1 → RowOf w base ρ (val e.1) e.1 e.2
abbrev FM := FMx none

theorem own_tight {w : World} {b n : Nat} {val : Name → Value} {es : Files} (h : w.ownsMap Tryz.prog 9 raw b n (dat val es)) : w.ownsMap Tryz.prog 9 raw b es.length (dat val es) := by
  obtain ⟨xs, clock, hb, F, hs, hD⟩ := h
  refine ⟨xs, clock, hb, F, ?_, hD⟩
  have := congrArg Maps.size hD
  rw [dat_size] at this
  simp [Maps.size, length_sorted] at this
  omega

theorem RowOf.kept {S : Nat → Prop} {w w' : World} {base : Nat} {ρ ρ' : Nat → Option Name} {v : Value} {n : Name} {bs : List UInt8} (h : RowOf w base ρ v n bs) (hk : Kp S w w') (hs : ∀ g, v.ownBlock = some g → ¬ S g) (hr : ∀ g, v.ownBlock = some g → g < w.heap.size → ρ' g = ρ g) : RowOf w' base ρ' v n bs :=
  ⟨owns_kept h.1 hk hs, fun g hg => by rw [hr g hg (h.1.lt g hg).2]; exact h.2 g hg⟩

theorem ownsMap_kept {S : Nat → Prop} {w w' : World} {b n : Nat} {D : DataW Value} (h : w.ownsMap Tryz.prog 9 raw b n D) (hk : Kp S w w') (hs : ¬ S b) : w'.ownsMap Tryz.prog 9 raw b n D := by
  have hlt := h.lt
  obtain ⟨es, clock, hb, F, hsz, hD⟩ := h
  exact ⟨es, clock, (hk.block b hlt hs).trans hb, F, hsz, hD⟩

/-- what does not touch the map and its rows leaves it -/
theorem FMx.kept {x : Option Name} {S : Nat → Prop} {w w' : World} {base b : Nat} {ρ ρ' : Nat → Option Name} {es : Files} (h : FMx x w base b ρ es) (hk : Kp S w w') (hs : ∀ k, k < w.heap.size → S k → k ≠ b ∧ (∀ n, ρ k = some n → x = some n))
    (hr : ∀ k, k < w.heap.size → ρ' k = ρ k) : FMx x w' base b ρ' es := by
  obtain ⟨h1, h2, h3, val, h4, h5⟩ := h
  have hb := h4.lt
  refine ⟨h1, by rw [hr b hb]; exact h2, h3, val, ownsMap_kept h4 hk (fun e => (hs b hb e).1 rfl), fun e he hx => ?_⟩
  have hrow := h5 e he hx
  exact hrow.kept hk (fun g hg hS => hx ((hs g (hrow.1.lt g hg).2 hS).2 e.1 (hrow.2 g hg))) fun g hg hlt => hr g hlt

theorem FMx.weak {w : World} {base b : Nat} {ρ : Nat → Option Name} {es : Files} (h : FM w base b ρ es) (n : Name) : FMx (some n) w base b ρ es := by
  obtain ⟨h1, h2, h3, val, h4, h5⟩ := h
  exact ⟨h1, h2, h3, val, h4, fun e he _ => h5 e he (by simp)⟩

theorem FMx.lt {x : Option Name} {w : World} {base b : Nat} {ρ : Nat → Option Name} {es : Files} (h : FMx x w base b ρ es) : b < w.heap.size := by
  obtain ⟨_, _, _, val, h4, _⟩ := h
  exact h4.lt

theorem key_nm {s : ByteArray} (hs : s.size ≤ maxLen) : keyOf Tryz.prog 9 (.string s) = some (.string (nm s)) := Go.WideMaps.keyOf_string_mk Tryz.underlying9 hs

/-- what stands at a name: the file's row; of none nil; and so it is looked up as long as nothing that is there turns -/
theorem FMx.look {w : World} {base b : Nat} {ρ : Nat → Option Name} {es : Files} (h : FM w base b ρ es) {s : ByteArray} (hs : s.size ≤ maxLen) :
    ∃ v, RowOf w base ρ v (nm s) (old es (nm s)) ∧ ∀ w', Kp No w w' → (Instr.lookup 46 (.map (some b)) (.string s) false).run Tryz.prog w' = .ok v w' ∧
      (Instr.lookup 46 (.map (some b)) (.string s) true).run Tryz.prog w' = .ok (.tuple #[v, .bool (get es (nm s)).isSome]) w' := by
  obtain ⟨h1, h2, h3, val, h4, h5⟩ := h
  refine ⟨if (get es (nm s)).isSome then val (nm s) else .slice none 0 0, ?_, fun w' hk => ?_⟩
  · cases hg : get es (nm s) with
    | none =>
      unfold old
      rw [hg]
      exact ⟨World.ownsRow_nil _ _ _ _, fun g hg => by simp [Value.ownBlock] at hg⟩
    | some bs =>
      unfold old
      rw [hg]
      exact h5 (nm s, bs) ((get_some h1).1 hg) (by simp)
  · have h4' := ownsMap_kept h4 hk id
    obtain ⟨v, ps, hr, hv⟩ := h4'.lookup law Tryz.underlying46 (zeroS w') (zd := .held (.slice none 0 0)) (zp := []) rfl (key_nm hs)
    obtain ⟨v2, ps2, hr2, hv2⟩ := h4'.look_ok law Tryz.underlying46 (zeroS w') (zd := .held (.slice none 0 0)) (zp := []) rfl (key_nm hs)
    rw [dat_at] at hv hv2
    rw [dat_has] at hr2
    simp only [raw, Option.some.injEq, Prod.mk.injEq] at hv hv2
    have key : ∀ u : Value, DataW.held u = (if (get es (nm s)).isSome then DataW.held (val (nm s)) else DataW.held (.slice none 0 0)) → u = if (get es (nm s)).isSome then val (nm s) else .slice none 0 0 := by
      intro u hu
      by_cases hh : (get es (nm s)).isSome = true
      · rw [if_pos hh] at hu ⊢; exact DataW.held.inj hu
      · rw [if_neg hh] at hu ⊢; exact DataW.held.inj hu
    rw [key v hv.1] at hr
    rw [key v2 hv2.1] at hr2
    exact ⟨hr, hr2⟩

/-- a store of a row of one's own -/
theorem FMx.store {w : World} {base b : Nat} {ρ : Nat → Option Name} {es : Files} {s : ByteArray} {v : Value} {bs : List UInt8} (h : FMx (some (nm s)) w base b ρ es) (hs : s.size ≤ maxLen) (hl : es.length < maxLen) (hv : RowOf w base ρ v (nm s) bs) :
    ∃ w', (Instr.mapUpdate 46 (.map (some b)) (.string s) v).run Tryz.prog w = .ok () w' ∧ FM w' base b ρ (put es (nm s) bs) ∧ Kp (fun k => k = b) w w' := by
  obtain ⟨h1, h2, h3, val, h4, h5⟩ := h
  obtain ⟨w', hr, ho, hg⟩ := h4.update law Tryz.underlying46 hl (d := .held v) (ps := []) (key_nm hs) rfl
  have hk : Kp (fun k => k = b) w w' := (Kp.refl _ w).grown hg fun k _ e => (Option.some.inj e).symm
  refine ⟨w', hr, ⟨h1.put _ _, h2, h3, upd val (nm s) v, ?_, ?_⟩, hk⟩
  · rw [dat_put val es (nm s) v bs] at ho
    exact own_tight ho
  · have keep : ∀ {u : Value} {m : Name} {cs : List UInt8}, RowOf w base ρ u m cs → RowOf w' base ρ u m cs := fun {u m cs} hh => hh.kept hk (fun g hg e => by
      have := hh.2 g hg
      rw [e, h2] at this
      cases this) fun _ _ _ => rfl
    intro e he _
    rcases mem_put.1 he with rfl | ⟨he2, hne⟩
    · rw [upd_same]; exact keep hv
    · rw [upd_other _ _ hne]; exact keep (h5 e he2 (fun e9 => hne (Option.some.inj e9).symm))

/-- delete -/
theorem FMx.drop {w : World} {base b : Nat} {ρ : Nat → Option Name} {es : Files} {s : ByteArray} (h : FM w base b ρ es) (hs : s.size ≤ maxLen) (ty : TypeId) :
    ∃ w', (Builtin.delete_ #[46, 9] ty #[.map (some b), .string s]).run Tryz.prog w = .ok (.tuple #[]) w' ∧ FM w' base b ρ (drop es (nm s)) ∧ Kp (fun k => k = b) w w' := by
  obtain ⟨h1, h2, h3, val, h4, h5⟩ := h
  have hb := h4.lt
  obtain ⟨w', hr, ho, ht⟩ := h4.drop law Tryz.underlying46 (key_nm hs) ty
  have hk : Kp (fun k => k = b) w w' := by
    obtain ⟨xs, clock, xs', clock', hbb, rfl⟩ := ht
    exact ⟨rfl, rfl, rfl, by simp [Go.ChangeMaps.setBlock], fun i _ hi => Go.ChangeMaps.heap_setBlock_other hbb _ hi⟩
  refine ⟨w', hr, ⟨h1.drop _, h2, h3, val, ?_, ?_⟩, hk⟩
  · rw [dat_del] at ho
    exact own_tight ho
  · intro e he _
    have hh := h5 e (mem_drop.1 he).1 (by simp)
    exact hh.kept hk (fun g hg e => by
      have := hh.2 g hg
      rw [e, h2] at this
      cases this) fun _ _ _ => rfl

end Go.Proofs.YteekcbbdbciddaaGreatDoor.fsMem
