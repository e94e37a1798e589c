/- Package disk's Disk in memory; its small calls. tailracehand.Pick; a byte of a slice turned. The reference's into and name. The reference's Disk: what lies where; Fuse; counts. The reference's Disk: Fuse, Read, Used. What is done to a Disk: a change, what is settled, what is torn. -/
import Derived.Test.YtmehneicdklfeaaFsDoM
import Derived.Deep.RegionWith
import Derived.StillTailTactics
import Derived.RegionCalls
import Derived.Deep.AppendLies
import Derived.Deep.RegionLaw

namespace Go.Proofs.Ytmehneicdklfeaa.dsk
open Go.RowKit Go.Maps Go.Proofs.Ytmehneicdklfeaa.sum Go.Proofs.Ytmehneicdklfeaa.kept Go.Proofs.Ytmehneicdklfeaa.app Go.Proofs.Ytmehneicdklfeaa.writer Go.Proofs.Ytmehneicdklfeaa.clone Go.Proofs.Ytmehneicdklfeaa.fs Go.Proofs.Ytmehneicdklfeaa.fsMem Go.Proofs.Ytmehneicdklfeaa.fsDo Go.Proofs.Ytmehneicdklfeaa.fsUsed Go.Proofs.Ytmehneicdklfeaa.turned
set_option linter.unusedVariables false

/-- whose a block is -/
inductive Role where
  | other | disk | smap | nmap | pend | byt
  | srow (n : Name) | nrow (n : Name)

def sOf (ρ : Nat → Role) (k : Nat) : Option Name := match ρ k with | .srow n => some n | _ => none
def nOf (ρ : Nat → Role) (k : Nat) : Option Name := match ρ k with | .nrow n => some n | _ => none

structure DSt where
  room : Int
  fuse : Int
  down : Bool
  syn : Files
  cs : List Change

def DSt.now (d : DSt) : Files := all d.syn d.cs

def bytesOf : List Change → Nat
  | [] => 0
  | c :: r => c.bytes.length + bytesOf r
theorem bytesOf_append (a b : List Change) : bytesOf (a ++ b) = bytesOf a + bytesOf b := by
  induction a with
  | nil => simp [bytesOf]
  | cons c a ih => simp only [List.cons_append, bytesOf, ih]; omega
theorem bytesOf_take (a : List Change) (k : Nat) : bytesOf (a.take k) ≤ bytesOf a := by
  conv => rhs; rw [← List.take_append_drop k a]
  rw [bytesOf_append]; omega

def fitsAll : Files → List Change → Prop
  | _, [] => True
  | es, c :: r => c.fits es ∧ fitsAll (doit es c) r
theorem fitsAll_snoc {es : Files} {cs : List Change} {c : Change} (h : fitsAll es cs) (hc : c.fits (all es cs)) : fitsAll es (cs ++ [c]) := by
  induction cs generalizing es with
  | nil => exact ⟨hc, trivial⟩
  | cons x cs ih => exact ⟨h.1, ih h.2 hc⟩
theorem fitsAll_at {es : Files} {cs : List Change} (h : fitsAll es cs) (k : Nat) (hk : k < cs.length) : cs[k].fits (all es (cs.take k)) := by
  induction cs generalizing es k with
  | nil => simp at hk
  | cons x cs ih =>
    cases k with
    | zero => exact h.1
    | succ k => exact ih h.2 k (by simpa using hk)

theorem used_all {es : Files} (h : Rising es) (cs : List Change) : used (all es cs) ≤ used es + bytesOf cs := by
  induction cs generalizing es with
  | nil => simp [all_nil, bytesOf]
  | cons c cs ih =>
    have h1 := ih (rising_doit h c)
    have h2 := used_doit h c
    rw [all_cons]
    simp only [bytesOf]
    split at h2 <;> omega
theorem len_doit {es : Files} (h : Rising es) (c : Change) : (doit es c).length ≤ es.length + 1 := by
  unfold doit
  split
  · rw [len_put h]; split <;> omega
  · rw [len_put h]; split <;> omega
  · have := len_put (h.drop (nm c.name)) (nm c.to) (old es (nm c.name))
    have h2 : (drop es (nm c.name)).length ≤ es.length := List.length_filter_le _ _
    rw [this]; split <;> omega
  · have h2 : (drop es (nm c.name)).length ≤ es.length := List.length_filter_le _ _
    omega
theorem len_all {es : Files} (h : Rising es) (cs : List Change) : (all es cs).length ≤ es.length + cs.length := by
  induction cs generalizing es with
  | nil => simp [all_nil]
  | cons c cs ih =>
    have h1 := ih (rising_doit h c)
    have h2 := len_doit h c
    rw [all_cons]
    simp only [List.length_cons]
    omega

/-- what holds of a disk on which at most M things were done -/
structure DOk (M : Nat) (d : DSt) : Prop where
  rising : Rising d.syn
  few : d.syn.length + d.cs.length ≤ M
  small : used d.syn + bytesOf d.cs ≤ M * 8388608
  fit : fitsAll d.syn d.cs
  names : ∀ c ∈ d.cs, c.name.size ≤ maxLen ∧ c.to.size ≤ maxLen
  sizes : ∀ c ∈ d.cs, c.size ≤ 9223372036854775807
  room0 : 0 ≤ d.room
  room1 : d.room ≤ 8388608
  fuse0 : -1 ≤ d.fuse
  fuse1 : d.fuse ≤ 9223372036854775807
  plain : ∀ c ∈ d.cs, c.kind ≠ 0 → c.bytes = []

theorem DOk.mono {M N : Nat} {d : DSt} (h : DOk M d) (hm : M ≤ N) : DOk N d :=
  ⟨h.rising, Nat.le_trans h.few hm, Nat.le_trans h.small (Nat.mul_le_mul_right _ hm), h.fit, h.names, h.sizes, h.room0, h.room1, h.fuse0, h.fuse1, h.plain⟩

def chgList (q : Change × Value) : List Value := [.int .i64 (q.1.kind : Int), .string q.1.name, .string q.1.to, q.2, .int .i64 (q.1.size : Int)]

/-- A Disk at block p: its maps s and n, its slice vp of what is pending. -/
structure DkAt (w : World) (base p : Nat) (ρ : Nat → Role) (d : DSt) (nw : Files) (s n : Nat) (vp : Value) (ps : List (Change × Value)) : Prop where
  c0 : w.cell? ⟨p, 0, none⟩ = some (.int .i64 d.room)
  c1 : w.cell? ⟨p, 1, none⟩ = some (.int .i64 d.fuse)
  c2 : w.cell? ⟨p, 2, none⟩ = some (.bool d.down)
  c3 : w.cell? ⟨p, 3, none⟩ = some (.map (some s))
  c4 : w.cell? ⟨p, 4, none⟩ = some (.map (some n))
  c5 : w.cell? ⟨p, 5, none⟩ = some vp
  warm : ∀ o, w.frozen? ⟨p, o, none⟩ = false
  syn : FM w base s (sOf ρ) d.syn
  now : FM w base n (nOf ρ) nw
  cs : ps.map (·.1) = d.cs
  pend : w.ownsRow base 59 5 vp ps.length (ps.flatMap chgList)
  byts : ∀ q ∈ ps, Bs w q.2 q.1.bytes ∧ ∀ x o m c, q.2 = .slice (some ⟨x, o, none⟩) m c → ρ x = .byt ∧ x < w.heap.size
  rp : ρ p = .disk
  rs : ρ s = .smap
  rn : ρ n = .nmap
  rv : ∀ g, vp.ownBlock = some g → ρ g = .pend
  bp : base ≤ p
  low : ∀ k, ρ k ≠ .other → base ≤ k
  hi : ∀ k, w.heap.size ≤ k → ρ k = .other

def Dk (w : World) (base p : Nat) (ρ : Nat → Role) (d : DSt) : Prop := ∃ s n vp ps, DkAt w base p ρ d d.now s n vp ps

/-- of old memory only the disk's has turned; what was not the disk's is not -/
def Fr (ρ : Nat → Role) (w : World) (ρ' : Nat → Role) (w' : World) : Prop := Kp (fun k => ρ k ≠ .other) w w' ∧ ∀ k, k < w.heap.size → ρ k = .other → ρ' k = .other
theorem Fr.refl (ρ : Nat → Role) (w : World) : Fr ρ w ρ w := ⟨Kp.refl _ _, fun _ _ h => h⟩
theorem Fr.trans {ρ ρ' ρ'' : Nat → Role} {w w' w'' : World} (h : Fr ρ w ρ' w') (k : Fr ρ' w' ρ'' w'') : Fr ρ w ρ'' w'' :=
  ⟨h.1.trans k.1 fun i hi e e2 => e (h.2 i hi e2), fun i hi e => k.2 i (Nat.lt_of_lt_of_le hi h.1.size) (h.2 i hi e)⟩
theorem Fr.of_no {ρ : Nat → Role} {w w' : World} (h : Kp No w w') : Fr ρ w ρ w' := ⟨h.to, fun _ _ h => h⟩

theorem DkAt.lt {w : World} {base p : Nat} {ρ : Nat → Role} {d : DSt} {nw : Files} {s n : Nat} {vp : Value} {ps : List (Change × Value)} (h : DkAt w base p ρ d nw s n vp ps) : p < w.heap.size := World.block_lt_of_cell? w ⟨p, 0, none⟩ h.c0

theorem DkAt.no {w w' : World} {base p : Nat} {ρ : Nat → Role} {d : DSt} {nw : Files} {s n : Nat} {vp : Value} {ps : List (Change × Value)} (h : DkAt w base p ρ d nw s n vp ps) (hk : Kp No w w') : DkAt w' base p ρ d nw s n vp ps :=
  ⟨hk.cell' h.c0 id, hk.cell' h.c1 id, hk.cell' h.c2 id, hk.cell' h.c3 id, hk.cell' h.c4 id, hk.cell' h.c5 id, fun o => (hk.frozen (p := ⟨p, o, none⟩) h.lt id).trans (h.warm o),
    h.syn.kept hk (fun _ _ x => x.elim) fun _ _ => rfl, h.now.kept hk (fun _ _ x => x.elim) fun _ _ => rfl, h.cs, owns_kept h.pend hk fun _ _ => id,
    fun q hq => ⟨bs_no (h.byts q hq).1 hk, fun x o m c e => ⟨((h.byts q hq).2 x o m c e).1, Nat.lt_of_lt_of_le ((h.byts q hq).2 x o m c e).2 hk.size⟩⟩, h.rp, h.rs, h.rn, h.rv, h.bp, h.low, fun k hk2 => h.hi k (Nat.le_trans hk.size hk2)⟩

theorem Dk.no {w w' : World} {base p : Nat} {ρ : Nat → Role} {d : DSt} (h : Dk w base p ρ d) (hk : Kp No w w') : Dk w' base p ρ d := by
  obtain ⟨s, n, vp, ps, h⟩ := h
  exact ⟨s, n, vp, ps, h.no hk⟩

theorem sOf_none {ρ : Nat → Role} {k : Nat} (h : ∀ n, ρ k ≠ .srow n) : sOf ρ k = none := by unfold sOf; split <;> simp_all
theorem nOf_none {ρ : Nat → Role} {k : Nat} (h : ∀ n, ρ k ≠ .nrow n) : nOf ρ k = none := by unfold nOf; split <;> simp_all

/-- stores into the Disk's own cells -/
theorem DkAt.cells {w w' : World} {base p : Nat} {ρ : Nat → Role} {d d' : DSt} {nw : Files} {s n : Nat} {vp : Value} {ps : List (Change × Value)} (h : DkAt w base p ρ d nw s n vp ps) (hk : Kp (fun k => k = p) w w')
    (c0 : w'.cell? ⟨p, 0, none⟩ = some (.int .i64 d'.room)) (c1 : w'.cell? ⟨p, 1, none⟩ = some (.int .i64 d'.fuse)) (c2 : w'.cell? ⟨p, 2, none⟩ = some (.bool d'.down)) (c3 : w'.cell? ⟨p, 3, none⟩ = some (.map (some s)))
    (c4 : w'.cell? ⟨p, 4, none⟩ = some (.map (some n))) (c5 : w'.cell? ⟨p, 5, none⟩ = some vp) (hf : ∀ o, w'.frozen? ⟨p, o, none⟩ = false) (hs : d'.syn = d.syn) (hc : d'.cs = d.cs) : DkAt w' base p ρ d' nw s n vp ps := by
  have hrp := h.rp
  refine ⟨c0, c1, c2, c3, c4, c5, hf, ?_, ?_, by rw [hc]; exact h.cs, owns_kept h.pend hk ?_, fun q hq => ⟨bs_kept (h.byts q hq).1 hk ?_, fun x o m c e => ⟨((h.byts q hq).2 x o m c e).1, Nat.lt_of_lt_of_le ((h.byts q hq).2 x o m c e).2 hk.size⟩⟩, h.rp, h.rs, h.rn, h.rv, h.bp, h.low, fun k hk2 => h.hi k (Nat.le_trans hk.size hk2)⟩
  · rw [hs]
    refine h.syn.kept hk (fun k _ e => ⟨fun e2 => ?_, fun m hm => ?_⟩) fun _ _ => rfl
    · have := h.rs; rw [← e2, e, hrp] at this; cases this
    · rw [e] at hm; rw [sOf_none (by rw [hrp]; simp)] at hm; cases hm
  · refine h.now.kept hk (fun k _ e => ⟨fun e2 => ?_, fun m hm => ?_⟩) fun _ _ => rfl
    · have := h.rn; rw [← e2, e, hrp] at this; cases this
    · rw [e] at hm; rw [nOf_none (by rw [hrp]; simp)] at hm; cases hm
  · rintro k e rfl
    have := h.rv _ e; rw [hrp] at this; cases this
  · rintro x o m c e rfl
    have := ((h.byts q hq).2 _ o m c e).1; rw [hrp] at this; cases this

def nameB (s : ByteArray) : Bool := decide (1 ≤ s.size) && decide (s.size ≤ 16)
set_option maxRecDepth 100000 in
set_option maxHeartbeats 1000000 in
theorem name_any (w : World) (s : ByteArray) (hs : s.size ≤ maxLen) : Calls Try.prog 32 #[.string s] w fun e w' => e = .returned (.bool (nameB s)) ∧ w = w' := by
  unfold maxLen at hs
  by_cases h1 : 1 ≤ s.size
  · by_cases h2 : s.size ≤ 16
    · have e : nameB s = true := by simp [nameB, h1, h2]
      have hd : decide ((s.size : Int) ≤ 16) = true := by simp; omega
      rw [e]
      go_enter Try.func32, Try.ntmps32
      go_wp2
      go_ret
      exact ⟨rfl, rfl⟩
    · have e : nameB s = false := by simp [nameB, h2]
      have hd : decide ((s.size : Int) ≤ 16) = false := by simp; omega
      rw [e]
      go_enter Try.func32, Try.ntmps32
      go_wp2
      go_ret
      exact ⟨rfl, rfl⟩
  · have e : nameB s = false := by simp [nameB, h1]
    rw [e]
    go_enter Try.func32, Try.ntmps32
    go_wp2
    go_ret
    exact ⟨rfl, rfl⟩

def roomB (r : Int) : Bool := decide (0 ≤ r) && decide (r ≤ 8388608)
set_option maxRecDepth 100000 in
set_option maxHeartbeats 1000000 in
theorem room_any (w : World) (r : Int) : Calls Try.prog 12 #[.int .i64 r] w fun e w' => e = .returned (.bool (roomB r)) ∧ w = w' := by
  by_cases h1 : 0 ≤ r
  · by_cases h2 : r ≤ 8388608
    · have e : roomB r = true := by simp [roomB, h1, h2]
      rw [e]
      go_enter Try.func12, Try.ntmps12
      go_wp2
      go_ret
      exact ⟨rfl, rfl⟩
    · have e : roomB r = false := by simp [roomB, h2]
      rw [e]
      go_enter Try.func12, Try.ntmps12
      go_wp2
      go_ret
      exact ⟨rfl, rfl⟩
  · have e : roomB r = false := by simp [roomB, h1]
    rw [e]
    go_enter Try.func12, Try.ntmps12
    go_wp2
    go_ret
    exact ⟨rfl, rfl⟩

section
variable {w : World} {base p : Nat} {ρ : Nat → Role} {d : DSt} {nw : Files} {s n : Nat} {vp : Value} {ps : List (Change × Value)}

theorem kp_p (w : World) (p o : Nat) (u : Value) : Kp (fun k => k = p) w (w.setCell ⟨p, o, none⟩ u) := (Kp.refl (fun k => k = p) w).setCell (fun _ => rfl) _
theorem cell_ne {w : World} {p o o' : Nat} {u v : Value} (h : w.cell? ⟨p, o, none⟩ = some v) (hne : o ≠ o') : (w.setCell ⟨p, o', none⟩ u).cell? ⟨p, o, none⟩ = some v := by
  rw [World.cell?_setCell_other w _ _ _ (by intro e; injection e; omega)]; exact h
theorem warm_set {w : World} {p o : Nat} {u : Value} (h : ∀ o, w.frozen? ⟨p, o, none⟩ = false) : ∀ j, (w.setCell ⟨p, o, none⟩ u).frozen? ⟨p, j, none⟩ = false := fun j => by rw [World.frozen?_setCell]; exact h j

theorem DkAt.set_room (h : DkAt w base p ρ d nw s n vp ps) (r : Int) : DkAt (w.setCell ⟨p, 0, none⟩ (.int .i64 r)) base p ρ { d with room := r } nw s n vp ps :=
  h.cells (kp_p _ _ _ _) (World.cell?_setCell_same w _ _ h.c0) (cell_ne h.c1 (by omega)) (cell_ne h.c2 (by omega)) (cell_ne h.c3 (by omega)) (cell_ne h.c4 (by omega)) (cell_ne h.c5 (by omega)) (warm_set h.warm) rfl rfl
theorem DkAt.set_fuse (h : DkAt w base p ρ d nw s n vp ps) (r : Int) : DkAt (w.setCell ⟨p, 1, none⟩ (.int .i64 r)) base p ρ { d with fuse := r } nw s n vp ps :=
  h.cells (kp_p _ _ _ _) (cell_ne h.c0 (by omega)) (World.cell?_setCell_same w _ _ h.c1) (cell_ne h.c2 (by omega)) (cell_ne h.c3 (by omega)) (cell_ne h.c4 (by omega)) (cell_ne h.c5 (by omega)) (warm_set h.warm) rfl rfl
theorem DkAt.set_down (h : DkAt w base p ρ d nw s n vp ps) (r : Bool) : DkAt (w.setCell ⟨p, 2, none⟩ (.bool r)) base p ρ { d with down := r } nw s n vp ps :=
  h.cells (kp_p _ _ _ _) (cell_ne h.c0 (by omega)) (cell_ne h.c1 (by omega)) (World.cell?_setCell_same w _ _ h.c2) (cell_ne h.c3 (by omega)) (cell_ne h.c4 (by omega)) (cell_ne h.c5 (by omega)) (warm_set h.warm) rfl rfl
end

/-- a call is counted -/
def stopB (d : DSt) : Bool := d.down || (d.fuse == 0)
def stopD (d : DSt) : DSt := if d.down = true ∨ d.fuse = 0 then { d with down := true } else if 0 < d.fuse then { d with fuse := d.fuse - 1 } else d

theorem dst_down (d : DSt) (b : Bool) (h : d.down = b) : { d with down := b } = d := by cases d; subst h; rfl

set_option maxRecDepth 100000 in
set_option maxHeartbeats 2000000 in
theorem stops_any (w : World) (base p : Nat) (ρ : Nat → Role) (d : DSt) (nw : Files) (s n : Nat) (vp : Value) (ps : List (Change × Value)) (h : DkAt w base p ρ d nw s n vp ps) (hf0 : -1 ≤ d.fuse) (hf1 : d.fuse ≤ 9223372036854775807) :
    Calls Try.prog 30 #[.pointer (some ⟨p, 0, none⟩)] w fun e w' => e = .returned (.bool (stopB d)) ∧ DkAt w' base p ρ (stopD d) nw s n vp ps ∧ Kp (fun k => k = p) w w' := by
  have c1 := h.c1
  have c2 := h.c2
  have hw := h.warm
  by_cases hd : d.down = true
  · have e1 : stopB d = true := by simp [stopB, hd]
    have e2 : stopD d = { d with down := true } := by unfold stopD; rw [if_pos (.inl hd)]
    have hfin := h.set_down true
    rw [e1, e2]
    rw [hd] at c2
    have HF := Hid_mk hfin
    clear hfin h e1 e2 hd
    go_enter Try.func30, Try.ntmps30
    go_wp2
    go_ret
    exact ⟨rfl, HF.out, kp_p _ _ _ _⟩
  · have hd' : d.down = false := by simpa using hd
    by_cases hf : d.fuse = 0
    · have e1 : stopB d = true := by simp [stopB, hf]
      have e2 : stopD d = { d with down := true } := by unfold stopD; rw [if_pos (.inr hf)]
      have hfin := h.set_down true
      rw [e1, e2]
      rw [hd'] at c2
      rw [hf] at c1
      have HF := Hid_mk hfin
      clear hfin h e1 e2 hd hd' hf hf0 hf1
      go_enter Try.func30, Try.ntmps30
      go_wp2
      go_ret
      exact ⟨rfl, HF.out, kp_p _ _ _ _⟩
    · have e1 : stopB d = false := by simp [stopB, hf, hd']
      rw [e1]
      rw [hd'] at c2
      have hfb : (d.fuse == 0) = false := by simpa using hf
      by_cases hp : 0 < d.fuse
      · have e2 : stopD d = { d with fuse := d.fuse - 1 } := by unfold stopD; rw [if_neg (by simp [hd', hf]), if_pos hp]
        have hfin := (h.set_down false).set_fuse (d.fuse - 1)
        have e3 : ({ ({ d with down := false } : DSt) with fuse := d.fuse - 1 } : DSt) = { d with fuse := d.fuse - 1 } := by cases d; simp_all
        rw [e3] at hfin
        rw [e2]
        have HF := Hid_mk hfin
        generalize d.fuse = fz at *
        clear hfin h e1 e2 e3 hd hd'
        go_enter Try.func30, Try.ntmps30
        go_wp2
        go_ret
        exact ⟨rfl, HF.out, (kp_p _ _ _ _).trans' (kp_p _ _ _ _)⟩
      · have e2 : stopD d = d := by unfold stopD; rw [if_neg (by simp [hd', hf]), if_neg hp]
        have hfin := h.set_down false
        rw [dst_down d false hd'] at hfin
        rw [e2]
        have HF := Hid_mk hfin
        generalize d.fuse = fz at *
        clear hfin h e1 e2 hd hd'
        go_enter Try.func30, Try.ntmps30
        go_wp2
        go_ret
        exact ⟨rfl, HF.out, kp_p _ _ _ _⟩

end Go.Proofs.Ytmehneicdklfeaa.dsk

namespace Go.Proofs.Ytmehneicdklfeaa.turned
open Go.RowKit Go.Proofs.Ytmehneicdklfeaa.sum Go.Proofs.Ytmehneicdklfeaa.kept Go.Proofs.Ytmehneicdklfeaa.app Go.Proofs.Ytmehneicdklfeaa.writer Go.Proofs.Ytmehneicdklfeaa.clone Go.Proofs.Ytmehneicdklfeaa.known Go.Proofs.Ytmehneicdklfeaa.unseal
set_option linter.unusedVariables false

set_option maxRecDepth 100000 in
set_option maxHeartbeats 1000000 in
theorem pick_any (n m : Int) (hm : 0 < m) (hm2 : m ≤ 1000000000000000) (w : World) :
    Calls Try.prog 10 #[.int .i64 n, .int .i64 m] w fun e w' => e = .returned (.int .i64 (n % m)) ∧ w = w' := by
  obtain ⟨h1, h2, h3, h4⟩ := tmod_pos n m hm
  obtain ⟨t, ht⟩ : ∃ t, n.tmod m = t := ⟨_, rfl⟩
  rw [ht] at h1 h2 h3 h4
  have H3 := Hid_mk h3
  have H4 := Hid_mk h4
  clear h3 h4
  have hne : ¬ m = 0 := by omega
  have hne1 : ¬ m = -1 := by omega
  by_cases hneg : t < 0
  · go_enter Try.func10, Try.ntmps10
    go_wp2
    go_ret
    rw [H4.out hneg]
    exact ⟨rfl, rfl⟩
  · go_enter Try.func10, Try.ntmps10
    go_wp2
    go_ret
    rw [H3.out (by omega)]
    exact ⟨rfl, rfl⟩

end Go.Proofs.Ytmehneicdklfeaa.turned

namespace Go.Proofs.Ytmehneicdklfeaa.r2
open Go.RowKit Go.Maps Go.Proofs.Ytmehneicdklfeaa.sum Go.Proofs.Ytmehneicdklfeaa.kept Go.Proofs.Ytmehneicdklfeaa.app Go.Proofs.Ytmehneicdklfeaa.writer Go.Proofs.Ytmehneicdklfeaa.clone Go.Proofs.Ytmehneicdklfeaa.fs Go.Proofs.Ytmehneicdklfeaa.turned Go.Proofs.Ytmehneicdklfeaa.dsk
set_option linter.unusedVariables false

end Go.Proofs.Ytmehneicdklfeaa.r2

namespace Go.Proofs.Ytmehneicdklfeaa.r2
open Go.RowKit Go.Maps Go.Proofs.Ytmehneicdklfeaa.sum Go.Proofs.Ytmehneicdklfeaa.kept Go.Proofs.Ytmehneicdklfeaa.app Go.Proofs.Ytmehneicdklfeaa.writer Go.Proofs.Ytmehneicdklfeaa.clone Go.Proofs.Ytmehneicdklfeaa.fs Go.Proofs.Ytmehneicdklfeaa.fsDo Go.Proofs.Ytmehneicdklfeaa.unseal Go.Proofs.Ytmehneicdklfeaa.dsk
set_option linter.unusedVariables false

/-- the plain part of the reference's disk -/
structure RSt where
  space : Int
  fused : Bool
  fuse : Int
  down : Bool

/-- the cells of the reference's disk at block r -/
structure RAt (w : World) (r : Nat) (x : RSt) (vs vn vw : Value) : Prop where
  c0 : w.cell? ⟨r, 0, none⟩ = some (.int .i64 x.space)
  c1 : w.cell? ⟨r, 1, none⟩ = some vs
  c2 : w.cell? ⟨r, 2, none⟩ = some vn
  c3 : w.cell? ⟨r, 3, none⟩ = some vw
  c4 : w.cell? ⟨r, 4, none⟩ = some (.bool x.fused)
  c5 : w.cell? ⟨r, 5, none⟩ = some (.int .i64 x.fuse)
  c6 : w.cell? ⟨r, 6, none⟩ = some (.bool x.down)
  warm : ∀ o, w.frozen? ⟨r, o, none⟩ = false
  lt : r < w.heap.size

theorem RAt.no {w w' : World} {r : Nat} {x : RSt} {vs vn vw : Value} (h : RAt w r x vs vn vw) (hk : Kp No w w') : RAt w' r x vs vn vw :=
  ⟨hk.cell' h.c0 id, hk.cell' h.c1 id, hk.cell' h.c2 id, hk.cell' h.c3 id, hk.cell' h.c4 id, hk.cell' h.c5 id, hk.cell' h.c6 id, fun o => (hk.frozen (p := ⟨r, o, none⟩) h.lt id).trans (h.warm o), Nat.lt_of_lt_of_le h.lt hk.size⟩

theorem other_cell {w : World} {r o o' : Nat} {u v : Value} (h : w.cell? ⟨r, o, none⟩ = some v) (hne : o ≠ o') : (w.setCell ⟨r, o', none⟩ u).cell? ⟨r, o, none⟩ = some v := dsk.cell_ne h hne

theorem RAt.set_fuse {w : World} {r : Nat} {x : RSt} {vs vn vw : Value} (h : RAt w r x vs vn vw) (n : Int) : RAt (w.setCell ⟨r, 5, none⟩ (.int .i64 n)) r { x with fuse := n } vs vn vw :=
  ⟨other_cell h.c0 (by omega), other_cell h.c1 (by omega), other_cell h.c2 (by omega), other_cell h.c3 (by omega), other_cell h.c4 (by omega), World.cell?_setCell_same w _ _ h.c5, other_cell h.c6 (by omega), dsk.warm_set h.warm, by simpa using h.lt⟩
theorem RAt.set_fused {w : World} {r : Nat} {x : RSt} {vs vn vw : Value} (h : RAt w r x vs vn vw) (n : Bool) : RAt (w.setCell ⟨r, 4, none⟩ (.bool n)) r { x with fused := n } vs vn vw :=
  ⟨other_cell h.c0 (by omega), other_cell h.c1 (by omega), other_cell h.c2 (by omega), other_cell h.c3 (by omega), World.cell?_setCell_same w _ _ h.c4, other_cell h.c5 (by omega), other_cell h.c6 (by omega), dsk.warm_set h.warm, by simpa using h.lt⟩
theorem RAt.set_down {w : World} {r : Nat} {x : RSt} {vs vn vw : Value} (h : RAt w r x vs vn vw) (n : Bool) : RAt (w.setCell ⟨r, 6, none⟩ (.bool n)) r { x with down := n } vs vn vw :=
  ⟨other_cell h.c0 (by omega), other_cell h.c1 (by omega), other_cell h.c2 (by omega), other_cell h.c3 (by omega), other_cell h.c4 (by omega), other_cell h.c5 (by omega), World.cell?_setCell_same w _ _ h.c6, dsk.warm_set h.warm, by simpa using h.lt⟩

/-- a call is counted -/
def cntB (x : RSt) : Bool := x.down || (x.fused && (x.fuse == 0))
def cntX (x : RSt) : RSt := if cntB x = true then { x with down := true } else if x.fused = true then { x with fuse := x.fuse - 1 } else x

end Go.Proofs.Ytmehneicdklfeaa.r2

namespace Go.Proofs.Ytmehneicdklfeaa.r2
open Go.RowKit Go.Maps Go.Proofs.Ytmehneicdklfeaa.sum Go.Proofs.Ytmehneicdklfeaa.kept Go.Proofs.Ytmehneicdklfeaa.app Go.Proofs.Ytmehneicdklfeaa.writer Go.Proofs.Ytmehneicdklfeaa.clone Go.Proofs.Ytmehneicdklfeaa.fs Go.Proofs.Ytmehneicdklfeaa.fsDo Go.Proofs.Ytmehneicdklfeaa.unseal Go.Proofs.Ytmehneicdklfeaa.dsk
set_option linter.unusedVariables false

end Go.Proofs.Ytmehneicdklfeaa.r2

namespace Go.Proofs.Ytmehneicdklfeaa.dsk
open Go.RowKit Go.Maps Go.Proofs.Ytmehneicdklfeaa.sum Go.Proofs.Ytmehneicdklfeaa.kept Go.Proofs.Ytmehneicdklfeaa.app Go.Proofs.Ytmehneicdklfeaa.writer Go.Proofs.Ytmehneicdklfeaa.clone Go.Proofs.Ytmehneicdklfeaa.fs Go.Proofs.Ytmehneicdklfeaa.fsMem Go.Proofs.Ytmehneicdklfeaa.fsDo Go.Proofs.Ytmehneicdklfeaa.fsUsed Go.Proofs.Ytmehneicdklfeaa.turned
set_option linter.unusedVariables false

/-- behind something done to what is there now -/
theorem DkAt.after_now {w W0 w1 : World} {base p : Nat} {ρ : Nat → Role} {d : DSt} {nw fs' : Files} {s n : Nat} {vp : Value} {ps : List (Change × Value)} {e : Ending} (h' : DkAt w base p ρ d nw s n vp ps) (hk0 : Kp No w W0) (hd : DoPost base n (nOf ρ) W0 fs' e w1) :
    ∃ ρ', DkAt w1 base p ρ' d fs' s n vp ps ∧ Fr ρ w ρ' w1 ∧ ∀ k, k < w.heap.size → (∀ m, ρ k ≠ .nrow m) → ρ' k = ρ k := by
  have h := h'.no hk0
  obtain ⟨-, ρn, hfm, hkp, hsub⟩ := hd
  have hsz := hkp.size
  have hs0 := hk0.size
  obtain ⟨ρ1, hρ1⟩ : ∃ ρ1 : Nat → Role, ρ1 = fun k => if k < W0.heap.size then (match ρ k with | .nrow _ => (match ρn k with | some m => .nrow m | none => .other) | r => r) else if k < w1.heap.size then (match ρn k with | some m => .nrow m | none => .other) else .other := ⟨_, rfl⟩
  have keep : ∀ k, k < W0.heap.size → (∀ m, ρ k ≠ .nrow m) → ρ1 k = ρ k := fun k hk hn => by
    rw [hρ1]; simp only [if_pos hk]
    all_goals (cases hr : ρ k <;> first | exact absurd hr (hn _) | rfl)
  have sub : ∀ k, k < W0.heap.size → (∀ m, ρ k ≠ .nrow m) → ρn k = none := fun k hk hn => by
    cases hh : ρn k with
    | none => rfl
    | some m =>
      have := hsub k hk (by rw [hh]; rfl)
      rw [nOf_none hn] at this
      cases this
  have xof : ∀ k, k < w1.heap.size → nOf ρ1 k = ρn k := by
    intro k hk
    by_cases hk0 : k < W0.heap.size
    · by_cases hn : ∀ m, ρ k ≠ .nrow m
      · rw [sub k hk0 hn]
        exact nOf_none (by rw [keep k hk0 hn]; exact hn)
      · have hn2 := Classical.not_forall.1 hn
        obtain ⟨m, hm⟩ := hn2
        have hm := Classical.not_not.1 hm
        unfold nOf
        rw [hρ1]; simp only; rw [if_pos hk0, hm]
        cases ρn k <;> rfl
    · unfold nOf
      rw [hρ1]; simp only; rw [if_neg hk0, if_pos hk]
      cases ρn k <;> rfl
  have yof : ∀ k, k < W0.heap.size → sOf ρ1 k = sOf ρ k := by
    intro k hk
    by_cases hn : ∀ m, ρ k ≠ .nrow m
    · unfold sOf; rw [keep k hk hn]
    · obtain ⟨m, hm⟩ := Classical.not_forall.1 hn
      have hm := Classical.not_not.1 hm
      have e1 : sOf ρ k = none := sOf_none (by rw [hm]; simp)
      rw [e1]
      refine sOf_none fun x => ?_
      rw [hρ1]; simp only; rw [if_pos hk, hm]
      cases ρn k <;> simp
  have notS : ∀ k, (∀ m, ρ k ≠ .nrow m) → k ≠ n → ¬ (k = n ∨ (nOf ρ k).isSome = true) := by
    rintro k hn hne (e | e)
    · exact hne e
    · rw [nOf_none hn] at e; cases e
  have hpn : p ≠ n := fun e => by have := h.rp; rw [e, h.rn] at this; cases this
  have hp : ¬ (p = n ∨ (nOf ρ p).isSome = true) := notS p (by rw [h.rp]; simp) hpn
  refine ⟨ρ1, ⟨hkp.cell' h.c0 hp, hkp.cell' h.c1 hp, hkp.cell' h.c2 hp, hkp.cell' h.c3 hp, hkp.cell' h.c4 hp, hkp.cell' h.c5 hp, fun o => (hkp.frozen (p := ⟨p, o, none⟩) h.lt hp).trans (h.warm o), (h.syn.kept hkp (fun k hk e => ⟨fun e2 => (by rw [e2] at e; exact notS s (by rw [h.rs]; simp) (fun e3 => by have := h.rs; rw [e3, h.rn] at this; cases this) e), fun m hm => (by
      rcases e with e | e
      · rw [e, sOf_none (by rw [h.rn]; simp)] at hm; cases hm
      · by_cases hn : ∀ m, ρ k ≠ .nrow m
        · rw [nOf_none hn] at e; cases e
        · obtain ⟨m2, hm2⟩ := Classical.not_forall.1 hn
          rw [sOf_none (by rw [Classical.not_not.1 hm2]; simp)] at hm; cases hm)⟩) yof), (hfm.kept (Kp.refl No w1) (fun _ _ x => x.elim) xof), h.cs, owns_kept h.pend hkp fun k hk => ?_,
    fun q hq => ⟨bs_kept (h.byts q hq).1 hkp fun x o m c e => ?_, fun x o m c e => ?_⟩, ?_, ?_, ?_, fun g hg => ?_, h.bp, fun k hk => ?_, fun k hk => ?_⟩, ⟨hk0.to.trans hkp ?_, fun k hk e => ?_⟩, fun k hk hn => keep k (by omega) hn⟩
  · have hr := h.rv k hk
    exact notS k (by rw [hr]; simp) (fun e => by rw [e, h.rn] at hr; cases hr)
  · have hr := ((h.byts q hq).2 x o m c e).1
    exact notS x (by rw [hr]; simp) (fun e => by rw [e, h.rn] at hr; cases hr)
  · have hr := (h.byts q hq).2 x o m c e
    exact ⟨by rw [keep x hr.2 (by rw [hr.1]; simp)]; exact hr.1, by omega⟩
  · rw [keep p h.lt (by rw [h.rp]; simp)]; exact h.rp
  · rw [keep s h.syn.lt (by rw [h.rs]; simp)]; exact h.rs
  · rw [keep n h.now.lt (by rw [h.rn]; simp)]; exact h.rn
  · have hr := h.rv g hg
    rw [keep g (h.pend.lt g hg).2 (by rw [hr]; simp)]; exact hr
  · by_cases hk0 : k < W0.heap.size
    · by_cases hn : ∀ m, ρ k ≠ .nrow m
      · rw [keep k hk0 hn] at hk; exact h.low k hk
      · obtain ⟨m, hm⟩ := Classical.not_forall.1 hn
        exact h.low k (by rw [Classical.not_not.1 hm]; simp)
    · have := h.bp; have := h.lt; omega
  · rw [hρ1]; simp only; rw [if_neg (by omega), if_neg (by omega)]
  · rintro k hk (e | e) e2
    · rw [e, h.rn] at e2; cases e2
    · rw [nOf_none (by rw [e2]; simp)] at e; cases e
  · rw [keep k (by omega) (by rw [e]; simp)]; exact e

/-- behind something done to what was synced -/
theorem DkAt.after_syn {w W0 w1 : World} {base p : Nat} {ρ : Nat → Role} {d : DSt} {nw fs' : Files} {s n : Nat} {vp : Value} {ps : List (Change × Value)} {e : Ending} (h' : DkAt w base p ρ d nw s n vp ps) (hk0 : Kp No w W0) (hd : DoPost base s (sOf ρ) W0 fs' e w1) :
    ∃ ρ', DkAt w1 base p ρ' { d with syn := fs' } nw s n vp ps ∧ Fr ρ w ρ' w1 ∧ ∀ k, k < w.heap.size → (∀ m, ρ k ≠ .srow m) → ρ' k = ρ k := by
  have h := h'.no hk0
  obtain ⟨-, ρn, hfm, hkp, hsub⟩ := hd
  have hsz := hkp.size
  have hs0 := hk0.size
  obtain ⟨ρ1, hρ1⟩ : ∃ ρ1 : Nat → Role, ρ1 = fun k => if k < W0.heap.size then (match ρ k with | .srow _ => (match ρn k with | some m => .srow m | none => .other) | r => r) else if k < w1.heap.size then (match ρn k with | some m => .srow m | none => .other) else .other := ⟨_, rfl⟩
  have keep : ∀ k, k < W0.heap.size → (∀ m, ρ k ≠ .srow m) → ρ1 k = ρ k := fun k hk hn => by
    rw [hρ1]; simp only [if_pos hk]
    all_goals (cases hr : ρ k <;> first | exact absurd hr (hn _) | rfl)
  have sub : ∀ k, k < W0.heap.size → (∀ m, ρ k ≠ .srow m) → ρn k = none := fun k hk hn => by
    cases hh : ρn k with
    | none => rfl
    | some m =>
      have := hsub k hk (by rw [hh]; rfl)
      rw [sOf_none hn] at this
      cases this
  have xof : ∀ k, k < w1.heap.size → sOf ρ1 k = ρn k := by
    intro k hk
    by_cases hk0 : k < W0.heap.size
    · by_cases hn : ∀ m, ρ k ≠ .srow m
      · rw [sub k hk0 hn]
        exact sOf_none (by rw [keep k hk0 hn]; exact hn)
      · have hn2 := Classical.not_forall.1 hn
        obtain ⟨m, hm⟩ := hn2
        have hm := Classical.not_not.1 hm
        unfold sOf
        rw [hρ1]; simp only; rw [if_pos hk0, hm]
        cases ρn k <;> rfl
    · unfold sOf
      rw [hρ1]; simp only; rw [if_neg hk0, if_pos hk]
      cases ρn k <;> rfl
  have yof : ∀ k, k < W0.heap.size → nOf ρ1 k = nOf ρ k := by
    intro k hk
    by_cases hn : ∀ m, ρ k ≠ .srow m
    · unfold nOf; rw [keep k hk hn]
    · obtain ⟨m, hm⟩ := Classical.not_forall.1 hn
      have hm := Classical.not_not.1 hm
      have e1 : nOf ρ k = none := nOf_none (by rw [hm]; simp)
      rw [e1]
      refine nOf_none fun x => ?_
      rw [hρ1]; simp only; rw [if_pos hk, hm]
      cases ρn k <;> simp
  have notS : ∀ k, (∀ m, ρ k ≠ .srow m) → k ≠ s → ¬ (k = s ∨ (sOf ρ k).isSome = true) := by
    rintro k hn hne (e | e)
    · exact hne e
    · rw [sOf_none hn] at e; cases e
  have hpn : p ≠ s := fun e => by have := h.rp; rw [e, h.rs] at this; cases this
  have hp : ¬ (p = s ∨ (sOf ρ p).isSome = true) := notS p (by rw [h.rp]; simp) hpn
  refine ⟨ρ1, ⟨hkp.cell' h.c0 hp, hkp.cell' h.c1 hp, hkp.cell' h.c2 hp, hkp.cell' h.c3 hp, hkp.cell' h.c4 hp, hkp.cell' h.c5 hp, fun o => (hkp.frozen (p := ⟨p, o, none⟩) h.lt hp).trans (h.warm o), (hfm.kept (Kp.refl No w1) (fun _ _ x => x.elim) xof), (h.now.kept hkp (fun k hk e => ⟨fun e2 => (by rw [e2] at e; exact notS n (by rw [h.rn]; simp) (fun e3 => by have := h.rn; rw [e3, h.rs] at this; cases this) e), fun m hm => (by
      rcases e with e | e
      · rw [e, nOf_none (by rw [h.rs]; simp)] at hm; cases hm
      · by_cases hn : ∀ m, ρ k ≠ .srow m
        · rw [sOf_none hn] at e; cases e
        · obtain ⟨m2, hm2⟩ := Classical.not_forall.1 hn
          rw [nOf_none (by rw [Classical.not_not.1 hm2]; simp)] at hm; cases hm)⟩) yof), h.cs, owns_kept h.pend hkp fun k hk => ?_,
    fun q hq => ⟨bs_kept (h.byts q hq).1 hkp fun x o m c e => ?_, fun x o m c e => ?_⟩, ?_, ?_, ?_, fun g hg => ?_, h.bp, fun k hk => ?_, fun k hk => ?_⟩, ⟨hk0.to.trans hkp ?_, fun k hk e => ?_⟩, fun k hk hn => keep k (by omega) hn⟩
  · have hr := h.rv k hk
    exact notS k (by rw [hr]; simp) (fun e => by rw [e, h.rs] at hr; cases hr)
  · have hr := ((h.byts q hq).2 x o m c e).1
    exact notS x (by rw [hr]; simp) (fun e => by rw [e, h.rs] at hr; cases hr)
  · have hr := (h.byts q hq).2 x o m c e
    exact ⟨by rw [keep x hr.2 (by rw [hr.1]; simp)]; exact hr.1, by omega⟩
  · rw [keep p h.lt (by rw [h.rp]; simp)]; exact h.rp
  · rw [keep s h.syn.lt (by rw [h.rs]; simp)]; exact h.rs
  · rw [keep n h.now.lt (by rw [h.rn]; simp)]; exact h.rn
  · have hr := h.rv g hg
    rw [keep g (h.pend.lt g hg).2 (by rw [hr]; simp)]; exact hr
  · by_cases hk0 : k < W0.heap.size
    · by_cases hn : ∀ m, ρ k ≠ .srow m
      · rw [keep k hk0 hn] at hk; exact h.low k hk
      · obtain ⟨m, hm⟩ := Classical.not_forall.1 hn
        exact h.low k (by rw [Classical.not_not.1 hm]; simp)
    · have := h.bp; have := h.lt; omega
  · rw [hρ1]; simp only; rw [if_neg (by omega), if_neg (by omega)]
  · rintro k hk (e | e) e2
    · rw [e, h.rs] at e2; cases e2
    · rw [sOf_none (by rw [e2]; simp)] at e; cases e
  · rw [keep k (by omega) (by rw [e]; simp)]; exact e

/-- one more that is pending -/
theorem DkAt.push {w W2 w3 : World} {base p : Nat} {ρ : Nat → Role} {d : DSt} {nw : Files} {s n : Nat} {vp v' : Value} {ps : List (Change × Value)} {c : Change} {vb : Value} (h' : DkAt w base p ρ d nw s n vp ps) (hk0 : Kp No w W2)
    (hb : Bs w vb c.bytes) (hvb : ∀ x o m cc, vb = .slice (some ⟨x, o, none⟩) m cc → ρ x = .byt ∧ x < w.heap.size)
    (ho : w3.ownsRow base 59 5 v' (ps.length + 1) (ps.flatMap chgList ++ chgList (c, vb))) (hg : W2.grownBy w3 vp.ownBlock) (hloc : v'.ownBlock = vp.ownBlock ∨ v'.ownBlock = some W2.heap.size) :
    ∃ ρ', DkAt (w3.setCell ⟨p, 5, none⟩ v') base p ρ' { d with cs := d.cs ++ [c] } nw s n v' (ps ++ [(c, vb)]) ∧ Fr ρ w ρ' (w3.setCell ⟨p, 5, none⟩ v') := by
  have h := h'.no hk0
  have kg : Kp (fun k => some k = vp.ownBlock) W2 w3 := (Kp.refl _ W2).grown hg fun k _ e => e.symm
  have hs0 := hk0.size
  have hs3 := kg.size
  have hss : (w3.setCell ⟨p, 5, none⟩ v').heap.size = w3.heap.size := by simp [World.setCell]
  obtain ⟨ρ1, hρ1⟩ : ∃ ρ1 : Nat → Role, ρ1 = fun k => if some k = v'.ownBlock then .pend else ρ k := ⟨_, rfl⟩
  have hpp : ∀ k, k < W2.heap.size → some k = v'.ownBlock → ρ k = .pend := fun k hk e => by
    rcases hloc with e2 | e2
    · exact h.rv k (by rw [← e2]; exact e.symm)
    · rw [e2] at e; have := Option.some.inj e; omega
  have keep : ∀ k, k < W2.heap.size → ρ1 k = ρ k := fun k hk => by
    rw [hρ1]; simp only; split
    · rename_i e; exact (hpp k hk e).symm
    · rfl
  have kp : Kp (fun k => some k = vp.ownBlock ∨ k = p) W2 (w3.setCell ⟨p, 5, none⟩ v') := (kg.mono fun _ _ e => Or.inl e).trans (kp_p w3 p 5 v') fun i hi e => Or.inr e
  have notp : ¬ some p = vp.ownBlock := fun e => by have := h.rv p e.symm; rw [h.rp] at this; cases this
  have gp : Kp (fun k => some k = vp.ownBlock) W2 w3 := kg
  have d0 := gp.cell' h.c0 notp
  have d1 := gp.cell' h.c1 notp
  have d2 := gp.cell' h.c2 notp
  have d3 := gp.cell' h.c3 notp
  have d4 := gp.cell' h.c4 notp
  have d5 := gp.cell' h.c5 notp
  have df : ∀ o, w3.frozen? ⟨p, o, none⟩ = false := fun o => (gp.frozen (p := ⟨p, o, none⟩) h.lt notp).trans (h.warm o)
  have notS : ∀ k, ρ k ≠ .pend → ρ k ≠ .disk → ¬ (some k = vp.ownBlock ∨ k = p) := by
    rintro k h1 h2 (e | e)
    · exact h1 (h.rv k e.symm)
    · rw [e] at h2; exact h2 h.rp
  have hpo : ∀ k, v'.ownBlock = some k → ¬ k = p := fun k e e2 => by
    have hk : k < W2.heap.size := by rw [e2]; exact h.lt
    have := hpp k hk e.symm
    rw [e2, h.rp] at this
    cases this
  refine ⟨ρ1, ⟨cell_ne d0 (by omega), cell_ne d1 (by omega), cell_ne d2 (by omega), cell_ne d3 (by omega), cell_ne d4 (by omega), World.cell?_setCell_same w3 _ _ d5, warm_set df, ?_, ?_, ?_, ?_, fun q hq => ?_, ?_, ?_, ?_, fun g hg => ?_, h.bp, fun k hk => ?_, fun k hk => ?_⟩, ⟨hk0.to.trans kp ?_, fun k hk e => ?_⟩⟩
  · refine h.syn.kept kp (fun k hk e => ⟨fun e2 => ?_, fun m hm => ?_⟩) fun k hk => by unfold sOf; rw [keep k hk]
    · rw [e2] at e; exact notS s (by rw [h.rs]; simp) (by rw [h.rs]; simp) e
    · exfalso
      have : ∀ x, ρ k ≠ .srow x := by
        intro x e9
        exact notS k (by rw [e9]; simp) (by rw [e9]; simp) e
      rw [sOf_none this] at hm; cases hm
  · refine h.now.kept kp (fun k hk e => ⟨fun e2 => ?_, fun m hm => ?_⟩) fun k hk => by unfold nOf; rw [keep k hk]
    · rw [e2] at e; exact notS n (by rw [h.rn]; simp) (by rw [h.rn]; simp) e
    · exfalso
      have : ∀ x, ρ k ≠ .nrow x := by
        intro x e9
        exact notS k (by rw [e9]; simp) (by rw [e9]; simp) e
      rw [nOf_none this] at hm; cases hm
  · rw [List.map_append, h.cs]; rfl
  · rw [List.flatMap_append, List.length_append]
    have e : ([(c, vb)] : List (Change × Value)).flatMap chgList = chgList (c, vb) := by simp
    rw [e]
    exact owns_kept ho (kp_p w3 p 5 v') hpo
  · rcases List.mem_append.1 hq with hq | hq
    · have hby := h.byts q hq
      refine ⟨bs_kept hby.1 kp fun x o m cc e => notS x (by rw [(hby.2 x o m cc e).1]; simp) (by rw [(hby.2 x o m cc e).1]; simp), fun x o m cc e => ⟨by rw [keep x (hby.2 x o m cc e).2]; exact (hby.2 x o m cc e).1, by have := (hby.2 x o m cc e).2; omega⟩⟩
    · simp only [List.mem_singleton] at hq
      subst hq
      refine ⟨bs_kept (bs_no hb hk0) kp fun x o m cc e => notS x (by rw [(hvb x o m cc e).1]; simp) (by rw [(hvb x o m cc e).1]; simp), fun x o m cc e => ⟨by rw [keep x (by have := (hvb x o m cc e).2; omega)]; exact (hvb x o m cc e).1, by have := (hvb x o m cc e).2; omega⟩⟩
  · rw [keep p h.lt]; exact h.rp
  · rw [keep s h.syn.lt]; exact h.rs
  · rw [keep n h.now.lt]; exact h.rn
  · rw [hρ1]; simp [hg]
  · rw [hρ1] at hk
    simp only at hk
    split at hk
    · rename_i e; exact (ho.lt k e.symm).1
    · exact h.low k hk
  · rw [hρ1]
    simp only
    rw [if_neg (fun e => by have := (ho.lt k e.symm).2; omega)]
    exact h.hi k (by omega)
  · rintro k hk (e | e) e2
    · have := h.rv k e.symm; rw [e2] at this; cases this
    · rw [e, h.rp] at e2; cases e2
  · rw [keep k (by omega)]; exact e

theorem infoC : (Try.prog.info? 59).map (fun i => (i.zero, i.size, i.bytes)) = some (some (.agg #[.int .i64 0, .string ByteArray.empty, .string ByteArray.empty, .slice none 0 0, .int .i64 0]), 5, 72) := by kernel_rfl

end Go.Proofs.Ytmehneicdklfeaa.dsk
