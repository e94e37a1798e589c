/- Package disk's Disk in memory; its small calls. -/
import Derived.Test.YteekcbbdbciddaaGreatDoorFsDoM
import Derived.Test.YteekcbbdbciddaaGreatDoorTurnedPlainM

namespace Go.Proofs.YteekcbbdbciddaaGreatDoor.dsk
open Go.RowKit Go.Maps Go.Proofs.YteekcbbdbciddaaGreatDoor.sum Go.Proofs.YteekcbbdbciddaaGreatDoor.kept Go.Proofs.YteekcbbdbciddaaGreatDoor.app Go.Proofs.YteekcbbdbciddaaGreatDoor.writer Go.Proofs.YteekcbbdbciddaaGreatDoor.clone Go.Proofs.YteekcbbdbciddaaGreatDoor.fs Go.Proofs.YteekcbbdbciddaaGreatDoor.fsMem Go.Proofs.YteekcbbdbciddaaGreatDoor.fsDo Go.Proofs.YteekcbbdbciddaaGreatDoor.fsUsed Go.Proofs.YteekcbbdbciddaaGreatDoor.turned
set_option linter.unusedVariables false

/-- whose a block is -/
inductive Role where
  | other | disk | smap | nmap | pend | byt
  | srow (n : Name) | nrow (n : Name)

def sOf (ρ : Nat → Role) (k : Nat) : Option Name := match ρ k with | .srow n => some n | _ => none
def nOf (ρ : Nat → Role) (k : Nat) : Option Name := match ρ k with | .nrow n => some n | _ => none

structure DSt where
  room : Int
  fuse : Int
  down : Bool
  syn : Files
  cs : List Change

def DSt.now (d : DSt) : Files := all d.syn d.cs

def bytesOf : List Change → Nat
  | [] => 0
  | c :: r => c.bytes.length + bytesOf r
theorem bytesOf_append (a b : List Change) : bytesOf (a ++ b) = bytesOf a + bytesOf b := by
  induction a with
  | nil => simp [bytesOf]
  | cons c a ih => simp only [List.cons_append, bytesOf, ih]; omega
theorem bytesOf_take (a : List Change) (k : Nat) : bytesOf (a.take k) ≤ bytesOf a := by
  conv => rhs; rw [← List.take_append_drop k a]
  rw [bytesOf_append]; omega

def fitsAll : Files → List Change → Prop
  | _, [] => True
  | es, c :: r => c.fits es ∧ fitsAll (doit es c) r
theorem fitsAll_snoc {es : Files} {cs : List Change} {c : Change} (h : fitsAll es cs) (hc : c.fits (all es cs)) : fitsAll es (cs ++ [c]) := by
  induction cs generalizing es with
  | nil => exact ⟨hc, trivial⟩
  | cons x cs ih => exact ⟨h.1, ih h.2 hc⟩
theorem fitsAll_at {es : Files} {cs : List Change} (h : fitsAll es cs) (k : Nat) (hk : k < cs.length) : cs[k].fits (all es (cs.take k)) := by
  induction cs generalizing es k with
  | nil => simp at hk
  | cons x cs ih =>
    cases k with
    | zero => exact h.1
    | succ k => exact ih h.2 k (by simpa using hk)

theorem used_all {es : Files} (h : Rising es) (cs : List Change) : used (all es cs) ≤ used es + bytesOf cs := by
  induction cs generalizing es with
  | nil => simp [all_nil, bytesOf]
  | cons c cs ih =>
    have h1 := ih (rising_doit h c)
    have h2 := used_doit h c
    rw [all_cons]
    simp only [bytesOf]
    split at h2 <;> omega
theorem len_doit {es : Files} (h : Rising es) (c : Change) : (doit es c).length ≤ es.length + 1 := by
  unfold doit
  split
  · rw [len_put h]; split <;> omega
  · rw [len_put h]; split <;> omega
  · have := len_put (h.drop (nm c.name)) (nm c.to) (old es (nm c.name))
    have h2 : (drop es (nm c.name)).length ≤ es.length := List.length_filter_le _ _
    rw [this]; split <;> omega
  · have h2 : (drop es (nm c.name)).length ≤ es.length := List.length_filter_le _ _
    omega
theorem len_all {es : Files} (h : Rising es) (cs : List Change) : (all es cs).length ≤ es.length + cs.length := by
  induction cs generalizing es with
  | nil => simp [all_nil]
  | cons c cs ih =>
    have h1 := ih (rising_doit h c)
    have h2 := len_doit h c
    rw [all_cons]
    simp only [List.length_cons]
    omega

/-- what holds of a disk on which at most M things were done -/
structure DOk (M : Nat) (d : DSt) : Prop where
  rising : Rising d.syn
  few : d.syn.length + d.cs.length ≤ M
  small : used d.syn + bytesOf d.cs ≤ M * 8388608
  fit : fitsAll d.syn d.cs
  names : ∀ c ∈ d.cs, c.name.size ≤ maxLen ∧ c.to.size ≤ maxLen
  sizes : ∀ c ∈ d.cs, c.size ≤ 9223372036854775807
  room0 : 0 ≤ d.room
  room1 : d.room ≤ 8388608
  fuse0 : -1 ≤ d.fuse
  fuse1 : d.fuse ≤ 9223372036854775807
  plain : ∀ c ∈ d.cs, c.kind ≠ 0 → c.bytes = []

theorem DOk.mono {M N : Nat} {d : DSt} (h : DOk M d) (hm : M ≤ N) : DOk N d :=
  ⟨h.rising, Nat.le_trans h.few hm, Nat.le_trans h.small (Nat.mul_le_mul_right _ hm), h.fit, h.names, h.sizes, h.room0, h.room1, h.fuse0, h.fuse1, h.plain⟩

def chgList (q : Change × Value) : List Value := [.int .i64 (q.1.kind : Int), .string q.1.name, .string q.1.to, q.2, .int .i64 (q.1.size : Int)]

/-- A Disk at block p: its maps s and n, its slice vp of what is pending. -/
structure DkAt (w : World) (base p : Nat) (ρ : Nat → Role) (d : DSt) (nw : Files) (s n : Nat) (vp : Value) (ps : List (Change × Value)) : Prop where
  c0 : w.cell? ⟨p, 0, none⟩ = some (.int .i64 d.room)
  c1 : w.cell? ⟨p, 1, none⟩ = some (.int .i64 d.fuse)
  c2 : w.cell? ⟨p, 2, none⟩ = some (.bool d.down)
  c3 : w.cell? ⟨p, 3, none⟩ = some (.map (some s))
  c4 : w.cell? ⟨p, 4, none⟩ = some (.map (some n))
  c5 : w.cell? ⟨p, 5, none⟩ = some vp
  warm : ∀ o, w.frozen? ⟨p, o, none⟩ = false
  syn : FM w base s (sOf ρ) d.syn
  now : FM w base n (nOf ρ) nw
  cs : ps.map (·.1) = d.cs
  pend : w.ownsRow base 90 5 vp ps.length (ps.flatMap chgList)
  byts : ∀ q ∈ ps, Bs w q.2 q.1.bytes ∧ ∀ x o m c, q.2 = .slice (some ⟨x, o, none⟩) m c → ρ x = .byt ∧ x < w.heap.size
  rp : ρ p = .disk
  rs : ρ s = .smap
  rn : ρ n = .nmap
  rv : ∀ g, vp.ownBlock = some g → ρ g = .pend
  bp : base ≤ p
  low : ∀ k, ρ k ≠ .other → base ≤ k
  hi : ∀ k, w.heap.size ≤ k → ρ k = .other

def Dk (w : World) (base p : Nat) (ρ : Nat → Role) (d : DSt) : Prop := ∃ s n vp ps, DkAt w base p ρ d d.now s n vp ps

/-- of old memory only the disk's has turned; what was not the disk's is not -/
def Fr (ρ : Nat → Role) (w : World) (ρ' : Nat → Role) (w' : World) : Prop := Kp (fun k => ρ k ≠ .other) w w' ∧ ∀ k, k < w.heap.size → ρ k = .other → ρ' k = .other
theorem Fr.refl (ρ : Nat → Role) (w : World) : Fr ρ w ρ w := ⟨Kp.refl _ _, fun _ _ h => h⟩
theorem Fr.trans {ρ ρ' ρ'' : Nat → Role} {w w' w'' : World} (h : Fr ρ w ρ' w') (k : Fr ρ' w' ρ'' w'') : Fr ρ w ρ'' w'' :=
  ⟨h.1.trans k.1 fun i hi e e2 => e (h.2 i hi e2), fun i hi e => k.2 i (Nat.lt_of_lt_of_le hi h.1.size) (h.2 i hi e)⟩
theorem Fr.of_no {ρ : Nat → Role} {w w' : World} (h : Kp No w w') : Fr ρ w ρ w' := ⟨h.to, fun _ _ h => h⟩

theorem DkAt.lt {w : World} {base p : Nat} {ρ : Nat → Role} {d : DSt} {nw : Files} {s n : Nat} {vp : Value} {ps : List (Change × Value)} (h : DkAt w base p ρ d nw s n vp ps) : p < w.heap.size := World.block_lt_of_cell? w ⟨p, 0, none⟩ h.c0

theorem DkAt.no {w w' : World} {base p : Nat} {ρ : Nat → Role} {d : DSt} {nw : Files} {s n : Nat} {vp : Value} {ps : List (Change × Value)} (h : DkAt w base p ρ d nw s n vp ps) (hk : Kp No w w') : DkAt w' base p ρ d nw s n vp ps :=
  ⟨hk.cell' h.c0 id, hk.cell' h.c1 id, hk.cell' h.c2 id, hk.cell' h.c3 id, hk.cell' h.c4 id, hk.cell' h.c5 id, fun o => (hk.frozen (p := ⟨p, o, none⟩) h.lt id).trans (h.warm o),
    h.syn.kept hk (fun _ _ x => x.elim) fun _ _ => rfl, h.now.kept hk (fun _ _ x => x.elim) fun _ _ => rfl, h.cs, owns_kept h.pend hk fun _ _ => id,
    fun q hq => ⟨bs_no (h.byts q hq).1 hk, fun x o m c e => ⟨((h.byts q hq).2 x o m c e).1, Nat.lt_of_lt_of_le ((h.byts q hq).2 x o m c e).2 hk.size⟩⟩, h.rp, h.rs, h.rn, h.rv, h.bp, h.low, fun k hk2 => h.hi k (Nat.le_trans hk.size hk2)⟩

theorem Dk.no {w w' : World} {base p : Nat} {ρ : Nat → Role} {d : DSt} (h : Dk w base p ρ d) (hk : Kp No w w') : Dk w' base p ρ d := by
  obtain ⟨s, n, vp, ps, h⟩ := h
  exact ⟨s, n, vp, ps, h.no hk⟩

theorem sOf_none {ρ : Nat → Role} {k : Nat} (h : ∀ n, ρ k ≠ .srow n) : sOf ρ k = none := by unfold sOf; split <;> simp_all
theorem nOf_none {ρ : Nat → Role} {k : Nat} (h : ∀ n, ρ k ≠ .nrow n) : nOf ρ k = none := by unfold nOf; split <;> simp_all

/-- stores into the Disk's own cells -/
theorem DkAt.cells {w w' : World} {base p : Nat} {ρ : Nat → Role} {d d' : DSt} {nw : Files} {s n : Nat} {vp : Value} {ps : List (Change × Value)} (h : DkAt w base p ρ d nw s n vp ps) (hk : Kp (fun k => k = p) w w')
    (c0 : w'.cell? ⟨p, 0, none⟩ = some (.int .i64 d'.room)) (c1 : w'.cell? ⟨p, 1, none⟩ = some (.int .i64 d'.fuse)) (c2 : w'.cell? ⟨p, 2, none⟩ = some (.bool d'.down)) (c3 : w'.cell? ⟨p, 3, none⟩ = some (.map (some s)))
    (c4 : w'.cell? ⟨p, 4, none⟩ = some (.map (some n))) (c5 : w'.cell? ⟨p, 5, none⟩ = some vp) (hf : ∀ o, w'.frozen? ⟨p, o, none⟩ = false) (hs : d'.syn = d.syn) (hc : d'.cs = d.cs) : DkAt w' base p ρ d' nw s n vp ps := by
  have hrp := h.rp
  refine ⟨c0, c1, c2, c3, c4, c5, hf, ?_, ?_, by rw [hc]; exact h.cs, owns_kept h.pend hk ?_, fun q hq => ⟨bs_kept (h.byts q hq).1 hk ?_, fun x o m c e => ⟨((h.byts q hq).2 x o m c e).1, Nat.lt_of_lt_of_le ((h.byts q hq).2 x o m c e).2 hk.size⟩⟩, h.rp, h.rs, h.rn, h.rv, h.bp, h.low, fun k hk2 => h.hi k (Nat.le_trans hk.size hk2)⟩
  · rw [hs]
    refine h.syn.kept hk (fun k _ e => ⟨fun e2 => ?_, fun m hm => ?_⟩) fun _ _ => rfl
    · have := h.rs; rw [← e2, e, hrp] at this; cases this
    · rw [e] at hm; rw [sOf_none (by rw [hrp]; simp)] at hm; cases hm
  · refine h.now.kept hk (fun k _ e => ⟨fun e2 => ?_, fun m hm => ?_⟩) fun _ _ => rfl
    · have := h.rn; rw [← e2, e, hrp] at this; cases this
    · rw [e] at hm; rw [nOf_none (by rw [hrp]; simp)] at hm; cases hm
  · rintro k e rfl
    have := h.rv _ e; rw [hrp] at this; cases this
  · rintro x o m c e rfl
    have := ((h.byts q hq).2 _ o m c e).1; rw [hrp] at this; cases this

def nameB (s : ByteArray) : Bool := decide (1 ≤ s.size) && decide (s.size ≤ 16)
set_option maxRecDepth 100000 in
set_option maxHeartbeats 1000000 in
theorem name_any (w : World) (s : ByteArray) (hs : s.size ≤ maxLen) : Calls Tryz.prog 50 #[.string s] w fun e w' => e = .returned (.bool (nameB s)) ∧ w = w' := by
  unfold maxLen at hs
  by_cases h1 : 1 ≤ s.size
  · by_cases h2 : s.size ≤ 16
    · have e : nameB s = true := by simp [nameB, h1, h2]
      have hd : decide ((s.size : Int) ≤ 16) = true := by simp; omega
      rw [e]
      go_enter Tryz.func50, Tryz.ntmps50
      go_wp2
      go_ret
      exact ⟨rfl, rfl⟩
    · have e : nameB s = false := by simp [nameB, h2]
      have hd : decide ((s.size : Int) ≤ 16) = false := by simp; omega
      rw [e]
      go_enter Tryz.func50, Tryz.ntmps50
      go_wp2
      go_ret
      exact ⟨rfl, rfl⟩
  · have e : nameB s = false := by simp [nameB, h1]
    rw [e]
    go_enter Tryz.func50, Tryz.ntmps50
    go_wp2
    go_ret
    exact ⟨rfl, rfl⟩

def roomB (r : Int) : Bool := decide (0 ≤ r) && decide (r ≤ 8388608)
set_option maxRecDepth 100000 in
set_option maxHeartbeats 1000000 in
theorem room_any (w : World) (r : Int) : Calls Tryz.prog 16 #[.int .i64 r] w fun e w' => e = .returned (.bool (roomB r)) ∧ w = w' := by
  by_cases h1 : 0 ≤ r
  · by_cases h2 : r ≤ 8388608
    · have e : roomB r = true := by simp [roomB, h1, h2]
      rw [e]
      go_enter Tryz.func16, Tryz.ntmps16
      go_wp2
      go_ret
      exact ⟨rfl, rfl⟩
    · have e : roomB r = false := by simp [roomB, h2]
      rw [e]
      go_enter Tryz.func16, Tryz.ntmps16
      go_wp2
      go_ret
      exact ⟨rfl, rfl⟩
  · have e : roomB r = false := by simp [roomB, h1]
    rw [e]
    go_enter Tryz.func16, Tryz.ntmps16
    go_wp2
    go_ret
    exact ⟨rfl, rfl⟩

section
variable {w : World} {base p : Nat} {ρ : Nat → Role} {d : DSt} {nw : Files} {s n : Nat} {vp : Value} {ps : List (Change × Value)}

theorem kp_p (w : World) (p o : Nat) (u : Value) : Kp (fun k => k = p) w (w.setCell ⟨p, o, none⟩ u) := (Kp.refl (fun k => k = p) w).setCell (fun _ => rfl) _
theorem cell_ne {w : World} {p o o' : Nat} {u v : Value} (h : w.cell? ⟨p, o, none⟩ = some v) (hne : o ≠ o') : (w.setCell ⟨p, o', none⟩ u).cell? ⟨p, o, none⟩ = some v := by
  rw [World.cell?_setCell_other w _ _ _ (by intro e; injection e; omega)]; exact h
theorem warm_set {w : World} {p o : Nat} {u : Value} (h : ∀ o, w.frozen? ⟨p, o, none⟩ = false) : ∀ j, (w.setCell ⟨p, o, none⟩ u).frozen? ⟨p, j, none⟩ = false := fun j => by rw [World.frozen?_setCell]; exact h j

theorem DkAt.set_room (h : DkAt w base p ρ d nw s n vp ps) (r : Int) : DkAt (w.setCell ⟨p, 0, none⟩ (.int .i64 r)) base p ρ { d with room := r } nw s n vp ps :=
  h.cells (kp_p _ _ _ _) (World.cell?_setCell_same w _ _ h.c0) (cell_ne h.c1 (by omega)) (cell_ne h.c2 (by omega)) (cell_ne h.c3 (by omega)) (cell_ne h.c4 (by omega)) (cell_ne h.c5 (by omega)) (warm_set h.warm) rfl rfl
theorem DkAt.set_fuse (h : DkAt w base p ρ d nw s n vp ps) (r : Int) : DkAt (w.setCell ⟨p, 1, none⟩ (.int .i64 r)) base p ρ { d with fuse := r } nw s n vp ps :=
  h.cells (kp_p _ _ _ _) (cell_ne h.c0 (by omega)) (World.cell?_setCell_same w _ _ h.c1) (cell_ne h.c2 (by omega)) (cell_ne h.c3 (by omega)) (cell_ne h.c4 (by omega)) (cell_ne h.c5 (by omega)) (warm_set h.warm) rfl rfl
theorem DkAt.set_down (h : DkAt w base p ρ d nw s n vp ps) (r : Bool) : DkAt (w.setCell ⟨p, 2, none⟩ (.bool r)) base p ρ { d with down := r } nw s n vp ps :=
  h.cells (kp_p _ _ _ _) (cell_ne h.c0 (by omega)) (cell_ne h.c1 (by omega)) (World.cell?_setCell_same w _ _ h.c2) (cell_ne h.c3 (by omega)) (cell_ne h.c4 (by omega)) (cell_ne h.c5 (by omega)) (warm_set h.warm) rfl rfl
end

/-- a call is counted -/
def stopB (d : DSt) : Bool := d.down || (d.fuse == 0)
def stopD (d : DSt) : DSt := if d.down = true ∨ d.fuse = 0 then { d with down := true } else if 0 < d.fuse then { d with fuse := d.fuse - 1 } else d

theorem dst_down (d : DSt) (b : Bool) (h : d.down = b) : { d with down := b } = d := by cases d; subst h; rfl

set_option maxRecDepth 100000 in
set_option maxHeartbeats 2000000 in
theorem stops_any (w : World) (base p : Nat) (ρ : Nat → Role) (d : DSt) (nw : Files) (s n : Nat) (vp : Value) (ps : List (Change × Value)) (h : DkAt w base p ρ d nw s n vp ps) (hf0 : -1 ≤ d.fuse) (hf1 : d.fuse ≤ 9223372036854775807) :
    Calls Tryz.prog 40 #[.pointer (some ⟨p, 0, none⟩)] w fun e w' => e = .returned (.bool (stopB d)) ∧ DkAt w' base p ρ (stopD d) nw s n vp ps ∧ Kp (fun k => k = p) w w' := by
  have c1 := h.c1
  have c2 := h.c2
  have hw := h.warm
  by_cases hd : d.down = true
  · have e1 : stopB d = true := by simp [stopB, hd]
    have e2 : stopD d = { d with down := true } := by unfold stopD; rw [if_pos (.inl hd)]
    have hfin := h.set_down true
    rw [e1, e2]
    rw [hd] at c2
    have HF := Hid_mk hfin
    clear hfin h e1 e2 hd
    go_enter Tryz.func40, Tryz.ntmps40
    go_wp2
    go_ret
    exact ⟨rfl, HF.out, kp_p _ _ _ _⟩
  · have hd' : d.down = false := by simpa using hd
    by_cases hf : d.fuse = 0
    · have e1 : stopB d = true := by simp [stopB, hf]
      have e2 : stopD d = { d with down := true } := by unfold stopD; rw [if_pos (.inr hf)]
      have hfin := h.set_down true
      rw [e1, e2]
      rw [hd'] at c2
      rw [hf] at c1
      have HF := Hid_mk hfin
      clear hfin h e1 e2 hd hd' hf hf0 hf1
      go_enter Tryz.func40, Tryz.ntmps40
      go_wp2
      go_ret
      exact ⟨rfl, HF.out, kp_p _ _ _ _⟩
    · have e1 : stopB d = false := by simp [stopB, hf, hd']
      rw [e1]
      rw [hd'] at c2
      have hfb : (d.fuse == 0) = false := by simpa using hf
      by_cases hp : 0 < d.fuse
      · have e2 : stopD d = { d with fuse := d.fuse - 1 } := by unfold stopD; rw [if_neg (by simp [hd', hf]), if_pos hp]
        have hfin := (h.set_down false).set_fuse (d.fuse - 1)
        have e3 : ({ ({ d with down := false } : DSt) with fuse := d.fuse - 1 } : DSt) = { d with fuse := d.fuse - 1 } := by cases d; simp_all
        rw [e3] at hfin
        rw [e2]
        have HF := Hid_mk hfin
        generalize d.fuse = fz at *
        clear hfin h e1 e2 e3 hd hd'
        go_enter Tryz.func40, Tryz.ntmps40
        go_wp2
        go_ret
        exact ⟨rfl, HF.out, (kp_p _ _ _ _).trans' (kp_p _ _ _ _)⟩
      · have e2 : stopD d = d := by unfold stopD; rw [if_neg (by simp [hd', hf]), if_neg hp]
        have hfin := h.set_down false
        rw [dst_down d false hd'] at hfin
        rw [e2]
        have HF := Hid_mk hfin
        generalize d.fuse = fz at *
        clear hfin h e1 e2 hd hd'
        go_enter Tryz.func40, Tryz.ntmps40
        go_wp2
        go_ret
        exact ⟨rfl, HF.out, kp_p _ _ _ _⟩

end Go.Proofs.YteekcbbdbciddaaGreatDoor.dsk
