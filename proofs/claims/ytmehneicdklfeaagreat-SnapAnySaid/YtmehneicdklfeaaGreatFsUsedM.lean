/- The bytes of all files in memory; a copy of them. A remainder; a byte that is turned. Package disk's Disk in memory; its small calls. tailracehand.Pick; a byte of a slice turned. The reference's into and name. The reference's Disk: what lies where; Fuse; counts. The reference's Disk: Fuse, Read, Used. -/
import Derived.Test.YtmehneicdklfeaaGreatFsMemM
import Derived.Deep.RegionWith
import Derived.StillTailTactics
import Derived.RegionCalls
import Derived.Test.YtmehneicdklfeaaGreatR2Done

namespace Go.Proofs.YtmehneicdklfeaaGreat.fsUsed
open Go.RowKit Go.Maps Go.Proofs.YtmehneicdklfeaaGreat.sum Go.Proofs.YtmehneicdklfeaaGreat.kept Go.Proofs.YtmehneicdklfeaaGreat.app Go.Proofs.YtmehneicdklfeaaGreat.writer Go.Proofs.YtmehneicdklfeaaGreat.clone Go.Proofs.YtmehneicdklfeaaGreat.fs Go.Proofs.YtmehneicdklfeaaGreat.fsMem Go.Proofs.YtmehneicdklfeaaGreat.fsDo
set_option linter.unusedVariables false

/-- those that are no longer to come -/
def gone (es : Files) (left : Lit → Bool) : Files := es.filter fun e => !left (.string e.1)

theorem gone_start {es : Files} {left : Lit → Bool} (h : ∀ e ∈ es, left (.string e.1) = true) : gone es left = [] := by
  unfold gone
  rw [List.filter_eq_nil_iff]
  intro e he
  simp [h e he]
theorem gone_end {es : Files} {left : Lit → Bool} (h : ∀ k, left k = false) : gone es left = es := by
  unfold gone
  rw [List.filter_eq_self]
  intro e he
  simp [h]
theorem gone_step {es : Files} (hr : Rising es) {left : Lit → Bool} {n : Name} {bs : List UInt8} (hm : (n, bs) ∈ es) (hl : left (.string n) = true) :
    gone es (fun z => left z && !z.sameKey (.string n)) = put (gone es left) n bs := by
  refine eq_of_mem (List.Pairwise.filter _ hr) (Rising.put (List.Pairwise.filter _ hr) n bs) fun p => ?_
  rw [mem_put]
  simp only [gone, List.mem_filter, Bool.not_and, Bool.not_not, sameKey_str, Bool.or_eq_true, Bool.not_eq_true', beq_iff_eq]
  constructor
  · rintro ⟨hp, h | h⟩
    · right
      refine ⟨⟨hp, h⟩, fun e => ?_⟩
      rw [e, hl] at h
      cases h
    · left
      have h1 := (get_some hr).2 hp
      have h2 := (get_some hr).2 hm
      have e : p.1 = n := h
      rw [show p = (p.1, p.2) from rfl, e] at hp ⊢
      have h1 := (get_some hr).2 hp
      rw [h1] at h2
      injection h2 with h2
      rw [h2]
  · rintro (rfl | ⟨⟨hp, h⟩, hne⟩)
    · exact ⟨hm, .inr rfl⟩
    · exact ⟨hp, .inl h⟩
theorem gone_get {es : Files} {left : Lit → Bool} {n : Name} (hl : left (.string n) = true) : fs.get (gone es left) n = none := by
  rw [get_none]
  intro p hp e
  simp only [gone, List.mem_filter] at hp
  rw [e, hl] at hp
  simp at hp
theorem used_gone {es : Files} (hr : Rising es) {left : Lit → Bool} {n : Name} {bs : List UInt8} (hm : (n, bs) ∈ es) (hl : left (.string n) = true) :
    used (gone es (fun z => left z && !z.sameKey (.string n))) = used (gone es left) + bs.length := by
  rw [gone_step hr hm hl]
  have this : used (put (gone es left) n bs) + ((fs.get (gone es left) n).getD []).length = used (gone es left) + bs.length := used_put (List.Pairwise.filter _ hr) n bs
  rw [gone_get hl] at this
  simpa using this
theorem used_le (es : Files) (left : Lit → Bool) : used (gone es left) ≤ used es := by
  unfold used gone
  induction es with
  | nil => simp
  | cons y r ih =>
    rw [List.filter_cons]
    split
    · simp only [List.map_cons, List.sum_cons]; omega
    · simp only [List.map_cons, List.sum_cons]; omega

theorem key_inv {key : Value} {kl : Lit} (h : keyOf Tryz.prog 9 key = some kl) : ∃ s : ByteArray, key = .string s := by
  cases key <;> simp [keyOf, Tryz.underlying9, mapKey] at h
  exact ⟨_, rfl⟩
theorem key_inv2 {s : ByteArray} {kl : Lit} (h : keyOf Tryz.prog 9 (.string s) = some kl) : kl = .string (nm s) ∧ s.size ≤ maxLen := by
  simp [keyOf, Tryz.underlying9, mapKey] at h
  exact ⟨h.2.symm, h.1⟩

/-- what comes out of the range is one of the files -/
theorem entry_of {val : Name → Value} {es : Files} (hr : Rising es) {n : Name} {c : Value} {y : DataW Value × List MemPlace} (hy : raw c = some y) (hat : ∀ zd, (dat val es).atKey (.string n) zd = y.1) : c = val n ∧ ∃ bs, (n, bs) ∈ es := by
  obtain rfl : (DataW.held c, []) = y := Option.some.inj hy
  have h1 := hat .nil
  rw [dat_at] at h1
  split at h1
  · rename_i hh
    refine ⟨(DataW.held.inj h1).symm, ?_⟩
    obtain ⟨bs, hb⟩ := Option.isSome_iff_exists.1 hh
    exact ⟨bs, (get_some hr).1 hb⟩
  · cases h1

def URel (w : World) (b r : Nat) (val : Name → Value) (es : Files) (t : Value) (wr : World) : Prop :=
  ∃ left cnt, wr.ranges Tryz.prog 9 raw b r es.length (dat val es) left cnt ∧ t = .int .i64 (used (gone es left) : Int) ∧ Kp No w wr

set_option maxRecDepth 100000 in
set_option maxHeartbeats 4000000 in
theorem used_any (w : World) (base b : Nat) (ρ : Nat → Option Name) (es : Files) (h : FM w base b ρ es) (hu : used es ≤ 140737488355328) :
    Calls Tryz.prog 47 #[.map (some b)] w fun e w' => e = .returned (.int .i64 (used es : Int)) ∧ Kp No w w' := by
  obtain ⟨h1, h2, h3, val, h4, h5⟩ := h
  have hlt := h4.lt
  have HR := Hid_mk h1
  have H5 := Hid_mk h5
  clear h5 h2 h3
  go_enter Tryz.func47, Tryz.ntmps47
  go_wp2_with (at_range; refine wpList_range_own _ rfl _ 73 rfl 9 29 law Tryz.underlying73 _ b es.length _ rfl h4 ?_; intro w0 hrg0 hg0 hs0)
  go_frame
  have HK0 := Hid_mk (show Kp No w w0 from ⟨hg0.os, hg0.tape, hg0.output, hg0.size, fun k hk _ => hg0.block k hk (by simp)⟩)
  have HG0 := Hid_mk hrg0
  clear hrg0 hg0 h1
  go_loopw [3, 5] (fun t u wr => URel w b w.heap.size val es t wr) (fun _ _ wr => wr.rangeLeft b w.heap.size)
  case atStart =>
    refine ⟨_, _, HG0.out, ?_, HK0.out⟩
    rw [gone_start (fun e he => by rw [dat_has, (get_some HR.out).2 (show (e.1, e.2) ∈ es from he)]; rfl)]
    rfl
  case round =>
    obtain ⟨left, cnt, hrg, rfl, hk⟩ := hrel
    have HK := Hid_mk hk
    have HRG := Hid_mk hrg
    have hul := used_le es left
    clear hk hrg
    go_wp2_with (at_next; refine wpList_next_ranges _ rfl _ rfl 9 law raw Value.string (fun v : Value => v) (fun key kl hk => key_inv hk) (fun v y _ => ⟨v, rfl⟩) b w.heap.size es.length (dat val es) left cnt rfl HRG.out ?_ ?_)
    · intro _ hl0
      have e := gone_end (es := es) hl0
      rw [e] at *
      go_wp2
      go_ret
      exact ⟨rfl, HK.out⟩
    · intro x c kl ya yb w1 cnt1 hkx hlx hy hat hrg1 hlt1 hg1 hs1 hen
      obtain ⟨rfl, hxs⟩ := key_inv2 hkx
      obtain ⟨rfl, bs, hm⟩ := entry_of (y := (ya, yb)) HR.out hy hat
      have hk1 : Kp No w w1 := HK.out.grown hg1 fun k hk e => by have := Option.some.inj e; omega
      have hrow := H5.out _ hm (by simp)
      have hug := used_gone HR.out hm hlx
      have hul1 := used_le es (fun z => left z && !z.sameKey (.string (nm x)))
      obtain ⟨a, cap, hv, -, -, -⟩ := owns_bs hrow.1
      simp only at hv
      rw [hv] at hen ⊢
      have hfin : URel w b w.heap.size val es (.int .i64 ((used (gone es left) : Int) + (bs.length : Int))) w1 := ⟨_, _, hrg1, by rw [hug]; rfl, hk1⟩
      have hsum : (used (gone es left) : Int) + (bs.length : Int) ≤ 140737488355328 := by rw [hug] at hul1; omega
      have HF := Hid_mk hfin
      generalize used (gone es left) = u at *
      generalize bs.length = L at *
      have HM : Hid (w1.rangeLeft b w.heap.size < wr.rangeLeft b w.heap.size) := Hid_mk (by rw [hrg1.left_eq, HRG.out.left_eq]; exact hlt1)
      clear hfin hrow hm hat hy hrg1 hg1 hkx hlx hk1 hug hv hul1
      go_wp2
      go_roundw
      case rel => exact HF.out
      case measure => exact HM.out

end Go.Proofs.YtmehneicdklfeaaGreat.fsUsed

namespace Go.Proofs.YtmehneicdklfeaaGreat.turned
open Go.RowKit Go.Proofs.YtmehneicdklfeaaGreat.sum Go.Proofs.YtmehneicdklfeaaGreat.kept Go.Proofs.YtmehneicdklfeaaGreat.app Go.Proofs.YtmehneicdklfeaaGreat.writer Go.Proofs.YtmehneicdklfeaaGreat.clone Go.Proofs.YtmehneicdklfeaaGreat.known Go.Proofs.YtmehneicdklfeaaGreat.unseal
set_option linter.unusedVariables false

theorem tmod_pos (n m : Int) (hm : 0 < m) : -m < n.tmod m ∧ n.tmod m < m ∧ (0 ≤ n.tmod m → n.tmod m = n % m) ∧ (n.tmod m < 0 → n.tmod m + m = n % m) := by
  have h1 := Int.tmod_lt_of_pos n hm
  have h2 := Int.tmod_lt_of_pos (-n) hm
  rw [Int.neg_tmod] at h2
  have h3 := Int.tmod_add_mul_tdiv n m
  refine ⟨by omega, h1, ?_, ?_⟩
  · intro h
    have e : n % m = (n.tmod m + m * n.tdiv m) % m := by rw [h3]
    rw [e, Int.add_mul_emod_self_left, Int.emod_eq_of_lt h h1]
  · intro h
    have e : n % m = (n.tmod m + m + m * (n.tdiv m - 1)) % m := by rw [Int.mul_sub]; congr 1; omega
    rw [e, Int.add_mul_emod_self_left, Int.emod_eq_of_lt (by omega) (by omega)]

theorem bs_set {w : World} {b o len cap : Nat} {bs : List UInt8} (h : Bs w (.slice (some ⟨b, o, none⟩) len cap) bs) (k : Nat) (hk : k < len) (y : UInt8) : Bs (w.setCell ⟨b, o + k, none⟩ (B y)) (.slice (some ⟨b, o, none⟩) len cap) (bs.set k y) := by
  obtain ⟨a, c, e, h1, h2, h3⟩ := h
  simp only [Value.slice.injEq] at e
  obtain ⟨rfl, rfl, rfl⟩ := e
  refine ⟨_, cap, by rw [List.length_set], by rw [List.length_set]; exact h1, h2, fun _ => ⟨b, o, rfl, fun i hi => ?_⟩⟩
  rw [List.length_set] at hi
  obtain ⟨b', o', e, hc⟩ := h3 (by intro e; subst e; simp at hk)
  cases e
  by_cases hik : i = k
  · subst hik
    rw [World.cell?_setCell_same w _ _ (hc i hi)]
    simp [List.getD, hi]
  · rw [World.cell?_setCell_other w _ _ _ (by simp <;> omega), hc i hi]
    simp [List.getD, List.getElem?_set, Ne.symm hik]

end Go.Proofs.YtmehneicdklfeaaGreat.turned

namespace Go.Proofs.YtmehneicdklfeaaGreat.dsk
open Go.RowKit Go.Maps Go.Proofs.YtmehneicdklfeaaGreat.sum Go.Proofs.YtmehneicdklfeaaGreat.kept Go.Proofs.YtmehneicdklfeaaGreat.app Go.Proofs.YtmehneicdklfeaaGreat.writer Go.Proofs.YtmehneicdklfeaaGreat.clone Go.Proofs.YtmehneicdklfeaaGreat.fs Go.Proofs.YtmehneicdklfeaaGreat.fsMem Go.Proofs.YtmehneicdklfeaaGreat.fsDo Go.Proofs.YtmehneicdklfeaaGreat.fsUsed Go.Proofs.YtmehneicdklfeaaGreat.turned
set_option linter.unusedVariables false

/-- whose a block is -/
inductive Role where
  | other | disk | smap | nmap | pend | byt
  | srow (n : Name) | nrow (n : Name)

def sOf (ρ : Nat → Role) (k : Nat) : Option Name := match ρ k with | .srow n => some n | _ => none
def nOf (ρ : Nat → Role) (k : Nat) : Option Name := match ρ k with | .nrow n => some n | _ => none

structure DSt where
  room : Int
  fuse : Int
  down : Bool
  syn : Files
  cs : List Change

def DSt.now (d : DSt) : Files := all d.syn d.cs

def bytesOf : List Change → Nat
  | [] => 0
  | c :: r => c.bytes.length + bytesOf r
theorem bytesOf_append (a b : List Change) : bytesOf (a ++ b) = bytesOf a + bytesOf b := by
  induction a with
  | nil => simp [bytesOf]
  | cons c a ih => simp only [List.cons_append, bytesOf, ih]; omega
theorem bytesOf_take (a : List Change) (k : Nat) : bytesOf (a.take k) ≤ bytesOf a := by
  conv => rhs; rw [← List.take_append_drop k a]
  rw [bytesOf_append]; omega

def fitsAll : Files → List Change → Prop
  | _, [] => True
  | es, c :: r => c.fits es ∧ fitsAll (doit es c) r
theorem fitsAll_snoc {es : Files} {cs : List Change} {c : Change} (h : fitsAll es cs) (hc : c.fits (all es cs)) : fitsAll es (cs ++ [c]) := by
  induction cs generalizing es with
  | nil => exact ⟨hc, trivial⟩
  | cons x cs ih => exact ⟨h.1, ih h.2 hc⟩
theorem fitsAll_at {es : Files} {cs : List Change} (h : fitsAll es cs) (k : Nat) (hk : k < cs.length) : cs[k].fits (all es (cs.take k)) := by
  induction cs generalizing es k with
  | nil => simp at hk
  | cons x cs ih =>
    cases k with
    | zero => exact h.1
    | succ k => exact ih h.2 k (by simpa using hk)

theorem used_all {es : Files} (h : Rising es) (cs : List Change) : used (all es cs) ≤ used es + bytesOf cs := by
  induction cs generalizing es with
  | nil => simp [all_nil, bytesOf]
  | cons c cs ih =>
    have h1 := ih (rising_doit h c)
    have h2 := used_doit h c
    rw [all_cons]
    simp only [bytesOf]
    split at h2 <;> omega
theorem len_doit {es : Files} (h : Rising es) (c : Change) : (doit es c).length ≤ es.length + 1 := by
  unfold doit
  split
  · rw [len_put h]; split <;> omega
  · rw [len_put h]; split <;> omega
  · have := len_put (h.drop (nm c.name)) (nm c.to) (old es (nm c.name))
    have h2 : (drop es (nm c.name)).length ≤ es.length := List.length_filter_le _ _
    rw [this]; split <;> omega
  · have h2 : (drop es (nm c.name)).length ≤ es.length := List.length_filter_le _ _
    omega
theorem len_all {es : Files} (h : Rising es) (cs : List Change) : (all es cs).length ≤ es.length + cs.length := by
  induction cs generalizing es with
  | nil => simp [all_nil]
  | cons c cs ih =>
    have h1 := ih (rising_doit h c)
    have h2 := len_doit h c
    rw [all_cons]
    simp only [List.length_cons]
    omega

/-- what holds of a disk on which at most M things were done -/
structure DOk (M : Nat) (d : DSt) : Prop where
  rising : Rising d.syn
  few : d.syn.length + d.cs.length ≤ M
  small : used d.syn + bytesOf d.cs ≤ M * 8388608
  fit : fitsAll d.syn d.cs
  names : ∀ c ∈ d.cs, c.name.size ≤ maxLen ∧ c.to.size ≤ maxLen
  sizes : ∀ c ∈ d.cs, c.size ≤ 9223372036854775807
  room0 : 0 ≤ d.room
  room1 : d.room ≤ 8388608
  fuse0 : -1 ≤ d.fuse
  fuse1 : d.fuse ≤ 9223372036854775807
  plain : ∀ c ∈ d.cs, c.kind ≠ 0 → c.bytes = []

theorem DOk.mono {M N : Nat} {d : DSt} (h : DOk M d) (hm : M ≤ N) : DOk N d :=
  ⟨h.rising, Nat.le_trans h.few hm, Nat.le_trans h.small (Nat.mul_le_mul_right _ hm), h.fit, h.names, h.sizes, h.room0, h.room1, h.fuse0, h.fuse1, h.plain⟩

def chgList (q : Change × Value) : List Value := [.int .i64 (q.1.kind : Int), .string q.1.name, .string q.1.to, q.2, .int .i64 (q.1.size : Int)]

/-- A Disk at block p: its maps s and n, its slice vp of what is pending. -/
structure DkAt (w : World) (base p : Nat) (ρ : Nat → Role) (d : DSt) (nw : Files) (s n : Nat) (vp : Value) (ps : List (Change × Value)) : Prop where
  c0 : w.cell? ⟨p, 0, none⟩ = some (.int .i64 d.room)
  c1 : w.cell? ⟨p, 1, none⟩ = some (.int .i64 d.fuse)
  c2 : w.cell? ⟨p, 2, none⟩ = some (.bool d.down)
  c3 : w.cell? ⟨p, 3, none⟩ = some (.map (some s))
  c4 : w.cell? ⟨p, 4, none⟩ = some (.map (some n))
  c5 : w.cell? ⟨p, 5, none⟩ = some vp
  warm : ∀ o, w.frozen? ⟨p, o, none⟩ = false
  syn : FM w base s (sOf ρ) d.syn
  now : FM w base n (nOf ρ) nw
  cs : ps.map (·.1) = d.cs
  pend : w.ownsRow base 80 5 vp ps.length (ps.flatMap chgList)
  byts : ∀ q ∈ ps, Bs w q.2 q.1.bytes ∧ ∀ x o m c, q.2 = .slice (some ⟨x, o, none⟩) m c → ρ x = .byt ∧ x < w.heap.size
  rp : ρ p = .disk
  rs : ρ s = .smap
  rn : ρ n = .nmap
  rv : ∀ g, vp.ownBlock = some g → ρ g = .pend
  bp : base ≤ p
  low : ∀ k, ρ k ≠ .other → base ≤ k
  hi : ∀ k, w.heap.size ≤ k → ρ k = .other

def Dk (w : World) (base p : Nat) (ρ : Nat → Role) (d : DSt) : Prop := ∃ s n vp ps, DkAt w base p ρ d d.now s n vp ps

/-- of old memory only the disk's has turned; what was not the disk's is not -/
def Fr (ρ : Nat → Role) (w : World) (ρ' : Nat → Role) (w' : World) : Prop := Kp (fun k => ρ k ≠ .other) w w' ∧ ∀ k, k < w.heap.size → ρ k = .other → ρ' k = .other
theorem Fr.refl (ρ : Nat → Role) (w : World) : Fr ρ w ρ w := ⟨Kp.refl _ _, fun _ _ h => h⟩
theorem Fr.trans {ρ ρ' ρ'' : Nat → Role} {w w' w'' : World} (h : Fr ρ w ρ' w') (k : Fr ρ' w' ρ'' w'') : Fr ρ w ρ'' w'' :=
  ⟨h.1.trans k.1 fun i hi e e2 => e (h.2 i hi e2), fun i hi e => k.2 i (Nat.lt_of_lt_of_le hi h.1.size) (h.2 i hi e)⟩
theorem Fr.of_no {ρ : Nat → Role} {w w' : World} (h : Kp No w w') : Fr ρ w ρ w' := ⟨h.to, fun _ _ h => h⟩

theorem DkAt.lt {w : World} {base p : Nat} {ρ : Nat → Role} {d : DSt} {nw : Files} {s n : Nat} {vp : Value} {ps : List (Change × Value)} (h : DkAt w base p ρ d nw s n vp ps) : p < w.heap.size := World.block_lt_of_cell? w ⟨p, 0, none⟩ h.c0

theorem DkAt.no {w w' : World} {base p : Nat} {ρ : Nat → Role} {d : DSt} {nw : Files} {s n : Nat} {vp : Value} {ps : List (Change × Value)} (h : DkAt w base p ρ d nw s n vp ps) (hk : Kp No w w') : DkAt w' base p ρ d nw s n vp ps :=
  ⟨hk.cell' h.c0 id, hk.cell' h.c1 id, hk.cell' h.c2 id, hk.cell' h.c3 id, hk.cell' h.c4 id, hk.cell' h.c5 id, fun o => (hk.frozen (p := ⟨p, o, none⟩) h.lt id).trans (h.warm o),
    h.syn.kept hk (fun _ _ x => x.elim) fun _ _ => rfl, h.now.kept hk (fun _ _ x => x.elim) fun _ _ => rfl, h.cs, owns_kept h.pend hk fun _ _ => id,
    fun q hq => ⟨bs_no (h.byts q hq).1 hk, fun x o m c e => ⟨((h.byts q hq).2 x o m c e).1, Nat.lt_of_lt_of_le ((h.byts q hq).2 x o m c e).2 hk.size⟩⟩, h.rp, h.rs, h.rn, h.rv, h.bp, h.low, fun k hk2 => h.hi k (Nat.le_trans hk.size hk2)⟩

theorem Dk.no {w w' : World} {base p : Nat} {ρ : Nat → Role} {d : DSt} (h : Dk w base p ρ d) (hk : Kp No w w') : Dk w' base p ρ d := by
  obtain ⟨s, n, vp, ps, h⟩ := h
  exact ⟨s, n, vp, ps, h.no hk⟩

theorem sOf_none {ρ : Nat → Role} {k : Nat} (h : ∀ n, ρ k ≠ .srow n) : sOf ρ k = none := by unfold sOf; split <;> simp_all
theorem nOf_none {ρ : Nat → Role} {k : Nat} (h : ∀ n, ρ k ≠ .nrow n) : nOf ρ k = none := by unfold nOf; split <;> simp_all

/-- stores into the Disk's own cells -/
theorem DkAt.cells {w w' : World} {base p : Nat} {ρ : Nat → Role} {d d' : DSt} {nw : Files} {s n : Nat} {vp : Value} {ps : List (Change × Value)} (h : DkAt w base p ρ d nw s n vp ps) (hk : Kp (fun k => k = p) w w')
    (c0 : w'.cell? ⟨p, 0, none⟩ = some (.int .i64 d'.room)) (c1 : w'.cell? ⟨p, 1, none⟩ = some (.int .i64 d'.fuse)) (c2 : w'.cell? ⟨p, 2, none⟩ = some (.bool d'.down)) (c3 : w'.cell? ⟨p, 3, none⟩ = some (.map (some s)))
    (c4 : w'.cell? ⟨p, 4, none⟩ = some (.map (some n))) (c5 : w'.cell? ⟨p, 5, none⟩ = some vp) (hf : ∀ o, w'.frozen? ⟨p, o, none⟩ = false) (hs : d'.syn = d.syn) (hc : d'.cs = d.cs) : DkAt w' base p ρ d' nw s n vp ps := by
  have hrp := h.rp
  refine ⟨c0, c1, c2, c3, c4, c5, hf, ?_, ?_, by rw [hc]; exact h.cs, owns_kept h.pend hk ?_, fun q hq => ⟨bs_kept (h.byts q hq).1 hk ?_, fun x o m c e => ⟨((h.byts q hq).2 x o m c e).1, Nat.lt_of_lt_of_le ((h.byts q hq).2 x o m c e).2 hk.size⟩⟩, h.rp, h.rs, h.rn, h.rv, h.bp, h.low, fun k hk2 => h.hi k (Nat.le_trans hk.size hk2)⟩
  · rw [hs]
    refine h.syn.kept hk (fun k _ e => ⟨fun e2 => ?_, fun m hm => ?_⟩) fun _ _ => rfl
    · have := h.rs; rw [← e2, e, hrp] at this; cases this
    · rw [e] at hm; rw [sOf_none (by rw [hrp]; simp)] at hm; cases hm
  · refine h.now.kept hk (fun k _ e => ⟨fun e2 => ?_, fun m hm => ?_⟩) fun _ _ => rfl
    · have := h.rn; rw [← e2, e, hrp] at this; cases this
    · rw [e] at hm; rw [nOf_none (by rw [hrp]; simp)] at hm; cases hm
  · rintro k e rfl
    have := h.rv _ e; rw [hrp] at this; cases this
  · rintro x o m c e rfl
    have := ((h.byts q hq).2 _ o m c e).1; rw [hrp] at this; cases this

def nameB (s : ByteArray) : Bool := decide (1 ≤ s.size) && decide (s.size ≤ 16)
set_option maxRecDepth 100000 in
set_option maxHeartbeats 1000000 in
theorem name_any (w : World) (s : ByteArray) (hs : s.size ≤ maxLen) : Calls Tryz.prog 46 #[.string s] w fun e w' => e = .returned (.bool (nameB s)) ∧ w = w' := by
  unfold maxLen at hs
  by_cases h1 : 1 ≤ s.size
  · by_cases h2 : s.size ≤ 16
    · have e : nameB s = true := by simp [nameB, h1, h2]
      have hd : decide ((s.size : Int) ≤ 16) = true := by simp; omega
      rw [e]
      go_enter Tryz.func46, Tryz.ntmps46
      go_wp2
      go_ret
      exact ⟨rfl, rfl⟩
    · have e : nameB s = false := by simp [nameB, h2]
      have hd : decide ((s.size : Int) ≤ 16) = false := by simp; omega
      rw [e]
      go_enter Tryz.func46, Tryz.ntmps46
      go_wp2
      go_ret
      exact ⟨rfl, rfl⟩
  · have e : nameB s = false := by simp [nameB, h1]
    rw [e]
    go_enter Tryz.func46, Tryz.ntmps46
    go_wp2
    go_ret
    exact ⟨rfl, rfl⟩

def roomB (r : Int) : Bool := decide (0 ≤ r) && decide (r ≤ 8388608)
set_option maxRecDepth 100000 in
set_option maxHeartbeats 1000000 in
theorem room_any (w : World) (r : Int) : Calls Tryz.prog 44 #[.int .i64 r] w fun e w' => e = .returned (.bool (roomB r)) ∧ w = w' := by
  by_cases h1 : 0 ≤ r
  · by_cases h2 : r ≤ 8388608
    · have e : roomB r = true := by simp [roomB, h1, h2]
      rw [e]
      go_enter Tryz.func44, Tryz.ntmps44
      go_wp2
      go_ret
      exact ⟨rfl, rfl⟩
    · have e : roomB r = false := by simp [roomB, h2]
      rw [e]
      go_enter Tryz.func44, Tryz.ntmps44
      go_wp2
      go_ret
      exact ⟨rfl, rfl⟩
  · have e : roomB r = false := by simp [roomB, h1]
    rw [e]
    go_enter Tryz.func44, Tryz.ntmps44
    go_wp2
    go_ret
    exact ⟨rfl, rfl⟩

section
variable {w : World} {base p : Nat} {ρ : Nat → Role} {d : DSt} {nw : Files} {s n : Nat} {vp : Value} {ps : List (Change × Value)}

theorem kp_p (w : World) (p o : Nat) (u : Value) : Kp (fun k => k = p) w (w.setCell ⟨p, o, none⟩ u) := (Kp.refl (fun k => k = p) w).setCell (fun _ => rfl) _
theorem cell_ne {w : World} {p o o' : Nat} {u v : Value} (h : w.cell? ⟨p, o, none⟩ = some v) (hne : o ≠ o') : (w.setCell ⟨p, o', none⟩ u).cell? ⟨p, o, none⟩ = some v := by
  rw [World.cell?_setCell_other w _ _ _ (by intro e; injection e; omega)]; exact h
theorem warm_set {w : World} {p o : Nat} {u : Value} (h : ∀ o, w.frozen? ⟨p, o, none⟩ = false) : ∀ j, (w.setCell ⟨p, o, none⟩ u).frozen? ⟨p, j, none⟩ = false := fun j => by rw [World.frozen?_setCell]; exact h j

theorem DkAt.set_room (h : DkAt w base p ρ d nw s n vp ps) (r : Int) : DkAt (w.setCell ⟨p, 0, none⟩ (.int .i64 r)) base p ρ { d with room := r } nw s n vp ps :=
  h.cells (kp_p _ _ _ _) (World.cell?_setCell_same w _ _ h.c0) (cell_ne h.c1 (by omega)) (cell_ne h.c2 (by omega)) (cell_ne h.c3 (by omega)) (cell_ne h.c4 (by omega)) (cell_ne h.c5 (by omega)) (warm_set h.warm) rfl rfl
theorem DkAt.set_fuse (h : DkAt w base p ρ d nw s n vp ps) (r : Int) : DkAt (w.setCell ⟨p, 1, none⟩ (.int .i64 r)) base p ρ { d with fuse := r } nw s n vp ps :=
  h.cells (kp_p _ _ _ _) (cell_ne h.c0 (by omega)) (World.cell?_setCell_same w _ _ h.c1) (cell_ne h.c2 (by omega)) (cell_ne h.c3 (by omega)) (cell_ne h.c4 (by omega)) (cell_ne h.c5 (by omega)) (warm_set h.warm) rfl rfl
theorem DkAt.set_down (h : DkAt w base p ρ d nw s n vp ps) (r : Bool) : DkAt (w.setCell ⟨p, 2, none⟩ (.bool r)) base p ρ { d with down := r } nw s n vp ps :=
  h.cells (kp_p _ _ _ _) (cell_ne h.c0 (by omega)) (cell_ne h.c1 (by omega)) (World.cell?_setCell_same w _ _ h.c2) (cell_ne h.c3 (by omega)) (cell_ne h.c4 (by omega)) (cell_ne h.c5 (by omega)) (warm_set h.warm) rfl rfl
end

/-- a call is counted -/
def stopB (d : DSt) : Bool := d.down || (d.fuse == 0)
def stopD (d : DSt) : DSt := if d.down = true ∨ d.fuse = 0 then { d with down := true } else if 0 < d.fuse then { d with fuse := d.fuse - 1 } else d

theorem dst_down (d : DSt) (b : Bool) (h : d.down = b) : { d with down := b } = d := by cases d; subst h; rfl

set_option maxRecDepth 100000 in
set_option maxHeartbeats 2000000 in
theorem stops_any (w : World) (base p : Nat) (ρ : Nat → Role) (d : DSt) (nw : Files) (s n : Nat) (vp : Value) (ps : List (Change × Value)) (h : DkAt w base p ρ d nw s n vp ps) (hf0 : -1 ≤ d.fuse) (hf1 : d.fuse ≤ 9223372036854775807) :
    Calls Tryz.prog 45 #[.pointer (some ⟨p, 0, none⟩)] w fun e w' => e = .returned (.bool (stopB d)) ∧ DkAt w' base p ρ (stopD d) nw s n vp ps ∧ Kp (fun k => k = p) w w' := by
  have c1 := h.c1
  have c2 := h.c2
  have hw := h.warm
  by_cases hd : d.down = true
  · have e1 : stopB d = true := by simp [stopB, hd]
    have e2 : stopD d = { d with down := true } := by unfold stopD; rw [if_pos (.inl hd)]
    have hfin := h.set_down true
    rw [e1, e2]
    rw [hd] at c2
    have HF := Hid_mk hfin
    clear hfin h e1 e2 hd
    go_enter Tryz.func45, Tryz.ntmps45
    go_wp2
    go_ret
    exact ⟨rfl, HF.out, kp_p _ _ _ _⟩
  · have hd' : d.down = false := by simpa using hd
    by_cases hf : d.fuse = 0
    · have e1 : stopB d = true := by simp [stopB, hf]
      have e2 : stopD d = { d with down := true } := by unfold stopD; rw [if_pos (.inr hf)]
      have hfin := h.set_down true
      rw [e1, e2]
      rw [hd'] at c2
      rw [hf] at c1
      have HF := Hid_mk hfin
      clear hfin h e1 e2 hd hd' hf hf0 hf1
      go_enter Tryz.func45, Tryz.ntmps45
      go_wp2
      go_ret
      exact ⟨rfl, HF.out, kp_p _ _ _ _⟩
    · have e1 : stopB d = false := by simp [stopB, hf, hd']
      rw [e1]
      rw [hd'] at c2
      have hfb : (d.fuse == 0) = false := by simpa using hf
      by_cases hp : 0 < d.fuse
      · have e2 : stopD d = { d with fuse := d.fuse - 1 } := by unfold stopD; rw [if_neg (by simp [hd', hf]), if_pos hp]
        have hfin := (h.set_down false).set_fuse (d.fuse - 1)
        have e3 : ({ ({ d with down := false } : DSt) with fuse := d.fuse - 1 } : DSt) = { d with fuse := d.fuse - 1 } := by cases d; simp_all
        rw [e3] at hfin
        rw [e2]
        have HF := Hid_mk hfin
        generalize d.fuse = fz at *
        clear hfin h e1 e2 e3 hd hd'
        go_enter Tryz.func45, Tryz.ntmps45
        go_wp2
        go_ret
        exact ⟨rfl, HF.out, (kp_p _ _ _ _).trans' (kp_p _ _ _ _)⟩
      · have e2 : stopD d = d := by unfold stopD; rw [if_neg (by simp [hd', hf]), if_neg hp]
        have hfin := h.set_down false
        rw [dst_down d false hd'] at hfin
        rw [e2]
        have HF := Hid_mk hfin
        generalize d.fuse = fz at *
        clear hfin h e1 e2 hd hd'
        go_enter Tryz.func45, Tryz.ntmps45
        go_wp2
        go_ret
        exact ⟨rfl, HF.out, kp_p _ _ _ _⟩

end Go.Proofs.YtmehneicdklfeaaGreat.dsk

namespace Go.Proofs.YtmehneicdklfeaaGreat.turned
open Go.RowKit Go.Proofs.YtmehneicdklfeaaGreat.sum Go.Proofs.YtmehneicdklfeaaGreat.kept Go.Proofs.YtmehneicdklfeaaGreat.app Go.Proofs.YtmehneicdklfeaaGreat.writer Go.Proofs.YtmehneicdklfeaaGreat.clone Go.Proofs.YtmehneicdklfeaaGreat.known Go.Proofs.YtmehneicdklfeaaGreat.unseal
set_option linter.unusedVariables false

set_option maxRecDepth 100000 in
set_option maxHeartbeats 1000000 in
theorem pick_any (n m : Int) (hm : 0 < m) (hm2 : m ≤ 1000000000000000) (w : World) :
    Calls Tryz.prog 8 #[.int .i64 n, .int .i64 m] w fun e w' => e = .returned (.int .i64 (n % m)) ∧ w = w' := by
  obtain ⟨h1, h2, h3, h4⟩ := tmod_pos n m hm
  obtain ⟨t, ht⟩ : ∃ t, n.tmod m = t := ⟨_, rfl⟩
  rw [ht] at h1 h2 h3 h4
  have H3 := Hid_mk h3
  have H4 := Hid_mk h4
  clear h3 h4
  have hne : ¬ m = 0 := by omega
  have hne1 : ¬ m = -1 := by omega
  by_cases hneg : t < 0
  · go_enter Tryz.func8, Tryz.ntmps8
    go_wp2
    go_ret
    rw [H4.out hneg]
    exact ⟨rfl, rfl⟩
  · go_enter Tryz.func8, Tryz.ntmps8
    go_wp2
    go_ret
    rw [H3.out (by omega)]
    exact ⟨rfl, rfl⟩

end Go.Proofs.YtmehneicdklfeaaGreat.turned

namespace Go.Proofs.YtmehneicdklfeaaGreat.r2
open Go.RowKit Go.Maps Go.Proofs.YtmehneicdklfeaaGreat.sum Go.Proofs.YtmehneicdklfeaaGreat.kept Go.Proofs.YtmehneicdklfeaaGreat.app Go.Proofs.YtmehneicdklfeaaGreat.writer Go.Proofs.YtmehneicdklfeaaGreat.clone Go.Proofs.YtmehneicdklfeaaGreat.fs Go.Proofs.YtmehneicdklfeaaGreat.turned Go.Proofs.YtmehneicdklfeaaGreat.dsk
set_option linter.unusedVariables false

set_option maxRecDepth 100000 in
set_option maxHeartbeats 1000000 in
theorem into_any (n m : Int) (hm : 0 < m) (hm2 : m ≤ 1000000000000000) (w : World) :
    Calls Tryz.prog 58 #[.int .i64 n, .int .i64 m] w fun e w' => e = .returned (.int .i64 (n % m)) ∧ w = w' := by
  obtain ⟨h1, h2, h3, h4⟩ := tmod_pos n m hm
  obtain ⟨t, ht⟩ : ∃ t, n.tmod m = t := ⟨_, rfl⟩
  rw [ht] at h1 h2 h3 h4
  have H3 := Hid_mk h3
  have H4 := Hid_mk h4
  clear h3 h4
  have hne : ¬ m = 0 := by omega
  have hne1 : ¬ m = -1 := by omega
  by_cases hneg : t < 0
  · go_enter Tryz.func58, Tryz.ntmps58
    go_wp2
    go_ret
    rw [H4.out hneg]
    exact ⟨rfl, rfl⟩
  · go_enter Tryz.func58, Tryz.ntmps58
    go_wp2
    go_ret
    rw [H3.out (by omega)]
    exact ⟨rfl, rfl⟩

set_option maxRecDepth 100000 in
set_option maxHeartbeats 1000000 in
theorem refname_any (w : World) (s : ByteArray) (hs : s.size ≤ maxLen) : Calls Tryz.prog 51 #[.string s] w fun e w' => e = .returned (.bool (nameB s)) ∧ w = w' := by
  unfold maxLen at hs
  by_cases h1 : 1 ≤ s.size
  · by_cases h2 : s.size ≤ 16
    · have e : nameB s = true := by simp [nameB, h1, h2]
      have hd : decide ((s.size : Int) ≤ 16) = true := by simp; omega
      rw [e]
      go_enter Tryz.func51, Tryz.ntmps51
      go_wp2
      go_ret
      exact ⟨rfl, rfl⟩
    · have e : nameB s = false := by simp [nameB, h2]
      have hd : decide ((s.size : Int) ≤ 16) = false := by simp; omega
      rw [e]
      go_enter Tryz.func51, Tryz.ntmps51
      go_wp2
      go_ret
      exact ⟨rfl, rfl⟩
  · have e : nameB s = false := by simp [nameB, h1]
    rw [e]
    go_enter Tryz.func51, Tryz.ntmps51
    go_wp2
    go_ret
    exact ⟨rfl, rfl⟩


end Go.Proofs.YtmehneicdklfeaaGreat.r2

namespace Go.Proofs.YtmehneicdklfeaaGreat.r2
open Go.RowKit Go.Maps Go.Proofs.YtmehneicdklfeaaGreat.sum Go.Proofs.YtmehneicdklfeaaGreat.kept Go.Proofs.YtmehneicdklfeaaGreat.app Go.Proofs.YtmehneicdklfeaaGreat.writer Go.Proofs.YtmehneicdklfeaaGreat.clone Go.Proofs.YtmehneicdklfeaaGreat.fs Go.Proofs.YtmehneicdklfeaaGreat.fsDo Go.Proofs.YtmehneicdklfeaaGreat.unseal Go.Proofs.YtmehneicdklfeaaGreat.dsk
set_option linter.unusedVariables false

/-- the plain part of the reference's disk -/
structure RSt where
  space : Int
  fused : Bool
  fuse : Int
  down : Bool

/-- the cells of the reference's disk at block r -/
structure RAt (w : World) (r : Nat) (x : RSt) (vs vn vw : Value) : Prop where
  c0 : w.cell? ⟨r, 0, none⟩ = some (.int .i64 x.space)
  c1 : w.cell? ⟨r, 1, none⟩ = some vs
  c2 : w.cell? ⟨r, 2, none⟩ = some vn
  c3 : w.cell? ⟨r, 3, none⟩ = some vw
  c4 : w.cell? ⟨r, 4, none⟩ = some (.bool x.fused)
  c5 : w.cell? ⟨r, 5, none⟩ = some (.int .i64 x.fuse)
  c6 : w.cell? ⟨r, 6, none⟩ = some (.bool x.down)
  warm : ∀ o, w.frozen? ⟨r, o, none⟩ = false
  lt : r < w.heap.size

theorem RAt.no {w w' : World} {r : Nat} {x : RSt} {vs vn vw : Value} (h : RAt w r x vs vn vw) (hk : Kp No w w') : RAt w' r x vs vn vw :=
  ⟨hk.cell' h.c0 id, hk.cell' h.c1 id, hk.cell' h.c2 id, hk.cell' h.c3 id, hk.cell' h.c4 id, hk.cell' h.c5 id, hk.cell' h.c6 id, fun o => (hk.frozen (p := ⟨r, o, none⟩) h.lt id).trans (h.warm o), Nat.lt_of_lt_of_le h.lt hk.size⟩

theorem other_cell {w : World} {r o o' : Nat} {u v : Value} (h : w.cell? ⟨r, o, none⟩ = some v) (hne : o ≠ o') : (w.setCell ⟨r, o', none⟩ u).cell? ⟨r, o, none⟩ = some v := dsk.cell_ne h hne

theorem RAt.set_fuse {w : World} {r : Nat} {x : RSt} {vs vn vw : Value} (h : RAt w r x vs vn vw) (n : Int) : RAt (w.setCell ⟨r, 5, none⟩ (.int .i64 n)) r { x with fuse := n } vs vn vw :=
  ⟨other_cell h.c0 (by omega), other_cell h.c1 (by omega), other_cell h.c2 (by omega), other_cell h.c3 (by omega), other_cell h.c4 (by omega), World.cell?_setCell_same w _ _ h.c5, other_cell h.c6 (by omega), dsk.warm_set h.warm, by simpa using h.lt⟩
theorem RAt.set_fused {w : World} {r : Nat} {x : RSt} {vs vn vw : Value} (h : RAt w r x vs vn vw) (n : Bool) : RAt (w.setCell ⟨r, 4, none⟩ (.bool n)) r { x with fused := n } vs vn vw :=
  ⟨other_cell h.c0 (by omega), other_cell h.c1 (by omega), other_cell h.c2 (by omega), other_cell h.c3 (by omega), World.cell?_setCell_same w _ _ h.c4, other_cell h.c5 (by omega), other_cell h.c6 (by omega), dsk.warm_set h.warm, by simpa using h.lt⟩
theorem RAt.set_down {w : World} {r : Nat} {x : RSt} {vs vn vw : Value} (h : RAt w r x vs vn vw) (n : Bool) : RAt (w.setCell ⟨r, 6, none⟩ (.bool n)) r { x with down := n } vs vn vw :=
  ⟨other_cell h.c0 (by omega), other_cell h.c1 (by omega), other_cell h.c2 (by omega), other_cell h.c3 (by omega), other_cell h.c4 (by omega), other_cell h.c5 (by omega), World.cell?_setCell_same w _ _ h.c6, dsk.warm_set h.warm, by simpa using h.lt⟩

/-- a call is counted -/
def cntB (x : RSt) : Bool := x.down || (x.fused && (x.fuse == 0))
def cntX (x : RSt) : RSt := if cntB x = true then { x with down := true } else if x.fused = true then { x with fuse := x.fuse - 1 } else x

set_option maxRecDepth 100000 in
set_option maxHeartbeats 2000000 in
theorem counts_any (w : World) (r : Nat) (x : RSt) (vs vn vw : Value) (h : RAt w r x vs vn vw) (hf0 : 0 ≤ x.fuse) (hf1 : x.fuse ≤ 9223372036854775807) :
    Calls Tryz.prog 50 #[.pointer (some ⟨r, 0, none⟩)] w fun e w' => e = .returned (.int .i64 (if cntB x then 3 else 0)) ∧ RAt w' r (cntX x) vs vn vw ∧ Kp (fun k => k = r) w w' := by
  obtain ⟨sp, fd, fu, dn⟩ := x
  have c4 := h.c4
  have c5 := h.c5
  have c6 := h.c6
  have hw := h.warm
  have hw5 := h.warm 5
  have hw6 := h.warm 6
  simp only at c4 c5 c6 hf0 hf1
  have HD := Hid_mk (h.set_down true)
  have HF := Hid_mk (h.set_fuse (fu - 1))
  have H := Hid_mk h
  have e1 : (w.setCell ⟨r, 6, none⟩ (.bool true)).cell? ⟨r, 6, none⟩ = some (.bool true) := World.cell?_setCell_same w _ _ h.c6
  have e4 : (w.setCell ⟨r, 6, none⟩ (.bool true)).cell? ⟨r, 4, none⟩ = some (.bool fd) := other_cell h.c4 (by omega)
  have k6 := kp_p w r 6 (.bool true)
  have k5 := kp_p w r 5 (.int .i64 (fu - 1))
  clear h
  cases dn with
  | true =>
    have hX : cntX ⟨sp, fd, fu, true⟩ = ⟨sp, fd, fu, true⟩ := by simp [cntX, cntB]
    have hB : cntB ⟨sp, fd, fu, true⟩ = true := by simp [cntB]
    rw [hX, hB]
    clear hX hB
    go_enter Tryz.func50, Tryz.ntmps50
    go_wp2
    go_ret
    exact ⟨rfl, H.out, Kp.refl _ _⟩
  | false =>
    cases fd with
    | false =>
      have hX : cntX ⟨sp, false, fu, false⟩ = ⟨sp, false, fu, false⟩ := by simp [cntX, cntB]
      have hB : cntB ⟨sp, false, fu, false⟩ = false := by simp [cntB]
      rw [hX, hB]
      clear hX hB
      go_enter Tryz.func50, Tryz.ntmps50
      go_wp2
      go_ret
      exact ⟨rfl, H.out, Kp.refl _ _⟩
    | true =>
      by_cases hz : fu = 0
      · subst hz
        have hX : cntX ⟨sp, true, 0, false⟩ = ⟨sp, true, 0, true⟩ := by simp [cntX, cntB]
        have hB : cntB ⟨sp, true, 0, false⟩ = true := by simp [cntB]
        rw [hX, hB]
        clear hX hB
        go_enter Tryz.func50, Tryz.ntmps50
        go_wp2
        go_ret
        exact ⟨rfl, HD.out, k6⟩
      · have hX : cntX ⟨sp, true, fu, false⟩ = ⟨sp, true, fu - 1, false⟩ := by simp [cntX, cntB, hz]
        have hB : cntB ⟨sp, true, fu, false⟩ = false := by simp [cntB, hz]
        rw [hX, hB]
        clear hX hB
        have hwr : IntKind.i64.wrap (fu - 1) = fu - 1 := IntWalk.i64_in _ (by omega)
        go_enter Tryz.func50, Tryz.ntmps50
        go_wp2
        go_ret
        exact ⟨rfl, HF.out, k5⟩

end Go.Proofs.YtmehneicdklfeaaGreat.r2

namespace Go.Proofs.YtmehneicdklfeaaGreat.r2
open Go.RowKit Go.Maps Go.Proofs.YtmehneicdklfeaaGreat.sum Go.Proofs.YtmehneicdklfeaaGreat.kept Go.Proofs.YtmehneicdklfeaaGreat.app Go.Proofs.YtmehneicdklfeaaGreat.writer Go.Proofs.YtmehneicdklfeaaGreat.clone Go.Proofs.YtmehneicdklfeaaGreat.fs Go.Proofs.YtmehneicdklfeaaGreat.fsDo Go.Proofs.YtmehneicdklfeaaGreat.unseal Go.Proofs.YtmehneicdklfeaaGreat.dsk
set_option linter.unusedVariables false

set_option maxRecDepth 100000 in
set_option maxHeartbeats 2000000 in
theorem reffuse_any (w : World) (r : Nat) (x : RSt) (vs vn vw : Value) (n : Int) (h : RAt w r x vs vn vw) :
    Calls Tryz.prog 22 #[.pointer (some ⟨r, 0, none⟩), .int .i64 n] w fun e w' => e = .returned (.tuple #[]) ∧ RAt w' r { x with fused := decide (0 ≤ n), fuse := max 0 n } vs vn vw ∧ Kp (fun k => k = r) w w' := by
  obtain ⟨bd, hbd⟩ : ∃ bd, decide (0 ≤ n) = bd := ⟨_, rfl⟩
  rw [hbd]
  have hw := h.warm
  have hw4 := h.warm 4
  have hw5 : (w.setCell ⟨r, 4, none⟩ (.bool bd)).frozen? ⟨r, 5, none⟩ = false := (h.set_fused _).warm 5
  have hc5 := (h.set_fused bd).c5
  simp only at hc5
  have c4 := h.c4
  obtain ⟨m, hm⟩ : ∃ m, max 0 n = m := ⟨_, rfl⟩
  rw [hm]
  have HF := Hid_mk ((h.set_fused bd).set_fuse m)
  have HK := Hid_mk ((kp_p w r 4 (.bool bd)).trans (kp_p _ r 5 (.int .i64 m)) fun i _ e => e)
  clear h
  by_cases hn : 0 < n
  · obtain rfl : bd = true := by rw [← hbd]; simp; omega
    obtain rfl : n = m := by omega
    have hn2 : 0 ≤ n := by omega
    clear hm hbd
    go_enter Tryz.func22, Tryz.ntmps22
    go_wp2
    go_end0
    exact ⟨rfl, HF.out, HK.out⟩
  · by_cases hz : n = 0
    · subst hz
      obtain rfl : bd = true := by rw [← hbd]; rfl
      obtain rfl : m = 0 := by omega
      clear hm hbd
      go_enter Tryz.func22, Tryz.ntmps22
      go_wp2
      go_end0
      exact ⟨rfl, HF.out, HK.out⟩
    · obtain rfl : bd = false := by rw [← hbd]; simp; omega
      obtain rfl : m = 0 := by omega
      have hn2 : ¬ 0 ≤ n := by omega
      clear hm hbd
      go_enter Tryz.func22, Tryz.ntmps22
      go_wp2
      go_end0
      exact ⟨rfl, HF.out, HK.out⟩

end Go.Proofs.YtmehneicdklfeaaGreat.r2
