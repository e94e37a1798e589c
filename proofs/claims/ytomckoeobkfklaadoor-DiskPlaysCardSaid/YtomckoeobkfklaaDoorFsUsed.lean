/- The bytes of all files in memory; a copy of them. -/
import Derived.Test.YtomckoeobkfklaaDoorFsDo
namespace Go.Proofs.YtomckoeobkfklaaDoor.fsUsed
open Go.RowKit Go.Maps Go.Proofs.YtomckoeobkfklaaDoor.sum Go.Proofs.YtomckoeobkfklaaDoor.kept Go.Proofs.YtomckoeobkfklaaDoor.app Go.Proofs.YtomckoeobkfklaaDoor.writer Go.Proofs.YtomckoeobkfklaaDoor.clone Go.Proofs.YtomckoeobkfklaaDoor.fs Go.Proofs.YtomckoeobkfklaaDoor.fsMem Go.Proofs.YtomckoeobkfklaaDoor.fsDo
set_option linter.unusedVariables false

/-- those that are no longer to come -/
def gone (es : Files) (left : Lit → Bool) : Files := es.filter fun e => !left (.string e.1)

theorem gone_start {es : Files} {left : Lit → Bool} (h : ∀ e ∈ es, left (.string e.1) = true) : gone es left = [] := by
  unfold gone
  rw [List.filter_eq_nil_iff]
  intro e he
  simp [h e he]
theorem gone_end {es : Files} {left : Lit → Bool} (h : ∀ k, left k = false) : gone es left = es := by
  unfold gone
  rw [List.filter_eq_self]
  intro e he
  simp [h]
theorem gone_step {es : Files} (hr : Rising es) {left : Lit → Bool} {n : Name} {bs : List UInt8} (hm : (n, bs) ∈ es) (hl : left (.string n) = true) :
    gone es (fun z => left z && !z.sameKey (.string n)) = put (gone es left) n bs := by
  refine eq_of_mem (List.Pairwise.filter _ hr) (Rising.put (List.Pairwise.filter _ hr) n bs) fun p => ?_
  rw [mem_put]
  simp only [gone, List.mem_filter, Bool.not_and, Bool.not_not, sameKey_str, Bool.or_eq_true, Bool.not_eq_true', beq_iff_eq]
  constructor
  · rintro ⟨hp, h | h⟩
    · right
      refine ⟨⟨hp, h⟩, fun e => ?_⟩
      rw [e, hl] at h
      cases h
    · left
      have h1 := (get_some hr).2 hp
      have h2 := (get_some hr).2 hm
      have e : p.1 = n := h
      rw [show p = (p.1, p.2) from rfl, e] at hp ⊢
      have h1 := (get_some hr).2 hp
      rw [h1] at h2
      injection h2 with h2
      rw [h2]
  · rintro (rfl | ⟨⟨hp, h⟩, hne⟩)
    · exact ⟨hm, .inr rfl⟩
    · exact ⟨hp, .inl h⟩
theorem gone_get {es : Files} {left : Lit → Bool} {n : Name} (hl : left (.string n) = true) : fs.get (gone es left) n = none := by
  rw [get_none]
  intro p hp e
  simp only [gone, List.mem_filter] at hp
  rw [e, hl] at hp
  simp at hp
theorem used_gone {es : Files} (hr : Rising es) {left : Lit → Bool} {n : Name} {bs : List UInt8} (hm : (n, bs) ∈ es) (hl : left (.string n) = true) :
    used (gone es (fun z => left z && !z.sameKey (.string n))) = used (gone es left) + bs.length := by
  rw [gone_step hr hm hl]
  have this : used (put (gone es left) n bs) + ((fs.get (gone es left) n).getD []).length = used (gone es left) + bs.length := used_put (List.Pairwise.filter _ hr) n bs
  rw [gone_get hl] at this
  simpa using this
theorem used_le (es : Files) (left : Lit → Bool) : used (gone es left) ≤ used es := by
  unfold used gone
  induction es with
  | nil => simp
  | cons y r ih =>
    rw [List.filter_cons]
    split
    · simp only [List.map_cons, List.sum_cons]; omega
    · simp only [List.map_cons, List.sum_cons]; omega

theorem key_inv {key : Value} {kl : Lit} (h : keyOf Tryd.prog 9 key = some kl) : ∃ s : ByteArray, key = .string s := by
  cases key <;> simp [keyOf, Tryd.underlying9, mapKey] at h
  exact ⟨_, rfl⟩
theorem key_inv2 {s : ByteArray} {kl : Lit} (h : keyOf Tryd.prog 9 (.string s) = some kl) : kl = .string (nm s) ∧ s.size ≤ maxLen := by
  simp [keyOf, Tryd.underlying9, mapKey] at h
  exact ⟨h.2.symm, h.1⟩

/-- what comes out of the range is one of the files -/
theorem entry_of {val : Name → Value} {es : Files} (hr : Rising es) {n : Name} {c : Value} {y : DataW Value × List MemPlace} (hy : raw c = some y) (hat : ∀ zd, (dat val es).atKey (.string n) zd = y.1) : c = val n ∧ ∃ bs, (n, bs) ∈ es := by
  obtain rfl : (DataW.held c, []) = y := Option.some.inj hy
  have h1 := hat .nil
  rw [dat_at] at h1
  split at h1
  · rename_i hh
    refine ⟨(DataW.held.inj h1).symm, ?_⟩
    obtain ⟨bs, hb⟩ := Option.isSome_iff_exists.1 hh
    exact ⟨bs, (get_some hr).1 hb⟩
  · cases h1

def URel (w : World) (b r : Nat) (val : Name → Value) (es : Files) (t : Value) (wr : World) : Prop :=
  ∃ left cnt, wr.ranges Tryd.prog 9 raw b r es.length (dat val es) left cnt ∧ t = .int .i64 (used (gone es left) : Int) ∧ Kp No w wr

set_option maxRecDepth 100000 in
set_option maxHeartbeats 4000000 in
theorem used_any (w : World) (base b : Nat) (ρ : Nat → Option Name) (es : Files) (h : FM w base b ρ es) (hu : used es ≤ 140737488355328) :
    Calls Tryd.prog 35 #[.map (some b)] w fun e w' => e = .returned (.int .i64 (used es : Int)) ∧ Kp No w w' := by
  obtain ⟨h1, h2, h3, val, h4, h5⟩ := h
  have hlt := h4.lt
  have HR := Hid_mk h1
  have H5 := Hid_mk h5
  clear h5 h2 h3
  go_enter Tryd.func35, Tryd.ntmps35
  go_wp2_with (at_range; refine wpList_range_own _ rfl _ 41 rfl 9 34 law Tryd.underlying41 _ b es.length _ rfl h4 ?_; intro w0 hrg0 hg0 hs0)
  go_frame
  have HK0 := Hid_mk (show Kp No w w0 from ⟨hg0.os, hg0.tape, hg0.output, hg0.size, fun k hk _ => hg0.block k hk (by simp)⟩)
  have HG0 := Hid_mk hrg0
  clear hrg0 hg0 h1
  go_loopw [3, 5] (fun t u wr => URel w b w.heap.size val es t wr) (fun _ _ wr => wr.rangeLeft b w.heap.size)
  case atStart =>
    refine ⟨_, _, HG0.out, ?_, HK0.out⟩
    rw [gone_start (fun e he => by rw [dat_has, (get_some HR.out).2 (show (e.1, e.2) ∈ es from he)]; rfl)]
    rfl
  case round =>
    obtain ⟨left, cnt, hrg, rfl, hk⟩ := hrel
    have HK := Hid_mk hk
    have HRG := Hid_mk hrg
    have hul := used_le es left
    clear hk hrg
    go_wp2_with (at_next; refine wpList_next_ranges _ rfl _ rfl 9 law raw Value.string (fun v : Value => v) (fun key kl hk => key_inv hk) (fun v y _ => ⟨v, rfl⟩) b w.heap.size es.length (dat val es) left cnt rfl HRG.out ?_ ?_)
    · intro _ hl0
      have e := gone_end (es := es) hl0
      rw [e] at *
      go_wp2
      go_ret
      exact ⟨rfl, HK.out⟩
    · intro x c kl ya yb w1 cnt1 hkx hlx hy hat hrg1 hlt1 hg1 hs1 hen
      obtain ⟨rfl, hxs⟩ := key_inv2 hkx
      obtain ⟨rfl, bs, hm⟩ := entry_of (y := (ya, yb)) HR.out hy hat
      have hk1 : Kp No w w1 := HK.out.grown hg1 fun k hk e => by have := Option.some.inj e; omega
      have hrow := H5.out _ hm (by simp)
      have hug := used_gone HR.out hm hlx
      have hul1 := used_le es (fun z => left z && !z.sameKey (.string (nm x)))
      obtain ⟨a, cap, hv, -, -, -⟩ := owns_bs hrow.1
      simp only at hv
      rw [hv] at hen ⊢
      have hfin : URel w b w.heap.size val es (.int .i64 ((used (gone es left) : Int) + (bs.length : Int))) w1 := ⟨_, _, hrg1, by rw [hug]; rfl, hk1⟩
      have hsum : (used (gone es left) : Int) + (bs.length : Int) ≤ 140737488355328 := by rw [hug] at hul1; omega
      have HF := Hid_mk hfin
      generalize used (gone es left) = u at *
      generalize bs.length = L at *
      have HM : Hid (w1.rangeLeft b w.heap.size < wr.rangeLeft b w.heap.size) := Hid_mk (by rw [hrg1.left_eq, HRG.out.left_eq]; exact hlt1)
      clear hfin hrow hm hat hy hrg1 hg1 hkx hlx hk1 hug hv hul1
      go_wp2
      go_roundw
      case rel => exact HF.out
      case measure => exact HM.out

end Go.Proofs.YtomckoeobkfklaaDoor.fsUsed
