/- Sets as 256 bools in memory, and by value; the reference's Packed and Plain. -/
import Derived.Test.YtdognehkbahmdaaSets2
import Derived.Deep.MidRow
import Derived.Deep.WholeRow
namespace Go.Proofs.Ytdognehkbahmdaa.cls
open Go.RowKit Go.Proofs.Ytdognehkbahmdaa.sum Go.Proofs.Ytdognehkbahmdaa.kept Go.Proofs.Ytdognehkbahmdaa.pop
set_option linter.unusedVariables false

/-- a set's 256 cells -/
def bc (f : Nat → Bool) : List Value := (List.range 256).map fun i => .bool (f i)
theorem bc_len (f : Nat → Bool) : (bc f).length = 256 := by simp [bc]
theorem bc_get (f : Nat → Bool) (j : Nat) (h : j < 256) : (bc f)[j]? = some (.bool (f j)) := by simp [bc, h]
theorem bc_one (f : Nat → Bool) : ∀ v ∈ bc f, v.oneCell' = true := by
  intro v hv
  unfold bc at hv
  obtain ⟨i, -, rfl⟩ := List.mem_map.1 hv
  rfl
/-- it by value -/
abbrev bv (f : Nat → Bool) : Value := .agg (bc f).toArray
/-- it in memory, where it may be written -/
structure BgAt (w : World) (q : Nat) (f : Nat → Bool) : Prop where
  cell : ∀ j, j < 256 → w.cell? ⟨q, j, none⟩ = some (.bool (f j))
  warm : ∀ j, w.frozen? ⟨q, j, none⟩ = false
theorem BgAt.lt {w : World} {q : Nat} {f : Nat → Bool} (h : BgAt w q f) : q < w.heap.size := World.block_lt_of_cell? w ⟨q, 0, none⟩ (h.cell 0 (by omega))
theorem BgAt.kept {S : Nat → Prop} {w w' : World} {q : Nat} {f : Nat → Bool} (h : BgAt w q f) (hk : Kp S w w') (hq : ¬ S q) : BgAt w' q f :=
  ⟨fun k h4 => hk.cell' (h.cell k h4) hq, fun j => (hk.frozen (p := ⟨q, j, none⟩) h.lt hq).trans (h.warm j)⟩
theorem BgAt.no {w w' : World} {q : Nat} {f : Nat → Bool} (h : BgAt w q f) (hk : Kp No w w') : BgAt w' q f := h.kept hk id
theorem BgAt.congr {w : World} {q : Nat} {f g : Nat → Bool} (h : BgAt w q f) (e : ∀ x, x < 256 → f x = g x) : BgAt w q g :=
  ⟨fun k h4 => by rw [h.cell k h4, e k h4], h.warm⟩
theorem BgAt.range {w : World} {q : Nat} {f : Nat → Bool} (h : BgAt w q f) : w.rangeAt q 0 (bc f) := fun j v hv => by
  have hj : j < 256 := by have := (List.getElem?_eq_some_iff.1 hv).1; rwa [bc_len] at this
  rw [bc_get f j hj] at hv
  cases hv
  rw [Nat.zero_add]
  exact h.cell j hj
theorem BgAt.there {w : World} {q : Nat} {f : Nat → Bool} (h : BgAt w q f) : w.there q 0 256 := fun j hj => by
  rw [Nat.zero_add]
  exact ⟨by rw [h.cell j hj]; rfl, h.warm j⟩
theorem BgAt.set {w : World} {q : Nat} {f g : Nat → Bool} (h : BgAt w q f) (k : Nat) (hk : k < 256) (e : ∀ x, x < 256 → x ≠ k → g x = f x) : BgAt (w.setCell ⟨q, k, none⟩ (.bool (g k))) q g := by
  refine ⟨fun i h4 => ?_, fun j => by simpa using h.warm j⟩
  by_cases hi : i = k
  · subst hi
    exact World.cell?_setCell_same w _ _ (h.cell i h4)
  · rw [World.cell?_setCell_other, h.cell i h4, e i h4 hi]
    simp only [ne_eq, Addr.mk.injEq, true_and, and_true]
    exact fun e => hi e.symm
theorem BgAt.made (w : World) (f : Nat → Bool) (t : TypeId) : BgAt (w.alloc (.cells (bc f).toArray t)) w.heap.size f :=
  ⟨fun j hj => by
    rw [show (w.alloc (.cells (bc f).toArray t)).cell? ⟨w.heap.size, j, none⟩ = (bc f).toArray[j]? from by simp, List.getElem?_toArray, bc_get f j hj], fun j => by simp⟩
theorem bc_nul : (bc nul).toArray = Array.replicate 256 (.bool false) := by
  apply Array.ext'
  rw [Array.toList_replicate]
  show (List.range 256).map (fun _ => Value.bool false) = _
  rw [List.map_const', List.length_range]
theorem BgAt.zero (w : World) (t : TypeId) : BgAt (w.alloc (.cells (Array.replicate 256 (.bool false)) t)) w.heap.size nul := by
  rw [← bc_nul]
  exact BgAt.made w nul t
theorem kp_setCells {S : Nat → Prop} {w0 : World} {q : Nat} (hq : q < w0.heap.size → S q) : ∀ (l : List Value) (o : Nat) {w : World}, Kp S w0 w → Kp S w0 (w.setCells q o l)
  | [], _, _, h => h
  | v :: l, o, w, h => by
    rw [World.setCells]
    exact kp_setCells hq l (o + 1) (h.setCell (p := ⟨q, o, none⟩) hq v)
theorem BgAt.puts {w : World} {q : Nat} {g : Nat → Bool} (h : BgAt w q g) (f : Nat → Bool) : BgAt (w.setCells q 0 (bc f)) q f :=
  ⟨fun j hj => by
    have := World.rangeAt_setCells_same w q 0 (bc f) (by rw [bc_len]; exact h.there) j _ (bc_get f j hj)
    rwa [Nat.zero_add] at this, fun j => by rw [World.frozen?_setCells]; exact h.warm j⟩

theorem zero36 : (∀ w, (zeroValue 64).run Try.prog w = .ok (.agg (Array.replicate 256 (.bool false))) w) ∧ (Try.prog.info? 64).map (·.size) = some 256 :=
  zero_of_info (by kernel_rfl)
theorem info_bc (f : Nat → Bool) : (Try.prog.info? 64).map (·.size) = some (bc f).length := by rw [bc_len]; exact zero36.2
theorem info_bca (f : Nat → Bool) : (Try.prog.info? 64).map (·.size) = some (bc f).toArray.size := by rw [List.size_toArray]; exact info_bc f

/-- what of it lies below k -/
def upTo (f : Nat → Bool) (k : Nat) : Nat → Bool := fun x => decide (x < k) && f x
theorem upTo_all (f : Nat → Bool) (x : Nat) (h : x < 256) : upTo f 256 x = f x := by simp [upTo, h]
def PkRel (w : World) (q : Nat) (f : Nat → Bool) (i : Value) (wr : World) : Prop :=
  ∃ k : Nat, k ≤ 256 ∧ i = .int .i64 (k : Int) ∧ SetAt wr q (upTo f k) ∧ Kp (fun b => b = q) w wr

set_option maxRecDepth 100000 in
theorem packed_any (w : World) (f : Nat → Bool) :
    Calls Try.prog 30 #[bv f] w fun e w' => e = .returned (sv f) ∧ Kp No w w' := by
  have hb := BgAt.made w f 64
  unfold bv
  generalize (bc f).toArray = A at hb
  obtain ⟨W0, hW0⟩ : ∃ W0, ((w.alloc (.cells A 64)).alloc (.cells #[.int .u64 0, .int .u64 0, .int .u64 0, .int .u64 0] 24)).alloc (.cells #[.int .u64 0, .int .u64 0, .int .u64 0, .int .u64 0] 24) = W0 := ⟨_, rfl⟩
  have HK0 : Hid (Kp No w W0) := Hid_mk (by rw [← hW0]; exact (((Kp.refl No w).alloc _).alloc _).alloc _)
  have HB0 : Hid (BgAt W0 w.heap.size f) := Hid_mk (by rw [← hW0]; exact hb.no (((Kp.refl No _).alloc _).alloc _))
  have HZ1 : Hid (SetAt W0 (w.heap.size + 1) nul) := Hid_mk (by
    rw [← hW0]
    have := (SetAt.zero (w.alloc (.cells A 64))).no ((Kp.refl No _).alloc (.cells #[.int .u64 0, .int .u64 0, .int .u64 0, .int .u64 0] 24))
    simpa using this)
  have HZ2 : Hid (SetAt W0 (w.heap.size + 1 + 1) nul) := Hid_mk (by
    rw [← hW0]
    have := SetAt.zero ((w.alloc (.cells A 64)).alloc (.cells #[.int .u64 0, .int .u64 0, .int .u64 0, .int .u64 0] 24))
    simpa using this)
  have HW0 := Hid_mk hW0
  clear hW0 hb
  go_enter Try.func30, Try.ntmps30
  go_wp2
  rw [HW0.out]
  clear HW0
  obtain ⟨q, hq⟩ : ∃ q, w.heap.size = q := ⟨_, rfl⟩
  rw [hq] at HB0 HZ1 HZ2
  go_loopw [4] (fun i wr => PkRel W0 (q + 1 + 1) f i wr) (fun i _ => 256 - (intOf i).toNat)
  case atStart => exact ⟨0, by omega, rfl, HZ2.out.congr fun x _ => by simp [nul, upTo], Kp.refl _ _⟩
  case round =>
    obtain ⟨k, hk, rfl, hs, hkp⟩ := hrel
    have HS := Hid_mk hs
    have HKp := Hid_mk hkp
    have hk0 : (0 : Int) ≤ (k : Int) := Int.natCast_nonneg _
    by_cases hlt : k < 256
    · have hki : (k : Int) < 256 := by omega
      have hwi : IntKind.i64.wrap ((k : Int) + 1) = (k : Int) + 1 := IntWalk.i64_in _ (by omega)
      have hc := (HB0.out.kept hkp (by rw [← hq]; omega)).cell k hlt
      have hlow : ∀ x, x ≠ k → upTo f (k + 1) x = upTo f k x := fun x hx => by
        unfold upTo
        rw [Bool.eq_iff_iff]
        simp only [Bool.and_eq_true, decide_eq_true_eq]
        constructor <;> intro ⟨a, b⟩ <;> exact ⟨by omega, b⟩
      cases hf : f k with
      | false =>
        rw [hf] at hc
        have HST := Hid_mk (hs.congr (g := upTo f (k + 1)) fun x _ => by
          by_cases hx : x = k
          · subst hx; simp [upTo, hf]
          · exact (hlow x hx).symm)
        clear hs hkp hf hlow
        go_wp2
        go_roundw
        case rel => exact ⟨k + 1, by omega, by push_cast; rfl, HST.out, HKp.out⟩
        case measure => simp only [intOf]; omega
      | true =>
        rw [hf] at hc
        obtain ⟨p, hp⟩ : ∃ p, k / 64 = p := ⟨_, rfl⟩
        obtain ⟨r, hr⟩ : ∃ r, k % 64 = r := ⟨_, rfl⟩
        have hp4 : p < 4 := by omega
        have hr64 : r < 64 := by omega
        have hpi : (k : Int).tdiv 64 = (p : Int) := by rw [Int.tdiv_eq_ediv_of_nonneg hk0]; omega
        have hri : (k : Int).tmod 64 = (r : Int) := by rw [Int.tmod_eq_emod_of_nonneg hk0]; omega
        have hwp : IntKind.i64.wrap (p : Int) = (p : Int) := IntWalk.i64_in _ (by omega)
        have hwr : IntKind.u64.wrap (r : Int) = (r : Int) := wrap_u64_in r (by omega)
        have hr0 : (0 : Int) ≤ (r : Int) := Int.natCast_nonneg _
        have hp0 : (0 : Int) ≤ (p : Int) := Int.natCast_nonneg _
        have hpi4 : (p : Int) < 4 := by omega
        have hcs := hs.cell p hp4
        have hwm := hs.warm p
        have hsh := word_shl r hr64
        have hor := word_or (wd (upTo f k) (64 * p) 64) (2 ^ r) (wd_le _ _) (Nat.pow_lt_pow_right (by decide) hr64)
        have ht : wd (upTo f k) (64 * p) 64 ||| 2 ^ r = wd (upTo f (k + 1)) (64 * p) 64 := by
          rw [set_wd _ _ _ hr64, show 64 * p + r = k from by omega]
          refine wd_congr fun j hj => ?_
          by_cases hx : 64 * p + j = k
          · rw [hx]; simp [upTo, hf]
          · rw [hlow _ hx]; simp [hx]
        rw [ht] at hor
        generalize 2 ^ r = T at hsh hor
        have HST := Hid_mk (hs.set (g := upTo f (k + 1)) p hp4 fun x hx h => hlow x (by omega))
        clear ht hs hkp hp hr hf hlow
        go_wp2
        go_roundw
        case rel => exact ⟨k + 1, by omega, by push_cast; rfl, HST.out, HKp.out.setCell (p := ⟨q + 1 + 1, p, none⟩) (fun _ => rfl) _⟩
        case measure => simp only [intOf]; omega
    · obtain rfl : k = 256 := by omega
      obtain ⟨c0, c1, c2, c3⟩ := (hs.congr (upTo_all f)).cells
      obtain ⟨z0, z1, z2, z3⟩ := (HZ1.out.kept hkp (by omega)).cells
      have zw := (HZ1.out.kept hkp (by omega)).warm
      have hres := (HZ1.out.kept hkp (by omega)).puts f
      obtain ⟨WR, hWR⟩ : ∃ WR, (((wr.setCell ⟨q + 1, 0, none⟩ (.int .u64 (wd f 0 64 : Nat))).setCell ⟨q + 1, 1, none⟩ (.int .u64 (wd f 64 64 : Nat))).setCell ⟨q + 1, 2, none⟩ (.int .u64 (wd f 128 64 : Nat))).setCell ⟨q + 1, 3, none⟩ (.int .u64 (wd f 192 64 : Nat)) = WR := ⟨_, rfl⟩
      have HKR : Hid (Kp No w (putS wr (q + 1) f)) := Hid_mk (kp_puts (HK0.out.trans hkp fun i hi e => by omega) (fun h => by omega) _)
      unfold putS at hres HKR
      rw [hWR] at hres HKR
      have HR := Hid_mk hres
      have HWR := Hid_mk hWR
      clear hres hWR hs hkp HS HKp
      go_wp2
      try rw [hq]
      rw [HWR.out]
      obtain ⟨r0, r1, r2, r3⟩ := HR.out.cells
      clear c0 c1 c2 c3 z0 z1 z2 z3 zw HWR
      refine bodyPost_ret (v := sv f) ?_ rfl ⟨rfl, HKR.out⟩
      simp [results, Try.results30, go_sem, r0, r1, r2, r3, sv]

end Go.Proofs.Ytdognehkbahmdaa.cls
