/- Sets as 256 bools in memory, and by value; the reference's Packed and Plain. The reference's classes: which byte belongs to a class of that name. The reference's Named: a class as 256 bools. -/
import Derived.Test.YtpfpnlhihnfahaaDoorSetsM
import Derived.Deep.MidRow
import Derived.Deep.WholeRow
import Derived.Test.YtpfpnlhihnfahaaDoorBracket2M
import Derived.Deep.CutRange

namespace Go.Proofs.YtpfpnlhihnfahaaDoor.cls
open Go.RowKit Go.Proofs.YtpfpnlhihnfahaaDoor.sum Go.Proofs.YtpfpnlhihnfahaaDoor.kept Go.Proofs.YtpfpnlhihnfahaaDoor.pop
set_option linter.unusedVariables false

/-- a set's 256 cells -/
def bc (f : Nat → Bool) : List Value := (List.range 256).map fun i => .bool (f i)
theorem bc_len (f : Nat → Bool) : (bc f).length = 256 := by simp [bc]
theorem bc_get (f : Nat → Bool) (j : Nat) (h : j < 256) : (bc f)[j]? = some (.bool (f j)) := by simp [bc, h]
theorem bc_one (f : Nat → Bool) : ∀ v ∈ bc f, v.oneCell' = true := by
  intro v hv
  unfold bc at hv
  obtain ⟨i, -, rfl⟩ := List.mem_map.1 hv
  rfl
/-- it by value -/
abbrev bv (f : Nat → Bool) : Value := .agg (bc f).toArray
/-- it in memory, where it may be written -/
structure BgAt (w : World) (q : Nat) (f : Nat → Bool) : Prop where
  cell : ∀ j, j < 256 → w.cell? ⟨q, j, none⟩ = some (.bool (f j))
  warm : ∀ j, w.frozen? ⟨q, j, none⟩ = false
theorem BgAt.lt {w : World} {q : Nat} {f : Nat → Bool} (h : BgAt w q f) : q < w.heap.size := World.block_lt_of_cell? w ⟨q, 0, none⟩ (h.cell 0 (by omega))
theorem BgAt.kept {S : Nat → Prop} {w w' : World} {q : Nat} {f : Nat → Bool} (h : BgAt w q f) (hk : Kp S w w') (hq : ¬ S q) : BgAt w' q f :=
  ⟨fun k h4 => hk.cell' (h.cell k h4) hq, fun j => (hk.frozen (p := ⟨q, j, none⟩) h.lt hq).trans (h.warm j)⟩
theorem BgAt.no {w w' : World} {q : Nat} {f : Nat → Bool} (h : BgAt w q f) (hk : Kp No w w') : BgAt w' q f := h.kept hk id
theorem BgAt.congr {w : World} {q : Nat} {f g : Nat → Bool} (h : BgAt w q f) (e : ∀ x, x < 256 → f x = g x) : BgAt w q g :=
  ⟨fun k h4 => by rw [h.cell k h4, e k h4], h.warm⟩
theorem BgAt.range {w : World} {q : Nat} {f : Nat → Bool} (h : BgAt w q f) : w.rangeAt q 0 (bc f) := fun j v hv => by
  have hj : j < 256 := by have := (List.getElem?_eq_some_iff.1 hv).1; rwa [bc_len] at this
  rw [bc_get f j hj] at hv
  cases hv
  rw [Nat.zero_add]
  exact h.cell j hj
theorem BgAt.there {w : World} {q : Nat} {f : Nat → Bool} (h : BgAt w q f) : w.there q 0 256 := fun j hj => by
  rw [Nat.zero_add]
  exact ⟨by rw [h.cell j hj]; rfl, h.warm j⟩
theorem BgAt.set {w : World} {q : Nat} {f g : Nat → Bool} (h : BgAt w q f) (k : Nat) (hk : k < 256) (e : ∀ x, x < 256 → x ≠ k → g x = f x) : BgAt (w.setCell ⟨q, k, none⟩ (.bool (g k))) q g := by
  refine ⟨fun i h4 => ?_, fun j => by simpa using h.warm j⟩
  by_cases hi : i = k
  · subst hi
    exact World.cell?_setCell_same w _ _ (h.cell i h4)
  · rw [World.cell?_setCell_other, h.cell i h4, e i h4 hi]
    simp only [ne_eq, Addr.mk.injEq, true_and, and_true]
    exact fun e => hi e.symm
theorem BgAt.made (w : World) (f : Nat → Bool) (t : TypeId) : BgAt (w.alloc (.cells (bc f).toArray t)) w.heap.size f :=
  ⟨fun j hj => by
    rw [show (w.alloc (.cells (bc f).toArray t)).cell? ⟨w.heap.size, j, none⟩ = (bc f).toArray[j]? from by simp, List.getElem?_toArray, bc_get f j hj], fun j => by simp⟩
theorem bc_nul : (bc nul).toArray = Array.replicate 256 (.bool false) := by
  apply Array.ext'
  rw [Array.toList_replicate]
  show (List.range 256).map (fun _ => Value.bool false) = _
  rw [List.map_const', List.length_range]
theorem BgAt.zero (w : World) (t : TypeId) : BgAt (w.alloc (.cells (Array.replicate 256 (.bool false)) t)) w.heap.size nul := by
  rw [← bc_nul]
  exact BgAt.made w nul t
theorem kp_setCells {S : Nat → Prop} {w0 : World} {q : Nat} (hq : q < w0.heap.size → S q) : ∀ (l : List Value) (o : Nat) {w : World}, Kp S w0 w → Kp S w0 (w.setCells q o l)
  | [], _, _, h => h
  | v :: l, o, w, h => by
    rw [World.setCells]
    exact kp_setCells hq l (o + 1) (h.setCell (p := ⟨q, o, none⟩) hq v)
theorem BgAt.puts {w : World} {q : Nat} {g : Nat → Bool} (h : BgAt w q g) (f : Nat → Bool) : BgAt (w.setCells q 0 (bc f)) q f :=
  ⟨fun j hj => by
    have := World.rangeAt_setCells_same w q 0 (bc f) (by rw [bc_len]; exact h.there) j _ (bc_get f j hj)
    rwa [Nat.zero_add] at this, fun j => by rw [World.frozen?_setCells]; exact h.warm j⟩

theorem zero36 : (∀ w, (zeroValue 64).run Tryd.prog w = .ok (.agg (Array.replicate 256 (.bool false))) w) ∧ (Tryd.prog.info? 64).map (·.size) = some 256 :=
  zero_of_info (by kernel_rfl)
theorem info_bc (f : Nat → Bool) : (Tryd.prog.info? 64).map (·.size) = some (bc f).length := by rw [bc_len]; exact zero36.2
theorem info_bca (f : Nat → Bool) : (Tryd.prog.info? 64).map (·.size) = some (bc f).toArray.size := by rw [List.size_toArray]; exact info_bc f

/-- what of it lies below k -/
def upTo (f : Nat → Bool) (k : Nat) : Nat → Bool := fun x => decide (x < k) && f x
theorem upTo_all (f : Nat → Bool) (x : Nat) (h : x < 256) : upTo f 256 x = f x := by simp [upTo, h]
def PkRel (w : World) (q : Nat) (f : Nat → Bool) (i : Value) (wr : World) : Prop :=
  ∃ k : Nat, k ≤ 256 ∧ i = .int .i64 (k : Int) ∧ SetAt wr q (upTo f k) ∧ Kp (fun b => b = q) w wr

set_option maxRecDepth 100000 in
theorem packed_any (w : World) (f : Nat → Bool) :
    Calls Tryd.prog 30 #[bv f] w fun e w' => e = .returned (sv f) ∧ Kp No w w' := by
  have hb := BgAt.made w f 64
  unfold bv
  generalize (bc f).toArray = A at hb
  obtain ⟨W0, hW0⟩ : ∃ W0, ((w.alloc (.cells A 64)).alloc (.cells #[.int .u64 0, .int .u64 0, .int .u64 0, .int .u64 0] 60)).alloc (.cells #[.int .u64 0, .int .u64 0, .int .u64 0, .int .u64 0] 60) = W0 := ⟨_, rfl⟩
  have HK0 : Hid (Kp No w W0) := Hid_mk (by rw [← hW0]; exact (((Kp.refl No w).alloc _).alloc _).alloc _)
  have HB0 : Hid (BgAt W0 w.heap.size f) := Hid_mk (by rw [← hW0]; exact hb.no (((Kp.refl No _).alloc _).alloc _))
  have HZ1 : Hid (SetAt W0 (w.heap.size + 1) nul) := Hid_mk (by
    rw [← hW0]
    have := (SetAt.zero (w.alloc (.cells A 64))).no ((Kp.refl No _).alloc (.cells #[.int .u64 0, .int .u64 0, .int .u64 0, .int .u64 0] 60))
    simpa using this)
  have HZ2 : Hid (SetAt W0 (w.heap.size + 1 + 1) nul) := Hid_mk (by
    rw [← hW0]
    have := SetAt.zero ((w.alloc (.cells A 64)).alloc (.cells #[.int .u64 0, .int .u64 0, .int .u64 0, .int .u64 0] 60))
    simpa using this)
  have HW0 := Hid_mk hW0
  clear hW0 hb
  go_enter Tryd.func30, Tryd.ntmps30
  go_wp2
  rw [HW0.out]
  clear HW0
  obtain ⟨q, hq⟩ : ∃ q, w.heap.size = q := ⟨_, rfl⟩
  rw [hq] at HB0 HZ1 HZ2
  go_loopw [4] (fun i wr => PkRel W0 (q + 1 + 1) f i wr) (fun i _ => 256 - (intOf i).toNat)
  case atStart => exact ⟨0, by omega, rfl, HZ2.out.congr fun x _ => by simp [nul, upTo], Kp.refl _ _⟩
  case round =>
    obtain ⟨k, hk, rfl, hs, hkp⟩ := hrel
    have HS := Hid_mk hs
    have HKp := Hid_mk hkp
    have hk0 : (0 : Int) ≤ (k : Int) := Int.natCast_nonneg _
    by_cases hlt : k < 256
    · have hki : (k : Int) < 256 := by omega
      have hwi : IntKind.i64.wrap ((k : Int) + 1) = (k : Int) + 1 := IntWalk.i64_in _ (by omega)
      have hc := (HB0.out.kept hkp (by rw [← hq]; omega)).cell k hlt
      have hlow : ∀ x, x ≠ k → upTo f (k + 1) x = upTo f k x := fun x hx => by
        unfold upTo
        rw [Bool.eq_iff_iff]
        simp only [Bool.and_eq_true, decide_eq_true_eq]
        constructor <;> intro ⟨a, b⟩ <;> exact ⟨by omega, b⟩
      cases hf : f k with
      | false =>
        rw [hf] at hc
        have HST := Hid_mk (hs.congr (g := upTo f (k + 1)) fun x _ => by
          by_cases hx : x = k
          · subst hx; simp [upTo, hf]
          · exact (hlow x hx).symm)
        clear hs hkp hf hlow
        go_wp2
        go_roundw
        case rel => exact ⟨k + 1, by omega, by push_cast; rfl, HST.out, HKp.out⟩
        case measure => simp only [intOf]; omega
      | true =>
        rw [hf] at hc
        obtain ⟨p, hp⟩ : ∃ p, k / 64 = p := ⟨_, rfl⟩
        obtain ⟨r, hr⟩ : ∃ r, k % 64 = r := ⟨_, rfl⟩
        have hp4 : p < 4 := by omega
        have hr64 : r < 64 := by omega
        have hpi : (k : Int).tdiv 64 = (p : Int) := by rw [Int.tdiv_eq_ediv_of_nonneg hk0]; omega
        have hri : (k : Int).tmod 64 = (r : Int) := by rw [Int.tmod_eq_emod_of_nonneg hk0]; omega
        have hwp : IntKind.i64.wrap (p : Int) = (p : Int) := IntWalk.i64_in _ (by omega)
        have hwr : IntKind.u64.wrap (r : Int) = (r : Int) := wrap_u64_in r (by omega)
        have hr0 : (0 : Int) ≤ (r : Int) := Int.natCast_nonneg _
        have hp0 : (0 : Int) ≤ (p : Int) := Int.natCast_nonneg _
        have hpi4 : (p : Int) < 4 := by omega
        have hcs := hs.cell p hp4
        have hwm := hs.warm p
        have hsh := word_shl r hr64
        have hor := word_or (wd (upTo f k) (64 * p) 64) (2 ^ r) (wd_le _ _) (Nat.pow_lt_pow_right (by decide) hr64)
        have ht : wd (upTo f k) (64 * p) 64 ||| 2 ^ r = wd (upTo f (k + 1)) (64 * p) 64 := by
          rw [set_wd _ _ _ hr64, show 64 * p + r = k from by omega]
          refine wd_congr fun j hj => ?_
          by_cases hx : 64 * p + j = k
          · rw [hx]; simp [upTo, hf]
          · rw [hlow _ hx]; simp [hx]
        rw [ht] at hor
        generalize 2 ^ r = T at hsh hor
        have HST := Hid_mk (hs.set (g := upTo f (k + 1)) p hp4 fun x hx h => hlow x (by omega))
        clear ht hs hkp hp hr hf hlow
        go_wp2
        go_roundw
        case rel => exact ⟨k + 1, by omega, by push_cast; rfl, HST.out, HKp.out.setCell (p := ⟨q + 1 + 1, p, none⟩) (fun _ => rfl) _⟩
        case measure => simp only [intOf]; omega
    · obtain rfl : k = 256 := by omega
      obtain ⟨c0, c1, c2, c3⟩ := (hs.congr (upTo_all f)).cells
      obtain ⟨z0, z1, z2, z3⟩ := (HZ1.out.kept hkp (by omega)).cells
      have zw := (HZ1.out.kept hkp (by omega)).warm
      have hres := (HZ1.out.kept hkp (by omega)).puts f
      obtain ⟨WR, hWR⟩ : ∃ WR, (((wr.setCell ⟨q + 1, 0, none⟩ (.int .u64 (wd f 0 64 : Nat))).setCell ⟨q + 1, 1, none⟩ (.int .u64 (wd f 64 64 : Nat))).setCell ⟨q + 1, 2, none⟩ (.int .u64 (wd f 128 64 : Nat))).setCell ⟨q + 1, 3, none⟩ (.int .u64 (wd f 192 64 : Nat)) = WR := ⟨_, rfl⟩
      have HKR : Hid (Kp No w (putS wr (q + 1) f)) := Hid_mk (kp_puts (HK0.out.trans hkp fun i hi e => by omega) (fun h => by omega) _)
      unfold putS at hres HKR
      rw [hWR] at hres HKR
      have HR := Hid_mk hres
      have HWR := Hid_mk hWR
      clear hres hWR hs hkp HS HKp
      go_wp2
      try rw [hq]
      rw [HWR.out]
      obtain ⟨r0, r1, r2, r3⟩ := HR.out.cells
      clear c0 c1 c2 c3 z0 z1 z2 z3 zw HWR
      refine bodyPost_ret (v := sv f) ?_ rfl ⟨rfl, HKR.out⟩
      simp [results, Tryd.results30, go_sem, r0, r1, r2, r3, sv]

end Go.Proofs.YtpfpnlhihnfahaaDoor.cls

namespace Go.Proofs.YtpfpnlhihnfahaaDoor.cls
open Go.RowKit Go.Proofs.YtpfpnlhihnfahaaDoor.sum Go.Proofs.YtpfpnlhihnfahaaDoor.kept Go.Proofs.YtpfpnlhihnfahaaDoor.pop Go.Proofs.YtpfpnlhihnfahaaDoor.str
set_option linter.unusedVariables false

/-- is a number within one of these pairs? -/
def inS (b : Int) : List Int → Bool
  | x :: y :: r => (decide (x ≤ b) && decide (b ≤ y)) || inS b r
  | _ => false
/-- a slice of whole numbers -/
def Pr (w : World) (v : Value) (ps : List Int) : Prop :=
  ∃ q, v = .slice (some ⟨q, 0, none⟩) ps.length ps.length ∧ ∀ k (h : k < ps.length), w.cell? ⟨q, k, none⟩ = some (.int .i64 ps[k])
theorem pr_made (w : World) (ps : List Int) (t : TypeId) : Pr (w.alloc (.cells (ps.map fun x => Value.int .i64 x).toArray t)) (.slice (some ⟨w.heap.size, 0, none⟩) ps.length ps.length) ps :=
  ⟨w.heap.size, rfl, fun k h => by
    rw [show (w.alloc (.cells (ps.map fun x => Value.int .i64 x).toArray t)).cell? ⟨w.heap.size, k, none⟩ = (ps.map fun x => Value.int .i64 x).toArray[k]? from by simp]
    simp [h]⟩
theorem in_drop (b : Int) (ps : List Int) (j : Nat) (h : 2 * j + 1 < ps.length) : inS b (ps.drop (2 * j)) = ((decide (ps[2 * j] ≤ b) && decide (b ≤ ps[2 * j + 1])) || inS b (ps.drop (2 * (j + 1)))) := by
  rw [List.drop_eq_getElem_cons (show 2 * j < ps.length by omega), List.drop_eq_getElem_cons h]
  rfl
theorem in_end (b : Int) (ps : List Int) (j : Nat) (h : ¬ 2 * j + 1 < ps.length) : inS b (ps.drop (2 * j)) = false := by
  obtain ⟨l, hl⟩ : ∃ l, ps.drop (2 * j) = l := ⟨_, rfl⟩
  have : l.length ≤ 1 := by rw [← hl, List.length_drop]; omega
  rw [hl]
  match l, this with
  | [], _ => rfl
  | [x], _ => rfl
def InRel (b : Int) (ps : List Int) (w : World) (i : Value) (wr : World) : Prop :=
  ∃ j : Nat, i = .int .i64 ((2 * j : Nat) : Int) ∧ 2 * j ≤ ps.length + 1 ∧ inS b (ps.drop (2 * j)) = inS b ps ∧ wr = w

set_option maxRecDepth 100000 in
set_option maxHeartbeats 1000000 in
theorem in_any (w : World) (b : Int) (ps : List Int) (v : Value) (hv : Pr w v ps) (hl : ps.length ≤ 8) :
    Calls Tryd.prog 61 #[.int .i64 b, v] w fun e w' => e = .returned (.bool (inS b ps)) ∧ w' = w := by
  obtain ⟨q, rfl, hc⟩ := hv
  have HC := Hid_mk hc
  have hl0 : (0 : Int) ≤ (ps.length : Int) := Int.natCast_nonneg _
  clear hc
  go_enter Tryd.func61, Tryd.ntmps61
  go_wp2
  go_loopw [5] (fun i wr => InRel b ps w i wr) (fun i _ => ps.length + 1 - (intOf i).toNat)
  case atStart => exact ⟨0, rfl, Nat.zero_le _, rfl, rfl⟩
  case round =>
    obtain ⟨j, rfl, hj, he, rfl⟩ := hrel
    by_cases h : 2 * j + 1 < ps.length
    · have h0 := HC.out (2 * j) (by omega)
      have h1 := HC.out (2 * j + 1) h
      have hd := in_drop b ps j h
      obtain ⟨K, hK⟩ : ∃ K, 2 * j = K := ⟨_, rfl⟩
      have hK2 : 2 * (j + 1) = K + 2 := by omega
      rw [he, hK2] at hd
      simp only [hK] at h0 h1 hd hj h
      generalize ps[K] = x at h0 hd
      generalize ps[K + 1] = y at h1 hd
      have HD := Hid_mk hd
      have HK2 := Hid_mk hK2
      have HL := Hid_mk hl
      have HHj := Hid_mk hj
      have hk0 : (0 : Int) ≤ (K : Int) := Int.natCast_nonneg _
      have hki : (K : Int) + 1 < (ps.length : Int) := by omega
      have hki2 : (K : Int) < (ps.length : Int) := by omega
      have hw1 : IntKind.i64.wrap ((K : Int) + 1) = (K : Int) + 1 := IntWalk.i64_in _ (by omega)
      have hw2 : IntKind.i64.wrap ((K : Int) + 2) = (K : Int) + 2 := IntWalk.i64_in _ (by omega)
      have hk1 : (0 : Int) ≤ (K : Int) + 1 := by omega
      have ht1 : ((K : Int) + 1).toNat = K + 1 := by omega
      rw [hK]
      clear hd hK2 hK hl hj he
      by_cases hx : x ≤ b
      · by_cases hy : b ≤ y
        · go_wp2
          go_ret
          exact ⟨by rw [HD.out]; simp [hx, hy], rfl⟩
        · go_wp2
          go_roundw
          case rel => exact ⟨j + 1, by have := HK2.out; rw [this]; push_cast; rfl, by have := HK2.out; omega, by have h9 := HD.out; have := HK2.out; rw [this]; rw [h9]; simp [hy], rfl⟩
          case measure => have := HK2.out; simp only [intOf]; omega
      · go_wp2
        go_roundw
        case rel => exact ⟨j + 1, by have := HK2.out; rw [this]; push_cast; rfl, by have := HK2.out; omega, by have h9 := HD.out; have := HK2.out; rw [this]; rw [h9]; simp [hx], rfl⟩
        case measure => have := HK2.out; simp only [intOf]; omega
    · have hd := in_end b ps j h
      rw [he] at hd
      have HD := Hid_mk hd
      have hki : ¬ ((2 * j : Nat) : Int) + 1 < (ps.length : Int) := by omega
      have hw1 : IntKind.i64.wrap (((2 * j : Nat) : Int) + 1) = ((2 * j : Nat) : Int) + 1 := IntWalk.i64_in _ (by omega)
      obtain ⟨K, hK⟩ : ∃ K, 2 * j = K := ⟨_, rfl⟩
      rw [hK] at hki hw1 ⊢
      clear hd he hj h hK
      go_wp2
      go_ret
      exact ⟨by rw [HD.out]; first | rfl | simp, rfl⟩

/-- does it belong to a class of that name; is there one? -/
def isS (l : List UInt8) (b : Int) : Bool × Bool :=
  if l = nmB0 then (inS b [65, 90, 97, 122], true)
  else if l = nmB1 then (inS b [48, 57], true)
  else if l = nmB2 then (inS b [65, 90, 97, 122, 48, 57], true)
  else if l = nmB3 then (inS b [65, 90], true)
  else if l = nmB4 then (inS b [97, 122], true)
  else if l = nmB5 then (inS b [9, 13, 32, 32], true)
  else if l = nmB6 then (inS b [9, 9, 32, 32], true)
  else if l = nmB7 then (inS b [33, 47, 58, 64, 91, 96, 123, 126], true)
  else if l = nmB8 then (inS b [32, 126], true)
  else if l = nmB9 then (inS b [33, 126], true)
  else if l = nmB10 then (inS b [0, 31, 127, 127], true)
  else if l = nmB11 then (inS b [48, 57, 65, 70, 97, 102], true)
  else (false, false)
set_option maxRecDepth 100000 in
theorem is_alpha (w : World) (s : ByteArray) (b : Int) (n0 : (s.toList == [97, 108, 112, 104, 97]) = true) :
    Calls Tryd.prog 51 #[.string s, .int .i64 b] w fun e w' => e = .returned (.tuple #[.bool (inS b [65, 90, 97, 122]), .bool true]) ∧ Kp No w w' := by
  have HI := Hid_mk (in_any (w.alloc (.cells #[.int .i64 65, .int .i64 90, .int .i64 97, .int .i64 122] 3)) b [65, 90, 97, 122] (.slice (some ⟨w.heap.size, 0, none⟩) 4 4) (pr_made w [65, 90, 97, 122] _) (by decide))
  go_enter Tryd.func51, Tryd.ntmps51
  go_wp2_with fail
  refine HI.out.mono ?_
  rintro e w' ⟨rfl, rfl⟩
  go_wp2
  refine bodyPost_ret (results_tmp2 rfl _ _ _) rfl ?_
  exact ⟨rfl, (Kp.refl No w).alloc _⟩
set_option maxRecDepth 100000 in
theorem is_digit (w : World) (s : ByteArray) (b : Int) (n0 : (s.toList == [97, 108, 112, 104, 97]) = false) (n1 : (s.toList == [100, 105, 103, 105, 116]) = true) :
    Calls Tryd.prog 51 #[.string s, .int .i64 b] w fun e w' => e = .returned (.tuple #[.bool (inS b [48, 57]), .bool true]) ∧ Kp No w w' := by
  have HI := Hid_mk (in_any (w.alloc (.cells #[.int .i64 48, .int .i64 57] 3)) b [48, 57] (.slice (some ⟨w.heap.size, 0, none⟩) 2 2) (pr_made w [48, 57] _) (by decide))
  go_enter Tryd.func51, Tryd.ntmps51
  go_wp2_with fail
  refine HI.out.mono ?_
  rintro e w' ⟨rfl, rfl⟩
  go_wp2
  refine bodyPost_ret (results_tmp2 rfl _ _ _) rfl ?_
  exact ⟨rfl, (Kp.refl No w).alloc _⟩
set_option maxRecDepth 100000 in
theorem is_alnum (w : World) (s : ByteArray) (b : Int) (n0 : (s.toList == [97, 108, 112, 104, 97]) = false) (n1 : (s.toList == [100, 105, 103, 105, 116]) = false) (n2 : (s.toList == [97, 108, 110, 117, 109]) = true) :
    Calls Tryd.prog 51 #[.string s, .int .i64 b] w fun e w' => e = .returned (.tuple #[.bool (inS b [65, 90, 97, 122, 48, 57]), .bool true]) ∧ Kp No w w' := by
  have HI := Hid_mk (in_any (w.alloc (.cells #[.int .i64 65, .int .i64 90, .int .i64 97, .int .i64 122, .int .i64 48, .int .i64 57] 3)) b [65, 90, 97, 122, 48, 57] (.slice (some ⟨w.heap.size, 0, none⟩) 6 6) (pr_made w [65, 90, 97, 122, 48, 57] _) (by decide))
  go_enter Tryd.func51, Tryd.ntmps51
  go_wp2_with fail
  refine HI.out.mono ?_
  rintro e w' ⟨rfl, rfl⟩
  go_wp2
  refine bodyPost_ret (results_tmp2 rfl _ _ _) rfl ?_
  exact ⟨rfl, (Kp.refl No w).alloc _⟩
set_option maxRecDepth 100000 in
theorem is_upper (w : World) (s : ByteArray) (b : Int) (n0 : (s.toList == [97, 108, 112, 104, 97]) = false) (n1 : (s.toList == [100, 105, 103, 105, 116]) = false) (n2 : (s.toList == [97, 108, 110, 117, 109]) = false) (n3 : (s.toList == [117, 112, 112, 101, 114]) = true) :
    Calls Tryd.prog 51 #[.string s, .int .i64 b] w fun e w' => e = .returned (.tuple #[.bool (inS b [65, 90]), .bool true]) ∧ Kp No w w' := by
  have HI := Hid_mk (in_any (w.alloc (.cells #[.int .i64 65, .int .i64 90] 3)) b [65, 90] (.slice (some ⟨w.heap.size, 0, none⟩) 2 2) (pr_made w [65, 90] _) (by decide))
  go_enter Tryd.func51, Tryd.ntmps51
  go_wp2_with fail
  refine HI.out.mono ?_
  rintro e w' ⟨rfl, rfl⟩
  go_wp2
  refine bodyPost_ret (results_tmp2 rfl _ _ _) rfl ?_
  exact ⟨rfl, (Kp.refl No w).alloc _⟩
set_option maxRecDepth 100000 in
theorem is_lower (w : World) (s : ByteArray) (b : Int) (n0 : (s.toList == [97, 108, 112, 104, 97]) = false) (n1 : (s.toList == [100, 105, 103, 105, 116]) = false) (n2 : (s.toList == [97, 108, 110, 117, 109]) = false) (n3 : (s.toList == [117, 112, 112, 101, 114]) = false) (n4 : (s.toList == [108, 111, 119, 101, 114]) = true) :
    Calls Tryd.prog 51 #[.string s, .int .i64 b] w fun e w' => e = .returned (.tuple #[.bool (inS b [97, 122]), .bool true]) ∧ Kp No w w' := by
  have HI := Hid_mk (in_any (w.alloc (.cells #[.int .i64 97, .int .i64 122] 3)) b [97, 122] (.slice (some ⟨w.heap.size, 0, none⟩) 2 2) (pr_made w [97, 122] _) (by decide))
  go_enter Tryd.func51, Tryd.ntmps51
  go_wp2_with fail
  refine HI.out.mono ?_
  rintro e w' ⟨rfl, rfl⟩
  go_wp2
  refine bodyPost_ret (results_tmp2 rfl _ _ _) rfl ?_
  exact ⟨rfl, (Kp.refl No w).alloc _⟩
set_option maxRecDepth 100000 in
theorem is_space (w : World) (s : ByteArray) (b : Int) (n0 : (s.toList == [97, 108, 112, 104, 97]) = false) (n1 : (s.toList == [100, 105, 103, 105, 116]) = false) (n2 : (s.toList == [97, 108, 110, 117, 109]) = false) (n3 : (s.toList == [117, 112, 112, 101, 114]) = false) (n4 : (s.toList == [108, 111, 119, 101, 114]) = false) (n5 : (s.toList == [115, 112, 97, 99, 101]) = true) :
    Calls Tryd.prog 51 #[.string s, .int .i64 b] w fun e w' => e = .returned (.tuple #[.bool (inS b [9, 13, 32, 32]), .bool true]) ∧ Kp No w w' := by
  have HI := Hid_mk (in_any (w.alloc (.cells #[.int .i64 9, .int .i64 13, .int .i64 32, .int .i64 32] 3)) b [9, 13, 32, 32] (.slice (some ⟨w.heap.size, 0, none⟩) 4 4) (pr_made w [9, 13, 32, 32] _) (by decide))
  go_enter Tryd.func51, Tryd.ntmps51
  go_wp2_with fail
  refine HI.out.mono ?_
  rintro e w' ⟨rfl, rfl⟩
  go_wp2
  refine bodyPost_ret (results_tmp2 rfl _ _ _) rfl ?_
  exact ⟨rfl, (Kp.refl No w).alloc _⟩
set_option maxRecDepth 100000 in
theorem is_blank (w : World) (s : ByteArray) (b : Int) (n0 : (s.toList == [97, 108, 112, 104, 97]) = false) (n1 : (s.toList == [100, 105, 103, 105, 116]) = false) (n2 : (s.toList == [97, 108, 110, 117, 109]) = false) (n3 : (s.toList == [117, 112, 112, 101, 114]) = false) (n4 : (s.toList == [108, 111, 119, 101, 114]) = false) (n5 : (s.toList == [115, 112, 97, 99, 101]) = false) (n6 : (s.toList == [98, 108, 97, 110, 107]) = true) :
    Calls Tryd.prog 51 #[.string s, .int .i64 b] w fun e w' => e = .returned (.tuple #[.bool (inS b [9, 9, 32, 32]), .bool true]) ∧ Kp No w w' := by
  have HI := Hid_mk (in_any (w.alloc (.cells #[.int .i64 9, .int .i64 9, .int .i64 32, .int .i64 32] 3)) b [9, 9, 32, 32] (.slice (some ⟨w.heap.size, 0, none⟩) 4 4) (pr_made w [9, 9, 32, 32] _) (by decide))
  go_enter Tryd.func51, Tryd.ntmps51
  go_wp2_with fail
  refine HI.out.mono ?_
  rintro e w' ⟨rfl, rfl⟩
  go_wp2
  refine bodyPost_ret (results_tmp2 rfl _ _ _) rfl ?_
  exact ⟨rfl, (Kp.refl No w).alloc _⟩
set_option maxRecDepth 100000 in
theorem is_punct (w : World) (s : ByteArray) (b : Int) (n0 : (s.toList == [97, 108, 112, 104, 97]) = false) (n1 : (s.toList == [100, 105, 103, 105, 116]) = false) (n2 : (s.toList == [97, 108, 110, 117, 109]) = false) (n3 : (s.toList == [117, 112, 112, 101, 114]) = false) (n4 : (s.toList == [108, 111, 119, 101, 114]) = false) (n5 : (s.toList == [115, 112, 97, 99, 101]) = false) (n6 : (s.toList == [98, 108, 97, 110, 107]) = false) (n7 : (s.toList == [112, 117, 110, 99, 116]) = true) :
    Calls Tryd.prog 51 #[.string s, .int .i64 b] w fun e w' => e = .returned (.tuple #[.bool (inS b [33, 47, 58, 64, 91, 96, 123, 126]), .bool true]) ∧ Kp No w w' := by
  have HI := Hid_mk (in_any (w.alloc (.cells #[.int .i64 33, .int .i64 47, .int .i64 58, .int .i64 64, .int .i64 91, .int .i64 96, .int .i64 123, .int .i64 126] 3)) b [33, 47, 58, 64, 91, 96, 123, 126] (.slice (some ⟨w.heap.size, 0, none⟩) 8 8) (pr_made w [33, 47, 58, 64, 91, 96, 123, 126] _) (by decide))
  go_enter Tryd.func51, Tryd.ntmps51
  go_wp2_with fail
  refine HI.out.mono ?_
  rintro e w' ⟨rfl, rfl⟩
  go_wp2
  refine bodyPost_ret (results_tmp2 rfl _ _ _) rfl ?_
  exact ⟨rfl, (Kp.refl No w).alloc _⟩
set_option maxRecDepth 100000 in
theorem is_print (w : World) (s : ByteArray) (b : Int) (n0 : (s.toList == [97, 108, 112, 104, 97]) = false) (n1 : (s.toList == [100, 105, 103, 105, 116]) = false) (n2 : (s.toList == [97, 108, 110, 117, 109]) = false) (n3 : (s.toList == [117, 112, 112, 101, 114]) = false) (n4 : (s.toList == [108, 111, 119, 101, 114]) = false) (n5 : (s.toList == [115, 112, 97, 99, 101]) = false) (n6 : (s.toList == [98, 108, 97, 110, 107]) = false) (n7 : (s.toList == [112, 117, 110, 99, 116]) = false) (n8 : (s.toList == [112, 114, 105, 110, 116]) = true) :
    Calls Tryd.prog 51 #[.string s, .int .i64 b] w fun e w' => e = .returned (.tuple #[.bool (inS b [32, 126]), .bool true]) ∧ Kp No w w' := by
  have HI := Hid_mk (in_any (w.alloc (.cells #[.int .i64 32, .int .i64 126] 3)) b [32, 126] (.slice (some ⟨w.heap.size, 0, none⟩) 2 2) (pr_made w [32, 126] _) (by decide))
  go_enter Tryd.func51, Tryd.ntmps51
  go_wp2_with fail
  refine HI.out.mono ?_
  rintro e w' ⟨rfl, rfl⟩
  go_wp2
  refine bodyPost_ret (results_tmp2 rfl _ _ _) rfl ?_
  exact ⟨rfl, (Kp.refl No w).alloc _⟩
set_option maxRecDepth 100000 in
theorem is_graph (w : World) (s : ByteArray) (b : Int) (n0 : (s.toList == [97, 108, 112, 104, 97]) = false) (n1 : (s.toList == [100, 105, 103, 105, 116]) = false) (n2 : (s.toList == [97, 108, 110, 117, 109]) = false) (n3 : (s.toList == [117, 112, 112, 101, 114]) = false) (n4 : (s.toList == [108, 111, 119, 101, 114]) = false) (n5 : (s.toList == [115, 112, 97, 99, 101]) = false) (n6 : (s.toList == [98, 108, 97, 110, 107]) = false) (n7 : (s.toList == [112, 117, 110, 99, 116]) = false) (n8 : (s.toList == [112, 114, 105, 110, 116]) = false) (n9 : (s.toList == [103, 114, 97, 112, 104]) = true) :
    Calls Tryd.prog 51 #[.string s, .int .i64 b] w fun e w' => e = .returned (.tuple #[.bool (inS b [33, 126]), .bool true]) ∧ Kp No w w' := by
  have HI := Hid_mk (in_any (w.alloc (.cells #[.int .i64 33, .int .i64 126] 3)) b [33, 126] (.slice (some ⟨w.heap.size, 0, none⟩) 2 2) (pr_made w [33, 126] _) (by decide))
  go_enter Tryd.func51, Tryd.ntmps51
  go_wp2_with fail
  refine HI.out.mono ?_
  rintro e w' ⟨rfl, rfl⟩
  go_wp2
  refine bodyPost_ret (results_tmp2 rfl _ _ _) rfl ?_
  exact ⟨rfl, (Kp.refl No w).alloc _⟩
set_option maxRecDepth 100000 in
theorem is_cntrl (w : World) (s : ByteArray) (b : Int) (n0 : (s.toList == [97, 108, 112, 104, 97]) = false) (n1 : (s.toList == [100, 105, 103, 105, 116]) = false) (n2 : (s.toList == [97, 108, 110, 117, 109]) = false) (n3 : (s.toList == [117, 112, 112, 101, 114]) = false) (n4 : (s.toList == [108, 111, 119, 101, 114]) = false) (n5 : (s.toList == [115, 112, 97, 99, 101]) = false) (n6 : (s.toList == [98, 108, 97, 110, 107]) = false) (n7 : (s.toList == [112, 117, 110, 99, 116]) = false) (n8 : (s.toList == [112, 114, 105, 110, 116]) = false) (n9 : (s.toList == [103, 114, 97, 112, 104]) = false) (n10 : (s.toList == [99, 110, 116, 114, 108]) = true) :
    Calls Tryd.prog 51 #[.string s, .int .i64 b] w fun e w' => e = .returned (.tuple #[.bool (inS b [0, 31, 127, 127]), .bool true]) ∧ Kp No w w' := by
  have HI := Hid_mk (in_any (w.alloc (.cells #[.int .i64 0, .int .i64 31, .int .i64 127, .int .i64 127] 3)) b [0, 31, 127, 127] (.slice (some ⟨w.heap.size, 0, none⟩) 4 4) (pr_made w [0, 31, 127, 127] _) (by decide))
  go_enter Tryd.func51, Tryd.ntmps51
  go_wp2_with fail
  refine HI.out.mono ?_
  rintro e w' ⟨rfl, rfl⟩
  go_wp2
  refine bodyPost_ret (results_tmp2 rfl _ _ _) rfl ?_
  exact ⟨rfl, (Kp.refl No w).alloc _⟩
set_option maxRecDepth 100000 in
theorem is_xdigit (w : World) (s : ByteArray) (b : Int) (n0 : (s.toList == [97, 108, 112, 104, 97]) = false) (n1 : (s.toList == [100, 105, 103, 105, 116]) = false) (n2 : (s.toList == [97, 108, 110, 117, 109]) = false) (n3 : (s.toList == [117, 112, 112, 101, 114]) = false) (n4 : (s.toList == [108, 111, 119, 101, 114]) = false) (n5 : (s.toList == [115, 112, 97, 99, 101]) = false) (n6 : (s.toList == [98, 108, 97, 110, 107]) = false) (n7 : (s.toList == [112, 117, 110, 99, 116]) = false) (n8 : (s.toList == [112, 114, 105, 110, 116]) = false) (n9 : (s.toList == [103, 114, 97, 112, 104]) = false) (n10 : (s.toList == [99, 110, 116, 114, 108]) = false) (n11 : (s.toList == [120, 100, 105, 103, 105, 116]) = true) :
    Calls Tryd.prog 51 #[.string s, .int .i64 b] w fun e w' => e = .returned (.tuple #[.bool (inS b [48, 57, 65, 70, 97, 102]), .bool true]) ∧ Kp No w w' := by
  have HI := Hid_mk (in_any (w.alloc (.cells #[.int .i64 48, .int .i64 57, .int .i64 65, .int .i64 70, .int .i64 97, .int .i64 102] 3)) b [48, 57, 65, 70, 97, 102] (.slice (some ⟨w.heap.size, 0, none⟩) 6 6) (pr_made w [48, 57, 65, 70, 97, 102] _) (by decide))
  go_enter Tryd.func51, Tryd.ntmps51
  go_wp2_with fail
  refine HI.out.mono ?_
  rintro e w' ⟨rfl, rfl⟩
  go_wp2
  refine bodyPost_ret (results_tmp2 rfl _ _ _) rfl ?_
  exact ⟨rfl, (Kp.refl No w).alloc _⟩
set_option maxRecDepth 100000 in
theorem is_none (w : World) (s : ByteArray) (b : Int) (n0 : (s.toList == [97, 108, 112, 104, 97]) = false) (n1 : (s.toList == [100, 105, 103, 105, 116]) = false) (n2 : (s.toList == [97, 108, 110, 117, 109]) = false) (n3 : (s.toList == [117, 112, 112, 101, 114]) = false) (n4 : (s.toList == [108, 111, 119, 101, 114]) = false) (n5 : (s.toList == [115, 112, 97, 99, 101]) = false) (n6 : (s.toList == [98, 108, 97, 110, 107]) = false) (n7 : (s.toList == [112, 117, 110, 99, 116]) = false) (n8 : (s.toList == [112, 114, 105, 110, 116]) = false) (n9 : (s.toList == [103, 114, 97, 112, 104]) = false) (n10 : (s.toList == [99, 110, 116, 114, 108]) = false) (n11 : (s.toList == [120, 100, 105, 103, 105, 116]) = false) :
    Calls Tryd.prog 51 #[.string s, .int .i64 b] w fun e w' => e = .returned (.tuple #[.bool false, .bool false]) ∧ Kp No w w' := by
  go_enter Tryd.func51, Tryd.ntmps51
  go_wp2
  refine bodyPost_ret (results_tmp2 rfl _ _ _) rfl ?_
  exact ⟨rfl, Kp.refl No w⟩
theorem is_any (w : World) (s : ByteArray) (b : Int) :
    Calls Tryd.prog 51 #[.string s, .int .i64 b] w fun e w' => e = .returned (.tuple #[.bool (isS s.toList b).1, .bool (isS s.toList b).2]) ∧ Kp No w w' := by
  unfold isS
  by_cases h0 : s.toList = nmB0
  · rw [if_pos h0]
    exact is_alpha w s b (beq_iff_eq.2 h0)
  rw [if_neg h0]
  by_cases h1 : s.toList = nmB1
  · rw [if_pos h1]
    exact is_digit w s b (beq_eq_false_iff_ne.2 h0) (beq_iff_eq.2 h1)
  rw [if_neg h1]
  by_cases h2 : s.toList = nmB2
  · rw [if_pos h2]
    exact is_alnum w s b (beq_eq_false_iff_ne.2 h0) (beq_eq_false_iff_ne.2 h1) (beq_iff_eq.2 h2)
  rw [if_neg h2]
  by_cases h3 : s.toList = nmB3
  · rw [if_pos h3]
    exact is_upper w s b (beq_eq_false_iff_ne.2 h0) (beq_eq_false_iff_ne.2 h1) (beq_eq_false_iff_ne.2 h2) (beq_iff_eq.2 h3)
  rw [if_neg h3]
  by_cases h4 : s.toList = nmB4
  · rw [if_pos h4]
    exact is_lower w s b (beq_eq_false_iff_ne.2 h0) (beq_eq_false_iff_ne.2 h1) (beq_eq_false_iff_ne.2 h2) (beq_eq_false_iff_ne.2 h3) (beq_iff_eq.2 h4)
  rw [if_neg h4]
  by_cases h5 : s.toList = nmB5
  · rw [if_pos h5]
    exact is_space w s b (beq_eq_false_iff_ne.2 h0) (beq_eq_false_iff_ne.2 h1) (beq_eq_false_iff_ne.2 h2) (beq_eq_false_iff_ne.2 h3) (beq_eq_false_iff_ne.2 h4) (beq_iff_eq.2 h5)
  rw [if_neg h5]
  by_cases h6 : s.toList = nmB6
  · rw [if_pos h6]
    exact is_blank w s b (beq_eq_false_iff_ne.2 h0) (beq_eq_false_iff_ne.2 h1) (beq_eq_false_iff_ne.2 h2) (beq_eq_false_iff_ne.2 h3) (beq_eq_false_iff_ne.2 h4) (beq_eq_false_iff_ne.2 h5) (beq_iff_eq.2 h6)
  rw [if_neg h6]
  by_cases h7 : s.toList = nmB7
  · rw [if_pos h7]
    exact is_punct w s b (beq_eq_false_iff_ne.2 h0) (beq_eq_false_iff_ne.2 h1) (beq_eq_false_iff_ne.2 h2) (beq_eq_false_iff_ne.2 h3) (beq_eq_false_iff_ne.2 h4) (beq_eq_false_iff_ne.2 h5) (beq_eq_false_iff_ne.2 h6) (beq_iff_eq.2 h7)
  rw [if_neg h7]
  by_cases h8 : s.toList = nmB8
  · rw [if_pos h8]
    exact is_print w s b (beq_eq_false_iff_ne.2 h0) (beq_eq_false_iff_ne.2 h1) (beq_eq_false_iff_ne.2 h2) (beq_eq_false_iff_ne.2 h3) (beq_eq_false_iff_ne.2 h4) (beq_eq_false_iff_ne.2 h5) (beq_eq_false_iff_ne.2 h6) (beq_eq_false_iff_ne.2 h7) (beq_iff_eq.2 h8)
  rw [if_neg h8]
  by_cases h9 : s.toList = nmB9
  · rw [if_pos h9]
    exact is_graph w s b (beq_eq_false_iff_ne.2 h0) (beq_eq_false_iff_ne.2 h1) (beq_eq_false_iff_ne.2 h2) (beq_eq_false_iff_ne.2 h3) (beq_eq_false_iff_ne.2 h4) (beq_eq_false_iff_ne.2 h5) (beq_eq_false_iff_ne.2 h6) (beq_eq_false_iff_ne.2 h7) (beq_eq_false_iff_ne.2 h8) (beq_iff_eq.2 h9)
  rw [if_neg h9]
  by_cases h10 : s.toList = nmB10
  · rw [if_pos h10]
    exact is_cntrl w s b (beq_eq_false_iff_ne.2 h0) (beq_eq_false_iff_ne.2 h1) (beq_eq_false_iff_ne.2 h2) (beq_eq_false_iff_ne.2 h3) (beq_eq_false_iff_ne.2 h4) (beq_eq_false_iff_ne.2 h5) (beq_eq_false_iff_ne.2 h6) (beq_eq_false_iff_ne.2 h7) (beq_eq_false_iff_ne.2 h8) (beq_eq_false_iff_ne.2 h9) (beq_iff_eq.2 h10)
  rw [if_neg h10]
  by_cases h11 : s.toList = nmB11
  · rw [if_pos h11]
    exact is_xdigit w s b (beq_eq_false_iff_ne.2 h0) (beq_eq_false_iff_ne.2 h1) (beq_eq_false_iff_ne.2 h2) (beq_eq_false_iff_ne.2 h3) (beq_eq_false_iff_ne.2 h4) (beq_eq_false_iff_ne.2 h5) (beq_eq_false_iff_ne.2 h6) (beq_eq_false_iff_ne.2 h7) (beq_eq_false_iff_ne.2 h8) (beq_eq_false_iff_ne.2 h9) (beq_eq_false_iff_ne.2 h10) (beq_iff_eq.2 h11)
  rw [if_neg h11]
  exact is_none w s b (beq_eq_false_iff_ne.2 h0) (beq_eq_false_iff_ne.2 h1) (beq_eq_false_iff_ne.2 h2) (beq_eq_false_iff_ne.2 h3) (beq_eq_false_iff_ne.2 h4) (beq_eq_false_iff_ne.2 h5) (beq_eq_false_iff_ne.2 h6) (beq_eq_false_iff_ne.2 h7) (beq_eq_false_iff_ne.2 h8) (beq_eq_false_iff_ne.2 h9) (beq_eq_false_iff_ne.2 h10) (beq_eq_false_iff_ne.2 h11)
/-- both say the same -/
theorem is_named (l : List UInt8) : (∀ b : Int, (isS l b).2 = (namedS l).2) ∧ ((namedS l).2 = true → sv (namedS l).1 = sv fun x => (isS l (x : Int)).1) ∧ ((namedS l).2 = false → (namedS l).1 = nul) := by
  by_cases h0 : l = nmB0
  · subst h0
    exact ⟨fun _ => rfl, fun _ => sv_congr (by decide +kernel), fun h => absurd h (by decide)⟩
  by_cases h1 : l = nmB1
  · subst h1
    exact ⟨fun _ => rfl, fun _ => sv_congr (by decide +kernel), fun h => absurd h (by decide)⟩
  by_cases h2 : l = nmB2
  · subst h2
    exact ⟨fun _ => rfl, fun _ => sv_congr (by decide +kernel), fun h => absurd h (by decide)⟩
  by_cases h3 : l = nmB3
  · subst h3
    exact ⟨fun _ => rfl, fun _ => sv_congr (by decide +kernel), fun h => absurd h (by decide)⟩
  by_cases h4 : l = nmB4
  · subst h4
    exact ⟨fun _ => rfl, fun _ => sv_congr (by decide +kernel), fun h => absurd h (by decide)⟩
  by_cases h5 : l = nmB5
  · subst h5
    exact ⟨fun _ => rfl, fun _ => sv_congr (by decide +kernel), fun h => absurd h (by decide)⟩
  by_cases h6 : l = nmB6
  · subst h6
    exact ⟨fun _ => rfl, fun _ => sv_congr (by decide +kernel), fun h => absurd h (by decide)⟩
  by_cases h7 : l = nmB7
  · subst h7
    exact ⟨fun _ => rfl, fun _ => sv_congr (by decide +kernel), fun h => absurd h (by decide)⟩
  by_cases h8 : l = nmB8
  · subst h8
    exact ⟨fun _ => rfl, fun _ => sv_congr (by decide +kernel), fun h => absurd h (by decide)⟩
  by_cases h9 : l = nmB9
  · subst h9
    exact ⟨fun _ => rfl, fun _ => sv_congr (by decide +kernel), fun h => absurd h (by decide)⟩
  by_cases h10 : l = nmB10
  · subst h10
    exact ⟨fun _ => rfl, fun _ => sv_congr (by decide +kernel), fun h => absurd h (by decide)⟩
  by_cases h11 : l = nmB11
  · subst h11
    exact ⟨fun _ => rfl, fun _ => sv_congr (by decide +kernel), fun h => absurd h (by decide)⟩
  have e1 : namedS l = (nul, false) := by unfold namedS; rw [if_neg h0, if_neg h1, if_neg h2, if_neg h3, if_neg h4, if_neg h5, if_neg h6, if_neg h7, if_neg h8, if_neg h9, if_neg h10, if_neg h11]
  have e2 : ∀ b, isS l b = (false, false) := fun b => by unfold isS; rw [if_neg h0, if_neg h1, if_neg h2, if_neg h3, if_neg h4, if_neg h5, if_neg h6, if_neg h7, if_neg h8, if_neg h9, if_neg h10, if_neg h11]
  rw [e1]
  exact ⟨fun b => (by rw [e2]), fun h => (by cases h), fun _ => rfl⟩

end Go.Proofs.YtpfpnlhihnfahaaDoor.cls

namespace Go.Proofs.YtpfpnlhihnfahaaDoor.cls
open Go.RowKit Go.Proofs.YtpfpnlhihnfahaaDoor.sum Go.Proofs.YtpfpnlhihnfahaaDoor.kept Go.Proofs.YtpfpnlhihnfahaaDoor.pop Go.Proofs.YtpfpnlhihnfahaaDoor.str
set_option linter.unusedVariables false

theorem upTo_nextN (f : Nat → Bool) (k : Nat) : ∀ x, x < 256 → x ≠ k → upTo f (k + 1) x = upTo f k x := fun x _ hx => by
  unfold upTo
  rw [Bool.eq_iff_iff]
  simp only [Bool.and_eq_true, decide_eq_true_eq]
  constructor <;> intro ⟨a, b⟩ <;> exact ⟨by omega, b⟩
theorem upTo_atN (f : Nat → Bool) (k : Nat) : upTo f (k + 1) k = f k := by simp [upTo]
def NmRel (w : World) (q : Nat) (f : Nat → Bool) (b : Bool) (o i : Value) (wr : World) : Prop :=
  ∃ k : Nat, k ≤ 256 ∧ i = .int .i64 (k : Int) ∧ o = .bool (decide (0 < k) && b) ∧ BgAt wr q (upTo f k) ∧ Kp (fun b => b = q) w wr

set_option maxRecDepth 100000 in
set_option maxHeartbeats 1000000 in
theorem rnamed_any (w : World) (s : ByteArray) :
    Calls Tryd.prog 28 #[.string s] w fun e w' => e = .returned (.tuple #[bv fun x => (isS s.toList (x : Int)).1, .bool (namedS s.toList).2]) ∧ Kp No w w' := by
  obtain ⟨f, hf⟩ : ∃ f : Nat → Bool, (fun x : Nat => (isS s.toList (x : Int)).1) = f := ⟨_, rfl⟩
  obtain ⟨b, hb⟩ : ∃ b, (namedS s.toList).2 = b := ⟨_, rfl⟩
  have HI : Hid (∀ W (k : Nat), Calls Tryd.prog 51 #[.string s, .int .i64 (k : Int)] W fun e W' => e = .returned (.tuple #[.bool (f k), .bool b]) ∧ Kp No W W') := Hid_mk fun W k => by
    have h := is_any W s (k : Int)
    rw [(is_named s.toList).1 (k : Int), hb, congrFun hf k] at h
    exact h
  rw [hf, hb]
  clear hf hb
  obtain ⟨W0, hW0⟩ : ∃ W0, (w.alloc (.cells (Array.replicate 256 (.bool false)) 64)).alloc (.cells (Array.replicate 256 (.bool false)) 64) = W0 := ⟨_, rfl⟩
  have HK0 : Hid (Kp No w W0) := Hid_mk (by rw [← hW0]; exact ((Kp.refl No w).alloc _).alloc _)
  have HZ1 : Hid (BgAt W0 w.heap.size nul) := Hid_mk (by rw [← hW0]; exact (BgAt.zero w _).no ((Kp.refl No _).alloc _))
  have HZ2 : Hid (BgAt W0 (w.heap.size + 1) nul) := Hid_mk (by
    rw [← hW0]
    have := BgAt.zero (w.alloc (.cells (Array.replicate 256 (.bool false)) 64)) 64
    simpa using this)
  have HW0 := Hid_mk hW0
  have zv := zero36.1
  generalize Array.replicate 256 (Value.bool false) = Z at zv HW0
  clear hW0
  go_enter Tryd.func28, Tryd.ntmps28
  go_wp2
  rw [HW0.out]
  clear HW0
  obtain ⟨q, hq⟩ : ∃ q, w.heap.size = q := ⟨_, rfl⟩
  rw [hq] at HZ1 HZ2 ⊢
  have HQ := Hid_mk hq
  clear hq
  go_loopw [5, 6] (fun o i wr => NmRel W0 (q + 1) f b o i wr) (fun _ i _ => 256 - (intOf i).toNat)
  case atStart => exact ⟨0, by omega, rfl, rfl, HZ2.out.congr fun x _ => by simp [nul, upTo], Kp.refl _ _⟩
  case round =>
    obtain ⟨k, hk, rfl, rfl, hs, hkp⟩ := hrel
    have HS := Hid_mk hs
    have HKp := Hid_mk hkp
    have hk0 : (0 : Int) ≤ (k : Int) := Int.natCast_nonneg _
    by_cases hlt : k < 256
    · have hki : (k : Int) < 256 := by omega
      have hwi : IntKind.i64.wrap ((k : Int) + 1) = (k : Int) + 1 := IntWalk.i64_in _ (by omega)
      clear hs hkp
      go_wp2_with fail
      with_reducible refine (HI.out _ k).mono ?_
      rintro e w1 ⟨rfl, k1⟩
      have hs1 := HS.out.no k1
      have hcq := hs1.cell k hlt
      have hwm := hs1.warm k
      have HST := hs1.set (g := upTo f (k + 1)) k hlt (upTo_nextN f k)
      rw [upTo_atN] at HST
      replace HST := Hid_mk HST
      have HK1 := Hid_mk (HKp.out.trans k1 fun _ _ h => h.elim)
      clear hs1 k1
      go_wp2
      go_roundw
      case rel =>
        have hrel : NmRel W0 (q + 1) f b (.bool b) (.int .i64 ((k : Int) + 1)) _ := ⟨k + 1, by omega, by push_cast; rfl, by simp, HST.out, HK1.out.setCell (p := ⟨q + 1, k, none⟩) (fun _ => rfl) _⟩
        first | exact hrel | (repeat apply Exists.intro; exact ⟨hrel, rfl⟩)
      case measure => simp only [intOf]; omega
    · obtain rfl : k = 256 := by omega
      have hq := HQ.out
      have h1 := hs.congr (upTo_all f)
      have h2 := HZ1.out.kept hkp (by omega)
      have hres := h2.puts f
      have hkr := kp_setCells (w0 := w) (S := No) (q := q) (fun h => by omega) (bc f) 0 (HK0.out.trans hkp fun i hi e => by omega)
      have H1 := Hid_mk h1.range
      have hld := fun W (h : BgAt W q f) => run_loadVar_mid (P := Tryd.prog) W q 0 64 (bc f) _ h.range Tryd.underlying64 rfl (info_bc f)
      have HLd := Hid_mk hld
      have hsc := run_storeCells_cells (P := Tryd.prog) q 0 (bc f) 0 wr (fun j hj => by
        have := (h2.there j (by rw [bc_len] at hj; exact hj)).1
        simpa using this) (fun j hj => by
        have := (h2.there j (by rw [bc_len] at hj; exact hj)).2
        simpa using this) (bc_one f)
      simp only [Nat.add_zero] at hsc
      have hbl : (bc f).toArray.size = 256 := by rw [List.size_toArray, bc_len]
      have hbt : (bc f).toArray.toList = bc f := rfl
      have HRes := Hid_mk hres
      have HKr := Hid_mk hkr
      obtain ⟨WR, hWR⟩ : ∃ WR, wr.setCells q 0 (bc f) = WR := ⟨_, rfl⟩
      rw [hWR] at hsc HRes HKr
      clear hs hkp HS HKp h1 h2 hres hkr HZ1 HZ2 HK0 HI hld hWR
      subst hq
      go_upto_region 7 with fail
      refine wp_region_lit ?_
      refine wpList_load_mid rfl _ _ rfl (w.heap.size + 1) 0 rfl (bc f) _ H1.out Tryd.underlying64 rfl (info_bc f) ?_
      simp only [Act.put, List.setIfInBounds_toArray, List.set_cons_zero, List.set_cons_succ]
      rw [← hbt] at hsc
      obtain ⟨A, hA⟩ : ∃ A, (bc f).toArray = A := ⟨_, rfl⟩
      rw [hA] at hsc hbl HLd ⊢
      have HA := Hid_mk hA
      clear hbt hA
      go_wp2
      (try simp only [Exit.inBlock, Exit.then])
      refine bodyPost_ret (v := .tuple #[.agg A, .bool b]) ?_ rfl ⟨by rw [← HA.out], HKr.out⟩
      rw [results_cell_tmp rfl]
      have hl9 := HLd.out _ HRes.out
      simp [asAddr, Result.andThen, hl9]

end Go.Proofs.YtpfpnlhihnfahaaDoor.cls
