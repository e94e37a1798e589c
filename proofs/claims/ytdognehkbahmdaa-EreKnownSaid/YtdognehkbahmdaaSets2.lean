/- Package class: sets out of bytes and out of spans. -/
import Derived.Test.YtdognehkbahmdaaSets
namespace Go.Proofs.Ytdognehkbahmdaa.cls
open Go.RowKit Go.Proofs.Ytdognehkbahmdaa.sum Go.Proofs.Ytdognehkbahmdaa.kept Go.Proofs.Ytdognehkbahmdaa.pop
set_option linter.unusedVariables false

/-- a set is stored whole; what comes of it, under one name -/
theorem put_any {S : Nat → Prop} {w0 w : World} {q : Nat} {g : Nat → Bool} (h : SetAt w q g) (f : Nat → Bool) (hk : Kp S w0 w) (hq : q < w0.heap.size → S q) :
    ∃ WR, (((w.setCell ⟨q, 0, none⟩ (.int .u64 (wd f 0 64 : Nat))).setCell ⟨q, 1, none⟩ (.int .u64 (wd f 64 64 : Nat))).setCell ⟨q, 2, none⟩ (.int .u64 (wd f 128 64 : Nat))).setCell ⟨q, 3, none⟩ (.int .u64 (wd f 192 64 : Nat)) = WR ∧ SetAt WR q f ∧ Kp S w0 WR :=
  ⟨_, rfl, h.puts f, kp_puts hk hq f⟩

theorem put_nul {S : Nat → Prop} {w0 w : World} {q : Nat} {g : Nat → Bool} (h : SetAt w q g) (hk : Kp S w0 w) (hq : q < w0.heap.size → S q) :
    ∃ WR, (((w.setCell ⟨q, 0, none⟩ (.int .u64 0)).setCell ⟨q, 1, none⟩ (.int .u64 0)).setCell ⟨q, 2, none⟩ (.int .u64 0)).setCell ⟨q, 3, none⟩ (.int .u64 0) = WR ∧ SetAt WR q nul ∧ Kp S w0 WR := by
  have := put_any h nul hk hq
  simp only [wd_nul] at this
  exact this
theorem made_any {w0 w1 : World} (hk : Kp No w0 w1) (f : Nat → Bool) : ∃ q W, w1.heap.size = q ∧ w1.alloc (.cells #[.int .u64 (wd f 0 64 : Nat), .int .u64 (wd f 64 64 : Nat), .int .u64 (wd f 128 64 : Nat), .int .u64 (wd f 192 64 : Nat)] 24) = W ∧ SetAt W q f ∧ Kp No w0 W ∧ Kp No w1 W :=
  ⟨_, _, rfl, rfl, SetAt.made w1 f, hk.alloc _, (Kp.refl No w1).alloc _⟩
theorem word_shl (r : Nat) (h : r < 64) : IntKind.u64.wrap ((2 : Int) ^ r) = ((2 ^ r : Nat) : Int) := by
  have : (2 : Nat) ^ r < 2 ^ 64 := Nat.pow_lt_pow_right (by decide) h
  rw [show ((2 : Int) ^ r) = ((2 ^ r : Nat) : Int) from by push_cast; rfl]
  exact wrap_u64_in _ this

/-- a set of listed bytes -/
def ofL (bs : List UInt8) : Nat → Bool := fun x => bs.any fun b => b.toNat == x
/-- behind k bytes -/
def OfRel (w : World) (q : Nat) (bs : List UInt8) (i : Value) (wr : World) : Prop :=
  ∃ k : Nat, k ≤ bs.length ∧ i = .int .i64 (k : Int) ∧ SetAt wr q (ofL (bs.take k)) ∧ Kp (fun b => b = q) w wr
theorem ofL_snoc (bs : List UInt8) (k : Nat) (h : k < bs.length) (x : Nat) : ofL (bs.take (k + 1)) x = (ofL (bs.take k) x || x == (bs.getD k 0).toNat) := by
  unfold ofL
  rw [take_snoc h, List.any_append]
  simp only [List.any_cons, List.any_nil, Bool.or_false]
  congr 1
  rw [Bool.eq_iff_iff]
  simp only [beq_iff_eq]
  exact eq_comm

set_option maxRecDepth 100000 in
theorem of_any (w : World) (v : Value) (bs : List UInt8) (hb : Bs w v bs) :
    Calls Try.prog 83 #[v] w fun e w' => e = .returned (sv (ofL bs)) ∧ Kp No w w' := by
  obtain ⟨W0, hW0⟩ : ∃ W0, (w.alloc (.cells #[.int .u64 0, .int .u64 0, .int .u64 0, .int .u64 0] 24)).alloc (.cells #[.int .u64 0, .int .u64 0, .int .u64 0, .int .u64 0] 24) = W0 := ⟨_, rfl⟩
  have HK0 : Hid (Kp No w W0) := Hid_mk (by rw [← hW0]; exact ((Kp.refl No w).alloc _).alloc _)
  have HZ0 : Hid (SetAt W0 w.heap.size nul) := Hid_mk (by rw [← hW0]; exact (SetAt.zero w).kept ((Kp.refl No _).alloc _) id)
  have HZ1 : Hid (SetAt W0 (w.heap.size + 1) nul) := Hid_mk (by
    rw [← hW0]
    have := SetAt.zero (w.alloc (.cells #[.int .u64 0, .int .u64 0, .int .u64 0, .int .u64 0] 24))
    simpa using this)
  have HB := Hid_mk hb
  obtain ⟨a, c, rfl, l1, l2, l3⟩ := hb
  unfold maxLen at l2
  have H3 := Hid_mk l3
  have HW0 := Hid_mk hW0
  clear hW0 l3
  go_enter Try.func83, Try.ntmps83
  go_wp2
  rw [HW0.out]
  clear HW0
  obtain ⟨q, hq⟩ : ∃ q, w.heap.size = q := ⟨_, rfl⟩
  rw [hq] at HZ0 HZ1
  go_loopw [8] (fun i wr => OfRel W0 (q + 1) bs i wr) (fun i _ => bs.length - (intOf i).toNat)
  case atStart => exact ⟨0, Nat.zero_le _, rfl, HZ1.out.congr fun x _ => by simp [nul, ofL], Kp.refl _ _⟩
  case round =>
    obtain ⟨k, hk, rfl, hs, hkp⟩ := hrel
    have HS := Hid_mk hs
    have HKp := Hid_mk hkp
    have hk0 : (0 : Int) ≤ (k : Int) := Int.natCast_nonneg _
    by_cases hlt : k < bs.length
    · have hki : (k : Int) < (bs.length : Int) := by omega
      have hwi : IntKind.i64.wrap ((k : Int) + 1) = (k : Int) + 1 := IntWalk.i64_in _ (by omega)
      obtain ⟨b, o, rfl, hc⟩ := H3.out (by intro e; rw [e] at hlt; simp at hlt)
      have hblt : b < w.heap.size := World.block_lt_of_cell? w _ (hc k hlt)
      have hci : wr.cell? ⟨b, o + k, none⟩ = some (B (bs.getD k 0)) := hkp.cell' (HK0.out.cell' (hc k hlt) id) (by show ¬ b = q + 1; omega)
      have hsn := fun x => ofL_snoc bs k hlt x
      generalize bs.getD k 0 = y at hci hsn
      have hy := y.toNat_lt
      unfold B at hci
      obtain ⟨n, hn⟩ : ∃ n, y.toNat = n := ⟨_, rfl⟩
      rw [hn] at hci hsn hy
      obtain ⟨p, hp⟩ : ∃ p, n / 64 = p := ⟨_, rfl⟩
      obtain ⟨r, hr⟩ : ∃ r, n % 64 = r := ⟨_, rfl⟩
      have hp4 : p < 4 := by omega
      have hr64 : r < 64 := by omega
      have hpi : (n : Int) / 64 = (p : Int) := by omega
      have hri : (n : Int) % 64 = (r : Int) := by omega
      have hr0 : (0 : Int) ≤ (r : Int) := Int.natCast_nonneg _
      have hp0 : (0 : Int) ≤ (p : Int) := Int.natCast_nonneg _
      have hpi4 : (p : Int) < 4 := by omega
      have hcs := hs.cell p hp4
      have hwm := hs.warm p
      have hsh := word_shl r hr64
      have hor := word_or (wd (ofL (bs.take k)) (64 * p) 64) (2 ^ r) (wd_le _ _) (Nat.pow_lt_pow_right (by decide) hr64)
      have ht : wd (ofL (bs.take k)) (64 * p) 64 ||| 2 ^ r = wd (ofL (bs.take (k + 1))) (64 * p) 64 := by
        rw [set_wd _ _ _ hr64, show 64 * p + r = n from by omega]
        exact wd_congr fun j hj => (hsn _).symm
      rw [ht] at hor
      generalize 2 ^ r = T at hsh hor
      clear ht
      have HST := Hid_mk (hs.set (g := ofL (bs.take (k + 1))) p hp4 fun x hx h => by
        rw [hsn x]
        have : (x == n) = false := by simp; omega
        rw [this, Bool.or_false])
      clear hs hkp hc hp hr hn hsn hblt
      go_wp2
      go_roundw
      case rel => exact ⟨k + 1, by omega, by push_cast; rfl, HST.out, HKp.out.setCell (p := ⟨q + 1, p, none⟩) (fun _ => rfl) _⟩
      case measure => simp only [intOf]; omega
    · obtain rfl : k = bs.length := by omega
      have hki : ¬ ((bs.length : Nat) : Int) < (bs.length : Int) := by omega
      obtain ⟨c0, c1, c2, c3⟩ := (hs.congr (g := ofL bs) fun x hx => by rw [List.take_length]).cells
      obtain ⟨z0, z1, z2, z3⟩ := (HZ0.out.kept hkp (by omega)).cells
      have zw := (HZ0.out.kept hkp (by omega)).warm
      have hres := (HZ0.out.kept hkp (by omega)).puts (ofL bs)
      obtain ⟨WR, hWR⟩ : ∃ WR, (((wr.setCell ⟨q, 0, none⟩ (.int .u64 (wd (ofL bs) 0 64 : Nat))).setCell ⟨q, 1, none⟩ (.int .u64 (wd (ofL bs) 64 64 : Nat))).setCell ⟨q, 2, none⟩ (.int .u64 (wd (ofL bs) 128 64 : Nat))).setCell ⟨q, 3, none⟩ (.int .u64 (wd (ofL bs) 192 64 : Nat)) = WR := ⟨_, rfl⟩
      have HKR : Hid (Kp No w (putS wr q (ofL bs))) := Hid_mk (kp_puts (HK0.out.trans hkp fun i hi e => by omega) (fun h => by omega) _)
      unfold putS at hres HKR
      rw [hWR] at hres HKR
      have HR := Hid_mk hres
      have HWR := Hid_mk hWR
      clear hres hWR hs hkp HS HKp
      go_wp2
      try rw [hq]
      rw [HWR.out]
      obtain ⟨r0, r1, r2, r3⟩ := HR.out.cells
      clear c0 c1 c2 c3 z0 z1 z2 z3 zw HWR
      refine bodyPost_ret (v := sv (ofL bs)) ?_ rfl ⟨rfl, HKR.out⟩
      simp [results, Try.results83, go_sem, r0, r1, r2, r3, sv]

/-- all from a to b -/
def spn (a b : Nat) : Nat → Bool := fun x => decide (a ≤ x) && decide (x ≤ b)
/-- up to k -/
def upS (a k : Nat) : Nat → Bool := fun x => decide (a ≤ x) && decide (x < k)
def SpRel (w : World) (q a b : Nat) (i : Value) (wr : World) : Prop :=
  ∃ k : Nat, a ≤ k ∧ (k ≤ b + 1 ∨ k = a) ∧ i = .int .i64 (k : Int) ∧ SetAt wr q (upS a k) ∧ Kp (fun b => b = q) w wr

set_option maxRecDepth 100000 in
theorem span_any (w : World) (a b : Nat) (ha : a < 256) (hb : b < 256) :
    Calls Try.prog 111 #[.int .u8 (a : Int), .int .u8 (b : Int)] w fun e w' => e = .returned (sv (spn a b)) ∧ Kp No w w' := by
  obtain ⟨W0, hW0⟩ : ∃ W0, (w.alloc (.cells #[.int .u64 0, .int .u64 0, .int .u64 0, .int .u64 0] 24)).alloc (.cells #[.int .u64 0, .int .u64 0, .int .u64 0, .int .u64 0] 24) = W0 := ⟨_, rfl⟩
  have HK0 : Hid (Kp No w W0) := Hid_mk (by rw [← hW0]; exact ((Kp.refl No w).alloc _).alloc _)
  have HZ0 : Hid (SetAt W0 w.heap.size nul) := Hid_mk (by rw [← hW0]; exact (SetAt.zero w).kept ((Kp.refl No _).alloc _) id)
  have HZ1 : Hid (SetAt W0 (w.heap.size + 1) nul) := Hid_mk (by
    rw [← hW0]
    have := SetAt.zero (w.alloc (.cells #[.int .u64 0, .int .u64 0, .int .u64 0, .int .u64 0] 24))
    simpa using this)
  have HW0 := Hid_mk hW0
  have ha0 : (0 : Int) ≤ (a : Int) := Int.natCast_nonneg _
  have hb0 : (0 : Int) ≤ (b : Int) := Int.natCast_nonneg _
  have hwa : IntKind.i64.wrap (a : Int) = (a : Int) := IntWalk.i64_in _ (by omega)
  have hwb : IntKind.i64.wrap (b : Int) = (b : Int) := IntWalk.i64_in _ (by omega)
  clear hW0
  go_enter Try.func111, Try.ntmps111
  go_wp2
  rw [HW0.out]
  clear HW0
  obtain ⟨q, hq⟩ : ∃ q, w.heap.size = q := ⟨_, rfl⟩
  rw [hq] at HZ0 HZ1
  go_loopw [6] (fun i wr => SpRel W0 (q + 1) a b i wr) (fun i _ => b + 1 - (intOf i).toNat)
  case atStart => exact ⟨a, Nat.le_refl _, .inr rfl, rfl, HZ1.out.congr fun x _ => by simp [nul, upS], Kp.refl _ _⟩
  case round =>
    obtain ⟨k, hak, hk, rfl, hs, hkp⟩ := hrel
    have HS := Hid_mk hs
    have HKp := Hid_mk hkp
    have hk0 : (0 : Int) ≤ (k : Int) := Int.natCast_nonneg _
    by_cases hlt : k ≤ b
    · have hki : (k : Int) ≤ (b : Int) := by omega
      have hwi : IntKind.i64.wrap ((k : Int) + 1) = (k : Int) + 1 := IntWalk.i64_in _ (by omega)
      obtain ⟨p, hp⟩ : ∃ p, k / 64 = p := ⟨_, rfl⟩
      obtain ⟨r, hr⟩ : ∃ r, k % 64 = r := ⟨_, rfl⟩
      have hp4 : p < 4 := by omega
      have hr64 : r < 64 := by omega
      have hpi : (k : Int).tdiv 64 = (p : Int) := by rw [Int.tdiv_eq_ediv_of_nonneg hk0]; omega
      have hri : (k : Int).tmod 64 = (r : Int) := by rw [Int.tmod_eq_emod_of_nonneg hk0]; omega
      have hwp : IntKind.i64.wrap (p : Int) = (p : Int) := IntWalk.i64_in _ (by omega)
      have hr0 : (0 : Int) ≤ (r : Int) := Int.natCast_nonneg _
      have hp0 : (0 : Int) ≤ (p : Int) := Int.natCast_nonneg _
      have hpi4 : (p : Int) < 4 := by omega
      have hcs := hs.cell p hp4
      have hwm := hs.warm p
      have hsh := word_shl r hr64
      have hor := word_or (wd (upS a k) (64 * p) 64) (2 ^ r) (wd_le _ _) (Nat.pow_lt_pow_right (by decide) hr64)
      have ht : wd (upS a k) (64 * p) 64 ||| 2 ^ r = wd (upS a (k + 1)) (64 * p) 64 := by
        rw [set_wd _ _ _ hr64, show 64 * p + r = k from by omega]
        refine wd_congr fun j hj => ?_
        unfold upS
        rw [Bool.eq_iff_iff]
        simp only [Bool.or_eq_true, Bool.and_eq_true, decide_eq_true_eq, beq_iff_eq]
        omega
      rw [ht] at hor
      generalize 2 ^ r = T at hsh hor
      have HST := Hid_mk (hs.set (g := upS a (k + 1)) p hp4 fun x hx h => by
        unfold upS
        rw [Bool.eq_iff_iff]
        simp only [Bool.and_eq_true, decide_eq_true_eq]
        omega)
      clear ht hs hkp hp hr
      go_wp2
      go_region
      all_goals
        go_wp2
        go_roundw
        case rel => exact ⟨k + 1, by omega, .inl (by omega), by push_cast; rfl, by first | exact HST.out.kept ((Kp.refl No _).drew) id | exact HST.out, by first | exact (HKp.out.setCell (p := ⟨q + 1, p, none⟩) (fun _ => rfl) _).drew | exact HKp.out.setCell (p := ⟨q + 1, p, none⟩) (fun _ => rfl) _⟩
        case measure => simp only [intOf]; omega
    · have hki : ¬ (k : Int) ≤ (b : Int) := by omega
      obtain ⟨c0, c1, c2, c3⟩ := (hs.congr (g := spn a b) fun x hx => by
        unfold upS spn
        rw [Bool.eq_iff_iff]
        simp only [Bool.and_eq_true, decide_eq_true_eq]
        omega).cells
      obtain ⟨z0, z1, z2, z3⟩ := (HZ0.out.kept hkp (by omega)).cells
      have zw := (HZ0.out.kept hkp (by omega)).warm
      have hres := (HZ0.out.kept hkp (by omega)).puts (spn a b)
      obtain ⟨WR, hWR⟩ : ∃ WR, (((wr.setCell ⟨q, 0, none⟩ (.int .u64 (wd (spn a b) 0 64 : Nat))).setCell ⟨q, 1, none⟩ (.int .u64 (wd (spn a b) 64 64 : Nat))).setCell ⟨q, 2, none⟩ (.int .u64 (wd (spn a b) 128 64 : Nat))).setCell ⟨q, 3, none⟩ (.int .u64 (wd (spn a b) 192 64 : Nat)) = WR := ⟨_, rfl⟩
      have HKR : Hid (Kp No w (putS wr q (spn a b))) := Hid_mk (kp_puts (HK0.out.trans hkp fun i hi e => by omega) (fun h => by omega) _)
      unfold putS at hres HKR
      rw [hWR] at hres HKR
      have HR := Hid_mk hres
      have HWR := Hid_mk hWR
      clear hres hWR hs hkp HS HKp
      go_wp2
      try rw [hq]
      rw [HWR.out]
      obtain ⟨r0, r1, r2, r3⟩ := HR.out.cells
      clear c0 c1 c2 c3 z0 z1 z2 z3 zw HWR
      refine bodyPost_ret (v := sv (spn a b)) ?_ rfl ⟨rfl, HKR.out⟩
      simp [results, Try.results111, go_sem, r0, r1, r2, r3, sv]

theorem span_i (w : World) (x y : Int) (a b : Nat) (hx : x = (a : Int)) (hy : y = (b : Int)) (ha : a < 256) (hb : b < 256) :
    Calls Try.prog 111 #[.int .u8 x, .int .u8 y] w fun e w' => e = .returned (sv (spn a b)) ∧ Kp No w w' := by
  subst hx hy
  exact span_any w a b ha hb
theorem has_i (w : World) (f : Nat → Bool) (x : Int) (b : Nat) (hx : x = (b : Int)) (hb : b < 256) :
    Calls Try.prog 68 #[sv f, .int .u8 x] w fun e w' => e = .returned (.bool (f b)) ∧ Kp No w w' := by
  subst hx
  exact has_any w f b hb

end Go.Proofs.Ytdognehkbahmdaa.cls
