/- ClassRules: the law's walk. -/
import Derived.Test.YtpfpnlhihnfahaaBracket2M
import Derived.Deep.CutRange

namespace Go.Proofs.Ytpfpnlhihnfahaa.cls
open Go.RowKit Go.Proofs.Ytpfpnlhihnfahaa.sum Go.Proofs.Ytpfpnlhihnfahaa.kept Go.Proofs.Ytpfpnlhihnfahaa.pop Go.Proofs.Ytpfpnlhihnfahaa.str
set_option linter.unusedVariables false

/-- not of not -/
theorem not_not (f : Nat → Bool) : (fun x => !(fun x => !f x) x) = f := by funext x; simp
theorem or_comm' (f g : Nat → Bool) : (fun x => g x || f x) = fun x => f x || g x := by funext x; exact Bool.or_comm _ _
theorem or_self' (f : Nat → Bool) : (fun x => f x || f x) = f := by funext x; simp
theorem or_all (w : World) (f : Nat → Bool) : Calls Try.prog 17 #[sv f, sv fun x => !f x] w fun e w' => e = .returned (sv fun _ => true) ∧ Kp No w w' := by
  have := or_any w f (fun x => !f x)
  have e : (fun x => f x || !f x) = fun _ => true := by funext x; simp
  rw [e] at this
  exact this
theorem cnt_all (o : Nat) : ∀ n, cnt (fun _ => true) o n = n
  | 0 => rfl
  | n + 1 => by simp only [cnt]; rw [cnt_all o n]; simp
theorem cnt_not (f : Nat → Bool) (o : Nat) : ∀ n, cnt f o n + cnt (fun x => !f x) o n = n
  | 0 => rfl
  | n + 1 => by
    have := cnt_not f o n
    simp only [cnt]
    by_cases h : f (o + n) = true
    · rw [if_pos h, if_neg (by simp [h])]; omega
    · rw [if_neg h, if_pos (by simpa using h)]; omega

/-- what is there at a place of the law's last line -/
structure Cur (w W : World) (q : Nat) (f g : Nat → Bool) (q3 : Nat) : Prop where
  s : SetAt W q f
  t : SetAt W (q + 1) g
  a : SetAt W q3 (fun _ => true)
  k : Kp No w W
theorem Cur.no {w W W' : World} {q q3 : Nat} {f g : Nat → Bool} (h : Cur w W q f g q3) (hk : Kp No W W') : Cur w W' q f g q3 := ⟨h.s.no hk, h.t.no hk, h.a.no hk, h.k.trans' hk⟩
theorem put_at {w1 w2 : World} {q : Nat} {f : Nat → Bool} (h : SetAt w2 q f) (h1 : SetAt w1 q f) (g : Nat → Bool) (p : Nat) (hp : p = w1.heap.size := by rfl) : SetAt (putS w2 p g) q f :=
  h.kept (kp_puts (S := fun b => b = p) (Kp.refl _ w2) (fun _ => rfl) g) (by have := World.block_lt_of_cell? w1 _ (h1.cell 0 (by decide)); simp only at this; omega)
theorem not_back (w : World) (f : Nat → Bool) : Calls Try.prog 11 #[sv fun x => !f x] w fun e w' => e = .returned (sv f) ∧ Kp No w w' := by
  have := not_any w (fun x => !f x)
  rw [not_not f] at this
  exact this
theorem cnt_full (w : World) : Calls Try.prog 12 #[sv fun _ => true] w fun e w' => e = .returned (.int .i64 256) ∧ Kp No w w' := by
  have := count_any w (fun _ => true)
  rw [cnt_all] at this
  exact this
theorem or_back (w : World) (f g : Nat → Bool) : Calls Try.prog 17 #[sv g, sv f] w fun e w' => e = .returned (sv fun x => f x || g x) ∧ Kp No w w' := by
  have := or_any w g f
  rw [or_comm' f g] at this
  exact this
theorem or_same (w : World) (f : Nat → Bool) : Calls Try.prog 17 #[sv f, sv f] w fun e w' => e = .returned (sv f) ∧ Kp No w w' := by
  have := or_any w f f
  rw [or_self' f] at this
  exact this

set_option maxRecDepth 100000 in
set_option maxHeartbeats 4000000 in
theorem classRules_any (w : World) (f g : Nat → Bool) (b : Nat) (hb : b < 256) (hm : Mx w) :
    Calls Try.prog 5 #[sv f, sv g, .int .u8 (b : Int)] w fun e w' => e = .returned (.bool true) ∧ Kp No w w' := by
  obtain ⟨W0, hW0⟩ : ∃ W0, (w.alloc (.cells #[.int .u64 (wd f 0 64 : Nat), .int .u64 (wd f 64 64 : Nat), .int .u64 (wd f 128 64 : Nat), .int .u64 (wd f 192 64 : Nat)] 24)).alloc (.cells #[.int .u64 (wd g 0 64 : Nat), .int .u64 (wd g 64 64 : Nat), .int .u64 (wd g 128 64 : Nat), .int .u64 (wd g 192 64 : Nat)] 24) = W0 := ⟨_, rfl⟩
  have HK0 : Hid (Kp No w W0) := Hid_mk (by rw [← hW0]; exact ((Kp.refl No w).alloc _).alloc _)
  have HS0 : Hid (SetAt W0 w.heap.size f) := Hid_mk (by rw [← hW0]; exact (SetAt.made w f).kept ((Kp.refl No _).alloc _) id)
  have HT0 : Hid (SetAt W0 (w.heap.size + 1) g) := Hid_mk (by
    rw [← hW0]
    have := SetAt.made (w.alloc (.cells #[.int .u64 (wd f 0 64 : Nat), .int .u64 (wd f 64 64 : Nat), .int .u64 (wd f 128 64 : Nat), .int .u64 (wd f 192 64 : Nat)] 24)) g
    simpa using this)
  have HW0 := Hid_mk hW0
  have HM := Hid_mk hm
  obtain ⟨q1, hq1⟩ : ∃ q, w.heap.size = q := ⟨_, rfl⟩
  rw [hq1] at HS0 HT0
  have HQ1 := Hid_mk hq1
  have HN := Hid_mk fun W => not_any W f
  have HO1 := Hid_mk fun W => or_all W f
  clear hW0 hm hq1
  go_enter Try.func5, Try.ntmps5
  unfold sv
  go_wp2_with fail
  rw [HW0.out]
  rw [HQ1.out]
  clear HW0 HQ1
  have HSd := Hid_mk (HS0.out.no (Kp.refl No W0).drew)
  have HTd := Hid_mk (HT0.out.no (Kp.refl No W0).drew)
  have HKd := Hid_mk (HK0.out.drew)
  go_cut [7] from 8 (fun s7 wc => ∃ q3, s7 = .pointer (some ⟨q3, 0, none⟩) ∧ SetAt wc q1 f ∧ SetAt wc (q1 + 1) g ∧ SetAt wc q3 (fun _ => true) ∧ Kp No w wc)
  case first =>
    obtain ⟨s0, s1, s2, s3⟩ := HS0.out.cells
    have a0 := fun o => ((Kp.refl No W0).alloc o).cell' s0 id
    have a1 := fun o => ((Kp.refl No W0).alloc o).cell' s1 id
    have a2 := fun o => ((Kp.refl No W0).alloc o).cell' s2 id
    have a3 := fun o => ((Kp.refl No W0).alloc o).cell' s3 id
    go_region_with (first
        | (go_at_call 11; with_reducible refine (HN.out _).mono ?_; rintro e w1 ⟨rfl, k1⟩; first | (have HS1 := Hid_mk (HSd.out.no k1); have HT1 := Hid_mk (HTd.out.no k1); have HK1 := Hid_mk (HKd.out.trans' k1); obtain ⟨t0, t1, t2, t3⟩ := HS1.out.cells; have b0 := fun o => ((Kp.refl No w1).alloc o).cell' t0 id; have b1 := fun o => ((Kp.refl No w1).alloc o).cell' t1 id; have b2 := fun o => ((Kp.refl No w1).alloc o).cell' t2 id; have b3 := fun o => ((Kp.refl No w1).alloc o).cell' t3 id; clear k1) | (have HZ1 := Hid_mk (((SetAt.zero W0).no (Kp.refl No _).drew).no k1); replace k1 := (((Kp.refl No W0).alloc (.cells #[.int .u64 0, .int .u64 0, .int .u64 0, .int .u64 0] 24)).drew).trans' k1; have HS1 := Hid_mk (HS0.out.no k1); have HT1 := Hid_mk (HT0.out.no k1); have HK1 := Hid_mk (HK0.out.trans' k1); obtain ⟨t0, t1, t2, t3⟩ := HS1.out.cells; have b0 := fun o => ((Kp.refl No w1).alloc o).cell' t0 id; have b1 := fun o => ((Kp.refl No w1).alloc o).cell' t1 id; have b2 := fun o => ((Kp.refl No w1).alloc o).cell' t2 id; have b3 := fun o => ((Kp.refl No w1).alloc o).cell' t3 id; clear k1))
        | (go_at_call 17; with_reducible refine (HO1.out _).mono ?_; rintro e w2 ⟨rfl, k2⟩; first | (have HZ2 := Hid_mk (HZ1.out.no k2); obtain ⟨y0, y1, y2, y3⟩ := HZ2.out.cells; have yw := HZ2.out.warm; have HS2 := Hid_mk (HS1.out.no k2); have HT2 := Hid_mk (HT1.out.no k2); have HK2 := Hid_mk (HK1.out.trans' k2); clear k2) | (have HS2 := Hid_mk (HS1.out.no k2); have HT2 := Hid_mk (HT1.out.no k2); have HK2 := Hid_mk (HK1.out.trans' k2); clear k2) | (have HZ2 := Hid_mk ((SetAt.zero w1).no k2); obtain ⟨y0, y1, y2, y3⟩ := HZ2.out.cells; have yw := HZ2.out.warm; replace k2 := ((Kp.refl No w1).alloc (.cells #[.int .u64 0, .int .u64 0, .int .u64 0, .int .u64 0] 24)).trans' k2; have HS2 := Hid_mk (HS1.out.no k2); have HT2 := Hid_mk (HT1.out.no k2); have HK2 := Hid_mk (HK1.out.trans' k2); clear k2)))
    all_goals
      go_wp2_with fail
      go_meet
      case rel =>
        first
          | exact ⟨w2.heap.size, rfl, HS2.out.no ((Kp.refl No w2).alloc _), HT2.out.no ((Kp.refl No w2).alloc _), SetAt.made w2 _, HK2.out.alloc _⟩
          | exact ⟨w1.heap.size, rfl, put_at HS2.out HS1.out _ _, put_at HT2.out HT1.out _ _, HZ2.out.puts _, kp_puts HK2.out (fun h => by have := HK1.out.size; omega) _⟩
          | exact ⟨W0.heap.size, rfl, put_at HS2.out HS0.out _ _, put_at HT2.out HT0.out _ _, HZ2.out.puts _, kp_puts HK2.out (fun h => by have := HK0.out.size; omega) _⟩
  case rest =>
    obtain ⟨q3, rfl, hc1, hc2, hc3, hk3⟩ := hcut
    have HC0 := Hid_mk (show Cur w wc q1 f g q3 from ⟨hc1, hc2, hc3, hk3⟩)
    obtain ⟨W1, hW1⟩ : ∃ W1, W1 = wc := ⟨_, rfl⟩
    rw [← hW1] at HC0 ⊢
    clear hc1 hc2 hc3 hk3 hW1 HS0 HT0 HK0 HSd HTd HKd HN HO1
    have HC := Hid_mk (HC0.out.no (Kp.refl No W1).drew)
    have hkeep : ∀ W, Cur w W q1 f g q3 → (W.cell? ⟨q1, 0, none⟩ = some (.int .u64 (wd f 0 64 : Nat)) ∧ W.cell? ⟨q1, 1, none⟩ = some (.int .u64 (wd f 64 64 : Nat)) ∧ W.cell? ⟨q1, 2, none⟩ = some (.int .u64 (wd f 128 64 : Nat)) ∧ W.cell? ⟨q1, 3, none⟩ = some (.int .u64 (wd f 192 64 : Nat)) ∧ W.cell? ⟨(q1 + 1), 0, none⟩ = some (.int .u64 (wd g 0 64 : Nat)) ∧ W.cell? ⟨(q1 + 1), 1, none⟩ = some (.int .u64 (wd g 64 64 : Nat)) ∧ W.cell? ⟨(q1 + 1), 2, none⟩ = some (.int .u64 (wd g 128 64 : Nat)) ∧ W.cell? ⟨(q1 + 1), 3, none⟩ = some (.int .u64 (wd g 192 64 : Nat)) ∧ W.cell? ⟨q3, 0, none⟩ = some (.int .u64 (wd (fun _ => true) 0 64 : Nat)) ∧ W.cell? ⟨q3, 1, none⟩ = some (.int .u64 (wd (fun _ => true) 64 64 : Nat)) ∧ W.cell? ⟨q3, 2, none⟩ = some (.int .u64 (wd (fun _ => true) 128 64 : Nat)) ∧ W.cell? ⟨q3, 3, none⟩ = some (.int .u64 (wd (fun _ => true) 192 64 : Nat))) := fun W h =>
      ⟨h.s.cell 0 (by decide), h.s.cell 1 (by decide), h.s.cell 2 (by decide), h.s.cell 3 (by decide), h.t.cell 0 (by decide), h.t.cell 1 (by decide), h.t.cell 2 (by decide), h.t.cell 3 (by decide), h.a.cell 0 (by decide), h.a.cell 1 (by decide), h.a.cell 2 (by decide), h.a.cell 3 (by decide)⟩
    have HKeep := Hid_mk hkeep
    have hS := hkeep _ HC.out
    clear hkeep HC0
    obtain ⟨p, hP⟩ : ∃ p, f b = p := ⟨_, rfl⟩
    obtain ⟨r, hR⟩ : ∃ r, g b = r := ⟨_, rfl⟩
    have HKn := Hid_mk fun W (h : Mx W) => known_any W h
    have HNf := Hid_mk fun W => not_any W f
    have HNn := Hid_mk fun W => not_back W f
    have HCa := Hid_mk fun W => cnt_full W
    have HCf := Hid_mk fun W => count_any W f
    have HCn := Hid_mk fun W => count_any W (fun x => !f x)
    have HOfg := Hid_mk fun W => or_any W f g
    have HOgf := Hid_mk fun W => or_back W f g
    have HOff := Hid_mk fun W => or_same W f
    have HHor : Hid (∀ W, Calls Try.prog 13 #[sv (fun x => f x || g x), .int .u8 (b : Int)] W fun e w' => e = .returned (.bool (p || r)) ∧ Kp No W w') := Hid_mk fun W => by have h := has_any W (fun x => f x || g x) b hb; simp only [hP, hR] at h; exact h
    have HHf : Hid (∀ W, Calls Try.prog 13 #[sv f, .int .u8 (b : Int)] W fun e w' => e = .returned (.bool p) ∧ Kp No W w') := Hid_mk fun W => by have h := has_any W f b hb; rw [hP] at h; exact h
    have HHg : Hid (∀ W, Calls Try.prog 13 #[sv g, .int .u8 (b : Int)] W fun e w' => e = .returned (.bool r) ∧ Kp No W w') := Hid_mk fun W => by have h := has_any W g b hb; rw [hR] at h; exact h
    have HHn : Hid (∀ W, Calls Try.prog 13 #[sv (fun x => !f x), .int .u8 (b : Int)] W fun e w' => e = .returned (.bool (!p)) ∧ Kp No W w') := Hid_mk fun W => by have h := has_any W (fun x => !f x) b hb; simp only [hP] at h; exact h
    have hEq := fun W => eq_self f W
    have hEq2 := fun W => eq_self (fun x => f x || g x) W
    have hcn := cnt_not f 0 256
    have l1 := cnt_le f 0 256
    have hsum : IntKind.i64.wrap ((cnt f 0 256 : Nat) + (cnt (fun x => !f x) 0 256 : Nat) : Int) = 256 := by rw [IntWalk.i64_in _ (by omega)]; omega
    generalize cnt f 0 256 = n1 at *
    generalize cnt (fun x => !f x) 0 256 = n2 at *
    clear hcn l1
    clear hP hR
    cases p
    · cases r
      all_goals
        go_wp2_with fail
        go_region_held3 (fun V => V.cell? ⟨q1, 0, none⟩ = some (.int .u64 (wd f 0 64 : Nat)) ∧ V.cell? ⟨q1, 1, none⟩ = some (.int .u64 (wd f 64 64 : Nat)) ∧ V.cell? ⟨q1, 2, none⟩ = some (.int .u64 (wd f 128 64 : Nat)) ∧ V.cell? ⟨q1, 3, none⟩ = some (.int .u64 (wd f 192 64 : Nat)) ∧ V.cell? ⟨(q1 + 1), 0, none⟩ = some (.int .u64 (wd g 0 64 : Nat)) ∧ V.cell? ⟨(q1 + 1), 1, none⟩ = some (.int .u64 (wd g 64 64 : Nat)) ∧ V.cell? ⟨(q1 + 1), 2, none⟩ = some (.int .u64 (wd g 128 64 : Nat)) ∧ V.cell? ⟨(q1 + 1), 3, none⟩ = some (.int .u64 (wd g 192 64 : Nat)) ∧ V.cell? ⟨q3, 0, none⟩ = some (.int .u64 (wd (fun _ => true) 0 64 : Nat)) ∧ V.cell? ⟨q3, 1, none⟩ = some (.int .u64 (wd (fun _ => true) 64 64 : Nat)) ∧ V.cell? ⟨q3, 2, none⟩ = some (.int .u64 (wd (fun _ => true) 128 64 : Nat)) ∧ V.cell? ⟨q3, 3, none⟩ = some (.int .u64 (wd (fun _ => true) 192 64 : Nat)))
          (first | (dsimp only; exact hS) | go_keep)
          (first
            | (go_at_call 9; with_reducible refine (HKn.out _ (HM.out.no HC.out.k)).mono ?_; rintro e wn ⟨rfl, kn⟩; replace HC := Hid_mk (HC.out.no kn); replace hS := HKeep.out _ HC.out; clear kn)
            | (go_at_call 11; with_reducible refine (HNf.out _).mono ?_; rintro e wn ⟨rfl, kn⟩; replace HC := Hid_mk (HC.out.no kn); replace hS := HKeep.out _ HC.out; clear kn)
            | (go_at_call 11; with_reducible refine (HNn.out _).mono ?_; rintro e wn ⟨rfl, kn⟩; replace HC := Hid_mk (HC.out.no kn); replace hS := HKeep.out _ HC.out; clear kn)
            | (go_at_call 12; with_reducible refine (HCa.out _).mono ?_; rintro e wn ⟨rfl, kn⟩; replace HC := Hid_mk (HC.out.no kn); replace hS := HKeep.out _ HC.out; clear kn)
            | (go_at_call 12; with_reducible refine (HCf.out _).mono ?_; rintro e wn ⟨rfl, kn⟩; replace HC := Hid_mk (HC.out.no kn); replace hS := HKeep.out _ HC.out; clear kn)
            | (go_at_call 12; with_reducible refine (HCn.out _).mono ?_; rintro e wn ⟨rfl, kn⟩; replace HC := Hid_mk (HC.out.no kn); replace hS := HKeep.out _ HC.out; clear kn)
            | (go_at_call 17; with_reducible refine (HOfg.out _).mono ?_; rintro e wn ⟨rfl, kn⟩; replace HC := Hid_mk (HC.out.no kn); replace hS := HKeep.out _ HC.out; clear kn)
            | (go_at_call 17; with_reducible refine (HOff.out _).mono ?_; rintro e wn ⟨rfl, kn⟩; replace HC := Hid_mk (HC.out.no kn); replace hS := HKeep.out _ HC.out; clear kn)
            | (go_at_call 17; with_reducible refine (HOgf.out _).mono ?_; rintro e wn ⟨rfl, kn⟩; replace HC := Hid_mk (HC.out.no kn); replace hS := HKeep.out _ HC.out; clear kn)
            | (go_at_call 13; with_reducible refine (HHor.out _).mono ?_; rintro e wn ⟨rfl, kn⟩; replace HC := Hid_mk (HC.out.no kn); replace hS := HKeep.out _ HC.out; clear kn)
            | (go_at_call 13; with_reducible refine (HHf.out _).mono ?_; rintro e wn ⟨rfl, kn⟩; replace HC := Hid_mk (HC.out.no kn); replace hS := HKeep.out _ HC.out; clear kn)
            | (go_at_call 13; with_reducible refine (HHn.out _).mono ?_; rintro e wn ⟨rfl, kn⟩; replace HC := Hid_mk (HC.out.no kn); replace hS := HKeep.out _ HC.out; clear kn)
            | (go_at_call 13; with_reducible refine (HHg.out _).mono ?_; rintro e wn ⟨rfl, kn⟩; replace HC := Hid_mk (HC.out.no kn); replace hS := HKeep.out _ HC.out; clear kn))
        all_goals
          go_wp2
          go_ret
          exact ⟨by simp, HC.out.k⟩
    · simp only [Bool.true_or] at HHor
      simp only [Bool.not_true] at HHn
      go_wp2_with fail
      refine wp_region_held_drew (S := (fun V => V.cell? ⟨q1, 0, none⟩ = some (.int .u64 (wd f 0 64 : Nat)) ∧ V.cell? ⟨q1, 1, none⟩ = some (.int .u64 (wd f 64 64 : Nat)) ∧ V.cell? ⟨q1, 2, none⟩ = some (.int .u64 (wd f 128 64 : Nat)) ∧ V.cell? ⟨q1, 3, none⟩ = some (.int .u64 (wd f 192 64 : Nat)) ∧ V.cell? ⟨(q1 + 1), 0, none⟩ = some (.int .u64 (wd g 0 64 : Nat)) ∧ V.cell? ⟨(q1 + 1), 1, none⟩ = some (.int .u64 (wd g 64 64 : Nat)) ∧ V.cell? ⟨(q1 + 1), 2, none⟩ = some (.int .u64 (wd g 128 64 : Nat)) ∧ V.cell? ⟨(q1 + 1), 3, none⟩ = some (.int .u64 (wd g 192 64 : Nat)) ∧ V.cell? ⟨q3, 0, none⟩ = some (.int .u64 (wd (fun _ => true) 0 64 : Nat)) ∧ V.cell? ⟨q3, 1, none⟩ = some (.int .u64 (wd (fun _ => true) 64 64 : Nat)) ∧ V.cell? ⟨q3, 2, none⟩ = some (.int .u64 (wd (fun _ => true) 128 64 : Nat)) ∧ V.cell? ⟨q3, 3, none⟩ = some (.int .u64 (wd (fun _ => true) 192 64 : Nat)))) (by kernel_rfl) (by first | exact hS | (dsimp only; exact hS)) (fun hHeld => ?_)
      clear hHeld; have hHeld := hS
      refine wpAnyH_ready (rs := [0]) (by kernel_rfl) (by simp) ?_
      refine AllReadyH.cons (o := { dst := some 12, op := Op.call { callee := Callee.value (Operand.func 9), args := #[], argTypes := #[] }, type := 4, pos := "law.go:70", after := #[], guard := none }) rfl (fun K hK => ?_) AllReadyH.nil
      go_simp
      with_reducible refine (HKn.out _ (HM.out.no HC.out.k)).mono ?_
      rintro e wn ⟨rfl, kn⟩
      replace HC := Hid_mk (HC.out.no kn); replace hS := HKeep.out _ HC.out; clear kn
      refine hK.out _ _ hS (fun hHeld => ?_)
      clear hK K hHeld
      have hHeld := hS
      try simp only [Act.put, List.setIfInBounds_toArray, List.set_cons_zero, List.set_cons_succ]
      refine wpAnyH_take (i := 1) (oi := { dst := some 13, op := Op.move (Operand.tmp 12), type := 4, pos := "law.go:70", after := #[{ on := 0, ground := Ground.data }, { on := 0, ground := Ground.chain }], guard := none }) (v := ?_) rfl (by kernel_rfl) (by kernel_rfl) (by kernel_rfl) (fun _ _ _ h => h) (Or.inl ⟨by rfl, ?_⟩) (by assumption) ?_
      rotate_left 1
      · intro w hSw; (try dsimp only at hSw); go_simp; all_goals (with_reducible rfl)
      try simp only [Act.put, List.setIfInBounds_toArray, List.set_cons_zero, List.set_cons_succ]
      refine wpAnyH_take (i := 2) (oi := { dst := some 14, op := Op.load 24 (Operand.tmp 3), type := 24, pos := "law.go:70", after := #[{ on := 1, ground := Ground.guard }], guard := some (1, true) }) (v := ?_) rfl (by kernel_rfl) (by kernel_rfl) (by kernel_rfl) (fun _ _ _ h => h) (Or.inl ⟨by rfl, ?_⟩) (by assumption) ?_
      rotate_left 1
      · intro w hSw; (try dsimp only at hSw); go_simp; all_goals (with_reducible rfl)
      try simp only [Act.put, List.setIfInBounds_toArray, List.set_cons_zero, List.set_cons_succ]
      refine wpAnyH_take (i := 5) (oi := { dst := some 17, op := Op.load 24 (Operand.tmp 3), type := 24, pos := "law.go:70", after := #[{ on := 1, ground := Ground.guard }], guard := some (1, true) }) (v := ?_) rfl (by kernel_rfl) (by kernel_rfl) (by kernel_rfl) (fun _ _ _ h => h) (Or.inl ⟨by rfl, ?_⟩) (by assumption) ?_
      rotate_left 1
      · intro w hSw; (try dsimp only at hSw); go_simp; all_goals (with_reducible rfl)
      try simp only [Act.put, List.setIfInBounds_toArray, List.set_cons_zero, List.set_cons_succ]
      refine wpAnyH_ready (rs := [3]) (by kernel_rfl) (by simp) ?_
      refine AllReadyH.cons (o := { dst := some 15, op := Op.call { callee := Callee.value (Operand.func 11), args := #[Operand.tmp 14], argTypes := #[24] }, type := 24, pos := "law.go:70", after := #[{ on := 2, ground := Ground.data }, { on := 1, ground := Ground.chain }, { on := 1, ground := Ground.guard }], guard := some (1, true) }) rfl (fun K hK => ?_) AllReadyH.nil
      go_simp
      with_reducible refine (HNf.out _).mono ?_
      rintro e wn ⟨rfl, kn⟩
      replace HC := Hid_mk (HC.out.no kn); replace hS := HKeep.out _ HC.out; clear kn
      refine hK.out _ _ hS (fun hHeld => ?_)
      clear hK K hHeld
      have hHeld := hS
      try simp only [Act.put, List.setIfInBounds_toArray, List.set_cons_zero, List.set_cons_succ]
      refine wpAnyH_ready (rs := [4]) (by kernel_rfl) (by simp) ?_
      refine AllReadyH.cons (o := { dst := some 16, op := Op.call { callee := Callee.value (Operand.func 11), args := #[Operand.tmp 15], argTypes := #[24] }, type := 24, pos := "law.go:70", after := #[{ on := 3, ground := Ground.data }, { on := 3, ground := Ground.chain }, { on := 1, ground := Ground.guard }], guard := some (1, true) }) rfl (fun K hK => ?_) AllReadyH.nil
      go_simp
      with_reducible refine (HNn.out _).mono ?_
      rintro e wn ⟨rfl, kn⟩
      replace HC := Hid_mk (HC.out.no kn); replace hS := HKeep.out _ HC.out; clear kn
      refine hK.out _ _ hS (fun hHeld => ?_)
      clear hK K hHeld
      have hHeld := hS
      try simp only [Act.put, List.setIfInBounds_toArray, List.set_cons_zero, List.set_cons_succ]
      refine wpAnyH_take (i := 6) (oi := { dst := some 18, op := Op.binOp BinOp.eql 24 (Operand.tmp 16) (Operand.tmp 17) 24, type := 4, pos := "law.go:70", after := #[{ on := 4, ground := Ground.data }, { on := 5, ground := Ground.data }, { on := 1, ground := Ground.guard }], guard := some (1, true) }) (v := ?_) rfl (by kernel_rfl) (by kernel_rfl) (by kernel_rfl) (fun _ _ _ h => h) (Or.inl ⟨by rfl, ?_⟩) (by assumption) ?_
      rotate_left 1
      · intro w hSw; (try dsimp only at hSw); go_simp; all_goals (with_reducible rfl)
      try simp only [Act.put, List.setIfInBounds_toArray, List.set_cons_zero, List.set_cons_succ]
      refine wpAnyH_take (i := 7) (oi := { dst := some 19, op := Op.pick (Operand.tmp 13) (Operand.tmp 18) (Operand.const (Value.bool false)), type := 4, pos := "law.go:70", after := #[{ on := 1, ground := Ground.data }, { on := 6, ground := Ground.data }], guard := none }) (v := ?_) rfl (by kernel_rfl) (by kernel_rfl) (by kernel_rfl) (fun _ _ _ h => h) (Or.inl ⟨by rfl, ?_⟩) (by assumption) ?_
      rotate_left 1
      · intro w hSw; (try dsimp only at hSw); go_simp; all_goals (with_reducible rfl)
      try simp only [Act.put, List.setIfInBounds_toArray, List.set_cons_zero, List.set_cons_succ]
      refine wpAnyH_take (i := 8) (oi := { dst := some 20, op := Op.move (Operand.tmp 19), type := 4, pos := "law.go:70", after := #[{ on := 7, ground := Ground.data }, { on := 4, ground := Ground.chain }], guard := none }) (v := ?_) rfl (by kernel_rfl) (by kernel_rfl) (by kernel_rfl) (fun _ _ _ h => h) (Or.inl ⟨by rfl, ?_⟩) (by assumption) ?_
      rotate_left 1
      · intro w hSw; (try dsimp only at hSw); go_simp; all_goals (with_reducible rfl)
      try simp only [Act.put, List.setIfInBounds_toArray, List.set_cons_zero, List.set_cons_succ]
      refine wpAnyH_take (i := 9) (oi := { dst := some 21, op := Op.load 24 (Operand.tmp 7), type := 24, pos := "law.go:70", after := #[{ on := 8, ground := Ground.guard }], guard := some (8, true) }) (v := ?_) rfl (by kernel_rfl) (by kernel_rfl) (by kernel_rfl) (fun _ _ _ h => h) (Or.inl ⟨by rfl, ?_⟩) (by assumption) ?_
      rotate_left 1
      · intro w hSw; (try dsimp only at hSw); go_simp; all_goals (with_reducible rfl)
      try simp only [Act.put, List.setIfInBounds_toArray, List.set_cons_zero, List.set_cons_succ]
      refine wpAnyH_ready (rs := [10]) (by kernel_rfl) (by simp) ?_
      refine AllReadyH.cons (o := { dst := some 22, op := Op.call { callee := Callee.value (Operand.func 12), args := #[Operand.tmp 21], argTypes := #[24] }, type := 3, pos := "law.go:70", after := #[{ on := 9, ground := Ground.data }, { on := 8, ground := Ground.chain }, { on := 8, ground := Ground.guard }], guard := some (8, true) }) rfl (fun K hK => ?_) AllReadyH.nil
      go_simp
      with_reducible refine (HCa.out _).mono ?_
      rintro e wn ⟨rfl, kn⟩
      replace HC := Hid_mk (HC.out.no kn); replace hS := HKeep.out _ HC.out; clear kn
      refine hK.out _ _ hS (fun hHeld => ?_)
      clear hK K hHeld
      have hHeld := hS
      try simp only [Act.put, List.setIfInBounds_toArray, List.set_cons_zero, List.set_cons_succ]
      refine wpAnyH_take (i := 11) (oi := { dst := some 23, op := Op.binOp BinOp.eql 3 (Operand.tmp 22) (Operand.const (Value.int IntKind.i64 256)) 3, type := 4, pos := "law.go:70", after := #[{ on := 10, ground := Ground.data }, { on := 8, ground := Ground.guard }], guard := some (8, true) }) (v := ?_) rfl (by kernel_rfl) (by kernel_rfl) (by kernel_rfl) (fun _ _ _ h => h) (Or.inl ⟨by rfl, ?_⟩) (by assumption) ?_
      rotate_left 1
      · intro w hSw; (try dsimp only at hSw); go_simp; all_goals (with_reducible rfl)
      try simp only [Act.put, List.setIfInBounds_toArray, List.set_cons_zero, List.set_cons_succ]
      refine wpAnyH_take (i := 12) (oi := { dst := some 24, op := Op.pick (Operand.tmp 20) (Operand.tmp 23) (Operand.const (Value.bool false)), type := 4, pos := "law.go:70", after := #[{ on := 8, ground := Ground.data }, { on := 11, ground := Ground.data }], guard := none }) (v := ?_) rfl (by kernel_rfl) (by kernel_rfl) (by kernel_rfl) (fun _ _ _ h => h) (Or.inl ⟨by rfl, ?_⟩) (by assumption) ?_
      rotate_left 1
      · intro w hSw; (try dsimp only at hSw); go_simp; all_goals (with_reducible rfl)
      try simp only [Act.put, List.setIfInBounds_toArray, List.set_cons_zero, List.set_cons_succ]
      refine wpAnyH_take (i := 13) (oi := { dst := some 25, op := Op.move (Operand.tmp 24), type := 4, pos := "law.go:70", after := #[{ on := 12, ground := Ground.data }, { on := 10, ground := Ground.chain }], guard := none }) (v := ?_) rfl (by kernel_rfl) (by kernel_rfl) (by kernel_rfl) (fun _ _ _ h => h) (Or.inl ⟨by rfl, ?_⟩) (by assumption) ?_
      rotate_left 1
      · intro w hSw; (try dsimp only at hSw); go_simp; all_goals (with_reducible rfl)
      try simp only [Act.put, List.setIfInBounds_toArray, List.set_cons_zero, List.set_cons_succ]
      refine wpAnyH_take (i := 14) (oi := { dst := some 26, op := Op.load 24 (Operand.tmp 3), type := 24, pos := "law.go:70", after := #[{ on := 13, ground := Ground.guard }], guard := some (13, true) }) (v := ?_) rfl (by kernel_rfl) (by kernel_rfl) (by kernel_rfl) (fun _ _ _ h => h) (Or.inl ⟨by rfl, ?_⟩) (by assumption) ?_
      rotate_left 1
      · intro w hSw; (try dsimp only at hSw); go_simp; all_goals (with_reducible rfl)
      try simp only [Act.put, List.setIfInBounds_toArray, List.set_cons_zero, List.set_cons_succ]
      refine wpAnyH_take (i := 15) (oi := { dst := some 27, op := Op.load 24 (Operand.tmp 4), type := 24, pos := "law.go:70", after := #[{ on := 13, ground := Ground.guard }], guard := some (13, true) }) (v := ?_) rfl (by kernel_rfl) (by kernel_rfl) (by kernel_rfl) (fun _ _ _ h => h) (Or.inl ⟨by rfl, ?_⟩) (by assumption) ?_
      rotate_left 1
      · intro w hSw; (try dsimp only at hSw); go_simp; all_goals (with_reducible rfl)
      try simp only [Act.put, List.setIfInBounds_toArray, List.set_cons_zero, List.set_cons_succ]
      refine wpAnyH_take (i := 17) (oi := { dst := some 29, op := Op.load 24 (Operand.tmp 4), type := 24, pos := "law.go:70", after := #[{ on := 13, ground := Ground.guard }], guard := some (13, true) }) (v := ?_) rfl (by kernel_rfl) (by kernel_rfl) (by kernel_rfl) (fun _ _ _ h => h) (Or.inl ⟨by rfl, ?_⟩) (by assumption) ?_
      rotate_left 1
      · intro w hSw; (try dsimp only at hSw); go_simp; all_goals (with_reducible rfl)
      try simp only [Act.put, List.setIfInBounds_toArray, List.set_cons_zero, List.set_cons_succ]
      refine wpAnyH_take (i := 18) (oi := { dst := some 30, op := Op.load 24 (Operand.tmp 3), type := 24, pos := "law.go:70", after := #[{ on := 13, ground := Ground.guard }], guard := some (13, true) }) (v := ?_) rfl (by kernel_rfl) (by kernel_rfl) (by kernel_rfl) (fun _ _ _ h => h) (Or.inl ⟨by rfl, ?_⟩) (by assumption) ?_
      rotate_left 1
      · intro w hSw; (try dsimp only at hSw); go_simp; all_goals (with_reducible rfl)
      try simp only [Act.put, List.setIfInBounds_toArray, List.set_cons_zero, List.set_cons_succ]
      refine wpAnyH_ready (rs := [16]) (by kernel_rfl) (by simp) ?_
      refine AllReadyH.cons (o := { dst := some 28, op := Op.call { callee := Callee.value (Operand.func 17), args := #[Operand.tmp 26, Operand.tmp 27], argTypes := #[24, 24] }, type := 24, pos := "law.go:70", after := #[{ on := 14, ground := Ground.data }, { on := 15, ground := Ground.data }, { on := 13, ground := Ground.chain }, { on := 13, ground := Ground.guard }], guard := some (13, true) }) rfl (fun K hK => ?_) AllReadyH.nil
      go_simp
      with_reducible refine (HOfg.out _).mono ?_
      rintro e wn ⟨rfl, kn⟩
      replace HC := Hid_mk (HC.out.no kn); replace hS := HKeep.out _ HC.out; clear kn
      refine hK.out _ _ hS (fun hHeld => ?_)
      clear hK K hHeld
      have hHeld := hS
      try simp only [Act.put, List.setIfInBounds_toArray, List.set_cons_zero, List.set_cons_succ]
      refine wpAnyH_ready (rs := [19]) (by kernel_rfl) (by simp) ?_
      refine AllReadyH.cons (o := { dst := some 31, op := Op.call { callee := Callee.value (Operand.func 17), args := #[Operand.tmp 29, Operand.tmp 30], argTypes := #[24, 24] }, type := 24, pos := "law.go:70", after := #[{ on := 17, ground := Ground.data }, { on := 18, ground := Ground.data }, { on := 16, ground := Ground.chain }, { on := 13, ground := Ground.guard }], guard := some (13, true) }) rfl (fun K hK => ?_) AllReadyH.nil
      go_simp
      with_reducible refine (HOgf.out _).mono ?_
      rintro e wn ⟨rfl, kn⟩
      replace HC := Hid_mk (HC.out.no kn); replace hS := HKeep.out _ HC.out; clear kn
      refine hK.out _ _ hS (fun hHeld => ?_)
      clear hK K hHeld
      have hHeld := hS
      try simp only [Act.put, List.setIfInBounds_toArray, List.set_cons_zero, List.set_cons_succ]
      refine wpAnyH_take (i := 20) (oi := { dst := some 32, op := Op.binOp BinOp.eql 24 (Operand.tmp 28) (Operand.tmp 31) 24, type := 4, pos := "law.go:70", after := #[{ on := 16, ground := Ground.data }, { on := 19, ground := Ground.data }, { on := 13, ground := Ground.guard }], guard := some (13, true) }) (v := ?_) rfl (by kernel_rfl) (by kernel_rfl) (by kernel_rfl) (fun _ _ _ h => h) (Or.inl ⟨by rfl, ?_⟩) (by assumption) ?_
      rotate_left 1
      · intro w hSw; (try dsimp only at hSw); go_simp; all_goals (with_reducible rfl)
      try simp only [Act.put, List.setIfInBounds_toArray, List.set_cons_zero, List.set_cons_succ]
      refine wpAnyH_take (i := 21) (oi := { dst := some 33, op := Op.pick (Operand.tmp 25) (Operand.tmp 32) (Operand.const (Value.bool false)), type := 4, pos := "law.go:70", after := #[{ on := 13, ground := Ground.data }, { on := 20, ground := Ground.data }], guard := none }) (v := ?_) rfl (by kernel_rfl) (by kernel_rfl) (by kernel_rfl) (fun _ _ _ h => h) (Or.inl ⟨by rfl, ?_⟩) (by assumption) ?_
      rotate_left 1
      · intro w hSw; (try dsimp only at hSw); go_simp; all_goals (with_reducible rfl)
      try simp only [Act.put, List.setIfInBounds_toArray, List.set_cons_zero, List.set_cons_succ]
      refine wpAnyH_take (i := 22) (oi := { dst := some 34, op := Op.move (Operand.tmp 33), type := 4, pos := "law.go:70", after := #[{ on := 21, ground := Ground.data }, { on := 19, ground := Ground.chain }], guard := none }) (v := ?_) rfl (by kernel_rfl) (by kernel_rfl) (by kernel_rfl) (fun _ _ _ h => h) (Or.inl ⟨by rfl, ?_⟩) (by assumption) ?_
      rotate_left 1
      · intro w hSw; (try dsimp only at hSw); go_simp; all_goals (with_reducible rfl)
      try simp only [Act.put, List.setIfInBounds_toArray, List.set_cons_zero, List.set_cons_succ]
      refine wpAnyH_take (i := 23) (oi := { dst := some 35, op := Op.load 24 (Operand.tmp 3), type := 24, pos := "law.go:70", after := #[{ on := 22, ground := Ground.guard }], guard := some (22, true) }) (v := ?_) rfl (by kernel_rfl) (by kernel_rfl) (by kernel_rfl) (fun _ _ _ h => h) (Or.inl ⟨by rfl, ?_⟩) (by assumption) ?_
      rotate_left 1
      · intro w hSw; (try dsimp only at hSw); go_simp; all_goals (with_reducible rfl)
      try simp only [Act.put, List.setIfInBounds_toArray, List.set_cons_zero, List.set_cons_succ]
      refine wpAnyH_take (i := 24) (oi := { dst := some 36, op := Op.load 24 (Operand.tmp 3), type := 24, pos := "law.go:70", after := #[{ on := 22, ground := Ground.guard }], guard := some (22, true) }) (v := ?_) rfl (by kernel_rfl) (by kernel_rfl) (by kernel_rfl) (fun _ _ _ h => h) (Or.inl ⟨by rfl, ?_⟩) (by assumption) ?_
      rotate_left 1
      · intro w hSw; (try dsimp only at hSw); go_simp; all_goals (with_reducible rfl)
      try simp only [Act.put, List.setIfInBounds_toArray, List.set_cons_zero, List.set_cons_succ]
      refine wpAnyH_take (i := 26) (oi := { dst := some 38, op := Op.load 24 (Operand.tmp 3), type := 24, pos := "law.go:70", after := #[{ on := 22, ground := Ground.guard }], guard := some (22, true) }) (v := ?_) rfl (by kernel_rfl) (by kernel_rfl) (by kernel_rfl) (fun _ _ _ h => h) (Or.inl ⟨by rfl, ?_⟩) (by assumption) ?_
      rotate_left 1
      · intro w hSw; (try dsimp only at hSw); go_simp; all_goals (with_reducible rfl)
      try simp only [Act.put, List.setIfInBounds_toArray, List.set_cons_zero, List.set_cons_succ]
      refine wpAnyH_ready (rs := [25]) (by kernel_rfl) (by simp) ?_
      refine AllReadyH.cons (o := { dst := some 37, op := Op.call { callee := Callee.value (Operand.func 17), args := #[Operand.tmp 35, Operand.tmp 36], argTypes := #[24, 24] }, type := 24, pos := "law.go:70", after := #[{ on := 23, ground := Ground.data }, { on := 24, ground := Ground.data }, { on := 22, ground := Ground.chain }, { on := 22, ground := Ground.guard }], guard := some (22, true) }) rfl (fun K hK => ?_) AllReadyH.nil
      go_simp
      with_reducible refine (HOff.out _).mono ?_
      rintro e wn ⟨rfl, kn⟩
      replace HC := Hid_mk (HC.out.no kn); replace hS := HKeep.out _ HC.out; clear kn
      refine hK.out _ _ hS (fun hHeld => ?_)
      clear hK K hHeld
      have hHeld := hS
      try simp only [Act.put, List.setIfInBounds_toArray, List.set_cons_zero, List.set_cons_succ]
      refine wpAnyH_take (i := 27) (oi := { dst := some 39, op := Op.binOp BinOp.eql 24 (Operand.tmp 37) (Operand.tmp 38) 24, type := 4, pos := "law.go:70", after := #[{ on := 25, ground := Ground.data }, { on := 26, ground := Ground.data }, { on := 22, ground := Ground.guard }], guard := some (22, true) }) (v := ?_) rfl (by kernel_rfl) (by kernel_rfl) (by kernel_rfl) (fun _ _ _ h => h) (Or.inl ⟨by rfl, ?_⟩) (by assumption) ?_
      rotate_left 1
      · intro w hSw; (try dsimp only at hSw); go_simp; all_goals (with_reducible rfl)
      try simp only [Act.put, List.setIfInBounds_toArray, List.set_cons_zero, List.set_cons_succ]
      refine wpAnyH_take (i := 28) (oi := { dst := some 40, op := Op.pick (Operand.tmp 34) (Operand.tmp 39) (Operand.const (Value.bool false)), type := 4, pos := "law.go:70", after := #[{ on := 22, ground := Ground.data }, { on := 27, ground := Ground.data }], guard := none }) (v := ?_) rfl (by kernel_rfl) (by kernel_rfl) (by kernel_rfl) (fun _ _ _ h => h) (Or.inl ⟨by rfl, ?_⟩) (by assumption) ?_
      rotate_left 1
      · intro w hSw; (try dsimp only at hSw); go_simp; all_goals (with_reducible rfl)
      try simp only [Act.put, List.setIfInBounds_toArray, List.set_cons_zero, List.set_cons_succ]
      refine wpAnyH_take (i := 29) (oi := { dst := some 41, op := Op.move (Operand.tmp 40), type := 4, pos := "law.go:70", after := #[{ on := 28, ground := Ground.data }, { on := 25, ground := Ground.chain }], guard := none }) (v := ?_) rfl (by kernel_rfl) (by kernel_rfl) (by kernel_rfl) (fun _ _ _ h => h) (Or.inl ⟨by rfl, ?_⟩) (by assumption) ?_
      rotate_left 1
      · intro w hSw; (try dsimp only at hSw); go_simp; all_goals (with_reducible rfl)
      try simp only [Act.put, List.setIfInBounds_toArray, List.set_cons_zero, List.set_cons_succ]
      refine wpAnyH_take (i := 30) (oi := { dst := some 42, op := Op.load 24 (Operand.tmp 3), type := 24, pos := "law.go:70", after := #[{ on := 29, ground := Ground.guard }], guard := some (29, true) }) (v := ?_) rfl (by kernel_rfl) (by kernel_rfl) (by kernel_rfl) (fun _ _ _ h => h) (Or.inl ⟨by rfl, ?_⟩) (by assumption) ?_
      rotate_left 1
      · intro w hSw; (try dsimp only at hSw); go_simp; all_goals (with_reducible rfl)
      try simp only [Act.put, List.setIfInBounds_toArray, List.set_cons_zero, List.set_cons_succ]
      refine wpAnyH_take (i := 32) (oi := { dst := some 44, op := Op.load 24 (Operand.tmp 3), type := 24, pos := "law.go:70", after := #[{ on := 29, ground := Ground.guard }], guard := some (29, true) }) (v := ?_) rfl (by kernel_rfl) (by kernel_rfl) (by kernel_rfl) (fun _ _ _ h => h) (Or.inl ⟨by rfl, ?_⟩) (by assumption) ?_
      rotate_left 1
      · intro w hSw; (try dsimp only at hSw); go_simp; all_goals (with_reducible rfl)
      try simp only [Act.put, List.setIfInBounds_toArray, List.set_cons_zero, List.set_cons_succ]
      refine wpAnyH_ready (rs := [31]) (by kernel_rfl) (by simp) ?_
      refine AllReadyH.cons (o := { dst := some 43, op := Op.call { callee := Callee.value (Operand.func 12), args := #[Operand.tmp 42], argTypes := #[24] }, type := 3, pos := "law.go:70", after := #[{ on := 30, ground := Ground.data }, { on := 29, ground := Ground.chain }, { on := 29, ground := Ground.guard }], guard := some (29, true) }) rfl (fun K hK => ?_) AllReadyH.nil
      go_simp
      with_reducible refine (HCf.out _).mono ?_
      rintro e wn ⟨rfl, kn⟩
      replace HC := Hid_mk (HC.out.no kn); replace hS := HKeep.out _ HC.out; clear kn
      refine hK.out _ _ hS (fun hHeld => ?_)
      clear hK K hHeld
      have hHeld := hS
      try simp only [Act.put, List.setIfInBounds_toArray, List.set_cons_zero, List.set_cons_succ]
      refine wpAnyH_ready (rs := [33]) (by kernel_rfl) (by simp) ?_
      refine AllReadyH.cons (o := { dst := some 45, op := Op.call { callee := Callee.value (Operand.func 11), args := #[Operand.tmp 44], argTypes := #[24] }, type := 24, pos := "law.go:70", after := #[{ on := 32, ground := Ground.data }, { on := 31, ground := Ground.chain }, { on := 29, ground := Ground.guard }], guard := some (29, true) }) rfl (fun K hK => ?_) AllReadyH.nil
      go_simp
      with_reducible refine (HNf.out _).mono ?_
      rintro e wn ⟨rfl, kn⟩
      replace HC := Hid_mk (HC.out.no kn); replace hS := HKeep.out _ HC.out; clear kn
      refine hK.out _ _ hS (fun hHeld => ?_)
      clear hK K hHeld
      have hHeld := hS
      try simp only [Act.put, List.setIfInBounds_toArray, List.set_cons_zero, List.set_cons_succ]
      refine wpAnyH_ready (rs := [34]) (by kernel_rfl) (by simp) ?_
      refine AllReadyH.cons (o := { dst := some 46, op := Op.call { callee := Callee.value (Operand.func 12), args := #[Operand.tmp 45], argTypes := #[24] }, type := 3, pos := "law.go:70", after := #[{ on := 33, ground := Ground.data }, { on := 33, ground := Ground.chain }, { on := 29, ground := Ground.guard }], guard := some (29, true) }) rfl (fun K hK => ?_) AllReadyH.nil
      go_simp
      with_reducible refine (HCn.out _).mono ?_
      rintro e wn ⟨rfl, kn⟩
      replace HC := Hid_mk (HC.out.no kn); replace hS := HKeep.out _ HC.out; clear kn
      refine hK.out _ _ hS (fun hHeld => ?_)
      clear hK K hHeld
      have hHeld := hS
      try simp only [Act.put, List.setIfInBounds_toArray, List.set_cons_zero, List.set_cons_succ]
      refine wpAnyH_take (i := 35) (oi := { dst := some 47, op := Op.binOp BinOp.add 3 (Operand.tmp 43) (Operand.tmp 46) 3, type := 3, pos := "law.go:70", after := #[{ on := 31, ground := Ground.data }, { on := 34, ground := Ground.data }, { on := 29, ground := Ground.guard }], guard := some (29, true) }) (v := ?_) rfl (by kernel_rfl) (by kernel_rfl) (by kernel_rfl) (fun _ _ _ h => h) (Or.inl ⟨by rfl, ?_⟩) (by assumption) ?_
      rotate_left 1
      · intro w hSw; (try dsimp only at hSw); go_simp; all_goals (with_reducible rfl)
      try simp only [Act.put, List.setIfInBounds_toArray, List.set_cons_zero, List.set_cons_succ]
      refine wpAnyH_take (i := 36) (oi := { dst := some 48, op := Op.binOp BinOp.eql 3 (Operand.tmp 47) (Operand.const (Value.int IntKind.i64 256)) 3, type := 4, pos := "law.go:70", after := #[{ on := 35, ground := Ground.data }, { on := 29, ground := Ground.guard }], guard := some (29, true) }) (v := ?_) rfl (by kernel_rfl) (by kernel_rfl) (by kernel_rfl) (fun _ _ _ h => h) (Or.inl ⟨by rfl, ?_⟩) (by assumption) ?_
      rotate_left 1
      · intro w hSw; (try dsimp only at hSw); go_simp; all_goals (with_reducible rfl)
      try simp only [Act.put, List.setIfInBounds_toArray, List.set_cons_zero, List.set_cons_succ]
      refine wpAnyH_take (i := 37) (oi := { dst := some 49, op := Op.pick (Operand.tmp 41) (Operand.tmp 48) (Operand.const (Value.bool false)), type := 4, pos := "law.go:70", after := #[{ on := 29, ground := Ground.data }, { on := 36, ground := Ground.data }], guard := none }) (v := ?_) rfl (by kernel_rfl) (by kernel_rfl) (by kernel_rfl) (fun _ _ _ h => h) (Or.inl ⟨by rfl, ?_⟩) (by assumption) ?_
      rotate_left 1
      · intro w hSw; (try dsimp only at hSw); go_simp; all_goals (with_reducible rfl)
      try simp only [Act.put, List.setIfInBounds_toArray, List.set_cons_zero, List.set_cons_succ]
      refine wpAnyH_take (i := 38) (oi := { dst := some 50, op := Op.move (Operand.tmp 49), type := 4, pos := "law.go:70", after := #[{ on := 37, ground := Ground.data }, { on := 34, ground := Ground.chain }], guard := none }) (v := ?_) rfl (by kernel_rfl) (by kernel_rfl) (by kernel_rfl) (fun _ _ _ h => h) (Or.inl ⟨by rfl, ?_⟩) (by assumption) ?_
      rotate_left 1
      · intro w hSw; (try dsimp only at hSw); go_simp; all_goals (with_reducible rfl)
      try simp only [Act.put, List.setIfInBounds_toArray, List.set_cons_zero, List.set_cons_succ]
      refine wpAnyH_take (i := 39) (oi := { dst := some 51, op := Op.load 24 (Operand.tmp 3), type := 24, pos := "law.go:70", after := #[{ on := 38, ground := Ground.guard }], guard := some (38, true) }) (v := ?_) rfl (by kernel_rfl) (by kernel_rfl) (by kernel_rfl) (fun _ _ _ h => h) (Or.inl ⟨by rfl, ?_⟩) (by assumption) ?_
      rotate_left 1
      · intro w hSw; (try dsimp only at hSw); go_simp; all_goals (with_reducible rfl)
      try simp only [Act.put, List.setIfInBounds_toArray, List.set_cons_zero, List.set_cons_succ]
      refine wpAnyH_take (i := 40) (oi := { dst := some 52, op := Op.load 24 (Operand.tmp 4), type := 24, pos := "law.go:70", after := #[{ on := 38, ground := Ground.guard }], guard := some (38, true) }) (v := ?_) rfl (by kernel_rfl) (by kernel_rfl) (by kernel_rfl) (fun _ _ _ h => h) (Or.inl ⟨by rfl, ?_⟩) (by assumption) ?_
      rotate_left 1
      · intro w hSw; (try dsimp only at hSw); go_simp; all_goals (with_reducible rfl)
      try simp only [Act.put, List.setIfInBounds_toArray, List.set_cons_zero, List.set_cons_succ]
      refine wpAnyH_take (i := 42) (oi := { dst := some 54, op := Op.move (Operand.tmp 2), type := 5, pos := "law.go:70", after := #[{ on := 38, ground := Ground.guard }], guard := some (38, true) }) (v := ?_) rfl (by kernel_rfl) (by kernel_rfl) (by kernel_rfl) (fun _ _ _ h => h) (Or.inl ⟨by rfl, ?_⟩) (by assumption) ?_
      rotate_left 1
      · intro w hSw; (try dsimp only at hSw); go_simp; all_goals (with_reducible rfl)
      try simp only [Act.put, List.setIfInBounds_toArray, List.set_cons_zero, List.set_cons_succ]
      refine wpAnyH_take (i := 44) (oi := { dst := some 56, op := Op.load 24 (Operand.tmp 3), type := 24, pos := "law.go:70", after := #[{ on := 38, ground := Ground.guard }], guard := some (38, true) }) (v := ?_) rfl (by kernel_rfl) (by kernel_rfl) (by kernel_rfl) (fun _ _ _ h => h) (Or.inl ⟨by rfl, ?_⟩) (by assumption) ?_
      rotate_left 1
      · intro w hSw; (try dsimp only at hSw); go_simp; all_goals (with_reducible rfl)
      try simp only [Act.put, List.setIfInBounds_toArray, List.set_cons_zero, List.set_cons_succ]
      refine wpAnyH_take (i := 45) (oi := { dst := some 57, op := Op.move (Operand.tmp 2), type := 5, pos := "law.go:70", after := #[{ on := 38, ground := Ground.guard }], guard := some (38, true) }) (v := ?_) rfl (by kernel_rfl) (by kernel_rfl) (by kernel_rfl) (fun _ _ _ h => h) (Or.inl ⟨by rfl, ?_⟩) (by assumption) ?_
      rotate_left 1
      · intro w hSw; (try dsimp only at hSw); go_simp; all_goals (with_reducible rfl)
      try simp only [Act.put, List.setIfInBounds_toArray, List.set_cons_zero, List.set_cons_succ]
      refine wpAnyH_ready (rs := [41]) (by kernel_rfl) (by simp) ?_
      refine AllReadyH.cons (o := { dst := some 53, op := Op.call { callee := Callee.value (Operand.func 17), args := #[Operand.tmp 51, Operand.tmp 52], argTypes := #[24, 24] }, type := 24, pos := "law.go:70", after := #[{ on := 39, ground := Ground.data }, { on := 40, ground := Ground.data }, { on := 38, ground := Ground.chain }, { on := 38, ground := Ground.guard }], guard := some (38, true) }) rfl (fun K hK => ?_) AllReadyH.nil
      go_simp
      with_reducible refine (HOfg.out _).mono ?_
      rintro e wn ⟨rfl, kn⟩
      replace HC := Hid_mk (HC.out.no kn); replace hS := HKeep.out _ HC.out; clear kn
      refine hK.out _ _ hS (fun hHeld => ?_)
      clear hK K hHeld
      have hHeld := hS
      try simp only [Act.put, List.setIfInBounds_toArray, List.set_cons_zero, List.set_cons_succ]
      refine wpAnyH_ready (rs := [43]) (by kernel_rfl) (by simp) ?_
      refine AllReadyH.cons (o := { dst := some 55, op := Op.call { callee := Callee.value (Operand.func 13), args := #[Operand.tmp 53, Operand.tmp 54], argTypes := #[24, 5] }, type := 4, pos := "law.go:70", after := #[{ on := 41, ground := Ground.data }, { on := 42, ground := Ground.data }, { on := 41, ground := Ground.chain }, { on := 38, ground := Ground.guard }], guard := some (38, true) }) rfl (fun K hK => ?_) AllReadyH.nil
      go_simp
      with_reducible refine (HHor.out _).mono ?_
      rintro e wn ⟨rfl, kn⟩
      replace HC := Hid_mk (HC.out.no kn); replace hS := HKeep.out _ HC.out; clear kn
      refine hK.out _ _ hS (fun hHeld => ?_)
      clear hK K hHeld
      have hHeld := hS
      try simp only [Act.put, List.setIfInBounds_toArray, List.set_cons_zero, List.set_cons_succ]
      refine wpAnyH_ready (rs := [46]) (by kernel_rfl) (by simp) ?_
      refine AllReadyH.cons (o := { dst := some 58, op := Op.call { callee := Callee.value (Operand.func 13), args := #[Operand.tmp 56, Operand.tmp 57], argTypes := #[24, 5] }, type := 4, pos := "law.go:70", after := #[{ on := 44, ground := Ground.data }, { on := 45, ground := Ground.data }, { on := 43, ground := Ground.chain }, { on := 38, ground := Ground.guard }], guard := some (38, true) }) rfl (fun K hK => ?_) AllReadyH.nil
      go_simp
      with_reducible refine (HHf.out _).mono ?_
      rintro e wn ⟨rfl, kn⟩
      replace HC := Hid_mk (HC.out.no kn); replace hS := HKeep.out _ HC.out; clear kn
      refine hK.out _ _ hS (fun hHeld => ?_)
      clear hK K hHeld
      have hHeld := hS
      try simp only [Act.put, List.setIfInBounds_toArray, List.set_cons_zero, List.set_cons_succ]
      refine wpAnyH_take (i := 47) (oi := { dst := some 59, op := Op.move (Operand.tmp 58), type := 4, pos := "law.go:70", after := #[{ on := 46, ground := Ground.data }, { on := 46, ground := Ground.chain }, { on := 38, ground := Ground.guard }], guard := some (38, true) }) (v := ?_) rfl (by kernel_rfl) (by kernel_rfl) (by kernel_rfl) (fun _ _ _ h => h) (Or.inl ⟨by rfl, ?_⟩) (by assumption) ?_
      rotate_left 1
      · intro w hSw; (try dsimp only at hSw); go_simp; all_goals (with_reducible rfl)
      try simp only [Act.put, List.setIfInBounds_toArray, List.set_cons_zero, List.set_cons_succ]
      refine wpAnyH_take (i := 48) (oi := { dst := some 60, op := Op.load 24 (Operand.tmp 4), type := 24, pos := "law.go:70", after := #[{ on := 47, ground := Ground.guard }], guard := some (47, false) }) (v := undef) rfl (by kernel_rfl) (by kernel_rfl) (by kernel_rfl) (fun _ _ _ h => h) (Or.inr ⟨by rfl, rfl⟩) (by assumption) ?_
      try simp only [Act.put, List.setIfInBounds_toArray, List.set_cons_zero, List.set_cons_succ]
      refine wpAnyH_take (i := 49) (oi := { dst := some 61, op := Op.move (Operand.tmp 2), type := 5, pos := "law.go:70", after := #[{ on := 47, ground := Ground.guard }], guard := some (47, false) }) (v := undef) rfl (by kernel_rfl) (by kernel_rfl) (by kernel_rfl) (fun _ _ _ h => h) (Or.inr ⟨by rfl, rfl⟩) (by assumption) ?_
      try simp only [Act.put, List.setIfInBounds_toArray, List.set_cons_zero, List.set_cons_succ]
      refine wpAnyH_take (i := 50) (oi := { dst := some 62, op := Op.call { callee := Callee.value (Operand.func 13), args := #[Operand.tmp 60, Operand.tmp 61], argTypes := #[24, 5] }, type := 4, pos := "law.go:70", after := #[{ on := 48, ground := Ground.data }, { on := 49, ground := Ground.data }, { on := 47, ground := Ground.chain }, { on := 47, ground := Ground.guard }], guard := some (47, false) }) (v := undef) rfl (by kernel_rfl) (by kernel_rfl) (by kernel_rfl) (fun _ _ _ h => h) (Or.inr ⟨by rfl, rfl⟩) (by assumption) ?_
      try simp only [Act.put, List.setIfInBounds_toArray, List.set_cons_zero, List.set_cons_succ]
      refine wpAnyH_take (i := 51) (oi := { dst := some 63, op := Op.pick (Operand.tmp 59) (Operand.const (Value.bool true)) (Operand.tmp 62), type := 4, pos := "law.go:70", after := #[{ on := 47, ground := Ground.data }, { on := 50, ground := Ground.data }, { on := 38, ground := Ground.guard }], guard := some (38, true) }) (v := ?_) rfl (by kernel_rfl) (by kernel_rfl) (by kernel_rfl) (fun _ _ _ h => h) (Or.inl ⟨by rfl, ?_⟩) (by assumption) ?_
      rotate_left 1
      · intro w hSw; (try dsimp only at hSw); go_simp; all_goals (with_reducible rfl)
      try simp only [Act.put, List.setIfInBounds_toArray, List.set_cons_zero, List.set_cons_succ]
      refine wpAnyH_take (i := 52) (oi := { dst := some 64, op := Op.binOp BinOp.eql 4 (Operand.tmp 55) (Operand.tmp 63) 4, type := 4, pos := "law.go:70", after := #[{ on := 43, ground := Ground.data }, { on := 51, ground := Ground.data }, { on := 38, ground := Ground.guard }], guard := some (38, true) }) (v := ?_) rfl (by kernel_rfl) (by kernel_rfl) (by kernel_rfl) (fun _ _ _ h => h) (Or.inl ⟨by rfl, ?_⟩) (by assumption) ?_
      rotate_left 1
      · intro w hSw; (try dsimp only at hSw); go_simp; all_goals (with_reducible rfl)
      try simp only [Act.put, List.setIfInBounds_toArray, List.set_cons_zero, List.set_cons_succ]
      refine wpAnyH_take (i := 53) (oi := { dst := some 65, op := Op.pick (Operand.tmp 50) (Operand.tmp 64) (Operand.const (Value.bool false)), type := 4, pos := "law.go:70", after := #[{ on := 38, ground := Ground.data }, { on := 52, ground := Ground.data }], guard := none }) (v := ?_) rfl (by kernel_rfl) (by kernel_rfl) (by kernel_rfl) (fun _ _ _ h => h) (Or.inl ⟨by rfl, ?_⟩) (by assumption) ?_
      rotate_left 1
      · intro w hSw; (try dsimp only at hSw); go_simp; all_goals (with_reducible rfl)
      try simp only [Act.put, List.setIfInBounds_toArray, List.set_cons_zero, List.set_cons_succ]
      refine wpAnyH_take (i := 54) (oi := { dst := some 66, op := Op.move (Operand.tmp 65), type := 4, pos := "law.go:70", after := #[{ on := 53, ground := Ground.data }, { on := 50, ground := Ground.chain }], guard := none }) (v := ?_) rfl (by kernel_rfl) (by kernel_rfl) (by kernel_rfl) (fun _ _ _ h => h) (Or.inl ⟨by rfl, ?_⟩) (by assumption) ?_
      rotate_left 1
      · intro w hSw; (try dsimp only at hSw); go_simp; all_goals (with_reducible rfl)
      try simp only [Act.put, List.setIfInBounds_toArray, List.set_cons_zero, List.set_cons_succ]
      refine wpAnyH_take (i := 55) (oi := { dst := some 67, op := Op.load 24 (Operand.tmp 3), type := 24, pos := "law.go:70", after := #[{ on := 54, ground := Ground.guard }], guard := some (54, true) }) (v := ?_) rfl (by kernel_rfl) (by kernel_rfl) (by kernel_rfl) (fun _ _ _ h => h) (Or.inl ⟨by rfl, ?_⟩) (by assumption) ?_
      rotate_left 1
      · intro w hSw; (try dsimp only at hSw); go_simp; all_goals (with_reducible rfl)
      try simp only [Act.put, List.setIfInBounds_toArray, List.set_cons_zero, List.set_cons_succ]
      refine wpAnyH_take (i := 57) (oi := { dst := some 69, op := Op.move (Operand.tmp 2), type := 5, pos := "law.go:70", after := #[{ on := 54, ground := Ground.guard }], guard := some (54, true) }) (v := ?_) rfl (by kernel_rfl) (by kernel_rfl) (by kernel_rfl) (fun _ _ _ h => h) (Or.inl ⟨by rfl, ?_⟩) (by assumption) ?_
      rotate_left 1
      · intro w hSw; (try dsimp only at hSw); go_simp; all_goals (with_reducible rfl)
      try simp only [Act.put, List.setIfInBounds_toArray, List.set_cons_zero, List.set_cons_succ]
      refine wpAnyH_take (i := 59) (oi := { dst := some 71, op := Op.load 24 (Operand.tmp 3), type := 24, pos := "law.go:70", after := #[{ on := 54, ground := Ground.guard }], guard := some (54, true) }) (v := ?_) rfl (by kernel_rfl) (by kernel_rfl) (by kernel_rfl) (fun _ _ _ h => h) (Or.inl ⟨by rfl, ?_⟩) (by assumption) ?_
      rotate_left 1
      · intro w hSw; (try dsimp only at hSw); go_simp; all_goals (with_reducible rfl)
      try simp only [Act.put, List.setIfInBounds_toArray, List.set_cons_zero, List.set_cons_succ]
      refine wpAnyH_take (i := 60) (oi := { dst := some 72, op := Op.move (Operand.tmp 2), type := 5, pos := "law.go:70", after := #[{ on := 54, ground := Ground.guard }], guard := some (54, true) }) (v := ?_) rfl (by kernel_rfl) (by kernel_rfl) (by kernel_rfl) (fun _ _ _ h => h) (Or.inl ⟨by rfl, ?_⟩) (by assumption) ?_
      rotate_left 1
      · intro w hSw; (try dsimp only at hSw); go_simp; all_goals (with_reducible rfl)
      try simp only [Act.put, List.setIfInBounds_toArray, List.set_cons_zero, List.set_cons_succ]
      refine wpAnyH_ready (rs := [56]) (by kernel_rfl) (by simp) ?_
      refine AllReadyH.cons (o := { dst := some 68, op := Op.call { callee := Callee.value (Operand.func 11), args := #[Operand.tmp 67], argTypes := #[24] }, type := 24, pos := "law.go:70", after := #[{ on := 55, ground := Ground.data }, { on := 54, ground := Ground.chain }, { on := 54, ground := Ground.guard }], guard := some (54, true) }) rfl (fun K hK => ?_) AllReadyH.nil
      go_simp
      with_reducible refine (HNf.out _).mono ?_
      rintro e wn ⟨rfl, kn⟩
      replace HC := Hid_mk (HC.out.no kn); replace hS := HKeep.out _ HC.out; clear kn
      refine hK.out _ _ hS (fun hHeld => ?_)
      clear hK K hHeld
      have hHeld := hS
      try simp only [Act.put, List.setIfInBounds_toArray, List.set_cons_zero, List.set_cons_succ]
      refine wpAnyH_ready (rs := [58]) (by kernel_rfl) (by simp) ?_
      refine AllReadyH.cons (o := { dst := some 70, op := Op.call { callee := Callee.value (Operand.func 13), args := #[Operand.tmp 68, Operand.tmp 69], argTypes := #[24, 5] }, type := 4, pos := "law.go:70", after := #[{ on := 56, ground := Ground.data }, { on := 57, ground := Ground.data }, { on := 56, ground := Ground.chain }, { on := 54, ground := Ground.guard }], guard := some (54, true) }) rfl (fun K hK => ?_) AllReadyH.nil
      go_simp
      with_reducible refine (HHn.out _).mono ?_
      rintro e wn ⟨rfl, kn⟩
      replace HC := Hid_mk (HC.out.no kn); replace hS := HKeep.out _ HC.out; clear kn
      refine hK.out _ _ hS (fun hHeld => ?_)
      clear hK K hHeld
      have hHeld := hS
      try simp only [Act.put, List.setIfInBounds_toArray, List.set_cons_zero, List.set_cons_succ]
      refine wpAnyH_ready (rs := [61]) (by kernel_rfl) (by simp) ?_
      refine AllReadyH.cons (o := { dst := some 73, op := Op.call { callee := Callee.value (Operand.func 13), args := #[Operand.tmp 71, Operand.tmp 72], argTypes := #[24, 5] }, type := 4, pos := "law.go:70", after := #[{ on := 59, ground := Ground.data }, { on := 60, ground := Ground.data }, { on := 58, ground := Ground.chain }, { on := 54, ground := Ground.guard }], guard := some (54, true) }) rfl (fun K hK => ?_) AllReadyH.nil
      go_simp
      with_reducible refine (HHf.out _).mono ?_
      rintro e wn ⟨rfl, kn⟩
      replace HC := Hid_mk (HC.out.no kn); replace hS := HKeep.out _ HC.out; clear kn
      refine hK.out _ _ hS (fun hHeld => ?_)
      clear hK K hHeld
      have hHeld := hS
      try simp only [Act.put, List.setIfInBounds_toArray, List.set_cons_zero, List.set_cons_succ]
      refine wpAnyH_take (i := 62) (oi := { dst := some 74, op := Op.binOp BinOp.neq 4 (Operand.tmp 70) (Operand.tmp 73) 4, type := 4, pos := "law.go:70", after := #[{ on := 58, ground := Ground.data }, { on := 61, ground := Ground.data }, { on := 54, ground := Ground.guard }], guard := some (54, true) }) (v := ?_) rfl (by kernel_rfl) (by kernel_rfl) (by kernel_rfl) (fun _ _ _ h => h) (Or.inl ⟨by rfl, ?_⟩) (by assumption) ?_
      rotate_left 1
      · intro w hSw; (try dsimp only at hSw); go_simp; all_goals (with_reducible rfl)
      try simp only [Act.put, List.setIfInBounds_toArray, List.set_cons_zero, List.set_cons_succ]
      refine wpAnyH_take (i := 63) (oi := { dst := some 75, op := Op.pick (Operand.tmp 66) (Operand.tmp 74) (Operand.const (Value.bool false)), type := 4, pos := "law.go:70", after := #[{ on := 54, ground := Ground.data }, { on := 62, ground := Ground.data }], guard := none }) (v := ?_) rfl (by kernel_rfl) (by kernel_rfl) (by kernel_rfl) (fun _ _ _ h => h) (Or.inl ⟨by rfl, ?_⟩) (by assumption) ?_
      rotate_left 1
      · intro w hSw; (try dsimp only at hSw); go_simp; all_goals (with_reducible rfl)
      try simp only [Act.put, List.setIfInBounds_toArray, List.set_cons_zero, List.set_cons_succ]
      refine wpAnyH_take (i := 64) (oi := { dst := some 6, op := Op.assign (Operand.tmp 75), type := 4, pos := "law.go:70", after := ([{ on := 63, ground := Ground.data }, { on := 61, ground := Ground.chain }, { on := 0, ground := Ground.phase }, { on := 1, ground := Ground.phase }, { on := 2, ground := Ground.phase }, { on := 3, ground := Ground.phase }, { on := 4, ground := Ground.phase }, { on := 5, ground := Ground.phase }, { on := 6, ground := Ground.phase }, { on := 7, ground := Ground.phase }, { on := 8, ground := Ground.phase }, { on := 9, ground := Ground.phase }, { on := 10, ground := Ground.phase }, { on := 11, ground := Ground.phase }, { on := 12, ground := Ground.phase }, { on := 13, ground := Ground.phase }, { on := 14, ground := Ground.phase }, { on := 15, ground := Ground.phase }, { on := 16, ground := Ground.phase }, { on := 17, ground := Ground.phase }, { on := 18, ground := Ground.phase }, { on := 19, ground := Ground.phase }, { on := 20, ground := Ground.phase }, { on := 21, ground := Ground.phase }, { on := 22, ground := Ground.phase }, { on := 23, ground := Ground.phase }, { on := 24, ground := Ground.phase }, { on := 25, ground := Ground.phase }, { on := 26, ground := Ground.phase }, { on := 27, ground := Ground.phase }, { on := 28, ground := Ground.phase }, { on := 29, ground := Ground.phase }, { on := 30, ground := Ground.phase }].append [{ on := 31, ground := Ground.phase }, { on := 32, ground := Ground.phase }, { on := 33, ground := Ground.phase }, { on := 34, ground := Ground.phase }, { on := 35, ground := Ground.phase }, { on := 36, ground := Ground.phase }, { on := 37, ground := Ground.phase }, { on := 38, ground := Ground.phase }, { on := 39, ground := Ground.phase }, { on := 40, ground := Ground.phase }, { on := 41, ground := Ground.phase }, { on := 42, ground := Ground.phase }, { on := 43, ground := Ground.phase }, { on := 44, ground := Ground.phase }, { on := 45, ground := Ground.phase }, { on := 46, ground := Ground.phase }, { on := 47, ground := Ground.phase }, { on := 48, ground := Ground.phase }, { on := 49, ground := Ground.phase }, { on := 50, ground := Ground.phase }, { on := 51, ground := Ground.phase }, { on := 52, ground := Ground.phase }, { on := 53, ground := Ground.phase }, { on := 54, ground := Ground.phase }, { on := 55, ground := Ground.phase }, { on := 56, ground := Ground.phase }, { on := 57, ground := Ground.phase }, { on := 58, ground := Ground.phase }, { on := 59, ground := Ground.phase }, { on := 60, ground := Ground.phase }, { on := 61, ground := Ground.phase }, { on := 62, ground := Ground.phase }, { on := 63, ground := Ground.phase }]).toArray, guard := none }) (v := ?_) rfl (by kernel_rfl) (by kernel_rfl) (by kernel_rfl) (fun _ _ _ h => h) (Or.inl ⟨by rfl, ?_⟩) (by assumption) ?_
      rotate_left 1
      · intro w hSw; (try dsimp only at hSw); go_simp; all_goals (with_reducible rfl)
      try simp only [Act.put, List.setIfInBounds_toArray, List.set_cons_zero, List.set_cons_succ]
      refine wpAnyH_done (by kernel_rfl) ?_ _
      go_wp2
      go_ret
      exact ⟨by simp, HC.out.k⟩

end Go.Proofs.Ytpfpnlhihnfahaa.cls
