/- The law EreChains: signs and rows in one another. -/
import Derived.Test.YtfgjfenbflihbaaEreCount2
import Derived.Test.YtfgjfenbflihbaaPick
import Derived.Deep.RegionHeld3
namespace Go.Proofs.Ytfgjfenbflihbaa.ere
open Go.RowKit Go.Proofs.Ytfgjfenbflihbaa.sum Go.Proofs.Ytfgjfenbflihbaa.kept Go.Proofs.Ytfgjfenbflihbaa.pop Go.Proofs.Ytfgjfenbflihbaa.cls Go.Proofs.Ytfgjfenbflihbaa.tre Go.Proofs.Ytfgjfenbflihbaa.str Go.Proofs.Ytfgjfenbflihbaa.turned
set_option linter.unusedVariables false

/-- a variable at block b holds some tree of at most so many leaves -/
def BoxN (b s : Nat) (wr : World) : Prop :=
  ∃ (xk : Int) (xf : Nat → Bool) (xa : Option Addr) (xn xc : Nat) (t : Tr), RAt wr b (.int .i64 xk) (.int .u64 (wd xf 0 64 : Nat)) (.int .u64 (wd xf 64 64 : Nat)) (.int .u64 (wd xf 128 64 : Nat)) (.int .u64 (wd xf 192 64 : Nat)) (.slice xa xn xc) ∧ ReV (fun z => z ≠ b) wr t (.agg (cellsR xk xf xa xn xc)) ∧ setsS t ≤ s
def Ch1 (W1 : World) (b : Nat) (i : Value) (wr : World) : Prop := ∃ j : Nat, i = .int .i64 (j : Int) ∧ j ≤ 44 ∧ BoxN b 1 wr ∧ Kp (fun z => z = b) W1 wr
def Ch2 (W1 : World) (b : Nat) (i : Value) (wr : World) : Prop := ∃ j : Nat, i = .int .i64 (j : Int) ∧ j ≤ 449 ∧ BoxN b (450 - j) wr ∧ Kp (fun z => z = b) W1 wr
theorem kp_dr {W w1 : World} (h : Kp No W.drew w1) : Kp No W w1 := (Kp.refl No W).drew.trans' h
theorem rat_eq (W1 : World) (b : Nat) (h : W1.heap.size = b) (k : Int) (f : Nat → Bool) (a : Option Addr) (n c : Nat) (ty : TypeId) : RAt (W1.alloc (.cells (cellsR k f a n c) ty)) b (.int .i64 k) (.int .u64 (wd f 0 64 : Nat)) (.int .u64 (wd f 64 64 : Nat)) (.int .u64 (wd f 128 64 : Nat)) (.int .u64 (wd f 192 64 : Nat)) (.slice a n c) := by
  subst h
  exact RAt.new _ _ _ _ _ _ _ _
/-- the box holds a tree of kids that lie in a new block -/
theorem box_put {w : World} {b s g n : Nat} {k : Int} {l : List Tr} {x0 x1 x2 x3 x4 x5 : Value} (hb : RAt w b x0 x1 x2 x3 x4 x5) (hv : ReV (fun z => z ≠ b) w (.mk k nul l) (.agg (cellsR k nul (some ⟨g, 0, none⟩) n n))) (hs : setsS (.mk k nul l) ≤ s) :
    BoxN b s (ere.putT w b (.int .i64 k) (.int .u64 0) (.int .u64 0) (.int .u64 0) (.int .u64 0) (.slice (some ⟨g, 0, none⟩) n n)) := by
  have hks : Kp (fun z => z = b) w (ere.putT w b (.int .i64 k) (.int .u64 0) (.int .u64 0) (.int .u64 0) (.int .u64 0) (.slice (some ⟨g, 0, none⟩) n n)) := kp_putT (q := b) (Kp.refl (fun z => z = b) w) (fun _ => rfl) _ _ _ _ _ _
  have h1 := hb.put (.int .i64 k) (.int .u64 0) (.int .u64 0) (.int .u64 0) (.int .u64 0) (.slice (some ⟨g, 0, none⟩) n n)
  refine ⟨k, nul, some ⟨g, 0, none⟩, n, n, .mk k nul l, ?_, ReV.kept hks (fun z hz _ => hz) _ _ hv, hs⟩
  simp only [wd_nul]
  exact h1

set_option maxRecDepth 100000 in
set_option maxHeartbeats 8000000 in
theorem chains_any (w : World) (signs row : Int) (cat : Bool) : Calls Try.prog 7 #[.int .i64 signs, .int .i64 row, .bool cat] w fun e w' => e = .returned (.bool true) ∧ Kp No w w' := by
  have HO1 := Hid_mk (show ∀ W, Calls Try.prog 11 #[.int .u8 97] W fun e w' => e = .returned (.agg (cellsR 1 (oneS 97) none 0 0)) ∧ ReV All w' (oneT 97) (.agg (cellsR 1 (oneS 97) none 0 0)) ∧ Kp No W w' from fun W => one_val W 97 (by decide))
  have HO2 := Hid_mk (show ∀ W, Calls Try.prog 11 #[.int .u8 98] W fun e w' => e = .returned (.agg (cellsR 1 (oneS 98) none 0 0)) ∧ ReV All w' (oneT 98) (.agg (cellsR 1 (oneS 98) none 0 0)) ∧ Kp No W w' from fun W => one_val W 98 (by decide))
  have HP1 := Hid_mk fun W => pick_any signs 45 (by decide) (by decide) W
  have HP2 := Hid_mk fun W => pick_any row 450 (by decide) (by decide) W
  obtain ⟨i1, hi1⟩ : ∃ i : Nat, signs % 45 = (i : Int) := ⟨(signs % 45).toNat, by omega⟩
  obtain ⟨i2, hi2⟩ : ∃ i : Nat, row % 450 = (i : Int) := ⟨(row % 450).toNat, by omega⟩
  have HI1 := Hid_mk (show i1 ≤ 44 by omega)
  have HI2 := Hid_mk (show i2 ≤ 449 by omega)
  rw [hi1] at HP1
  rw [hi2] at HP2
  clear hi1 hi2
  unfold cellsR at HO1 HO2
  go_enter Try.func7, Try.ntmps7
  go_wp2_with fail
  with_reducible refine (HO1.out _).mono ?_
  rintro e v1 ⟨rfl, hv, hk⟩
  clear hv HO1
  go_upto_region 2 with fail
  obtain ⟨b, hb⟩ : ∃ b, v1.heap.size = b := ⟨_, rfl⟩
  rw [hb]
  have hrb : RAt (v1.alloc (.cells (cellsR 1 (oneS 97) none 0 0) 27)) b _ _ _ _ _ _ := rat_eq v1 b hb 1 (oneS 97) none 0 0 27
  have hbx : BoxN b 1 (v1.alloc (.cells (cellsR 1 (oneS 97) none 0 0) 27)) := ⟨1, oneS 97, none, 0, 0, oneT 97, hrb, leaf_val _ _ 1 (oneS 97) 0 (by decide) none, by decide⟩
  have HB := Hid_mk (show w.heap.size ≤ b by have := hk.size; omega)
  refine wp_name (fun W => Kp No w W ∧ BoxN b 1 W) ⟨hk.alloc _, hbx⟩ ?_
  clear hb hrb hbx hk
  rintro W1 ⟨hk1, hbx1⟩
  have HK1 := Hid_mk hk1
  have HX1 := Hid_mk hbx1
  clear hk1 hbx1
  go_wp2_with fail
  with_reducible refine (HP1.out _).mono ?_
  rintro e v2 ⟨rfl, rfl⟩
  clear HP1
  go_wp2_with fail
  go_loopw [8] (fun i wr => Ch1 W1 b i wr) (fun i _ => (intOf i).toNat)
  case atStart => exact ⟨i1, rfl, HI1.out, HX1.out, Kp.refl _ _⟩
  case round =>
    obtain ⟨j, rfl, hj, ⟨xk, xf, xa, xn, xc, t, hrb, hv, hs⟩, hkp⟩ := hrel
    have HJ := Hid_mk hj
    have HRb := Hid_mk hrb
    have HV := Hid_mk hv
    have HS := Hid_mk hs
    have HKp := Hid_mk hkp
    clear hj hrb hv hs hkp
    have hj0 : (0 : Int) ≤ (j : Int) := Int.natCast_nonneg _
    by_cases hjz : j = 0
    · have hneg : ¬ (j : Int) > 0 := by omega
      clear hjz
      have hbx2 : BoxN b (450 - i2) wr := ⟨xk, xf, xa, xn, xc, t, HRb.out, HV.out, by have := HS.out; have := HI2.out; omega⟩
      have hk2 := HK1.out.trans HKp.out (T := fun z => z = b) fun i hi e => by have := HB.out; omega
      go_upto_region 6 with fail
      refine wp_name (fun W => BoxN b (450 - i2) W ∧ Kp No w W) ⟨hbx2, hk2⟩ ?_
      clear hbx2 hk2 HRb HV HS HKp HX1
      rintro W2 ⟨hbx2, hk2⟩
      have HX2 := Hid_mk hbx2
      have HK2 := Hid_mk hk2
      clear hbx2 hk2
      go_wp2_with fail
      with_reducible refine (HP2.out _).mono ?_
      rintro e v2 ⟨rfl, rfl⟩
      clear HP2
      go_wp2_with fail
      go_loopw [9] (fun i wr => Ch2 W2 b i wr) (fun i _ => (intOf i).toNat)
      case atStart => exact ⟨i2, rfl, HI2.out, HX2.out, Kp.refl _ _⟩
      case round =>
        obtain ⟨j2, rfl, hj2, ⟨yk, yf, ya, yn, yc, t2, hrb, hv, hs⟩, hkp⟩ := hrel
        have HJ2 := Hid_mk hj2
        have HRb := Hid_mk hrb
        have HV := Hid_mk hv
        have HS := Hid_mk hs
        have HKp := Hid_mk hkp
        clear hj2 hrb hv hs hkp
        have hj20 : (0 : Int) ≤ (j2 : Int) := Int.natCast_nonneg _
        by_cases hjz : j2 = 0
        · have hneg2 : ¬ (j2 : Int) > 0 := by omega
          clear hjz
          have hKn := fun V (hk : Kp No wr V) => known9_any V
          have hRt := fun V (hk : Kp No wr V) => pright_any V _ t2 (ReV.no hk _ _ HV.out)
          have hRr := fun V (hk : Kp No wr V) => right_any V _ t2 (ReV.no hk _ _ HV.out) (by have := HS.out; omega)
          have hSt := fun V (hk : Kp No wr V) => psets_any V _ t2 (ReV.no hk _ _ HV.out)
          have hSr := fun V (hk : Kp No wr V) => setsR_any V _ t2 (ReV.no hk _ _ HV.out) (by have := HS.out; omega)
          have hSk : ∀ V, Kp No wr V → (fun V : World => V.cell? ⟨b, 0, none⟩ = some (.int .i64 yk) ∧ V.cell? ⟨b, 1, none⟩ = some (.int .u64 (wd yf 0 64 : Nat)) ∧ V.cell? ⟨b, 2, none⟩ = some (.int .u64 (wd yf 64 64 : Nat)) ∧ V.cell? ⟨b, 3, none⟩ = some (.int .u64 (wd yf 128 64 : Nat)) ∧ V.cell? ⟨b, 4, none⟩ = some (.int .u64 (wd yf 192 64 : Nat)) ∧ V.cell? ⟨b, 5, none⟩ = some (.slice ya yn yc)) V := fun V hk => by
            obtain ⟨d0, d1, d2, d3, d4, d5, -⟩ := HRb.out.kept hk id
            exact ⟨d0, d1, d2, d3, d4, d5⟩
          have HSk := Hid_mk hSk
          generalize rightS t2 = B at hRt hRr
          generalize ((if rightS t2 = true then setsS t2 else 0 : Nat) : Int) = X at hSt hSr
          unfold cellsR at hRt hRr hSt hSr
          have HKn := Hid_mk hKn
          have HRt := Hid_mk hRt
          have HRr := Hid_mk hRr
          have HSt := Hid_mk hSt
          have HSr := Hid_mk hSr
          have HC := Hid_mk (Kp.refl No wr).drew
          have hS := HSk.out _ HC.out
          have hbb : (B == B) = true := by simp
          have hxx : (X == X) = true := by simp
          have HKf := Hid_mk (HK2.out.trans HKp.out (T := fun z => z = b) fun i hi e => by have := HB.out; omega)
          clear hKn hRt hRr hSt hSr hSk hneg
          go_wp2
          go_region_held3 (fun V : World => V.cell? ⟨b, 0, none⟩ = some (.int .i64 yk) ∧ V.cell? ⟨b, 1, none⟩ = some (.int .u64 (wd yf 0 64 : Nat)) ∧ V.cell? ⟨b, 2, none⟩ = some (.int .u64 (wd yf 64 64 : Nat)) ∧ V.cell? ⟨b, 3, none⟩ = some (.int .u64 (wd yf 128 64 : Nat)) ∧ V.cell? ⟨b, 4, none⟩ = some (.int .u64 (wd yf 192 64 : Nat)) ∧ V.cell? ⟨b, 5, none⟩ = some (.slice ya yn yc))
            (first | exact hS | (dsimp only; exact hS))
            (first
              | (go_at_call 12; with_reducible refine (HKn.out _ HC.out).mono ?_; rintro e w9 ⟨rfl, hk9⟩; replace HC := Hid_mk (HC.out.trans' hk9); replace hS := HSk.out _ HC.out; clear hk9)
              | (go_at_call 22; with_reducible refine (HRt.out _ HC.out).mono ?_; rintro e w9 ⟨rfl, hk9⟩; replace HC := Hid_mk (HC.out.trans' hk9); replace hS := HSk.out _ HC.out; clear hk9)
              | (go_at_call 23; with_reducible refine (HRr.out _ HC.out).mono ?_; rintro e w9 ⟨rfl, hk9⟩; replace HC := Hid_mk (HC.out.trans' hk9); replace hS := HSk.out _ HC.out; clear hk9)
              | (go_at_call 24; with_reducible refine (HSt.out _ HC.out).mono ?_; rintro e w9 ⟨rfl, hk9⟩; replace HC := Hid_mk (HC.out.trans' hk9); replace hS := HSk.out _ HC.out; clear hk9)
              | (go_at_call 25; with_reducible refine (HSr.out _ HC.out).mono ?_; rintro e w9 ⟨rfl, hk9⟩; replace HC := Hid_mk (HC.out.trans' hk9); replace hS := HSk.out _ HC.out; clear hk9))
          all_goals
            go_wp2
            go_ret
            exact ⟨by first | rfl | simp, HKf.out.trans' HC.out⟩
        · have hpos : (j2 : Int) > 0 := by omega
          have hwj : IntKind.i64.wrap ((j2 : Int) - 1) = (j2 : Int) - 1 := IntWalk.i64_in _ (by have := HJ2.out; omega)
          have HJz := Hid_mk hjz
          have HQk := Hid_mk fun W (hk : Kp No wr W) => HRb.out.kept hk id
          obtain ⟨c0, c1, c2, c3, c4, c5, cw⟩ := id HRb.out
          clear hjz hneg
          cases cat with
          | false =>
            go_wp2
            go_region_with (first
              | (go_at_call 11; with_reducible refine (HO2.out _).mono ?_; rintro e w3 ⟨rfl, hv3, hk3⟩; clear hv3; replace hk3 := kp_dr hk3; have HK3 := Hid_mk hk3; obtain ⟨c0, c1, c2, c3, c4, c5, cw⟩ := HQk.out w3 hk3; clear hk3))
            all_goals
              go_upto_region 13 with fail
              obtain ⟨g, hg⟩ : ∃ g, w3.heap.size = g := ⟨_, rfl⟩
              have hm := made2 (T := fun z => z ≠ b) (leaf_val _ _ 1 (oneS 98) 0 (by decide) none) (ReV.no HK3.out _ _ HV.out) (by show w3.heap.size ≠ b; have := (HRb.out.kept HK3.out id).lt; omega) 2 nul 27
              have hka : Kp No w3 (w3.alloc (.cells (cellsR 1 (oneS 98) none 0 0 ++ cellsR yk yf ya yn yc) 27)) := (Kp.refl No w3).alloc _
              rw [hg] at hm ⊢
              refine wp_name (fun W => Kp No wr W ∧ ReV (fun z => z ≠ b) W (.mk 2 nul [oneT 98, t2]) (.agg (cellsR 2 nul (some ⟨g, 0, none⟩) 2 2))) ⟨HK3.out.trans' hka, hm⟩ ?_
              clear hg hm hka c0 c1 c2 c3 c4 c5 cw
              rintro W4 ⟨hk4, hv4⟩
              have HK4 := Hid_mk hk4
              have HV4 := Hid_mk hv4
              have hr4 := HRb.out.kept hk4 id
              have HR4 := Hid_mk hr4
              obtain ⟨c0, c1, c2, c3, c4, c5, cw⟩ := hr4
              clear hk4 hv4
              go_wp2
              go_roundw
              case rel =>
                have hks : Kp (fun z => z = b) W4 (ere.putT W4 b (.int .i64 2) (.int .u64 0) (.int .u64 0) (.int .u64 0) (.int .u64 0) (.slice (some ⟨g, 0, none⟩) 2 2)) := kp_putT (q := b) (Kp.refl (fun z => z = b) _) (fun _ => rfl) _ _ _ _ _ _
                exact ⟨j2 - 1, by congr 1; have := HJz.out; omega, by have := HJ2.out; omega, box_put HR4.out HV4.out (by have e : setsS (.mk 2 nul [oneT 98, t2]) = setsS (oneT 98) + setsS t2 := sets2 2 _ _; rw [e]; have h1 := HS.out; have h2 := HJz.out; have h3 := HJ2.out; have h4 : setsS (oneT 98) = 1 := (by rfl); omega), (HKp.out.trans HK4.out (T := No) fun _ _ e => e.elim).trans hks fun _ _ e => e⟩
              case measure => have := HJz.out; simp only [intOf]; omega
          | true =>
            go_wp2
            go_region_with (first
              | (go_at_call 11; with_reducible refine (HO2.out _).mono ?_; rintro e w3 ⟨rfl, hv3, hk3⟩; clear hv3; replace hk3 := kp_dr hk3; have HK3 := Hid_mk hk3; obtain ⟨c0, c1, c2, c3, c4, c5, cw⟩ := HQk.out w3 hk3; clear hk3))
            all_goals
              go_upto_region 11 with fail
              refine wp_name (fun W => Kp No wr W) (HK3.out.alloc _) ?_
              clear c0 c1 c2 c3 c4 c5 cw
              rintro W5 hk5
              have HK5 := Hid_mk hk5
              have hr5 := HRb.out.kept hk5 id
              have HR5 := Hid_mk hr5
              have HQ5 := Hid_mk fun W (hk : Kp No W5 W) => HR5.out.kept hk id
              obtain ⟨c0, c1, c2, c3, c4, c5, cw⟩ := hr5
              clear hk5 HQk
              by_cases h50 : 50 < j2
              · have h50i : (j2 : Int) > 50 := by omega
                clear h50
                go_wp2
                go_region_with (first
                  | (go_at_call 11; with_reducible refine (HO2.out _).mono ?_; rintro e w6 ⟨rfl, hv3, hk6⟩; clear hv3; replace hk6 := kp_dr hk6; have HK6 := Hid_mk hk6; obtain ⟨c0, c1, c2, c3, c4, c5, cw⟩ := HQ5.out w6 hk6; clear hk6))
                all_goals
                  go_wp2
                  go_roundw
                  case rel =>
                    have hkz := HK5.out.trans' (HK6.out.alloc (.cells (cellsR yk yf ya yn yc ++ cellsR 1 (oneS 98) none 0 0) 27))
                    exact ⟨j2 - 1, by congr 1; have := HJz.out; omega, by have := HJ2.out; omega, ⟨yk, yf, ya, yn, yc, t2, HRb.out.kept hkz id, ReV.no hkz _ _ HV.out, by have h1 := HS.out; omega⟩, HKp.out.trans hkz (T := No) fun _ _ e => e.elim⟩
                  case measure => have := HJz.out; simp only [intOf]; omega
              · have h50i : ¬ (j2 : Int) > 50 := by omega
                clear h50
                go_wp2
                go_region_with (first
                  | (go_at_call 11; with_reducible refine (HO2.out _).mono ?_; rintro e w6 ⟨rfl, hv3, hk6⟩; clear hv3; replace hk6 := kp_dr hk6; have HK6 := Hid_mk hk6; obtain ⟨c0, c1, c2, c3, c4, c5, cw⟩ := HQ5.out w6 hk6; clear hk6))
                all_goals
                  go_upto_region 13 with fail
                  obtain ⟨g, hg⟩ : ∃ g, w6.heap.size = g := ⟨_, rfl⟩
                  have hm := made2 (T := fun z => z ≠ b) (ReV.no HK6.out _ _ (ReV.no HK5.out _ _ HV.out)) (leaf_val _ _ 1 (oneS 98) 0 (by decide) none) (by show w6.heap.size ≠ b; have := ((HRb.out.kept HK5.out id).kept HK6.out id).lt; omega) 2 nul 27
                  have hka : Kp No w6 (w6.alloc (.cells (cellsR yk yf ya yn yc ++ cellsR 1 (oneS 98) none 0 0) 27)) := (Kp.refl No w6).alloc _
                  rw [hg] at hm ⊢
                  refine wp_name (fun W => Kp No wr W ∧ ReV (fun z => z ≠ b) W (.mk 2 nul [t2, oneT 98]) (.agg (cellsR 2 nul (some ⟨g, 0, none⟩) 2 2))) ⟨HK5.out.trans' (HK6.out.trans' hka), hm⟩ ?_
                  clear hg hm hka c0 c1 c2 c3 c4 c5 cw
                  rintro W4 ⟨hk4, hv4⟩
                  have HK4 := Hid_mk hk4
                  have HV4 := Hid_mk hv4
                  have hr4 := HRb.out.kept hk4 id
                  have HR4 := Hid_mk hr4
                  obtain ⟨c0, c1, c2, c3, c4, c5, cw⟩ := hr4
                  clear hk4 hv4
                  go_wp2
                  go_roundw
                  case rel =>
                    have hks : Kp (fun z => z = b) W4 (ere.putT W4 b (.int .i64 2) (.int .u64 0) (.int .u64 0) (.int .u64 0) (.int .u64 0) (.slice (some ⟨g, 0, none⟩) 2 2)) := kp_putT (q := b) (Kp.refl (fun z => z = b) _) (fun _ => rfl) _ _ _ _ _ _
                    exact ⟨j2 - 1, by congr 1; have := HJz.out; omega, by have := HJ2.out; omega, box_put HR4.out HV4.out (by have e : setsS (.mk 2 nul [t2, oneT 98]) = setsS t2 + setsS (oneT 98) := sets2 2 _ _; rw [e]; have h1 := HS.out; have h2 := HJz.out; have h3 := HJ2.out; have h4 : setsS (oneT 98) = 1 := (by rfl); omega), (HKp.out.trans HK4.out (T := No) fun _ _ e => e.elim).trans hks fun _ _ e => e⟩
                  case measure => have := HJz.out; simp only [intOf]; omega
    · have hpos : (j : Int) > 0 := by omega
      have hwj : IntKind.i64.wrap ((j : Int) - 1) = (j : Int) - 1 := IntWalk.i64_in _ (by have := HJ.out; omega)
      have HJz := Hid_mk hjz
      have hm := made1 (T := fun z => z ≠ b) HV.out (by show wr.heap.size ≠ b; have := HRb.out.lt; omega) 4 nul 27
      have hka := (Kp.refl No wr).alloc (.cells (cellsR xk xf xa xn xc) 27)
      have HM := Hid_mk hm
      have HKa := Hid_mk hka
      obtain ⟨c0, c1, c2, c3, c4, c5, cw⟩ := id HRb.out
      have y0 := fun o => ((Kp.refl No wr).alloc o).cell' c0 id
      have y1 := fun o => ((Kp.refl No wr).alloc o).cell' c1 id
      have y2 := fun o => ((Kp.refl No wr).alloc o).cell' c2 id
      have y3 := fun o => ((Kp.refl No wr).alloc o).cell' c3 id
      have y4 := fun o => ((Kp.refl No wr).alloc o).cell' c4 id
      have y5 := fun o => ((Kp.refl No wr).alloc o).cell' c5 id
      have yw := fun o => (HRb.out.kept ((Kp.refl No wr).alloc o) id).warm
      clear hm hka hjz
      go_wp2
      go_roundw
      case rel =>
        have hks : Kp (fun z => z = b) (wr.alloc (.cells (cellsR xk xf xa xn xc) 27)) (ere.putT (wr.alloc (.cells (cellsR xk xf xa xn xc) 27)) b (.int .i64 4) (.int .u64 0) (.int .u64 0) (.int .u64 0) (.int .u64 0) (.slice (some ⟨wr.heap.size, 0, none⟩) 1 1)) := kp_putT (q := b) (Kp.refl (fun z => z = b) _) (fun _ => rfl) _ _ _ _ _ _
        exact ⟨j - 1, by congr 1; have := HJz.out; omega, by have := HJ.out; omega, box_put (HRb.out.kept HKa.out id) HM.out (by rw [setsS, setsL]; exact HS.out), (HKp.out.trans HKa.out (T := No) fun _ _ e => e.elim).trans hks fun _ _ e => e⟩
      case measure => have := HJz.out; simp only [intOf]; omega

end Go.Proofs.Ytfgjfenbflihbaa.ere
