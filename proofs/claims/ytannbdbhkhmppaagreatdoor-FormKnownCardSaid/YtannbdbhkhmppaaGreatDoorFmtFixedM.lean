/- internal/strconv: so many digits of a number. internal/strconv: how many digits; digits set down, without noughts at the end. -/
import Derived.Test.YtannbdbhkhmppaaGreatDoorFmtSmallM
import Derived.Laws.Closers25b
import Derived.Test.YtannbdbhkhmppaaGreatDoorFmtBase

namespace Go.Proofs.YtannbdbhkhmppaaGreatDoor.fmtf
open Go.RowKit Go.Proofs.YtannbdbhkhmppaaGreatDoor.sum Go.Proofs.YtannbdbhkhmppaaGreatDoor.kept
set_option linter.unusedVariables false

theorem or_nonneg (a b : Int) : 0 ≤ bits .or .u64 a b := (bits_within .or .u64 a b).1
theorem div_nonneg (x : Int) : 0 ≤ divI x := or_nonneg _ _
theorem usc_nonneg (H M M2 s : Nat) : 0 ≤ uscI H M M2 s := by
  unfold uscI
  split
  · exact or_nonneg _ _
  · exact or_nonneg _ _
/-- tenths, as long as there are more places than wanted -/
def dvN (prec : Int) : Nat → Int → Int → Int × Int
  | 0, u, p => (u, p)
  | f + 1, u, p => if prec < p then dvN prec f (divI u) (p - 1) else (u, p)
theorem dvN_le {prec : Int} : ∀ {f : Nat} {u p : Int}, p ≤ prec → dvN prec f u p = (u, p)
  | 0, u, p, _ => rfl
  | f + 1, u, p, h => by rw [dvN, if_neg (by omega)]
/-- of which power of ten it is scaled by -/
def fwP (e n : Int) : Int := n - 1 - lg10 (e + 63)
def fwS (e n : Int) : Int := -(e + lg2 (fwP e n) + 3)
theorem fwP_bd {e n : Int} (h1 : -1138 ≤ e) (h2 : e ≤ 971) (h3 : 1 ≤ n) (h4 : n ≤ 18) : -348 ≤ fwP e n ∧ fwP e n ≤ 347 := by
  unfold fwP lg10
  omega
theorem fwS_bd {e n : Int} (h1 : -1138 ≤ e) (h2 : e ≤ 971) (h3 : 1 ≤ n) (h4 : n ≤ 18) : 0 ≤ fwS e n ∧ fwS e n < 64 := by
  unfold fwS lg2 fwP lg10
  omega
/-- scaled, once more by a tenth if it has a digit too many -/
def fwU (m : Nat) (e : Int) (n : Nat) (hi lo : Nat) : Int × Int :=
  if uscI (m * hi / 18446744073709551616) (m * hi % 18446744073709551616) (m * lo / 18446744073709551616) (fwS e n).toNat ≥ ((4 * 10 ^ n - 2 : Nat) : Int) then (divI (uscI (m * hi / 18446744073709551616) (m * hi % 18446744073709551616) (m * lo / 18446744073709551616) (fwS e n).toNat), fwP e n - 1)
  else (uscI (m * hi / 18446744073709551616) (m * hi % 18446744073709551616) (m * lo / 18446744073709551616) (fwS e n).toNat, fwP e n)
def fwX (fmt : Nat) (prec : Int) (x : Int × Int) : Int × Int := if fmt = 102 then dvN prec (x.2 - prec).toNat x.1 x.2 else x
def fwI (m : Nat) (e : Int) (n : Nat) (prec : Int) (fmt : Nat) (hi lo : Nat) : Int × Int := (rndI (fwX fmt prec (fwU m e n hi lo)).1, -(fwX fmt prec (fwU m e n hi lo)).2)
/-- the table of whole powers -/
def Tn (w : World) (n : Nat) : Prop := w.cell? ⟨4, n, none⟩ = some (.int .u64 ((10 ^ n : Nat) : Int))
theorem Tn.no {w w' : World} {n : Nat} (h : Tn w n) (hk : Kp No w w') : Tn w' n := hk.cell' h id

set_option maxRecDepth 100000 in
set_option maxHeartbeats 8000000 in
theorem fixed_any (w : World) (m : Nat) (e : Int) (n : Nat) (prec : Int) (fmt : Nat) (hi lo : Nat) (hp : Pw w (fwP e n) hi lo) (ht : Tn w n) (hm : m < 18446744073709551616) (hh : hi < 18446744073709551616) (hl : lo < 18446744073709551616) (h1 : -1138 ≤ e) (h2 : e ≤ 971) (h3 : 1 ≤ n) (h4 : n ≤ 18) (h5 : -1000000 ≤ prec) (h6 : prec ≤ 1000000) (h7 : fmt < 256) :
    Calls Tryz.prog 91 #[.int .u64 (m : Int), .int .i64 e, .int .i64 (n : Int), .int .i64 prec, .int .u8 (fmt : Int)] w fun e' w' => e' = .returned (.tuple #[.int .u64 (fwI m e n prec fmt hi lo).1, .int .i64 (fwI m e n prec fmt hi lo).2]) ∧ Kp No w w' := by
  have hb := fwP_bd h1 h2 (n := (n : Int)) (by omega) (by omega)
  have hsb := fwS_bd h1 h2 (n := (n : Int)) (by omega) (by omega)
  obtain ⟨R, hR⟩ : ∃ R, fwI m e n prec fmt hi lo = R := ⟨_, rfl⟩
  rw [hR]
  unfold fwI fwU at hR
  have HG10 := Hid_mk (lg10_any w (e + 63) (by omega) (by omega))
  have hnp : (n : Int) - 1 - lg10 (e + 63) = fwP e n := rfl
  have hsS : -(e + lg2 (fwP e n) + 3) = ((fwS e n).toNat : Int) := by unfold fwS at hsb ⊢; omega
  obtain ⟨P, hP⟩ : ∃ P, fwP e n = P := ⟨_, rfl⟩
  obtain ⟨S, hS⟩ : ∃ S, (fwS e n).toNat = S := ⟨_, rfl⟩
  have hS64 : S < 64 := by omega
  rw [hP] at hnp hsS hp hb hR
  rw [hS] at hsS hR
  obtain ⟨g, hg⟩ : ∃ g, lg10 (e + 63) = g := ⟨_, rfl⟩
  rw [hg] at HG10 hnp
  have HG2 := Hid_mk fun W => lg2_any W P (by omega) (by omega)
  obtain ⟨L, hL⟩ : ∃ L, lg2 P = L := ⟨_, rfl⟩
  rw [hL] at HG2 hsS
  have hLb : -100000 ≤ L ∧ L ≤ 100000 := by omega
  obtain ⟨q, hq⟩ : ∃ q, w.heap.size = q := ⟨_, rfl⟩
  have HQ := Hid_mk hq
  have hgq : 7 < w.heap.size := World.block_lt_of_cell? w ⟨7, _, none⟩ hp.1
  have hgb : -100000 ≤ g ∧ g ≤ 100000 := by omega
  have HPw := Hid_mk hp
  have HTn := Hid_mk ht
  have HGq := Hid_mk (show q ≠ 7 by omega)
  have HSs := Hid_mk hsS
  have HS64 := Hid_mk hS64
  have HMb := Hid_mk (And.intro hm (And.intro hh hl))
  have HR := Hid_mk hR
  have hPb1 : -348 ≤ P := hb.1
  have hPb2 : P ≤ 347 := hb.2
  have hn1 : (1 : Int) ≤ (n : Int) := by omega
  have hn18 : (n : Int) ≤ 18 := by omega
  have hg1 := hgb.1
  have hg2 := hgb.2
  have HLb := Hid_mk hLb
  have HN4 := Hid_mk h4
  have HN3 := Hid_mk h3
  clear hp ht hm hh hl hb hsb hR hP hS hg hL hq hgq hS64 hsS hLb hgb h3 h4
  go_enter Tryz.func91, Tryz.ntmps91
  go_wp2_with fail
  with_reducible refine HG10.out.mono ?_
  rintro e1 w1 ⟨rfl, rfl⟩
  go_upto_region 3 with fail
  rw [HQ.out]
  refine wp_name (fun V => Kp No w V ∧ ScMem V q (.int .u64 0) (.int .u64 0) (.int .i64 0) ∧ V.heap.size = q + 1) ?_ ?_
  · have hq := HQ.out
    exact ⟨(Kp.refl No w).alloc _, ⟨by rw [← hq]; simp, by rw [← hq]; simp, by rw [← hq]; simp, fun i => by rw [← hq]; simp⟩, by simp [hq]⟩
  rintro W1 ⟨hk1, hs1, hz1⟩
  have HK1 := Hid_mk hk1
  have HS1 := Hid_mk hs1
  clear hk1 hs1 hz1
  go_wp2_with fail
  with_reducible refine (HG2.out _).mono ?_
  rintro e1 w2 ⟨rfl, rfl⟩
  go_wp2_with fail
  with_reducible refine (prescale_any W1 q 0 0 0 HS1.out e P L hi lo S (HPw.out.no HK1.out) (by omega) (by omega) (by omega) (by omega) HLb.out.1 HLb.out.2 HSs.out HGq.out).mono ?_
  rintro e1 w3 ⟨rfl, hsc, hk3⟩
  have HSc := Hid_mk hsc
  have HK3 := Hid_mk (HK1.out.trans hk3 (T := fun b => b = q) (fun i hi e => by have e : i = q := e; have := HQ.out; omega))
  clear hsc hk3
  go_wp2_with fail
  with_reducible refine (uscale_any w3 m q hi lo S HSc.out HMb.out.1 HMb.out.2.1 HMb.out.2.2 HS64.out).mono ?_
  rintro e1 w4 ⟨rfl, n4, rfl⟩
  have HK4 := Hid_mk (HK3.out.drewN n4)
  have hr := HR.out
  have hun := usc_nonneg (m * hi / 18446744073709551616) (m * hi % 18446744073709551616) (m * lo / 18446744073709551616) S
  obtain ⟨u, hu⟩ : ∃ u, uscI (m * hi / 18446744073709551616) (m * hi % 18446744073709551616) (m * lo / 18446744073709551616) S = u := ⟨_, rfl⟩
  rw [hu] at hr hun ⊢
  clear hu HR
  have HRr := Hid_mk hr
  have tn := HTn.out.no HK4.out
  unfold Tn at tn
  have hpw : (1 : Nat) ≤ 10 ^ n ∧ 10 ^ n ≤ 10 ^ 18 := ⟨Nat.pow_pos (by decide), Nat.pow_le_pow_right (by decide) HN4.out⟩
  obtain ⟨T, hT⟩ : ∃ T, 10 ^ n = T := ⟨_, rfl⟩
  rw [hT] at tn hpw
  have HUn := Hid_mk fun W => unmin_any W T hpw.1 (Nat.le_trans hpw.2 (by decide))
  have HT := Hid_mk hT
  clear hr hT hpw
  go_wp2_with fail
  with_reducible refine (HUn.out _).mono ?_
  rintro e1 w5 ⟨rfl, rfl⟩
  clear tn
  have hr := HRr.out
  rw [HT.out] at hr
  have HRd := Hid_mk fun W (x : Int) (hx : 0 ≤ x) => round_any W x hx
  have HDv := Hid_mk fun W (x : Int) (hx : 0 ≤ x) => div_any W x hx
  have HDn := Hid_mk div_nonneg
  have HR8 : Hid (∃ (v p : Int), 0 ≤ v ∧ -349 ≤ p ∧ p ≤ 347 ∧ (rndI (fwX fmt prec (v, p)).1, -(fwX fmt prec (v, p)).2) = R ∧ ((u ≥ ((4 * T - 2 : Nat) : Int) ∧ v = divI u ∧ p = P - 1) ∨ (¬ u ≥ ((4 * T - 2 : Nat) : Int) ∧ v = u ∧ p = P))) := by
    refine Hid_mk ?_
    by_cases hge : u ≥ ((4 * T - 2 : Nat) : Int)
    · rw [if_pos hge] at hr
      exact ⟨divI u, P - 1, div_nonneg u, by omega, by omega, hr, .inl ⟨hge, rfl, rfl⟩⟩
    · rw [if_neg hge] at hr
      exact ⟨u, P, hun, by omega, by omega, hr, .inr ⟨hge, rfl, rfl⟩⟩
  obtain ⟨v, p, hv0, hp1, hp2, hres, hway⟩ := HR8.out
  have HRes := Hid_mk hres
  clear hr hres HR8 HRr
  have hcut : ∀ W, Kp No w W → ∀ (a : Act), True := fun _ _ _ => trivial
  obtain ⟨fw, hfw⟩ : ∃ fw, fwX fmt prec (v, p) = fw := ⟨_, rfl⟩
  rw [hfw] at HRes
  have HFw := Hid_mk hfw
  clear hfw hcut
  rcases hway with ⟨hge, hv, hp⟩ | ⟨hge, hv, hp⟩
  · have hge2 : ((4 * T - 2 : Nat) : Int) ≤ u := hge
    have hgd : decide (((4 * T - 2 : Nat) : Int) ≤ u) = true := decide_eq_true hge2
    have hvv : divI u = v := hv.symm
    have hpp : P - 1 = p := hp.symm
    have HD1 := Hid_mk (div_any (w3.drewN n4) u hun)
    rw [hvv] at HD1
    clear hge hv hp hge2 hvv
    go_wp2_with fail
    with_reducible refine HD1.out.mono ?_
    rintro e1 w6 ⟨rfl, n6, rfl⟩
    have HK6 := Hid_mk (HK4.out.drewN n6)
    generalize hW : (w3.drewN n4).drewN n6 = W at HK6 ⊢
    clear hW HD1
    by_cases hf : fmt = 102
    · have hfi : (fmt : Int) = 102 := by omega
      have hfx := HFw.out
      unfold fwX at hfx
      rw [if_pos hf] at hfx
      have HX := Hid_mk hfx
      clear hf hfx
      go_wp2_with fail
      go_loopw [13, 11] (fun a b wr => ∃ x y : Int, a = .int .u64 x ∧ b = .int .i64 y ∧ 0 ≤ x ∧ -1000001 ≤ y ∧ y ≤ 347 ∧ dvN prec (y - prec).toNat x y = fw ∧ Kp No w wr) (fun _ b _ => (intOf b - prec).toNat)
      case atStart => exact ⟨v, p, rfl, rfl, by omega, by omega, by omega, HX.out, HK6.out⟩
      case round =>
        obtain ⟨x, y, rfl, rfl, hx0, hy1, hy2, hxy, hk⟩ := hrel
        have HXy := Hid_mk hxy
        have HKr := Hid_mk hk
        by_cases hlt : prec < y
        · have hgt : y > prec := hlt
          have HD := Hid_mk (HDv.out wr x hx0)
          have HLt := Hid_mk hlt
          clear hxy hk hlt
          go_wp2_with fail
          with_reducible refine HD.out.mono ?_
          rintro e1 w7 ⟨rfl, n7, rfl⟩
          go_wp2
          go_roundw
          case rel => exact ⟨divI x, y - 1, rfl, rfl, HDn.out x, by omega, by omega, by rw [← HXy.out, show (y - prec).toNat = (y - 1 - prec).toNat + 1 by have := HLt.out; omega, dvN, if_pos HLt.out], HKr.out.drewN n7⟩
          case measure => have := HLt.out; simp [intOf]; omega
        · have hle : ¬ y > prec := hlt
          have hxe := HXy.out
          rw [dvN_le (by omega)] at hxe
          have HXe := Hid_mk hxe
          clear hxy hk hlt hxe
          go_wp2_with fail
          with_reducible refine (HRd.out _ x hx0).mono ?_
          rintro e1 w7 ⟨rfl, rfl⟩
          go_wp2
          go_ret2
          exact ⟨by rw [← HRes.out, ← HXe.out]; rfl, HKr.out⟩
    · have hfi : ((fmt : Int) == 102) = false := by simp; omega
      have hfx := HFw.out
      unfold fwX at hfx
      rw [if_neg hf] at hfx
      have HX := Hid_mk hfx
      clear hf hfx
      go_wp2_with fail
      with_reducible refine (HRd.out _ v (by omega)).mono ?_
      rintro e1 w7 ⟨rfl, rfl⟩
      go_wp2
      go_ret2
      exact ⟨by rw [← HRes.out, ← HX.out]; rfl, HK6.out⟩
  · have hge2 : ¬ ((4 * T - 2 : Nat) : Int) ≤ u := hge
    have hgd : decide (((4 * T - 2 : Nat) : Int) ≤ u) = false := decide_eq_false hge2
    obtain rfl := hv
    obtain rfl := hp
    have HK6 := HK4
    generalize hW : w3.drewN n4 = W at HK6 ⊢
    clear hW hge hge2
    by_cases hf : fmt = 102
    · have hfi : (fmt : Int) = 102 := by omega
      have hfx := HFw.out
      unfold fwX at hfx
      rw [if_pos hf] at hfx
      have HX := Hid_mk hfx
      clear hf hfx
      go_wp2_with fail
      go_loopw [13, 11] (fun a b wr => ∃ x y : Int, a = .int .u64 x ∧ b = .int .i64 y ∧ 0 ≤ x ∧ -1000001 ≤ y ∧ y ≤ 347 ∧ dvN prec (y - prec).toNat x y = fw ∧ Kp No w wr) (fun _ b _ => (intOf b - prec).toNat)
      case atStart => exact ⟨v, p, rfl, rfl, by omega, by omega, by omega, HX.out, HK6.out⟩
      case round =>
        obtain ⟨x, y, rfl, rfl, hx0, hy1, hy2, hxy, hk⟩ := hrel
        have HXy := Hid_mk hxy
        have HKr := Hid_mk hk
        by_cases hlt : prec < y
        · have hgt : y > prec := hlt
          have HD := Hid_mk (HDv.out wr x hx0)
          have HLt := Hid_mk hlt
          clear hxy hk hlt
          go_wp2_with fail
          with_reducible refine HD.out.mono ?_
          rintro e1 w7 ⟨rfl, n7, rfl⟩
          go_wp2
          go_roundw
          case rel => exact ⟨divI x, y - 1, rfl, rfl, HDn.out x, by omega, by omega, by rw [← HXy.out, show (y - prec).toNat = (y - 1 - prec).toNat + 1 by have := HLt.out; omega, dvN, if_pos HLt.out], HKr.out.drewN n7⟩
          case measure => have := HLt.out; simp [intOf]; omega
        · have hle : ¬ y > prec := hlt
          have hxe := HXy.out
          rw [dvN_le (by omega)] at hxe
          have HXe := Hid_mk hxe
          clear hxy hk hlt hxe
          go_wp2_with fail
          with_reducible refine (HRd.out _ x hx0).mono ?_
          rintro e1 w7 ⟨rfl, rfl⟩
          go_wp2
          go_ret2
          exact ⟨by rw [← HRes.out, ← HXe.out]; rfl, HKr.out⟩
    · have hfi : ((fmt : Int) == 102) = false := by simp; omega
      have hfx := HFw.out
      unfold fwX at hfx
      rw [if_neg hf] at hfx
      have HX := Hid_mk hfx
      clear hf hfx
      go_wp2_with fail
      with_reducible refine (HRd.out _ v (by omega)).mono ?_
      rintro e1 w7 ⟨rfl, rfl⟩
      go_wp2
      go_ret2
      exact ⟨by rw [← HRes.out, ← HX.out]; rfl, HK6.out⟩

end Go.Proofs.YtannbdbhkhmppaaGreatDoor.fmtf

namespace Go.Proofs.YtannbdbhkhmppaaGreatDoor.fmtf
open Go.RowKit Go.Proofs.YtannbdbhkhmppaaGreatDoor.sum Go.Proofs.YtannbdbhkhmppaaGreatDoor.kept
set_option linter.unusedVariables false

theorem BufAt.less {w : World} {g o n m : Nat} {f : Nat → Nat} (h : BufAt w g o n f) (hm : m ≤ n) : BufAt w g o m f := ⟨fun i hi => h.cell i (by omega), h.warm⟩
set_option maxRecDepth 100000 in
set_option maxHeartbeats 4000000 in
theorem setDigits_any (w : World) (g L c d n : Nat) (p : Int) (f : Nat → Nat) (h : BufAt w g 0 L f) (hL : L ≤ c) (hn : n ≤ 18) (hnL : n ≤ L) (hc : c ≤ 1000) (hd : d < 10 ^ n) (hp1 : -1000000 ≤ p) (hp2 : p ≤ 1000000) :
    Calls Tryz.prog 89 #[.slice (some ⟨g, 0, none⟩) L c, .int .u64 (d : Int), .int .i64 p, .int .i64 (n : Int)] w fun e w' => e = .returned (.tuple #[.int .i64 ((n : Int) + p), .int .i64 (trimN (dgt d n) n : Int)]) ∧ Kp (fun b => b = g) w w' ∧ BufAt w' g 0 n (dgt d n) := by
  have HB := Hid_mk (base10_any w g 0 n c d f (h.less hnL) hn hd)
  have hnLi : (n : Int) ≤ (L : Int) := by omega
  have hnci : (n : Int) ≤ (c : Int) := by omega
  have hn0 : (0 : Int) ≤ (n : Int) := Int.natCast_nonneg _
  have hn18 : (n : Int) ≤ 18 := by omega
  have hLi : (L : Int) ≤ 1000 := by omega
  have HnL := Hid_mk hnL
  clear h hd hL hn hc hnL
  go_enter Tryz.func89, Tryz.ntmps89
  go_wp2_with fail
  with_reducible refine HB.out.mono ?_
  rintro e1 w1 ⟨rfl, hk1, hb1⟩
  have HK1 := Hid_mk hk1
  have HB1 := Hid_mk hb1
  clear hk1 hb1 HB
  go_wp2_with fail
  go_loop [3] (fun a => ∃ k : Nat, a = .int .i64 (k : Int) ∧ k ≤ n ∧ trimN (dgt d n) k = trimN (dgt d n) n) (fun a => (intOf a).toNat)
  case atStart => exact ⟨n, rfl, Nat.le_refl _, rfl⟩
  case round =>
    obtain ⟨k, rfl, hk, ht⟩ := hrel
    have hk0 : (0 : Int) ≤ (k : Int) := Int.natCast_nonneg _
    have hk18 : (k : Int) ≤ 18 := by omega
    have HT := Hid_mk ht
    have HKn := Hid_mk hk
    rcases k with _ | k
    · have hz : ¬ (0 : Int) < 0 := by omega
      have ht0 : trimN (dgt d n) n = 0 := ht.symm
      have HT0 := Hid_mk ht0
      clear ht hk ht0
      go_wp2
      go_ret2
      exact ⟨by rw [HT0.out]; rfl, HK1.out, HB1.out⟩
    · have hpos : (0 : Int) < ((k + 1 : Nat) : Int) := by omega
      have hsub : ((k + 1 : Nat) : Int) - 1 = (k : Int) := by omega
      have hkL : (k : Int) < (L : Int) := by omega
      have c1 := HB1.out.cell k (by omega)
      simp only [Nat.zero_add] at c1
      obtain ⟨y, hy⟩ : ∃ y, dgt d n k = y := ⟨_, rfl⟩
      rw [hy] at c1
      have ht2 := ht
      rw [trimN, hy] at ht2
      by_cases h48 : y = 48
      · rw [if_pos h48] at ht2
        have h48i : (y : Int) = 48 := by omega
        have HT2 := Hid_mk ht2
        clear ht hk ht2 hy h48
        go_wp2
        go_round
        case rel => exact ⟨k, rfl, by have := HKn.out; omega, HT2.out⟩
        case measure => simp [intOf]
      · rw [if_neg h48] at ht2
        have h48i : ((y : Int) == 48) = false := by simp; omega
        have HT2 := Hid_mk ht2
        clear ht hk ht2 hy h48
        go_wp2
        go_ret2
        exact ⟨by rw [← HT2.out]; rfl, HK1.out, HB1.out⟩

theorem aux_lt : ∀ (f x : Nat), x < 2 ^ f → x < 2 ^ Lib.bitLenAux f x
  | 0, x, h => h
  | f + 1, x, h => by
    rw [Lib.bitLenAux]
    split
    · rename_i h0; rw [h0]; exact Nat.pow_pos (by decide)
    · have h1 := aux_lt f (x / 2) (by rw [Nat.pow_succ] at h; omega)
      rw [Nat.add_comm, Nat.pow_succ]
      omega
/-- how many decimal digits -/
def ndS (d : Nat) : Nat := Lib.bitLen d * 78913 / 262144 + (if 10 ^ (Lib.bitLen d * 78913 / 262144) ≤ d then 1 else 0)
theorem nd_bd {d : Nat} (h : d < 10 ^ 18) : Lib.bitLen d * 78913 / 262144 ≤ 18 ∧ ndS d ≤ 18 ∧ d < 10 ^ ndS d := by
  have hb : Lib.bitLen d ≤ 60 := Lib.bitLen_le d 60 (by decide) (Nat.lt_trans h (by decide))
  have hlt : d < 2 ^ Lib.bitLen d := aux_lt 64 d (Nat.lt_trans h (by decide))
  unfold ndS
  generalize Lib.bitLen d = b at *
  have hq : b * 78913 / 262144 ≤ 18 := by omega
  have key : ∀ b : Fin 61, 2 ^ b.val ≤ 10 ^ (b.val * 78913 / 262144 + 1) := by decide +kernel
  have hk : 2 ^ b ≤ 10 ^ (b * 78913 / 262144 + 1) := key ⟨b, by omega⟩
  generalize b * 78913 / 262144 = q at *
  refine ⟨hq, ?_, ?_⟩
  · split
    · rename_i h1
      rcases Nat.lt_or_ge q 18 with h2 | h2
      · omega
      · have : q = 18 := by omega
        subst this
        omega
    · omega
  · split
    · exact Nat.lt_of_lt_of_le hlt hk
    · rename_i h1; rw [Nat.add_zero]; omega
set_option maxRecDepth 100000 in
set_option maxHeartbeats 4000000 in
theorem numDigits_any (w : World) (d : Nat) (hd : d < 10 ^ 18) (ht : ∀ n, n ≤ 18 → Tn w n) : Calls Tryz.prog 76 #[.int .u64 (d : Int)] w (RV w (.int .i64 (ndS d : Int))) := by
  obtain ⟨b1, b2', b3⟩ := nd_bd hd
  have hd64 : d < 18446744073709551616 := Nat.lt_trans hd (by decide)
  have HL := Hid_mk (Go.Proofs.Tryz.bits_Len64 (d : Int) w (by omega) (by omega))
  rw [Int.toNat_natCast] at HL
  have hb : Lib.bitLen d ≤ 60 := Lib.bitLen_le d 60 (by decide) (Nat.lt_trans hd (by decide))
  have hlg : lg10 ((Lib.bitLen d : Nat) : Int) = ((Lib.bitLen d * 78913 / 262144 : Nat) : Int) := by unfold lg10; omega
  have HG := Hid_mk (lg10_any w ((Lib.bitLen d : Nat) : Int) (by omega) (by omega))
  rw [hlg] at HG
  have tn := ht _ b1
  unfold Tn at tn
  obtain ⟨R, hR⟩ : ∃ R, ndS d = R := ⟨_, rfl⟩
  rw [hR]
  unfold ndS at hR
  obtain ⟨q, hq⟩ : ∃ q, Lib.bitLen d * 78913 / 262144 = q := ⟨_, rfl⟩
  rw [hq] at HG tn b1 hR
  obtain ⟨T, hT⟩ : ∃ T, 10 ^ q = T := ⟨_, rfl⟩
  rw [hT] at tn hR
  have HB := Hid_mk fun b => bool2i_any w b
  have HR := Hid_mk hR
  have hq0 : (0 : Int) ≤ (q : Int) := Int.natCast_nonneg _
  have hq18 : (q : Int) ≤ 18 := by omega
  clear b2' b3 hd hd64 hb hlg hq hT hR ht b1
  go_enter Tryz.func76, Tryz.ntmps76
  go_wp2_with fail
  with_reducible refine HL.out.mono ?_
  rintro e1 w1 ⟨rfl, rfl⟩
  go_wp2_with fail
  with_reducible refine HG.out.mono ?_
  rintro e1 w1 ⟨rfl, rfl⟩
  go_wp2_with fail
  with_reducible refine (HB.out _).mono ?_
  rintro e1 w1 ⟨rfl, rfl⟩
  have hr := HR.out
  by_cases hge : T ≤ d
  · rw [if_pos hge] at hr
    have hd1 : decide (T ≤ d) = true := decide_eq_true hge
    have hb1 : b2 true = 1 := rfl
    rw [hd1, hb1]
    subst hr
    clear hge HR
    go_wp2
    go_ret
    exact ⟨by simp, rfl⟩
  · rw [if_neg hge] at hr
    have hd1 : decide (T ≤ d) = false := decide_eq_false hge
    have hb1 : b2 false = 0 := rfl
    rw [hd1, hb1]
    subst hr
    clear hge HR
    go_wp2
    go_ret
    exact ⟨by simp, rfl⟩

end Go.Proofs.YtannbdbhkhmppaaGreatDoor.fmtf
