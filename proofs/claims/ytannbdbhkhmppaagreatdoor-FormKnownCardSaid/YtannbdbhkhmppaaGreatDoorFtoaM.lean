/- internal/strconv.ftoa64 at 'f', few digits. internal/strconv.ftoa64 at 'f', few digits: the walk. strconv.FormatFloat at 'f': the row that is made, its digits, its text. -/
import Derived.Test.YtannbdbhkhmppaaGreatDoorFmtF
import Derived.Test.YtannbdbhkhmppaaGreatDoorFmtFixedM
import Derived.Test.YtannbdbhkhmppaaGreatDoorRow0M

namespace Go.Proofs.YtannbdbhkhmppaaGreatDoor.fmtf
open Go.RowKit Go.Proofs.YtannbdbhkhmppaaGreatDoor.sum Go.Proofs.YtannbdbhkhmppaaGreatDoor.kept Go.Proofs.YtannbdbhkhmppaaGreatDoor.app Go.Proofs.YtannbdbhkhmppaaGreatDoor.writer
set_option linter.unusedVariables false

theorem run_fbits (b : Nat) (w : World) : (callFunc 83 #[.float .f64 b]).run Tryz.prog w = .ok (.value (.int .u64 (b : Int))) w := by
  rw [run_callFunc_extern Tryz.func83 (by kernel_rfl) (by kernel_rfl) (by kernel_rfl) (show Extern.find _ = some Extern.MathFloatBits.float64bits by kernel_rfl)]
  rfl
attribute [local go_sem] run_fbits
/-- mantissa and exponent of a finite number's bits -/
def mtN (b : Nat) : Nat := if b / 4503599627370496 % 2048 = 0 then b % 4503599627370496 else b % 4503599627370496 + 4503599627370496
def exI (b : Nat) : Int := (if b / 4503599627370496 % 2048 = 0 then 1 else ((b / 4503599627370496 % 2048 : Nat) : Int)) - 1023
/-- how many digits are wanted -/
def dgI (b : Nat) (prec : Int) : Int := if 0 ≤ exI b then 1 + lg10 (1 + exI b) + prec else 1 + prec - lg10 (-exI b)

theorem and2047 (k : Nat) (h : k < 4096) : bits .and .i64 (k : Int) 2047 = ((k % 2048 : Nat) : Int) := by
  have h1 : (BitVec.ofInt 64 (k : Int)).toNat = k := by
    rw [BitVec.toNat_ofInt]
    omega
  have h2 : (BitVec.ofInt 64 (2047 : Int)).toNat = 2047 := rfl
  show IntKind.i64.wrap ((BitVec.ofInt 64 (k : Int) &&& BitVec.ofInt 64 (2047 : Int)).toNat : Int) = _
  rw [BitVec.toNat_and, h1, h2, Nat.and_two_pow_sub_one_eq_mod k 11, IntKind.wrap_i64]
  omega
theorem and52 (b : Nat) (hb : b < 18446744073709551616) : bits .and .u64 (b : Int) 4503599627370495 = ((b % 4503599627370496 : Nat) : Int) := by
  have := u64_and_nat b 4503599627370495 hb (by omega)
  rw [show ((4503599627370495 : Nat) : Int) = 4503599627370495 from rfl] at this
  rw [this, show 4503599627370495 = 2 ^ 52 - 1 by rfl, Nat.and_two_pow_sub_one_eq_mod]
theorem or52 (a : Nat) (ha : a < 4503599627370496) : bits .or .u64 (a : Int) 4503599627370496 = ((a + 4503599627370496 : Nat) : Int) := by
  have := u64_or_nat a 4503599627370496 (by omega) (by omega)
  rw [show ((4503599627370496 : Nat) : Int) = 4503599627370496 from rfl] at this
  rw [this, Nat.or_comm]
  have h2 := Nat.two_pow_add_eq_or_of_lt (i := 52) (b := a) ha 1
  rw [Nat.mul_one] at h2
  rw [show (4503599627370496 : Nat) = 2 ^ 52 by rfl, ← h2, Nat.add_comm]

theorem Dst.back {base : Nat} {w W w2 : World} {v0 v2 : Value} {bs : List UInt8} (h : Dst base W v0 w2 v2 bs) (hk : Kp No w W) (hr : base ≤ w.heap.size) : Dst base w v0 w2 v2 bs :=
  ⟨h.owns, (hk.to (S := fun k => some k = v0.ownBlock)).trans' h.kp, h.fresh.elim .inl (fun h2 => .inr fun g hg => Nat.le_trans hk.size (h2 g hg)), hr⟩
theorem Dst.at {base : Nat} {w W : World} {v0 : Value} {bs : List UInt8} (hd : Dst base w v0 w v0 bs) (hk : Kp No w W) : Dst base W v0 W v0 bs :=
  Dst.refl (owns_kept hd.owns hk (fun _ _ x => x)) (Nat.le_trans hd.room hk.size)
theorem BufAt.any {w : World} {g o n m : Nat} {f : Nat → Nat} (h : BufAt w g o n f) (hm : m < 1) (f' : Nat → Nat) : BufAt w g o m f' := ⟨fun i hi => by omega, h.warm⟩
/-- how far a mantissa is shifted to the left, and what comes out -/
def shN (b : Nat) : Nat := 64 - Lib.bitLen (mtN b)
def fxE (b : Nat) : Int := exI b - (shN b : Int) - 52
def fxI (T : Int → Nat × Nat) (b : Nat) (prec : Int) : Int × Int :=
  if 0 < dgI b prec then fwI (mtN b * 2 ^ shN b) (fxE b) (dgI b prec).toNat prec 102 (T (fwP (fxE b) (dgI b prec))).1 (T (fwP (fxE b) (dgI b prec))).2 else (0, 0)
theorem BufAt.no {w w' : World} {g o n : Nat} {f : Nat → Nat} (h : BufAt w g o n f) (hk : Kp No w w') (hg : g < w.heap.size) : BufAt w' g o n f :=
  ⟨fun i hi => hk.cell' (h.cell i hi) id, fun i => (hk.frozen (p := ⟨g, i, none⟩) hg id).trans (h.warm i)⟩

end Go.Proofs.YtannbdbhkhmppaaGreatDoor.fmtf

namespace Go.Proofs.YtannbdbhkhmppaaGreatDoor.fmtf
open Go.RowKit Go.Proofs.YtannbdbhkhmppaaGreatDoor.sum Go.Proofs.YtannbdbhkhmppaaGreatDoor.kept Go.Proofs.YtannbdbhkhmppaaGreatDoor.app Go.Proofs.YtannbdbhkhmppaaGreatDoor.writer
set_option linter.unusedVariables false
attribute [local go_sem] run_fbits

set_option maxRecDepth 100000 in
set_option maxHeartbeats 16000000 in
theorem ftoa_fix (T : Int → Nat × Nat) (base : Nat) (w : World) (v0 : Value) (bs : List UInt8) (b : Nat) (prec : Int) (hd : Dst base w v0 w v0 bs) (hv0 : ∀ k, v0.ownBlock = some k → k < w.heap.size) (hbs : bs.length ≤ 100000) (ho : w.cell? ⟨3, 0, none⟩ = some (.bool true)) (ht : ∀ n, n ≤ 18 → Tn w n) (hT : ∀ p, -348 ≤ p → p ≤ 347 → Pw w p (T p).1 (T p).2 ∧ (T p).1 < 18446744073709551616 ∧ (T p).2 < 18446744073709551616) (hb : b < 18446744073709551616) (hE : b / 4503599627370496 % 2048 ≠ 2047) (hM : mtN b ≠ 0) (hp1 : 0 ≤ prec) (hp2 : prec ≤ 1000) (hD : dgI b prec ≤ 18) (d : Nat) (p : Int) (hx : fxI T b prec = ((d : Int), p)) (hd18 : d < 10 ^ 18) (hq1 : -900 ≤ p) (hq2 : p ≤ 900) :
    Calls Tryz.prog 68 #[v0, .float .f64 b, .int .u8 102, .int .i64 prec] w (EfPost base w v0 (bs ++ outF (decide (9223372036854775808 ≤ b)) (dgt d (ndS d)) (if d = 0 then 0 else (ndS d : Int) + p) (if d = 0 then 0 else trimN (dgt d (ndS d)) (ndS d)) prec)) := by
  have HD := Hid_mk hd
  have HBs := Hid_mk hbs
  have HV0 := Hid_mk hv0
  have HT18 := Hid_mk ht
  have HTp := Hid_mk hT
  have HX := Hid_mk hx
  have Hd18 := Hid_mk hd18
  have HQp := Hid_mk (And.intro hq1 hq2)
  obtain ⟨R, hR⟩ : ∃ R, EfPost base w v0 (bs ++ outF (decide (9223372036854775808 ≤ b)) (dgt d (ndS d)) (if d = 0 then 0 else (ndS d : Int) + p) (if d = 0 then 0 else trimN (dgt d (ndS d)) (ndS d)) prec) = R := ⟨_, rfl⟩
  rw [hR]
  have HR := Hid_mk hR
  have hb1 : (b : Int) < 18446744073709551616 := by omega
  have hb0 : (0 : Int) ≤ (b : Int) := Int.natCast_nonneg _
  have hsg : ((b : Int) / 9223372036854775808 != 0) = decide (9223372036854775808 ≤ b) := by
    by_cases h : 9223372036854775808 ≤ b
    · rw [decide_eq_true h]; simp; omega
    · rw [decide_eq_false h]; simp; omega
  obtain ⟨neg, hneg⟩ : ∃ neg, decide (9223372036854775808 ≤ b) = neg := ⟨_, rfl⟩
  rw [hneg] at hsg
  have HNeg := Hid_mk hneg
  have HSg := Hid_mk hsg
  have HLg := Hid_mk fun W x h1 h2 => lg10_any W x h1 h2
  clear hd hv0 hbs ht hT hx hd18 hR hq1 hq2 hneg hsg
  go_enter Tryz.func68, Tryz.ntmps68
  obtain ⟨K, hK⟩ : ∃ K, b / 4503599627370496 = K := ⟨_, rfl⟩
  have hKi : (b : Int) / 4503599627370496 = (K : Int) := by omega
  have hK4 : K < 4096 := by omega
  have HA := Hid_mk (and2047 K hK4)
  obtain ⟨E, hE2⟩ : ∃ E, K % 2048 = E := ⟨_, rfl⟩
  obtain ⟨Q, hQ⟩ : ∃ Q, b % 4503599627370496 = Q := ⟨_, rfl⟩
  have HQ := Hid_mk (and52 b hb)
  rw [hE2] at HA
  rw [hQ] at HQ
  have HMt := Hid_mk (show mtN b = if E = 0 then Q else Q + 4503599627370496 by unfold mtN; rw [hK, hE2, hQ])
  have HEx := Hid_mk (show exI b = (if E = 0 then 1 else (E : Int)) - 1023 by unfold exI; rw [hK, hE2])
  rw [hK, hE2] at hE
  have hQb : Q < 4503599627370496 := by omega
  have HO := Hid_mk (or52 Q hQb)
  have hE48 : (E : Int) ≤ 2046 := by omega
  have hE0 : (0 : Int) ≤ (E : Int) := Int.natCast_nonneg _
  have hQ0 : (0 : Int) ≤ (Q : Int) := Int.natCast_nonneg _
  have hQi : (Q : Int) < 4503599627370496 := by omega
  have hm1 : mtN b < 9007199254740992 := by rw [HMt.out]; split <;> omega
  have hm2 : 1 ≤ mtN b := by omega
  have hx1 : -1022 ≤ exI b := by rw [HEx.out]; split <;> omega
  have hx2 : exI b ≤ 1023 := by rw [HEx.out]; split <;> omega
  obtain ⟨mt, hmt⟩ : ∃ mt, mtN b = mt := ⟨_, rfl⟩
  obtain ⟨ex, hex⟩ : ∃ ex, exI b = ex := ⟨_, rfl⟩
  rw [hmt] at HMt hm1 hm2
  rw [hex] at HEx hx1 hx2
  have HDg := Hid_mk (show dgI b prec = if 0 ≤ ex then 1 + lg10 (1 + ex) + prec else 1 + prec - lg10 (-ex) by unfold dgI; rw [hex])
  have HMd := Hid_mk hmt
  have HEd := Hid_mk hex
  have HD9 := Hid_mk hD
  have hmi1 : (1 : Int) ≤ (mt : Int) := by omega
  have hmi2 : (mt : Int) < 9007199254740992 := by omega
  go_wp2_with fail
  go_quiet (fail)
  rw [HA.out, HSg.out]
  clear hKi hK hK4 hE2 hQ hQb hb hM hD hE hmt hex hm1 hm2
  have hq := HQ.out
  by_cases h0 : E = 0
  · skip
    have hpz : ¬ prec < 0 := by omega
    subst h0
    have hmQ : Q = mt := by have h := HMt.out; rw [if_pos rfl] at h; exact h.symm
    have hxe : (-1022 : Int) = ex := by have h := HEx.out; rw [if_pos rfl] at h; omega
    subst hmQ
    rw [show ((0 : Nat) : Int) = 0 from rfl]
    have hmz : ((Q : Int) == 0) = false := by simp; omega
    clear hE48 hE0
    have hxq : ex < 0 := by omega
    have hxp : ¬ 0 ≤ ex := by omega
    go_wp2_with fail
    obtain ⟨g, hg⟩ : ∃ g, lg10 (-ex) = g := ⟨_, rfl⟩
    have hgb : -500 ≤ g ∧ g ≤ 500 := by unfold lg10 at hg; omega
    have HG := Hid_mk (HLg.out (w.drewN nq) (-ex) (by omega) (by omega))
    rw [hg] at HG
    obtain ⟨dg, hdg⟩ : ∃ dg, dgI b prec = dg := ⟨_, rfl⟩
    have hde : 1 + prec - g = dg := by have h := HDg.out; rw [if_neg (by omega), hg, hdg] at h; exact h.symm
    have hd18 : dg ≤ 18 := by have h := HD9.out; rw [hdg] at h; exact h
    have HDgd := Hid_mk hdg
    have hgb1 := hgb.1
    have hgb2 := hgb.2
    clear hg hdg hgb
    with_reducible refine HG.out.mono ?_
    rintro e1 w1 ⟨rfl, rfl⟩
    by_cases hdp : 0 < dg
    · go_wp2_with fail
      obtain ⟨W1, hW⟩ : ∃ W1, (w.drewN nq).alloc (.cells #[.int .u8 0, .int .u8 0, .int .u8 0, .int .u8 0, .int .u8 0, .int .u8 0, .int .u8 0, .int .u8 0, .int .u8 0, .int .u8 0, .int .u8 0, .int .u8 0, .int .u8 0, .int .u8 0, .int .u8 0, .int .u8 0, .int .u8 0, .int .u8 0, .int .u8 0, .int .u8 0, .int .u8 0, .int .u8 0, .int .u8 0, .int .u8 0] 105) = W1 := ⟨_, rfl⟩
      rw [hW]
      have HK1 : Hid (Kp No w W1) := Hid_mk (by rw [← hW]; exact ((Kp.refl No w).drewN nq).alloc _)
      have HB1 : Hid (BufAt W1 w.heap.size 0 24 (fun _ => 0)) := Hid_mk (by rw [← hW]; exact zeros_buf (w.drewN nq) _)
      clear hW
      have HLn := Hid_mk (Go.Proofs.Tryz.bits_Len64 (Q : Int) W1 (by omega) (by omega))
      rw [Int.toNat_natCast] at HLn
      have hbl : Lib.bitLen Q ≤ 53 := Lib.bitLen_le Q 53 (by decide) (by omega)
      obtain ⟨sh, hsh⟩ : ∃ sh : Nat, 64 - (Lib.bitLen Q : Int) = (sh : Int) := ⟨64 - Lib.bitLen Q, by omega⟩
      with_reducible refine HLn.out.mono ?_
      rintro e1 w1 ⟨rfl, rfl⟩
      have hsh1 : (11 : Int) ≤ (sh : Int) := by omega
      have hsh2 : (sh : Int) ≤ 64 := by omega
      go_wp2_with fail
      obtain ⟨n, hn⟩ : ∃ n : Nat, dg = (n : Int) := ⟨dg.toNat, by omega⟩
      have hn18 : n ≤ 18 := by omega
      have hn1 : 1 ≤ n := by omega
      have hm64 : Q * 2 ^ sh < 18446744073709551616 := by
        have h1 := aux_lt 64 Q (by omega)
        have h2 : Lib.bitLen Q + sh = 64 := by omega
        calc Q * 2 ^ sh < 2 ^ Lib.bitLen Q * 2 ^ sh := Nat.mul_lt_mul_of_pos_right h1 (Nat.pow_pos (by decide))
          _ = 18446744073709551616 := by rw [← Nat.pow_add, h2]
      have hmw : IntKind.u64.wrap ((Q : Int) * 2 ^ sh) = ((Q * 2 ^ sh : Nat) : Int) := by
        have h := wu ((Q * 2 ^ sh : Nat) : Int) (by omega) (by omega)
        rw [← h, Int.natCast_mul, Int.natCast_pow]
        rfl
      have hX := HX.out
      unfold fxI fxE at hX
      rw [HDgd.out, if_pos (by omega), show shN b = sh by unfold shN; rw [HMd.out]; omega, HMd.out, HEd.out, hn, Int.toNat_natCast] at hX
      have hpb := fwP_bd (e := ex - (sh : Int) - 52) (n := (n : Int)) (by omega) (by omega) (by omega) (by omega)
      obtain ⟨t1, t2, t3⟩ := HTp.out (fwP (ex - (sh : Int) - 52) (n : Int)) hpb.1 hpb.2
      have HFx := Hid_mk (fixed_any w1 (Q * 2 ^ sh) (ex - (sh : Int) - 52) n prec 102 _ _ (t1.no HK1.out) ((HT18.out n hn18).no HK1.out) hm64 t2 t3 (by omega) (by omega) hn1 hn18 (by omega) (by omega) (by decide))
      rw [hX, show ((102 : Nat) : Int) = 102 from rfl] at HFx
      rw [hmw, hn]
      subst hn
      clear hX t1 t2 t3 hpb hmw hm64
      with_reducible refine HFx.out.mono ?_
      rintro e3 w3 ⟨rfl, hk3⟩
      have HK3 := Hid_mk (HK1.out.trans' hk3)
      have HB3 := Hid_mk (HB1.out.no hk3 (World.block_lt_of_cell? w1 _ (HB1.out.cell 0 (by omega))))
      clear hk3
      by_cases hdz : d = 0
      · subst hdz
        rw [show ((0 : Nat) : Int) = 0 from rfl]
        go_wp2_with fail
        have HE := efg_f base w3 v0 bs neg false w.heap.size 24 24 0 prec 0 (dgt 0 (ndS 0)) (HD.out.at HK3.out) (HB3.out.any (by omega) _) (fun e => by have := HV0.out _ e.symm; omega) (by omega) (by omega) (by omega) (fun i hi => by omega) (by omega) (by omega) (by omega) (by omega) (by omega) HBs.out
        rw [show ((0 : Nat) : Int) = 0 from rfl] at HE
        with_reducible refine HE.mono ?_
        rintro e2 w2 ⟨v2, rfl, hd2⟩
        have HD2 := Hid_mk hd2
        clear hd2 HE
        go_wp2_with fail
        rw [← HR.out, HNeg.out, if_pos trivial, if_pos trivial]
        exact ⟨v2, rfl, HD2.out.back HK3.out HD.out.room⟩
      · have HDz := Hid_mk hdz
        have hdne : ((d : Int) == 0) = false := by simp; omega
        have hdne2 : ((d : Int) != 0) = true := by simp; omega
        have hnd := nd_bd Hd18.out
        have HN5 : Hid (∀ W, Kp No w3 W → Calls Tryz.prog 76 #[.int .u64 (d : Int)] W (RV W (.int .i64 (ndS d : Int)))) := Hid_mk fun W hk => numDigits_any W d Hd18.out (fun n hn => ((HT18.out n hn).no HK3.out).no hk)
        have HS5 : Hid (∀ W, Kp No w3 W → Calls Tryz.prog 89 #[.slice (some ⟨w.heap.size, 0, none⟩) 24 24, .int .u64 (d : Int), .int .i64 p, .int .i64 (ndS d : Int)] W fun e w' => e = .returned (.tuple #[.int .i64 ((ndS d : Int) + p), .int .i64 (trimN (dgt d (ndS d)) (ndS d) : Int)]) ∧ Kp No w w' ∧ BufAt w' w.heap.size 0 (ndS d) (dgt d (ndS d)) ∧ w.heap.size < w'.heap.size) := Hid_mk fun W hk =>
          (setDigits_any W w.heap.size 24 24 d (ndS d) p (fun _ => 0) (HB3.out.no hk (World.block_lt_of_cell? w3 _ (HB3.out.cell 0 (by omega)))) (by omega) hnd.2.1 (by omega) (by omega) hnd.2.2 (by have := HQp.out; omega) (by have := HQp.out; omega)).mono fun e w' h => ⟨h.1, (HK3.out.trans' hk).trans h.2.1 (fun i hi e => by have e : i = w.heap.size := e; omega), h.2.2, Nat.lt_of_lt_of_le (World.block_lt_of_cell? w3 _ (HB3.out.cell 0 (by omega))) (Nat.le_trans hk.size h.2.1.size)⟩
        obtain ⟨N, hN⟩ : ∃ N, ndS d = N := ⟨_, rfl⟩
        rw [hN] at HN5 HS5 hnd
        obtain ⟨F, hF⟩ : ∃ F, trimN (dgt d N) N = F := ⟨_, rfl⟩
        rw [hF] at HS5
        have hF9 : F ≤ N := by rw [← hF]; exact trimN_le _ _
        have HF9 := Hid_mk (And.intro hF9 hnd.2.1)
        have HFd := Hid_mk hF
        have HNd := Hid_mk hN
        clear hnd hN hF hF9
        go_wp2_with fail
        go_region_with (first
          | (go_at_call 76; (with_reducible refine (HN5.out _ (by exact ⟨rfl, rfl, rfl, Nat.le_refl _, fun _ _ _ => rfl⟩)).mono ?_); rintro e5 w5 ⟨rfl, rfl⟩)
          | (go_at_call 89; (with_reducible refine (HS5.out _ (by exact ⟨rfl, rfl, rfl, Nat.le_refl _, fun _ _ _ => rfl⟩)).mono ?_); rintro e5 w5 ⟨rfl, hk5, hb5, hz5⟩))
        have HE5 : Hid (∀ W, Kp No w5 W → Calls Tryz.prog 86 #[v0, .bool neg, .slice (some ⟨w.heap.size, 0, none⟩) 24 24, .int .i64 ((N : Int) + p), .int .i64 (F : Int), .int .i64 prec, .int .u8 102, .bool false] W (EfPost base w v0 (bs ++ outF neg (dgt d N) ((N : Int) + p) F prec))) := Hid_mk fun W hk =>
          (efg_f base W v0 bs neg false w.heap.size 24 24 ((N : Int) + p) prec F (dgt d N) (HD.out.at (hk5.trans' hk)) ((hb5.no hk hz5).less HF9.out.1) (fun e => by have := HV0.out _ e.symm; omega) (by have := HF9.out; omega) (by omega) (by omega) (fun i hi => by unfold dgt; omega) (by have := HF9.out; omega) (by have := HQp.out; have := HF9.out; omega) (by have := HQp.out; have := HF9.out; omega) (by omega) (by omega) HBs.out).mono fun e w' h => h.elim fun v h => ⟨v, h.1, h.2.back (hk5.trans' hk) HD.out.room⟩
        clear hk5 hb5 hz5
        go_wp2_with fail
        with_reducible refine (HE5.out _ (by exact ⟨rfl, rfl, rfl, Nat.le_refl _, fun _ _ _ => rfl⟩)).mono ?_
        rintro e2 w2 ⟨v2, rfl, hd2⟩
        have HD2 := Hid_mk hd2
        clear hd2
        go_wp2_with fail
        rw [← HR.out, HNeg.out, if_neg HDz.out, if_neg HDz.out, HNd.out, HFd.out]
        exact ⟨v2, rfl, HD2.out⟩
    · have hdq : dg ≤ 0 := by omega
      have hdz : (0 < dg) = False := by simp; omega
      go_wp2_with fail
      obtain ⟨W1, hW⟩ : ∃ W1, (w.drewN nq).alloc (.cells #[.int .u8 0, .int .u8 0, .int .u8 0, .int .u8 0, .int .u8 0, .int .u8 0, .int .u8 0, .int .u8 0, .int .u8 0, .int .u8 0, .int .u8 0, .int .u8 0, .int .u8 0, .int .u8 0, .int .u8 0, .int .u8 0, .int .u8 0, .int .u8 0, .int .u8 0, .int .u8 0, .int .u8 0, .int .u8 0, .int .u8 0, .int .u8 0] 105) = W1 := ⟨_, rfl⟩
      rw [hW]
      have HK1 : Hid (Kp No w W1) := Hid_mk (by rw [← hW]; exact ((Kp.refl No w).drewN nq).alloc _)
      have HB1 : Hid (BufAt W1 w.heap.size 0 24 (fun _ => 0)) := Hid_mk (by rw [← hW]; exact zeros_buf (w.drewN nq) _)
      clear hW
      have HE := efg_f base W1 v0 bs neg false w.heap.size 24 24 0 prec 0 (dgt d (ndS d)) (HD.out.at HK1.out) (HB1.out.any (by omega) _) (fun e => by have := HV0.out _ e.symm; omega) (by omega) (by omega) (by omega) (fun i hi => by omega) (by omega) (by omega) (by omega) (by omega) (by omega) HBs.out
      rw [show ((0 : Nat) : Int) = 0 from rfl] at HE
      with_reducible refine HE.mono ?_
      rintro e2 w2 ⟨v2, rfl, hd2⟩
      have HD2 := Hid_mk hd2
      clear hd2 HE
      go_wp2_with fail
      have hX := HX.out
      unfold fxI at hX
      rw [HDgd.out, if_neg (by omega)] at hX
      have hdz : d = 0 := by have := congrArg Prod.fst hX; simp at this; omega
      rw [← HR.out, HNeg.out, if_pos hdz, if_pos hdz]
      exact ⟨v2, rfl, HD2.out.back HK1.out HD.out.room⟩
  · skip
    have hpz : ¬ prec < 0 := by omega
    have hE1 : (1 : Int) ≤ (E : Int) := by omega
    have hE47 : ((E : Int) == 2047) = false := by simp; omega
    have hE40 : ((E : Int) == 0) = false := by simp; omega
    have ho5 := HO.out
    have hmQ : ((Q + 4503599627370496 : Nat) : Int) = (mt : Int) := by have h := HMt.out; rw [if_neg h0] at h; omega
    have hxe : (E : Int) + -1023 = ex := by have h := HEx.out; rw [if_neg h0] at h; omega
    rw [hmQ] at ho5
    have hmz : ((mt : Int) == 0) = false := by simp; omega
    clear h0 hmQ
    by_cases hxp : 0 ≤ ex
    · have hxq : (ex < 0) = False := by simp; omega
      go_wp2_with fail
      obtain ⟨g, hg⟩ : ∃ g, lg10 (1 + ex) = g := ⟨_, rfl⟩
      have hgb : -500 ≤ g ∧ g ≤ 500 := by unfold lg10 at hg; omega
      have HG := Hid_mk (HLg.out (w.drewN nq) (1 + ex) (by omega) (by omega))
      rw [hg] at HG
      obtain ⟨dg, hdg⟩ : ∃ dg, dgI b prec = dg := ⟨_, rfl⟩
      have hde : 1 + g + prec = dg := by have h := HDg.out; rw [if_pos (by omega), hg, hdg] at h; exact h.symm
      have hd18 : dg ≤ 18 := by have h := HD9.out; rw [hdg] at h; exact h
      have HDgd := Hid_mk hdg
      have hgb1 := hgb.1
      have hgb2 := hgb.2
      clear hg hdg hgb
      with_reducible refine HG.out.mono ?_
      rintro e1 w1 ⟨rfl, rfl⟩
      by_cases hdp : 0 < dg
      · go_wp2_with fail
        obtain ⟨W1, hW⟩ : ∃ W1, (w.drewN nq).alloc (.cells #[.int .u8 0, .int .u8 0, .int .u8 0, .int .u8 0, .int .u8 0, .int .u8 0, .int .u8 0, .int .u8 0, .int .u8 0, .int .u8 0, .int .u8 0, .int .u8 0, .int .u8 0, .int .u8 0, .int .u8 0, .int .u8 0, .int .u8 0, .int .u8 0, .int .u8 0, .int .u8 0, .int .u8 0, .int .u8 0, .int .u8 0, .int .u8 0] 105) = W1 := ⟨_, rfl⟩
        rw [hW]
        have HK1 : Hid (Kp No w W1) := Hid_mk (by rw [← hW]; exact ((Kp.refl No w).drewN nq).alloc _)
        have HB1 : Hid (BufAt W1 w.heap.size 0 24 (fun _ => 0)) := Hid_mk (by rw [← hW]; exact zeros_buf (w.drewN nq) _)
        clear hW
        have HLn := Hid_mk (Go.Proofs.Tryz.bits_Len64 (mt : Int) W1 (by omega) (by omega))
        rw [Int.toNat_natCast] at HLn
        have hbl : Lib.bitLen mt ≤ 53 := Lib.bitLen_le mt 53 (by decide) (by omega)
        obtain ⟨sh, hsh⟩ : ∃ sh : Nat, 64 - (Lib.bitLen mt : Int) = (sh : Int) := ⟨64 - Lib.bitLen mt, by omega⟩
        with_reducible refine HLn.out.mono ?_
        rintro e1 w1 ⟨rfl, rfl⟩
        have hsh1 : (11 : Int) ≤ (sh : Int) := by omega
        have hsh2 : (sh : Int) ≤ 64 := by omega
        go_wp2_with fail
        obtain ⟨n, hn⟩ : ∃ n : Nat, dg = (n : Int) := ⟨dg.toNat, by omega⟩
        have hn18 : n ≤ 18 := by omega
        have hn1 : 1 ≤ n := by omega
        have hm64 : mt * 2 ^ sh < 18446744073709551616 := by
          have h1 := aux_lt 64 mt (by omega)
          have h2 : Lib.bitLen mt + sh = 64 := by omega
          calc mt * 2 ^ sh < 2 ^ Lib.bitLen mt * 2 ^ sh := Nat.mul_lt_mul_of_pos_right h1 (Nat.pow_pos (by decide))
            _ = 18446744073709551616 := by rw [← Nat.pow_add, h2]
        have hmw : IntKind.u64.wrap ((mt : Int) * 2 ^ sh) = ((mt * 2 ^ sh : Nat) : Int) := by
          have h := wu ((mt * 2 ^ sh : Nat) : Int) (by omega) (by omega)
          rw [← h, Int.natCast_mul, Int.natCast_pow]
          rfl
        have hX := HX.out
        unfold fxI fxE at hX
        rw [HDgd.out, if_pos (by omega), show shN b = sh by unfold shN; rw [HMd.out]; omega, HMd.out, HEd.out, hn, Int.toNat_natCast] at hX
        have hpb := fwP_bd (e := ex - (sh : Int) - 52) (n := (n : Int)) (by omega) (by omega) (by omega) (by omega)
        obtain ⟨t1, t2, t3⟩ := HTp.out (fwP (ex - (sh : Int) - 52) (n : Int)) hpb.1 hpb.2
        have HFx := Hid_mk (fixed_any w1 (mt * 2 ^ sh) (ex - (sh : Int) - 52) n prec 102 _ _ (t1.no HK1.out) ((HT18.out n hn18).no HK1.out) hm64 t2 t3 (by omega) (by omega) hn1 hn18 (by omega) (by omega) (by decide))
        rw [hX, show ((102 : Nat) : Int) = 102 from rfl] at HFx
        rw [hmw, hn]
        subst hn
        clear hX t1 t2 t3 hpb hmw hm64
        with_reducible refine HFx.out.mono ?_
        rintro e3 w3 ⟨rfl, hk3⟩
        have HK3 := Hid_mk (HK1.out.trans' hk3)
        have HB3 := Hid_mk (HB1.out.no hk3 (World.block_lt_of_cell? w1 _ (HB1.out.cell 0 (by omega))))
        clear hk3
        by_cases hdz : d = 0
        · subst hdz
          rw [show ((0 : Nat) : Int) = 0 from rfl]
          go_wp2_with fail
          have HE := efg_f base w3 v0 bs neg false w.heap.size 24 24 0 prec 0 (dgt 0 (ndS 0)) (HD.out.at HK3.out) (HB3.out.any (by omega) _) (fun e => by have := HV0.out _ e.symm; omega) (by omega) (by omega) (by omega) (fun i hi => by omega) (by omega) (by omega) (by omega) (by omega) (by omega) HBs.out
          rw [show ((0 : Nat) : Int) = 0 from rfl] at HE
          with_reducible refine HE.mono ?_
          rintro e2 w2 ⟨v2, rfl, hd2⟩
          have HD2 := Hid_mk hd2
          clear hd2 HE
          go_wp2_with fail
          rw [← HR.out, HNeg.out, if_pos trivial, if_pos trivial]
          exact ⟨v2, rfl, HD2.out.back HK3.out HD.out.room⟩
        · have HDz := Hid_mk hdz
          have hdne : ((d : Int) == 0) = false := by simp; omega
          have hdne2 : ((d : Int) != 0) = true := by simp; omega
          have hnd := nd_bd Hd18.out
          have HN5 : Hid (∀ W, Kp No w3 W → Calls Tryz.prog 76 #[.int .u64 (d : Int)] W (RV W (.int .i64 (ndS d : Int)))) := Hid_mk fun W hk => numDigits_any W d Hd18.out (fun n hn => ((HT18.out n hn).no HK3.out).no hk)
          have HS5 : Hid (∀ W, Kp No w3 W → Calls Tryz.prog 89 #[.slice (some ⟨w.heap.size, 0, none⟩) 24 24, .int .u64 (d : Int), .int .i64 p, .int .i64 (ndS d : Int)] W fun e w' => e = .returned (.tuple #[.int .i64 ((ndS d : Int) + p), .int .i64 (trimN (dgt d (ndS d)) (ndS d) : Int)]) ∧ Kp No w w' ∧ BufAt w' w.heap.size 0 (ndS d) (dgt d (ndS d)) ∧ w.heap.size < w'.heap.size) := Hid_mk fun W hk =>
            (setDigits_any W w.heap.size 24 24 d (ndS d) p (fun _ => 0) (HB3.out.no hk (World.block_lt_of_cell? w3 _ (HB3.out.cell 0 (by omega)))) (by omega) hnd.2.1 (by omega) (by omega) hnd.2.2 (by have := HQp.out; omega) (by have := HQp.out; omega)).mono fun e w' h => ⟨h.1, (HK3.out.trans' hk).trans h.2.1 (fun i hi e => by have e : i = w.heap.size := e; omega), h.2.2, Nat.lt_of_lt_of_le (World.block_lt_of_cell? w3 _ (HB3.out.cell 0 (by omega))) (Nat.le_trans hk.size h.2.1.size)⟩
          obtain ⟨N, hN⟩ : ∃ N, ndS d = N := ⟨_, rfl⟩
          rw [hN] at HN5 HS5 hnd
          obtain ⟨F, hF⟩ : ∃ F, trimN (dgt d N) N = F := ⟨_, rfl⟩
          rw [hF] at HS5
          have hF9 : F ≤ N := by rw [← hF]; exact trimN_le _ _
          have HF9 := Hid_mk (And.intro hF9 hnd.2.1)
          have HFd := Hid_mk hF
          have HNd := Hid_mk hN
          clear hnd hN hF hF9
          go_wp2_with fail
          go_region_with (first
            | (go_at_call 76; (with_reducible refine (HN5.out _ (by exact ⟨rfl, rfl, rfl, Nat.le_refl _, fun _ _ _ => rfl⟩)).mono ?_); rintro e5 w5 ⟨rfl, rfl⟩)
            | (go_at_call 89; (with_reducible refine (HS5.out _ (by exact ⟨rfl, rfl, rfl, Nat.le_refl _, fun _ _ _ => rfl⟩)).mono ?_); rintro e5 w5 ⟨rfl, hk5, hb5, hz5⟩))
          have HE5 : Hid (∀ W, Kp No w5 W → Calls Tryz.prog 86 #[v0, .bool neg, .slice (some ⟨w.heap.size, 0, none⟩) 24 24, .int .i64 ((N : Int) + p), .int .i64 (F : Int), .int .i64 prec, .int .u8 102, .bool false] W (EfPost base w v0 (bs ++ outF neg (dgt d N) ((N : Int) + p) F prec))) := Hid_mk fun W hk =>
            (efg_f base W v0 bs neg false w.heap.size 24 24 ((N : Int) + p) prec F (dgt d N) (HD.out.at (hk5.trans' hk)) ((hb5.no hk hz5).less HF9.out.1) (fun e => by have := HV0.out _ e.symm; omega) (by have := HF9.out; omega) (by omega) (by omega) (fun i hi => by unfold dgt; omega) (by have := HF9.out; omega) (by have := HQp.out; have := HF9.out; omega) (by have := HQp.out; have := HF9.out; omega) (by omega) (by omega) HBs.out).mono fun e w' h => h.elim fun v h => ⟨v, h.1, h.2.back (hk5.trans' hk) HD.out.room⟩
          clear hk5 hb5 hz5
          go_wp2_with fail
          with_reducible refine (HE5.out _ (by exact ⟨rfl, rfl, rfl, Nat.le_refl _, fun _ _ _ => rfl⟩)).mono ?_
          rintro e2 w2 ⟨v2, rfl, hd2⟩
          have HD2 := Hid_mk hd2
          clear hd2
          go_wp2_with fail
          rw [← HR.out, HNeg.out, if_neg HDz.out, if_neg HDz.out, HNd.out, HFd.out]
          exact ⟨v2, rfl, HD2.out⟩
      · have hdq : dg ≤ 0 := by omega
        have hdz : (0 < dg) = False := by simp; omega
        go_wp2_with fail
        obtain ⟨W1, hW⟩ : ∃ W1, (w.drewN nq).alloc (.cells #[.int .u8 0, .int .u8 0, .int .u8 0, .int .u8 0, .int .u8 0, .int .u8 0, .int .u8 0, .int .u8 0, .int .u8 0, .int .u8 0, .int .u8 0, .int .u8 0, .int .u8 0, .int .u8 0, .int .u8 0, .int .u8 0, .int .u8 0, .int .u8 0, .int .u8 0, .int .u8 0, .int .u8 0, .int .u8 0, .int .u8 0, .int .u8 0] 105) = W1 := ⟨_, rfl⟩
        rw [hW]
        have HK1 : Hid (Kp No w W1) := Hid_mk (by rw [← hW]; exact ((Kp.refl No w).drewN nq).alloc _)
        have HB1 : Hid (BufAt W1 w.heap.size 0 24 (fun _ => 0)) := Hid_mk (by rw [← hW]; exact zeros_buf (w.drewN nq) _)
        clear hW
        have HE := efg_f base W1 v0 bs neg false w.heap.size 24 24 0 prec 0 (dgt d (ndS d)) (HD.out.at HK1.out) (HB1.out.any (by omega) _) (fun e => by have := HV0.out _ e.symm; omega) (by omega) (by omega) (by omega) (fun i hi => by omega) (by omega) (by omega) (by omega) (by omega) (by omega) HBs.out
        rw [show ((0 : Nat) : Int) = 0 from rfl] at HE
        with_reducible refine HE.mono ?_
        rintro e2 w2 ⟨v2, rfl, hd2⟩
        have HD2 := Hid_mk hd2
        clear hd2 HE
        go_wp2_with fail
        have hX := HX.out
        unfold fxI at hX
        rw [HDgd.out, if_neg (by omega)] at hX
        have hdz : d = 0 := by have := congrArg Prod.fst hX; simp at this; omega
        rw [← HR.out, HNeg.out, if_pos hdz, if_pos hdz]
        exact ⟨v2, rfl, HD2.out.back HK1.out HD.out.room⟩
    · have hxq : ex < 0 := by omega
      go_wp2_with fail
      obtain ⟨g, hg⟩ : ∃ g, lg10 (-ex) = g := ⟨_, rfl⟩
      have hgb : -500 ≤ g ∧ g ≤ 500 := by unfold lg10 at hg; omega
      have HG := Hid_mk (HLg.out (w.drewN nq) (-ex) (by omega) (by omega))
      rw [hg] at HG
      obtain ⟨dg, hdg⟩ : ∃ dg, dgI b prec = dg := ⟨_, rfl⟩
      have hde : 1 + prec - g = dg := by have h := HDg.out; rw [if_neg (by omega), hg, hdg] at h; exact h.symm
      have hd18 : dg ≤ 18 := by have h := HD9.out; rw [hdg] at h; exact h
      have HDgd := Hid_mk hdg
      have hgb1 := hgb.1
      have hgb2 := hgb.2
      clear hg hdg hgb
      with_reducible refine HG.out.mono ?_
      rintro e1 w1 ⟨rfl, rfl⟩
      by_cases hdp : 0 < dg
      · go_wp2_with fail
        obtain ⟨W1, hW⟩ : ∃ W1, (w.drewN nq).alloc (.cells #[.int .u8 0, .int .u8 0, .int .u8 0, .int .u8 0, .int .u8 0, .int .u8 0, .int .u8 0, .int .u8 0, .int .u8 0, .int .u8 0, .int .u8 0, .int .u8 0, .int .u8 0, .int .u8 0, .int .u8 0, .int .u8 0, .int .u8 0, .int .u8 0, .int .u8 0, .int .u8 0, .int .u8 0, .int .u8 0, .int .u8 0, .int .u8 0] 105) = W1 := ⟨_, rfl⟩
        rw [hW]
        have HK1 : Hid (Kp No w W1) := Hid_mk (by rw [← hW]; exact ((Kp.refl No w).drewN nq).alloc _)
        have HB1 : Hid (BufAt W1 w.heap.size 0 24 (fun _ => 0)) := Hid_mk (by rw [← hW]; exact zeros_buf (w.drewN nq) _)
        clear hW
        have HLn := Hid_mk (Go.Proofs.Tryz.bits_Len64 (mt : Int) W1 (by omega) (by omega))
        rw [Int.toNat_natCast] at HLn
        have hbl : Lib.bitLen mt ≤ 53 := Lib.bitLen_le mt 53 (by decide) (by omega)
        obtain ⟨sh, hsh⟩ : ∃ sh : Nat, 64 - (Lib.bitLen mt : Int) = (sh : Int) := ⟨64 - Lib.bitLen mt, by omega⟩
        with_reducible refine HLn.out.mono ?_
        rintro e1 w1 ⟨rfl, rfl⟩
        have hsh1 : (11 : Int) ≤ (sh : Int) := by omega
        have hsh2 : (sh : Int) ≤ 64 := by omega
        go_wp2_with fail
        obtain ⟨n, hn⟩ : ∃ n : Nat, dg = (n : Int) := ⟨dg.toNat, by omega⟩
        have hn18 : n ≤ 18 := by omega
        have hn1 : 1 ≤ n := by omega
        have hm64 : mt * 2 ^ sh < 18446744073709551616 := by
          have h1 := aux_lt 64 mt (by omega)
          have h2 : Lib.bitLen mt + sh = 64 := by omega
          calc mt * 2 ^ sh < 2 ^ Lib.bitLen mt * 2 ^ sh := Nat.mul_lt_mul_of_pos_right h1 (Nat.pow_pos (by decide))
            _ = 18446744073709551616 := by rw [← Nat.pow_add, h2]
        have hmw : IntKind.u64.wrap ((mt : Int) * 2 ^ sh) = ((mt * 2 ^ sh : Nat) : Int) := by
          have h := wu ((mt * 2 ^ sh : Nat) : Int) (by omega) (by omega)
          rw [← h, Int.natCast_mul, Int.natCast_pow]
          rfl
        have hX := HX.out
        unfold fxI fxE at hX
        rw [HDgd.out, if_pos (by omega), show shN b = sh by unfold shN; rw [HMd.out]; omega, HMd.out, HEd.out, hn, Int.toNat_natCast] at hX
        have hpb := fwP_bd (e := ex - (sh : Int) - 52) (n := (n : Int)) (by omega) (by omega) (by omega) (by omega)
        obtain ⟨t1, t2, t3⟩ := HTp.out (fwP (ex - (sh : Int) - 52) (n : Int)) hpb.1 hpb.2
        have HFx := Hid_mk (fixed_any w1 (mt * 2 ^ sh) (ex - (sh : Int) - 52) n prec 102 _ _ (t1.no HK1.out) ((HT18.out n hn18).no HK1.out) hm64 t2 t3 (by omega) (by omega) hn1 hn18 (by omega) (by omega) (by decide))
        rw [hX, show ((102 : Nat) : Int) = 102 from rfl] at HFx
        rw [hmw, hn]
        subst hn
        clear hX t1 t2 t3 hpb hmw hm64
        with_reducible refine HFx.out.mono ?_
        rintro e3 w3 ⟨rfl, hk3⟩
        have HK3 := Hid_mk (HK1.out.trans' hk3)
        have HB3 := Hid_mk (HB1.out.no hk3 (World.block_lt_of_cell? w1 _ (HB1.out.cell 0 (by omega))))
        clear hk3
        by_cases hdz : d = 0
        · subst hdz
          rw [show ((0 : Nat) : Int) = 0 from rfl]
          go_wp2_with fail
          have HE := efg_f base w3 v0 bs neg false w.heap.size 24 24 0 prec 0 (dgt 0 (ndS 0)) (HD.out.at HK3.out) (HB3.out.any (by omega) _) (fun e => by have := HV0.out _ e.symm; omega) (by omega) (by omega) (by omega) (fun i hi => by omega) (by omega) (by omega) (by omega) (by omega) (by omega) HBs.out
          rw [show ((0 : Nat) : Int) = 0 from rfl] at HE
          with_reducible refine HE.mono ?_
          rintro e2 w2 ⟨v2, rfl, hd2⟩
          have HD2 := Hid_mk hd2
          clear hd2 HE
          go_wp2_with fail
          rw [← HR.out, HNeg.out, if_pos trivial, if_pos trivial]
          exact ⟨v2, rfl, HD2.out.back HK3.out HD.out.room⟩
        · have HDz := Hid_mk hdz
          have hdne : ((d : Int) == 0) = false := by simp; omega
          have hdne2 : ((d : Int) != 0) = true := by simp; omega
          have hnd := nd_bd Hd18.out
          have HN5 : Hid (∀ W, Kp No w3 W → Calls Tryz.prog 76 #[.int .u64 (d : Int)] W (RV W (.int .i64 (ndS d : Int)))) := Hid_mk fun W hk => numDigits_any W d Hd18.out (fun n hn => ((HT18.out n hn).no HK3.out).no hk)
          have HS5 : Hid (∀ W, Kp No w3 W → Calls Tryz.prog 89 #[.slice (some ⟨w.heap.size, 0, none⟩) 24 24, .int .u64 (d : Int), .int .i64 p, .int .i64 (ndS d : Int)] W fun e w' => e = .returned (.tuple #[.int .i64 ((ndS d : Int) + p), .int .i64 (trimN (dgt d (ndS d)) (ndS d) : Int)]) ∧ Kp No w w' ∧ BufAt w' w.heap.size 0 (ndS d) (dgt d (ndS d)) ∧ w.heap.size < w'.heap.size) := Hid_mk fun W hk =>
            (setDigits_any W w.heap.size 24 24 d (ndS d) p (fun _ => 0) (HB3.out.no hk (World.block_lt_of_cell? w3 _ (HB3.out.cell 0 (by omega)))) (by omega) hnd.2.1 (by omega) (by omega) hnd.2.2 (by have := HQp.out; omega) (by have := HQp.out; omega)).mono fun e w' h => ⟨h.1, (HK3.out.trans' hk).trans h.2.1 (fun i hi e => by have e : i = w.heap.size := e; omega), h.2.2, Nat.lt_of_lt_of_le (World.block_lt_of_cell? w3 _ (HB3.out.cell 0 (by omega))) (Nat.le_trans hk.size h.2.1.size)⟩
          obtain ⟨N, hN⟩ : ∃ N, ndS d = N := ⟨_, rfl⟩
          rw [hN] at HN5 HS5 hnd
          obtain ⟨F, hF⟩ : ∃ F, trimN (dgt d N) N = F := ⟨_, rfl⟩
          rw [hF] at HS5
          have hF9 : F ≤ N := by rw [← hF]; exact trimN_le _ _
          have HF9 := Hid_mk (And.intro hF9 hnd.2.1)
          have HFd := Hid_mk hF
          have HNd := Hid_mk hN
          clear hnd hN hF hF9
          go_wp2_with fail
          go_region_with (first
            | (go_at_call 76; (with_reducible refine (HN5.out _ (by exact ⟨rfl, rfl, rfl, Nat.le_refl _, fun _ _ _ => rfl⟩)).mono ?_); rintro e5 w5 ⟨rfl, rfl⟩)
            | (go_at_call 89; (with_reducible refine (HS5.out _ (by exact ⟨rfl, rfl, rfl, Nat.le_refl _, fun _ _ _ => rfl⟩)).mono ?_); rintro e5 w5 ⟨rfl, hk5, hb5, hz5⟩))
          have HE5 : Hid (∀ W, Kp No w5 W → Calls Tryz.prog 86 #[v0, .bool neg, .slice (some ⟨w.heap.size, 0, none⟩) 24 24, .int .i64 ((N : Int) + p), .int .i64 (F : Int), .int .i64 prec, .int .u8 102, .bool false] W (EfPost base w v0 (bs ++ outF neg (dgt d N) ((N : Int) + p) F prec))) := Hid_mk fun W hk =>
            (efg_f base W v0 bs neg false w.heap.size 24 24 ((N : Int) + p) prec F (dgt d N) (HD.out.at (hk5.trans' hk)) ((hb5.no hk hz5).less HF9.out.1) (fun e => by have := HV0.out _ e.symm; omega) (by have := HF9.out; omega) (by omega) (by omega) (fun i hi => by unfold dgt; omega) (by have := HF9.out; omega) (by have := HQp.out; have := HF9.out; omega) (by have := HQp.out; have := HF9.out; omega) (by omega) (by omega) HBs.out).mono fun e w' h => h.elim fun v h => ⟨v, h.1, h.2.back (hk5.trans' hk) HD.out.room⟩
          clear hk5 hb5 hz5
          go_wp2_with fail
          with_reducible refine (HE5.out _ (by exact ⟨rfl, rfl, rfl, Nat.le_refl _, fun _ _ _ => rfl⟩)).mono ?_
          rintro e2 w2 ⟨v2, rfl, hd2⟩
          have HD2 := Hid_mk hd2
          clear hd2
          go_wp2_with fail
          rw [← HR.out, HNeg.out, if_neg HDz.out, if_neg HDz.out, HNd.out, HFd.out]
          exact ⟨v2, rfl, HD2.out⟩
      · have hdq : dg ≤ 0 := by omega
        have hdz : (0 < dg) = False := by simp; omega
        go_wp2_with fail
        obtain ⟨W1, hW⟩ : ∃ W1, (w.drewN nq).alloc (.cells #[.int .u8 0, .int .u8 0, .int .u8 0, .int .u8 0, .int .u8 0, .int .u8 0, .int .u8 0, .int .u8 0, .int .u8 0, .int .u8 0, .int .u8 0, .int .u8 0, .int .u8 0, .int .u8 0, .int .u8 0, .int .u8 0, .int .u8 0, .int .u8 0, .int .u8 0, .int .u8 0, .int .u8 0, .int .u8 0, .int .u8 0, .int .u8 0] 105) = W1 := ⟨_, rfl⟩
        rw [hW]
        have HK1 : Hid (Kp No w W1) := Hid_mk (by rw [← hW]; exact ((Kp.refl No w).drewN nq).alloc _)
        have HB1 : Hid (BufAt W1 w.heap.size 0 24 (fun _ => 0)) := Hid_mk (by rw [← hW]; exact zeros_buf (w.drewN nq) _)
        clear hW
        have HE := efg_f base W1 v0 bs neg false w.heap.size 24 24 0 prec 0 (dgt d (ndS d)) (HD.out.at HK1.out) (HB1.out.any (by omega) _) (fun e => by have := HV0.out _ e.symm; omega) (by omega) (by omega) (by omega) (fun i hi => by omega) (by omega) (by omega) (by omega) (by omega) (by omega) HBs.out
        rw [show ((0 : Nat) : Int) = 0 from rfl] at HE
        with_reducible refine HE.mono ?_
        rintro e2 w2 ⟨v2, rfl, hd2⟩
        have HD2 := Hid_mk hd2
        clear hd2 HE
        go_wp2_with fail
        have hX := HX.out
        unfold fxI at hX
        rw [HDgd.out, if_neg (by omega)] at hX
        have hdz : d = 0 := by have := congrArg Prod.fst hX; simp at this; omega
        rw [← HR.out, HNeg.out, if_pos hdz, if_pos hdz]
        exact ⟨v2, rfl, HD2.out.back HK1.out HD.out.room⟩

end Go.Proofs.YtannbdbhkhmppaaGreatDoor.fmtf

namespace Go.Proofs.YtannbdbhkhmppaaGreatDoor.fmtf
open Go.RowKit Go.Proofs.YtannbdbhkhmppaaGreatDoor.sum Go.Proofs.YtannbdbhkhmppaaGreatDoor.kept Go.Proofs.YtannbdbhkhmppaaGreatDoor.app Go.Proofs.YtannbdbhkhmppaaGreatDoor.writer Go.Proofs.YtannbdbhkhmppaaGreatDoor.known
set_option linter.unusedVariables false

/-- a text is told, memory is let be -/
def TxPost (w : World) (s : List UInt8) (e : Ending) (w' : World) : Prop := e = .returned (.string ⟨s.toArray⟩) ∧ Kp No w w'

theorem make_row (w : World) (c : Int) (h0 : 0 ≤ c) (hc : c ≤ 100000) : ∃ w', (Instr.makeSlice 32 (.int .i64 0) (.int .i64 c)).run Tryz.prog w = .ok (.slice (some ⟨w.heap.size, 0, none⟩) 0 c.toNat) w' ∧
    Dst w.heap.size w' (.slice (some ⟨w.heap.size, 0, none⟩) 0 c.toNat) w' (.slice (some ⟨w.heap.size, 0, none⟩) 0 c.toNat) [] ∧ Kp No w w' := by
  obtain ⟨n, rfl⟩ : ∃ n : Nat, c = (n : Int) := ⟨c.toNat, by omega⟩
  obtain ⟨i0, hi, hz0, hz1, hz2⟩ := info_parts info5
  obtain ⟨w', hr, ho, hg⟩ := run_make_own (P := Tryz.prog) w w.heap.size 32 5 i0 (.int .u8 0) 1 Tryz.underlying32 hi hz0 hz1 .i64 .i64 n (by rw [hz2]; omega) (by unfold maxLen; omega) (Nat.le_refl _)
  rw [show ((n : Int)).toNat = n from rfl]
  refine ⟨w', hr, Dst.refl (by simpa using ho) hg.size, (Kp.refl No w).grown hg fun k hk e => by cases e⟩

set_option maxRecDepth 100000 in
set_option maxHeartbeats 4000000 in
theorem iff_any (w : World) (b : Nat) (fm : Int) (prec : Int) (S : List UInt8) (hp1 : -1000 ≤ prec) (hp2 : prec ≤ 1000)
    (hc : ∀ W v0, Kp No w W → Dst w.heap.size W v0 W v0 [] → (∀ k, v0.ownBlock = some k → w.heap.size ≤ k ∧ k < W.heap.size) → Calls Tryz.prog 68 #[v0, .float .f64 b, .int .u8 fm, .int .i64 prec] W (EfPost w.heap.size W v0 S)) :
    Calls Tryz.prog 51 #[.float .f64 b, .int .u8 fm, .int .i64 prec, .int .i64 64] w (TxPost w S) := by
  have HC := Hid_mk hc
  clear hc
  go_enter Tryz.func51, Tryz.ntmps51
  go_wp2_with fail
  obtain ⟨C, hC⟩ : ∃ C, max (prec + 4) 24 = C := ⟨_, rfl⟩
  rw [hC]
  obtain ⟨w1, hr, hd, hk⟩ := make_row w C (by omega) (by omega)
  rw [hr]
  obtain ⟨N, hN⟩ : ∃ N, C.toNat = N := ⟨_, rfl⟩
  rw [hN] at hd ⊢
  have HC1 := Hid_mk (HC.out w1 _ hk hd hd.owns.lt)
  have HK := Hid_mk hk
  clear hr hd hk hN hC
  go_wp2_with fail
  with_reducible refine HC1.out.mono ?_
  rintro e w2 ⟨v2, rfl, hd2⟩
  have HB := Hid_mk (conv_bs (owns_bs hd2.owns))
  have HK2 : Hid (Kp No w w2) := Hid_mk (HK.out.trans hd2.kp fun i hi e => by cases e; exact absurd hi (Nat.lt_irrefl _))
  obtain ⟨a3, c3, rfl, -⟩ := owns_bs hd2.owns
  clear hd2
  go_wp2_with fail
  rw [HB.out]
  go_wp2
  go_ret
  exact ⟨rfl, HK2.out⟩

set_option maxRecDepth 100000 in
theorem ff_any (w : World) (b : Nat) (fm : Int) (prec : Int) (S : List UInt8)
    (hc : Calls Tryz.prog 51 #[.float .f64 b, .int .u8 fm, .int .i64 prec, .int .i64 64] w (TxPost w S)) :
    Calls Tryz.prog 32 #[.float .f64 b, .int .u8 fm, .int .i64 prec, .int .i64 64] w (TxPost w S) := by
  have HC := Hid_mk hc
  clear hc
  go_enter Tryz.func32, Tryz.ntmps32
  go_wp2_with fail
  with_reducible refine HC.out.mono ?_
  rintro e w2 ⟨rfl, hk⟩
  have HK := Hid_mk hk
  clear hk
  go_wp2
  go_ret
  exact ⟨rfl, HK.out⟩

end Go.Proofs.YtannbdbhkhmppaaGreatDoor.fmtf
