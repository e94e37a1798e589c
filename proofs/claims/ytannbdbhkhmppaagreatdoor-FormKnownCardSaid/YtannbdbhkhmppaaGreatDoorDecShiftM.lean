/- The library's decimals: whole numbers, and how a shift turns them. The library's decimals: a new one. internal/strconv.ftoa64 at 'f', many digits of a whole number: the walk. num.Digits of great numbers. FormatFloat at 'g' of closed numbers; digits of nought, of 0.1, of 3 and of 1e300. num.Digits, num.Whole of any number. Package printf: Number. -/
import Derived.Test.YtannbdbhkhmppaaGreatDoorFmtGeM
import Derived.Test.YtannbdbhkhmppaaGreatDoorDecLeftM
import Derived.Deep.WholeRow
import Derived.Test.YtannbdbhkhmppaaGreatDoorFtoaM
import Derived.Test.YtannbdbhkhmppaaGreatDoorPfFormatM
import Derived.Test.YtannbdbhkhmppaaGreatDoorPfTellGM
import Derived.Test.YtannbdbhkhmppaaGreatDoorFmtG
import Derived.Test.YtannbdbhkhmppaaGreatDoorPfNumM

namespace Go.Proofs.YtannbdbhkhmppaaGreatDoor.fmtf
open Go.RowKit Go.Proofs.YtannbdbhkhmppaaGreatDoor.sum Go.Proofs.YtannbdbhkhmppaaGreatDoor.kept Go.Proofs.YtannbdbhkhmppaaGreatDoor.str Go.Proofs.YtannbdbhkhmppaaGreatDoor.nums
set_option linter.unusedVariables false

theorem lead_dgt {X : Nat} (h : 0 < X) : dgt X (dlen X) 0 ≠ 48 := by
  obtain ⟨a, b⟩ := dlen_ge h
  have c := dlen_lt X
  unfold dgt
  rw [Nat.sub_zero]
  have hp : 0 < 10 ^ (dlen X - 1) := Nat.pow_pos (by omega)
  have h1 := Nat.div_pos a hp
  have h2 : X / 10 ^ (dlen X - 1) < 10 := by
    rw [Nat.div_lt_iff_lt_mul hp, ← Nat.pow_succ', show (dlen X - 1).succ = dlen X by omega]
    exact c
  omega
theorem dlen_mono {a b : Nat} (h : a ≤ b) : dlen a ≤ dlen b := by
  rcases Nat.eq_zero_or_pos a with e | e
  · subst e; exact Nat.zero_le _
  · obtain ⟨h1, h2⟩ := dlen_ge e
    have h3 := dlen_lt b
    rcases Nat.lt_or_ge (dlen b) (dlen a) with h4 | h4
    · have := Nat.pow_le_pow_right (show 0 < 10 by omega) (show dlen b ≤ dlen a - 1 by omega)
      omega
    · exact h4
/-- how many digits count of a whole number -/
def sgN (X : Nat) : Nat := trimN (dgt X (dlen X)) (dlen X)
theorem sg_le (X : Nat) : sgN X ≤ dlen X := trimN_le _ _
theorem sg_pos {X : Nat} (h : 0 < X) : 0 < sgN X := trim_pos (dlen_ge h).2 (lead_dgt h)
/-- the decimal at a block is a whole number -/
def DR (w : World) (q X : Nat) (ng tr : Bool) : Prop := ∃ f, DecAt w q f (sgN X) (dlen X) ng tr ∧ ∀ i, i < sgN X → f i = dgt X (dlen X) i
theorem AsPost.dr {q : Nat} {w w' : World} {v : Nat} {ng tr : Bool} {e : Ending} (h : AsPost q w v ng tr e w') (hv : 0 < v) : e = .returned (.tuple #[]) ∧ Kp (fun b => b = q) w w' ∧ DR w' q v ng tr := by
  obtain ⟨h1, h2, f, h3, h4⟩ := h
  have e1 : trimN f (dlen v) = sgN v := trim_congr h4
  rw [e1, if_neg (by have := sg_pos hv; omega)] at h3
  exact ⟨h1, h2, f, h3, fun i hi => h4 i (by have := sg_le v; omega)⟩
/-- the digits that count, as a number -/
theorem sg_val {X : Nat} (h : 0 < X) {f : Nat → Nat} (hf : ∀ i, i < sgN X → f i = dgt X (dlen X) i) : DgF f (sgN X) ∧ valF f (sgN X) * 10 ^ (dlen X - sgN X) = X ∧ 10 ^ (sgN X - 1) ≤ valF f (sgN X) := by
  have hle := sg_le X
  have hpos := sg_pos h
  have hd : DgF f (sgN X) := fun i hi => by rw [hf i hi]; unfold dgt; omega
  have hv : valF f (sgN X) = X / 10 ^ (dlen X - sgN X) := by
    have h1 := val_of_dgt (f := dgt X (dlen X)) (n := dlen X) (P := X) (fun _ _ => rfl) (dlen_lt X) (sgN X) hle
    rw [← h1]
    clear h1
    have : ∀ k, k ≤ sgN X → valF f k = valF (dgt X (dlen X)) k := by
      intro k
      induction k with
      | zero => intro _; rfl
      | succ k ih => intro hk; rw [valF, valF, ih (by omega), hf k (by omega)]
    exact this _ (Nat.le_refl _)
  have hx : valF f (sgN X) * 10 ^ (dlen X - sgN X) = X := by
    have h1 := val_of_dgt (f := dgt X (dlen X)) (n := dlen X) (P := X) (fun _ _ => rfl) (dlen_lt X) (dlen X) (Nat.le_refl _)
    have h2 := val_of_dgt (f := dgt X (dlen X)) (n := dlen X) (P := X) (fun _ _ => rfl) (dlen_lt X) (sgN X) hle
    have h3 := val_trim (f := dgt X (dlen X)) (sgN X) (dlen X - sgN X) fun i h1 h2 => trim_zeros (f := dgt X (dlen X)) (n := dlen X) h1 (by omega)
    rw [show sgN X + (dlen X - sgN X) = dlen X by omega, h1, Nat.sub_self, Nat.pow_zero, Nat.div_one, h2] at h3
    rw [hv]
    exact h3.symm
  refine ⟨hd, hx, ?_⟩
  obtain ⟨a, b⟩ := dlen_ge h
  rw [hv, Nat.le_div_iff_mul_le (Nat.pow_pos (by omega)), ← Nat.pow_add, show sgN X - 1 + (dlen X - sgN X) = dlen X - 1 by omega]
  exact a

theorem lshift_dr (w : World) (q X : Nat) (ng tr : Bool) (h : DR w q X ng tr) (hX : 0 < X) (k dl : Nat) (s : List UInt8) (hc : Lc w k dl s) (hch : Cheat k dl s) (hk : k ≤ 60) (hs : s.length ≤ 1000) (hdl : dl ≤ 100) (h800 : dlen (X * 2 ^ k) ≤ 800) :
    Calls Tryz.prog 117 #[.pointer (some ⟨q, 0, none⟩), .int .u64 (k : Int)] w fun e w' => e = .returned (.tuple #[]) ∧ Kp (fun b => b = q) w w' ∧ DR w' q (X * 2 ^ k) ng tr := by
  obtain ⟨f, hd, hf⟩ := h
  obtain ⟨hdg, hval, hge⟩ := sg_val hX hf
  have hle := sg_le X
  have hpos := sg_pos hX
  have hb := cheat_bd hch hdg hpos hge
  obtain ⟨dt, hdt⟩ : ∃ dt, (if lexS f (sgN X) s = true then dl - 1 else dl) = dt := ⟨_, rfl⟩
  have hone := hch.one
  have hb2 : valF f (sgN X) * 2 ^ k < 10 ^ (sgN X + dt) ∧ 10 ^ (sgN X + dt - 1) ≤ valF f (sgN X) * 2 ^ k := by
    rw [← hdt]
    split at hb
    · rename_i e; rw [if_pos e]; exact hb
    · rename_i e; rw [if_neg e]; exact hb
  obtain ⟨P, hP⟩ : ∃ P, valF f (sgN X) * 2 ^ k = P := ⟨_, rfl⟩
  rw [hP] at hb2
  have hXk : X * 2 ^ k = P * 10 ^ (dlen X - sgN X) := by rw [← hP, Nat.mul_right_comm, hval]
  have hP0 : 0 < P := Nat.lt_of_lt_of_le (Nat.pow_pos (by omega)) hb2.2
  have hPl : dlen P = sgN X + dt := dlen_uniq hb2.1 hb2.2 (by omega)
  have hL : dlen (X * 2 ^ k) = dlen X + dt := by rw [hXk, dlen_mul hP0, hPl]; omega
  have hdlX : dlen X ≤ 800 := by omega
  refine (lshift_any w q f (sgN X) (dlen X) ng tr hd k dl s hc hk hs hdl hpos hdg dt (sgN X + dt) P hdt (fun _ => hone) rfl (by omega) hP hb2.1 hb2.2 (by omega) (by omega)).mono ?_
  rintro e w' ⟨rfl, hk', f', hd', hf'⟩
  refine ⟨rfl, hk', f', ?_, ?_⟩
  · have e1 : trimN f' (sgN X + dt) = sgN (X * 2 ^ k) := by
      unfold sgN
      rw [hXk, dlen_mul hP0, trim_tail (n := dlen P) (fun i h1 h2 => dgt_tail P (dlen P) _ i h1 h2), hPl]
      exact trim_congr fun i hi => by rw [hf' i hi]; exact (dgt_mul P _ _ i hi).symm
    rw [e1, if_neg (by have := sg_pos (X := X * 2 ^ k) (Nat.mul_pos hX (Nat.pow_pos (by omega))); omega)] at hd'
    rw [hL, Int.natCast_add]
    exact hd'
  · intro i hi
    have h1 : sgN (X * 2 ^ k) ≤ sgN X + dt := by
      unfold sgN
      rw [hXk, dlen_mul hP0, trim_tail (n := dlen P) (fun i h1 h2 => dgt_tail P (dlen P) _ i h1 h2), hPl]
      exact trimN_le _ _
    rw [hf' i (by omega), hXk, dlen_mul hP0, hPl]
    exact (dgt_mul P _ _ i (by omega)).symm
/-- the whole table -/
def Lcs (w : World) : Prop := ∀ k, 1 ≤ k → k ≤ 60 → ∃ dl s, Lc w k dl s ∧ Cheat k dl s ∧ s.length ≤ 1000 ∧ dl ≤ 100
theorem Lcs.no {w w' : World} (h : Lcs w) (hk : Kp No w w') : Lcs w' := fun k h1 h2 => by
  obtain ⟨dl, s, a, b⟩ := h k h1 h2
  exact ⟨dl, s, a.kp hk (fun _ _ => trivial) id (fun _ _ _ _ _ => id), b⟩
/-- a decimal that is new: all else is let be -/
theorem kp_new {W0 w w' : World} {q : Nat} (h0 : Kp No W0 w) (hq : W0.heap.size ≤ q) (h : Kp (fun b => b = q) w w') : Kp No W0 w' :=
  h0.trans h fun i hi e => absurd hi (by omega)
theorem DR.nd {w : World} {q X : Nat} {ng tr : Bool} (h : DR w q X ng tr) : w.cell? ⟨q, 800, none⟩ = some (.int .i64 (sgN X : Int)) := by
  obtain ⟨f, hd, _⟩ := h
  exact hd.c0

set_option maxRecDepth 100000 in
set_option maxHeartbeats 4000000 in
theorem shift_dr (W0 w : World) (q X : Nat) (ng tr : Bool) (hL : Lcs W0) (hk0 : Kp No W0 w) (hq : W0.heap.size ≤ q) (h : DR w q X ng tr) (hX : 0 < X) (k : Nat) (hk1 : 1 ≤ k) (hk2 : k ≤ 2000) (h800 : dlen (X * 2 ^ k) ≤ 800) :
    Calls Tryz.prog 93 #[.pointer (some ⟨q, 0, none⟩), .int .i64 (k : Int)] w fun e w' => e = .returned (.tuple #[]) ∧ Kp (fun b => b = q) w w' ∧ DR w' q (X * 2 ^ k) ng tr := by
  have HS := Hid_mk fun (W : World) (Y j : Nat) (hk : Kp No W0 W) (hd : DR W q Y ng tr) (hY : 0 < Y) (h1 : 1 ≤ j) (h2 : j ≤ 60) (h3 : dlen (Y * 2 ^ j) ≤ 800) => by
    obtain ⟨dl, s, a, b, c, d⟩ := hL.no hk j h1 h2
    exact lshift_dr W q Y ng tr hd hY j dl s a b h2 c d h3
  have c0 := h.nd
  have hsg := sg_pos hX
  have hsgi : ((sgN X : Int) == 0) = false := by simp; omega
  have hsgi2 : ¬ (sgN X : Int) = 0 := by omega
  have HD := Hid_mk h
  have HK0 := Hid_mk hk0
  have HQ := Hid_mk hq
  have HX := Hid_mk hX
  have H800 := Hid_mk h800
  have hki : (0 : Int) < (k : Int) := by omega
  have hk2i : (k : Int) ≤ 2000 := by omega
  have HK1 := Hid_mk hk1
  have hkn : 0 < k := hk1
  have hkz : ¬ k = 0 := by omega
  obtain ⟨sg, hsge⟩ : ∃ sg, sgN X = sg := ⟨_, rfl⟩
  rw [hsge] at c0 hsgi hsgi2
  have hqs : q < w.heap.size := World.block_lt_of_cell? w _ c0
  clear h hk0 hq hX h800 hL hk1 hk2 hsg hsge
  go_enter Tryz.func93, Tryz.ntmps93
  go_wp2_with fail
  go_loopw [1] (fun a wr => ∃ j : Nat, a = .int .i64 (j : Int) ∧ 1 ≤ j ∧ j ≤ k ∧ DR wr q (X * 2 ^ (k - j)) ng tr ∧ Kp (fun b => b = q) w wr) (fun a _ => (intOf a).toNat)
  case atStart => exact ⟨k, rfl, HK1.out, Nat.le_refl _, by rw [Nat.sub_self, Nat.pow_zero, Nat.mul_one]; exact HD.out, Kp.refl _ _⟩
  case round =>
    obtain ⟨j, rfl, hj1, hj2, hd, hkp⟩ := hrel
    have HDw := Hid_mk hd
    have HKp := Hid_mk hkp
    have HJ := Hid_mk (And.intro hj1 hj2)
    have hj0 : (0 : Int) < (j : Int) := by omega
    have hj2000 : (j : Int) ≤ 2000 := by omega
    have hP0 : 0 < X * 2 ^ (k - j) := Nat.mul_pos HX.out (Nat.pow_pos (by omega))
    by_cases h60 : 60 < j
    · have h60i : (60 : Int) < (j : Int) := by omega
      have e1 : X * 2 ^ (k - j) * 2 ^ 60 = X * 2 ^ (k - (j - 60)) := by rw [Nat.mul_assoc, ← Nat.pow_add]; congr 2; omega
      have hC := HS.out wr (X * 2 ^ (k - j)) 60 (kp_new HK0.out HQ.out hkp) hd hP0 (by omega) (by omega) (by rw [e1]; exact Nat.le_trans (dlen_mono (Nat.mul_le_mul_left _ (Nat.pow_le_pow_right (by omega) (by omega)))) H800.out)
      rw [e1, show ((60 : Nat) : Int) = 60 from rfl] at hC
      have HC := Hid_mk hC
      have H60 := Hid_mk h60
      clear hj1 hj2 hd hkp hC e1 h60 hP0
      go_wp2_with fail
      with_reducible refine HC.out.mono ?_
      rintro e w5 ⟨rfl, hk5, hd5⟩
      have HK5 := Hid_mk hk5
      have HD5 := Hid_mk hd5
      clear hk5 hd5
      go_wp2
      go_roundw
      case rel => exact ⟨j - 60, by go_num, by have := H60.out; omega, by have := HJ.out; omega, HD5.out, HKp.out.trans' HK5.out⟩
      case measure => simp [intOf]; omega
    · have h60i : ¬ (60 : Int) < (j : Int) := by omega
      have e1 : X * 2 ^ (k - j) * 2 ^ j = X * 2 ^ k := by rw [Nat.mul_assoc, ← Nat.pow_add]; congr 2; omega
      have hC := HS.out wr (X * 2 ^ (k - j)) j (kp_new HK0.out HQ.out hkp) hd hP0 (by omega) (by omega) (by rw [e1]; exact H800.out)
      rw [e1] at hC
      have HC := Hid_mk hC
      have hwj : IntKind.u64.wrap (j : Int) = (j : Int) := wu _ (by omega) (by omega)
      clear hj1 hj2 hd hkp hC e1 h60 hP0
      go_wp2_with fail
      with_reducible refine HC.out.mono ?_
      rintro e w5 ⟨rfl, hk5, hd5⟩
      have HK5 := Hid_mk hk5
      have HD5 := Hid_mk hd5
      clear hk5 hd5
      go_wp2
      go_end0
      exact ⟨rfl, HKp.out.trans' HK5.out, HD5.out⟩

set_option maxRecDepth 100000 in
set_option maxHeartbeats 4000000 in
theorem round_nop (w : World) (q nd : Nat) (m : Int) (hc : w.cell? ⟨q, 800, none⟩ = some (.int .i64 (nd : Int))) (h : (nd : Int) ≤ m) :
    Calls Tryz.prog 94 #[.pointer (some ⟨q, 0, none⟩), .int .i64 m] w fun e w' => e = .returned (.tuple #[]) ∧ w = w' := by
  have h0 : (0 : Int) ≤ (nd : Int) := Int.natCast_nonneg _
  have h1 : ¬ m < 0 := by omega
  have hqs : q < w.heap.size := World.block_lt_of_cell? w _ hc
  go_enter Tryz.func94, Tryz.ntmps94
  go_wp2
  (try simp only [Exit.inBlock, Exit.then])
  refine bodyPost_ret (results_none rfl _ _ _) rfl ?_
  exact ⟨rfl, rfl⟩

end Go.Proofs.YtannbdbhkhmppaaGreatDoor.fmtf

namespace Go.Proofs.YtannbdbhkhmppaaGreatDoor.fmtf
open Go.RowKit Go.Proofs.YtannbdbhkhmppaaGreatDoor.sum Go.Proofs.YtannbdbhkhmppaaGreatDoor.kept Go.Proofs.YtannbdbhkhmppaaGreatDoor.str Go.Proofs.YtannbdbhkhmppaaGreatDoor.nums
set_option linter.unusedVariables false

def decZ : Array Value := Array.replicate 800 (.int .u8 0) ++ #[.int .i64 0, .int .i64 0, .bool false, .bool false]
theorem dec_zero : (∀ w, (zeroValue 127).run Tryz.prog w = .ok (.agg decZ) w) ∧ (Tryz.prog.info? 127).map (·.size) = some 804 :=
  zero_of_info (by kernel_rfl)
theorem dec_new (W : World) (t : TypeId) : DecAt (W.alloc (.cells decZ t)) W.heap.size (fun _ => 0) 0 0 false false := by
  have hc : ∀ j, (W.alloc (.cells decZ t)).cell? ⟨W.heap.size, j, none⟩ = decZ[j]? := fun j => by simp
  refine ⟨⟨fun i hi => ?_, fun i => by simp⟩, ?_, ?_, ?_, ?_⟩
  · rw [hc, Nat.zero_add, decZ, Array.getElem?_append_left (by simp; omega)]
    simp [hi]
  all_goals
    rw [hc, decZ, Array.getElem?_append_right (by simp)]
    simp

end Go.Proofs.YtannbdbhkhmppaaGreatDoor.fmtf

namespace Go.Proofs.YtannbdbhkhmppaaGreatDoor.fmtf
open Go.RowKit Go.Proofs.YtannbdbhkhmppaaGreatDoor.sum Go.Proofs.YtannbdbhkhmppaaGreatDoor.kept Go.Proofs.YtannbdbhkhmppaaGreatDoor.app Go.Proofs.YtannbdbhkhmppaaGreatDoor.writer
set_option linter.unusedVariables false
attribute [local go_sem] run_fbits

theorem outF_congr (neg : Bool) (f g : Nat → Nat) (L nd : Nat) (prec : Int) (h : ∀ i, i < nd → f i = g i) (hn : nd ≤ L) : outF neg f (L : Int) nd prec = outF neg g (L : Int) nd prec := by
  have h1 : intF f (L : Int) nd = intF g (L : Int) nd := by
    unfold intF
    split
    · congr 1
      refine List.map_congr_left fun i hi => ?_
      rw [List.mem_range] at hi
      rw [h i (by omega)]
    · rfl
  have hlz : (0 : Int) ≤ lzF (L : Int) prec ∨ prec ≤ 0 := by unfold lzF; omega
  have h2 : fracF f (L : Int) nd prec = fracF g (L : Int) nd prec := by
    unfold fracF
    split
    · have hm : (midF (L : Int) nd prec).toNat = 0 := by unfold midF; omega
      rw [hm]
      rfl
    · rfl
  unfold outF
  rw [h1, h2]

set_option maxRecDepth 100000 in
set_option maxHeartbeats 16000000 in
theorem ftoa_big (base : Nat) (w : World) (v0 : Value) (bs : List UInt8) (b : Nat) (prec : Int) (hd : Dst base w v0 w v0 bs) (hv0 : ∀ k, v0.ownBlock = some k → k < w.heap.size) (hbs : bs.length ≤ 100000) (ho : w.cell? ⟨3, 0, none⟩ = some (.bool true)) (hb : b < 18446744073709551616) (hE : b / 4503599627370496 % 2048 ≠ 2047) (hM : mtN b ≠ 0) (hp1 : 0 ≤ prec) (hp2 : prec ≤ 1000) (hD : 18 < dgI b prec) (hx : 52 < exI b) (hL : Lcs w) (h800 : dlen (mtN b * 2 ^ (exI b - 52).toNat) ≤ 800) :
    Calls Tryz.prog 68 #[v0, .float .f64 b, .int .u8 102, .int .i64 prec] w (EfPost base w v0 (bs ++ outF (decide (9223372036854775808 ≤ b)) (dgt (mtN b * 2 ^ (exI b - 52).toNat) (dlen (mtN b * 2 ^ (exI b - 52).toNat))) (dlen (mtN b * 2 ^ (exI b - 52).toNat) : Int) (sgN (mtN b * 2 ^ (exI b - 52).toNat)) prec)) := by
  have HD := Hid_mk hd
  have HBs := Hid_mk hbs
  have HV0 := Hid_mk hv0
  obtain ⟨X, hXe⟩ : ∃ X, mtN b * 2 ^ (exI b - 52).toNat = X := ⟨_, rfl⟩
  rw [hXe] at h800
  rw [hXe]
  have HXe := Hid_mk hXe
  have H800 := Hid_mk h800
  have HLc := Hid_mk hL
  have HXp := Hid_mk hx
  obtain ⟨R, hR⟩ : ∃ R, EfPost base w v0 (bs ++ outF (decide (9223372036854775808 ≤ b)) (dgt X (dlen X)) (dlen X : Int) (sgN X) prec) = R := ⟨_, rfl⟩
  rw [hR]
  have HR := Hid_mk hR
  have hb1 : (b : Int) < 18446744073709551616 := by omega
  have hb0 : (0 : Int) ≤ (b : Int) := Int.natCast_nonneg _
  have hsg : ((b : Int) / 9223372036854775808 != 0) = decide (9223372036854775808 ≤ b) := by
    by_cases h : 9223372036854775808 ≤ b
    · rw [decide_eq_true h]; simp; omega
    · rw [decide_eq_false h]; simp; omega
  obtain ⟨neg, hneg⟩ : ∃ neg, decide (9223372036854775808 ≤ b) = neg := ⟨_, rfl⟩
  rw [hneg] at hsg
  have HNeg := Hid_mk hneg
  have HSg := Hid_mk hsg
  have HLg := Hid_mk fun W x h1 h2 => lg10_any W x h1 h2
  clear hd hv0 hbs hx hR hneg hsg hXe h800 hL
  go_enter Tryz.func68, Tryz.ntmps68
  obtain ⟨K, hK⟩ : ∃ K, b / 4503599627370496 = K := ⟨_, rfl⟩
  have hKi : (b : Int) / 4503599627370496 = (K : Int) := by omega
  have hK4 : K < 4096 := by omega
  have HA := Hid_mk (and2047 K hK4)
  obtain ⟨E, hE2⟩ : ∃ E, K % 2048 = E := ⟨_, rfl⟩
  obtain ⟨Q, hQ⟩ : ∃ Q, b % 4503599627370496 = Q := ⟨_, rfl⟩
  have HQ := Hid_mk (and52 b hb)
  rw [hE2] at HA
  rw [hQ] at HQ
  have HMt := Hid_mk (show mtN b = if E = 0 then Q else Q + 4503599627370496 by unfold mtN; rw [hK, hE2, hQ])
  have HEx := Hid_mk (show exI b = (if E = 0 then 1 else (E : Int)) - 1023 by unfold exI; rw [hK, hE2])
  rw [hK, hE2] at hE
  have hQb : Q < 4503599627370496 := by omega
  have HO := Hid_mk (or52 Q hQb)
  have hE48 : (E : Int) ≤ 2046 := by omega
  have hE0 : (0 : Int) ≤ (E : Int) := Int.natCast_nonneg _
  have hQ0 : (0 : Int) ≤ (Q : Int) := Int.natCast_nonneg _
  have hQi : (Q : Int) < 4503599627370496 := by omega
  have hm1 : mtN b < 9007199254740992 := by rw [HMt.out]; split <;> omega
  have hm2 : 1 ≤ mtN b := by omega
  have hx1 : -1022 ≤ exI b := by rw [HEx.out]; split <;> omega
  have hx2 : exI b ≤ 1023 := by rw [HEx.out]; split <;> omega
  obtain ⟨mt, hmt⟩ : ∃ mt, mtN b = mt := ⟨_, rfl⟩
  obtain ⟨ex, hex⟩ : ∃ ex, exI b = ex := ⟨_, rfl⟩
  rw [hmt] at HMt hm1 hm2
  rw [hex] at HEx hx1 hx2
  have HDg := Hid_mk (show dgI b prec = if 0 ≤ ex then 1 + lg10 (1 + ex) + prec else 1 + prec - lg10 (-ex) by unfold dgI; rw [hex])
  have HMd := Hid_mk hmt
  have HEd := Hid_mk hex
  have HD9 := Hid_mk hD
  have hmi1 : (1 : Int) ≤ (mt : Int) := by omega
  have hmi2 : (mt : Int) < 9007199254740992 := by omega
  go_wp2_with fail
  go_quiet (fail)
  rw [HA.out, HSg.out]
  clear hKi hK hK4 hE2 hQ hQb hb hM hD hE hmt hex hm1 hm2
  have hq := HQ.out
  have hE0n : E ≠ 0 := by
    intro e
    have h := HEx.out
    rw [if_pos e] at h
    have := HXp.out
    rw [HEd.out] at this
    omega
  have hpz : ¬ prec < 0 := by omega
  have hE1 : (1 : Int) ≤ (E : Int) := by omega
  have hE47 : ((E : Int) == 2047) = false := by simp; omega
  have hE40 : ((E : Int) == 0) = false := by simp; omega
  have ho5 := HO.out
  have hmQ : ((Q + 4503599627370496 : Nat) : Int) = (mt : Int) := by have h := HMt.out; rw [if_neg hE0n] at h; omega
  have hxe : (E : Int) + -1023 = ex := by have h := HEx.out; rw [if_neg hE0n] at h; omega
  rw [hmQ] at ho5
  have hmz : ((mt : Int) == 0) = false := by simp; omega
  have hx53 : (53 : Int) ≤ ex := by have := HXp.out; rw [HEd.out] at this; omega
  clear hmQ hE0n
  have hxq : (ex < 0) = False := by simp; omega
  have hxp : 0 ≤ ex := by omega
  go_wp2_with fail
  obtain ⟨g, hg⟩ : ∃ g, lg10 (1 + ex) = g := ⟨_, rfl⟩
  have hgb : -500 ≤ g ∧ g ≤ 500 := by unfold lg10 at hg; omega
  have HG := Hid_mk (HLg.out (w.drewN nq) (1 + ex) (by omega) (by omega))
  rw [hg] at HG
  obtain ⟨dg, hdg⟩ : ∃ dg, dgI b prec = dg := ⟨_, rfl⟩
  have hde : 1 + g + prec = dg := by have h := HDg.out; rw [if_pos (by omega), hg, hdg] at h; exact h.symm
  have hd18 : (dg ≤ 18) = False := by have h := HD9.out; rw [hdg] at h; simp; omega
  have HDgd := Hid_mk hdg
  have hgb1 := hgb.1
  have hgb2 := hgb.2
  have zv := dec_zero.1
  obtain ⟨dz, hdz⟩ : ∃ dz, decZ = dz := ⟨_, rfl⟩
  rw [hdz] at zv
  have HDz := Hid_mk hdz
  clear hg hdg hgb hdz
  with_reducible refine HG.out.mono ?_
  rintro e1 w1 ⟨rfl, rfl⟩
  go_wp2_with fail
  obtain ⟨W1, hW1⟩ : ∃ W1, (w.drewN nq).alloc (.cells dz 127) = W1 := ⟨_, rfl⟩
  rw [hW1]
  have HK1 : Hid (Kp No w W1) := Hid_mk (by rw [← hW1]; exact ((Kp.refl No w).drewN nq).alloc _)
  have HD1 : Hid (DecAt W1 w.heap.size (fun _ => 0) 0 0 false false) := Hid_mk (by rw [← hW1, ← HDz.out]; exact dec_new (w.drewN nq) _)
  obtain ⟨G, hG⟩ : ∃ G, w.heap.size = G := ⟨_, rfl⟩
  have HG2 := Hid_mk hG
  rw [hG] at HD1
  rw [hG]
  clear hW1 hG zv
  obtain ⟨k, hk⟩ : ∃ k : Nat, (exI b - 52).toNat = k := ⟨_, rfl⟩
  have hke : ex - 52 = (k : Int) := by rw [← hk, HEd.out]; omega
  have hXm : mt * 2 ^ k = X := by rw [← HXe.out, hk, HMd.out]
  have hmt64 : mt < 18446744073709551616 := by omega
  have hk1 : 1 ≤ k := by omega
  have hk2 : k ≤ 2000 := by omega
  have hX0 : 0 < X := by rw [← hXm]; exact Nat.mul_pos (by omega) (Nat.pow_pos (by omega))
  have HX0 := Hid_mk hX0
  have HA1 := Hid_mk ((assign_any W1 G _ _ _ _ _ HD1.out mt hmt64).mono fun e w' h => AsPost.dr h (by omega))
  have HSh := Hid_mk fun (W : World) (h1 : Kp No w W) (h2 : DR W G mt false false) => shift_dr w W G mt false false HLc.out h1 (by rw [HG2.out]; exact Nat.le_refl _) h2 (by omega) k hk1 hk2 (by rw [hXm]; exact H800.out)
  rw [hXm] at HSh
  have hkz : 0 < k := hk1
  clear hk hXm hmt64 hk1 hX0 HD1
  with_reducible refine HA1.out.mono ?_
  rintro e1 W2 ⟨rfl, hk2', hd2⟩
  have HK2 := Hid_mk (kp_new HK1.out (by rw [HG2.out]; exact Nat.le_refl _) hk2')
  have HSh2 := Hid_mk (HSh.out W2 HK2.out hd2)
  clear hk2' hd2 HA1 HSh
  go_wp2_with fail
  with_reducible refine HSh2.out.mono ?_
  rintro e1 W3 ⟨rfl, hk3, f, hd3, hf3⟩
  have HK3 := Hid_mk (kp_new HK2.out (by rw [HG2.out]; exact Nat.le_refl _) hk3)
  have HD3 := Hid_mk hd3
  have HF3 := Hid_mk hf3
  obtain ⟨L, hL⟩ : ∃ L, dlen X = L := ⟨_, rfl⟩
  obtain ⟨sg, hsg⟩ : ∃ sg, sgN X = sg := ⟨_, rfl⟩
  have hsgl : sg ≤ L := by rw [← hL, ← hsg]; exact sg_le X
  rw [hL, hsg] at hd3 HD3
  rw [hsg] at HF3
  rw [hL] at H800
  have HL := Hid_mk hL
  have HSg := Hid_mk hsg
  have c0 := hd3.c0
  have c1 := hd3.c1
  have hqs : G < W3.heap.size := World.block_lt_of_cell? W3 _ hd3.c0
  have HR3 := Hid_mk (round_nop W3 G sg ((L : Int) + prec) hd3.c0 (by omega))
  have hL0 : (0 : Int) ≤ (L : Int) := Int.natCast_nonneg _
  have hL8 : (L : Int) ≤ 800 := by have := H800.out; omega
  have HSl := Hid_mk hsgl
  clear hk3 hd3 hf3 hL hsg hsgl HSh2
  go_wp2_with fail
  with_reducible refine HR3.out.mono ?_
  rintro e1 W4 ⟨rfl, rfl⟩
  have HE : Hid (∀ W, Kp No W3 W → Calls Tryz.prog 86 #[v0, .bool neg, .slice (some ⟨G, 0, none⟩) 800 800, .int .i64 (L : Int), .int .i64 (sg : Int), .int .i64 prec, .int .u8 102, .bool false] W (EfPost base w v0 (bs ++ outF neg f (L : Int) sg prec))) := Hid_mk fun W hk =>
    (efg_f base W v0 bs neg false G 800 800 (L : Int) prec sg f (HD.out.at (HK3.out.trans' hk)) ((HD3.out.no hk hqs id).buf.less (by have := HSl.out; omega)) (fun e => by have := HV0.out _ e.symm; have := HG2.out; omega) (by have := HSl.out; omega) (by omega) (by omega) (fun i hi => by rw [HF3.out i hi]; unfold dgt; omega) (by have := HSl.out; omega) (by omega) (by omega) (by omega) (by omega) HBs.out).mono fun e w' h => h.elim fun v h => ⟨v, h.1, h.2.back (HK3.out.trans' hk) HD.out.room⟩
  clear HR3
  go_wp2_with fail
  go_region_with (go_at_call 86; (with_reducible refine (HE.out _ (by exact ⟨rfl, rfl, rfl, Nat.le_refl _, fun _ _ _ => rfl⟩)).mono ?_); rintro e2 w2 ⟨v2, rfl, hd2⟩)
  all_goals
    have HD2 := Hid_mk hd2
    clear hd2
    go_wp2_with fail
    go_ret
    rw [← HR.out, HNeg.out, HL.out, HSg.out, ← outF_congr neg f (dgt X L) L sg prec (fun i hi => by rw [HF3.out i hi, HL.out]) HSl.out]
    exact ⟨v2, rfl, HD2.out⟩

end Go.Proofs.YtannbdbhkhmppaaGreatDoor.fmtf

namespace Go.Proofs.YtannbdbhkhmppaaGreatDoor.pf
open Go.RowKit Go.Lib Go.Proofs.YtannbdbhkhmppaaGreatDoor.sum Go.Proofs.YtannbdbhkhmppaaGreatDoor.kept Go.Proofs.YtannbdbhkhmppaaGreatDoor.app Go.Proofs.YtannbdbhkhmppaaGreatDoor.writer Go.Proofs.YtannbdbhkhmppaaGreatDoor.known Go.Proofs.YtannbdbhkhmppaaGreatDoor.str Go.Proofs.YtannbdbhkhmppaaGreatDoor.fmtf
set_option linter.unusedVariables false

theorem dlen_le {v n : Nat} (h : v < 10 ^ n) : dlen v ≤ n := by
  rcases Nat.eq_zero_or_pos v with e | e
  · subst e; exact Nat.zero_le _
  · obtain ⟨a, b⟩ := dlen_ge e
    rcases Nat.lt_or_ge n (dlen v) with h2 | h2
    · have := Nat.pow_le_pow_right (show 0 < 10 by omega) (show n ≤ dlen v - 1 by omega)
      omega
    · exact h2
/-- the whole number that a great one is -/
def bigX (b : Nat) : Nat := mtN b * 2 ^ (exI b - 52).toNat
theorem big_len (b : Nat) (hE : b / 4503599627370496 % 2048 ≠ 2047) : dlen (bigX b) ≤ 309 := by
  apply dlen_le
  unfold bigX
  have h1 : mtN b < 2 ^ 53 := by unfold mtN; split <;> omega
  have h2 : (exI b - 52).toNat ≤ 971 := by unfold exI; split <;> omega
  calc mtN b * 2 ^ (exI b - 52).toNat < 2 ^ 53 * 2 ^ (exI b - 52).toNat := Nat.mul_lt_mul_of_pos_right h1 (Nat.pow_pos (by omega))
    _ ≤ 2 ^ 53 * 2 ^ 971 := Nat.mul_le_mul_left _ (Nat.pow_le_pow_right (by omega) h2)
    _ ≤ 10 ^ 309 := by decide +kernel
/-- FormatFloat at 'f' of a great whole number -/
def ffB (b : Nat) (prec : Int) : List UInt8 := outF (decide (9223372036854775808 ≤ b)) (dgt (bigX b) (dlen (bigX b))) (dlen (bigX b) : Int) (sgN (bigX b)) prec
theorem ff_big (W : World) (h : Ld W) (hL : Lcs W) (b : Nat) (prec : Int) (hb : b < 18446744073709551616) (hE : b / 4503599627370496 % 2048 ≠ 2047) (hM : mtN b ≠ 0) (hp1 : 0 ≤ prec) (hp2 : prec ≤ 1000) (hD : 18 < dgI b prec) (hx : 52 < exI b) :
    Calls Tryz.prog 32 #[.float .f64 b, .int .u8 102, .int .i64 prec, .int .i64 64] W (TxPost W (ffB b prec)) := by
  refine ff_any W b 102 prec _ (iff_any W b 102 prec _ (by omega) hp2 fun W' v0 hk hd hv => ?_)
  have := ftoa_big W.heap.size W' v0 [] b prec hd (fun k e => (hv k e).2) (by simp) (h.no hk).opt hb hE hM hp1 hp2 hD hx (hL.no hk) (Nat.le_trans (big_len b hE) (by omega))
  rw [List.nil_append] at this
  exact this
/-- Digits of a great closed number -/
theorem dg_big (W : World) (h : Ld W) (hL : Lcs W) (b pb : Nat) (S : List UInt8) (hk : kindB b = 0) (hn : nanB b = false) (hpb : plainB (truncB b) = pb) (hb : pb < 18446744073709551616) (hE : pb / 4503599627370496 % 2048 ≠ 2047) (hM : mtN pb ≠ 0) (hD : 18 < dgI pb 0) (hx : 52 < exI pb) (hS : ffB pb 0 = S) :
    Calls Tryz.prog 13 #[.float .f64 b] W (TxPost W S) :=
  digits_fin W b S hk hn (by rw [hpb, ← hS]; exact ff_big W h hL pb 0 hb hE hM (by omega) (by omega) hD hx)

theorem dg_1e20 (W : World) (h : Ld W) (hL : Lcs W) : Calls Tryz.prog 13 #[.float .f64 4906019910204099648] W (TxPost W [49, 48, 48, 48, 48, 48, 48, 48, 48, 48, 48, 48, 48, 48, 48, 48, 48, 48, 48, 48, 48]) :=
  dg_big W h hL 4906019910204099648 4906019910204099648 _ (by kernel_rfl) (by kernel_rfl) (by kernel_rfl) (by decide +kernel) (by decide +kernel) (by decide +kernel) (by decide +kernel) (by decide +kernel) (by kernel_rfl)

end Go.Proofs.YtannbdbhkhmppaaGreatDoor.pf

namespace Go.Proofs.YtannbdbhkhmppaaGreatDoor.pf
open Go.RowKit Go.Lib Go.Proofs.YtannbdbhkhmppaaGreatDoor.sum Go.Proofs.YtannbdbhkhmppaaGreatDoor.kept Go.Proofs.YtannbdbhkhmppaaGreatDoor.app Go.Proofs.YtannbdbhkhmppaaGreatDoor.writer Go.Proofs.YtannbdbhkhmppaaGreatDoor.known Go.Proofs.YtannbdbhkhmppaaGreatDoor.str Go.Proofs.YtannbdbhkhmppaaGreatDoor.fmtf
set_option linter.unusedVariables false

theorem ffg_closed (W : World) (h : Ld W) (b : Nat) (q : Nat) (d : Nat) (p : Int) (S : List UInt8) (hb : b < 18446744073709551616) (hE : b / 4503599627370496 % 2048 ≠ 2047) (hM : mtN b ≠ 0) (hp1 : 1 ≤ q) (hp2 : q ≤ 18) (hx : fxG T10 b q = ((d : Int), p)) (hd0 : d ≠ 0) (hd18 : d < 10 ^ 18) (hq1 : -900 ≤ p) (hq2 : p ≤ 900)
    (he : ∀ (base : Nat) (W : World) (v0 : Value) (gs : Nat), Dst base W v0 W v0 [] → BufAt W gs 0 (trimN (dgt d (ndS d)) (ndS d)) (dgt d (ndS d)) → some gs ≠ v0.ownBlock → Calls Tryz.prog 86 #[v0, .bool (decide (9223372036854775808 ≤ b)), .slice (some ⟨gs, 0, none⟩) 24 24, .int .i64 ((ndS d : Int) + p), .int .i64 (trimN (dgt d (ndS d)) (ndS d) : Int), .int .i64 (q : Int), .int .u8 103, .bool false] W (EfPost base W v0 S)) :
    Calls Tryz.prog 32 #[.float .f64 b, .int .u8 103, .int .i64 (q : Int), .int .i64 64] W (TxPost W S) := by
  refine ff_any W b 103 q S (iff_any W b 103 q S (by omega) (by omega) fun W' v0 hk hd hv => ?_)
  have := ftoa_g T10 W.heap.size W' v0 [] b q hd (fun k e => (hv k e).2) (by simp) (h.no hk).opt (h.no hk).tn (h.no hk).pw hb hE hM hp1 hp2 d p hx hd0 hd18 hq1 hq2 S (fun W2 gs h1 h2 h3 => by rw [List.nil_append]; exact he _ W2 v0 gs h1 h2 h3)
  rw [List.nil_append] at this
  exact this

theorem nd_e5 : ndS 100000 = 6 := by kernel_rfl
theorem tr_e5 : trimN (dgt 100000 6) 6 = 1 := by kernel_rfl
theorem out_01 : outF false (dgt 100000 6) 0 1 1 = [48, 46, 49] := by kernel_rfl
theorem neg_01 : decide (9223372036854775808 ≤ 4591870180066957722) = false := by decide
theorem neg_300 : decide (9223372036854775808 ≤ 9094988921128908188) = false := by decide

theorem ffg01 (W : World) (h : Ld W) : Calls Tryz.prog 32 #[.float .f64 4591870180066957722, .int .u8 103, .int .i64 6, .int .i64 64] W (TxPost W [48, 46, 49]) :=
  ffg_closed W h 4591870180066957722 6 100000 (-6) [48, 46, 49] (by decide) (by decide +kernel) (by decide +kernel) (by decide) (by decide) (by kernel_rfl) (by decide) (by decide) (by decide) (by decide) (fun base W v0 gs h1 h2 h3 => by
    rw [nd_e5, tr_e5] at h2 ⊢
    rw [neg_01]
    have := efg_gf base W v0 [] false gs 24 24 0 1 6 1 (dgt 100000 6) h1 h2 h3 (by omega) (by omega) (by omega) (fun i hi => by unfold dgt; omega) (by omega) (by decide) (by decide) (by decide) (by decide) (by simp) (by decide) (by decide) (by decide) (by decide) (by decide) (by decide) (by decide)
    rw [List.nil_append, out_01] at this
    exact this)
theorem ffg300 (W : World) (h : Ld W) : Calls Tryz.prog 32 #[.float .f64 9094988921128908188, .int .u8 103, .int .i64 6, .int .i64 64] W (TxPost W [49, 101, 43, 51, 48, 48]) :=
  ffg_closed W h 9094988921128908188 6 100000 295 [49, 101, 43, 51, 48, 48] (by decide) (by decide +kernel) (by decide +kernel) (by decide) (by decide) (by kernel_rfl) (by decide) (by decide) (by decide) (by decide) (fun base W v0 gs h1 h2 h3 => by
    rw [nd_e5, tr_e5] at h2 ⊢
    rw [neg_300]
    have := efg_1e300 base W v0 [] gs 24 24 (dgt 100000 6) h1 h2 h3 (by omega) (by omega) (by omega) (by kernel_rfl) (by simp)
    rw [List.nil_append] at this
    exact this)

theorem dg_z (W : World) : Calls Tryz.prog 13 #[.float .f64 0] W (TxPost W [48]) :=
  digits_fin W 0 [48] (by kernel_rfl) (by kernel_rfl) (by rw [show plainB (truncB 0) = 0 by kernel_rfl]; exact ff_zero W)
theorem dg01 (W : World) : Calls Tryz.prog 13 #[.float .f64 4591870180066957722] W (TxPost W [48]) :=
  digits_fin W 4591870180066957722 [48] (by kernel_rfl) (by kernel_rfl) (by rw [show plainB (truncB 4591870180066957722) = 0 by kernel_rfl]; exact ff_zero W)
theorem dg3 (W : World) (h : Ld W) : Calls Tryz.prog 13 #[.float .f64 4613937818241073152] W (TxPost W [51]) :=
  dg_closed W h _ 4613937818241073152 3 0 [51] (by kernel_rfl) (by kernel_rfl) (by kernel_rfl) (by decide) (by decide +kernel) (by decide +kernel) (by decide +kernel) (by kernel_rfl) (by decide) (by decide) (by decide) (by kernel_rfl)
/-- the digits of 1e300 -/
def S300 : List UInt8 := ffB 9094988921128908188 0
theorem dg300 (W : World) (h : Ld W) (hL : Lcs W) : Calls Tryz.prog 13 #[.float .f64 9094988921128908188] W (TxPost W S300) :=
  dg_big W h hL 9094988921128908188 9094988921128908188 _ (by kernel_rfl) (by kernel_rfl) (by kernel_rfl) (by decide +kernel) (by decide +kernel) (by decide +kernel) (by decide +kernel) (by decide +kernel) rfl
theorem len300 : S300.length ≤ 10000 := by decide +kernel

end Go.Proofs.YtannbdbhkhmppaaGreatDoor.pf

namespace Go.Proofs.YtannbdbhkhmppaaGreatDoor.pf
open Go.RowKit Go.Proofs.YtannbdbhkhmppaaGreatDoor.sum Go.Proofs.YtannbdbhkhmppaaGreatDoor.kept Go.Proofs.YtannbdbhkhmppaaGreatDoor.app Go.Proofs.YtannbdbhkhmppaaGreatDoor.writer Go.Proofs.YtannbdbhkhmppaaGreatDoor.known Go.Proofs.YtannbdbhkhmppaaGreatDoor.fmtf
set_option linter.unusedVariables false

/-- what Digits tells of what is not finite -/
def oddS (k : Nat) : List UInt8 := if k = 1 then [110, 97, 110] else if k = 2 then [105, 110, 102] else [45, 105, 110, 102]
set_option maxRecDepth 100000 in
set_option maxHeartbeats 4000000 in
theorem digits_odd (w : World) (b : Nat) (hk : kindB b ≠ 0) : Calls Tryz.prog 13 #[.float .f64 b] w (TxPost w (oddS (kindB b))) := by
  unfold kindB at hk ⊢
  by_cases h1 : (FloatKind.f64.format.order b b != some .eq) = true
  · rw [if_pos h1]
    clear hk
    go_enter Tryz.func13, Tryz.ntmps13
    go_wp2
    go_ret
    exact ⟨rfl, Kp.refl _ _⟩
  · have h1f : (FloatKind.f64.format.order b b != some .eq) = false := by simpa using h1
    rw [if_neg h1] at hk ⊢
    by_cases h2 : (FloatKind.f64.format.order b 9218868437227405311 == some .gt) = true
    · rw [if_pos h2]
      clear hk h1
      go_enter Tryz.func13, Tryz.ntmps13
      go_wp2
      go_ret
      exact ⟨rfl, Kp.refl _ _⟩
    · have h2f : (FloatKind.f64.format.order b 9218868437227405311 == some .gt) = false := by simpa using h2
      rw [if_neg h2] at hk ⊢
      by_cases h3 : (FloatKind.f64.format.order b 18442240474082181119 == some .lt) = true
      · rw [if_pos h3]
        clear hk h1 h2
        go_enter Tryz.func13, Tryz.ntmps13
        go_wp2
        go_ret
        exact ⟨rfl, Kp.refl _ _⟩
      · rw [if_neg h3] at hk
        exact absurd rfl hk
/-- is it whole, and below 10^16? -/
def wholeB (b : Nat) : Bool := (FloatKind.f64.format.order 14069741636278059008 b == some .lt) && ((FloatKind.f64.format.order b 4846369599423283200 == some .lt) && (FloatKind.f64.format.order b (truncB b) == some .eq))
theorem nan_lt (a b : Nat) (h : nanB b = true) : (FloatKind.f64.format.order a b == some .lt) = false := by
  unfold nanB at h
  have hr : ∃ s t, FloatKind.f64.format.read b = .nan s t := by
    unfold FloatKind.decode at h
    split at h
    · rename_i s t e; exact ⟨s, t, e⟩
    · cases h
  obtain ⟨s, t, e⟩ := hr
  unfold Ieee.Format.order
  rw [e]
  cases FloatKind.f64.format.read a <;> rfl
set_option maxRecDepth 100000 in
set_option maxHeartbeats 4000000 in
theorem whole_dg (w : World) (b : Nat) : Calls Tryz.prog 14 #[.float .f64 b] w (RV w (.bool (wholeB b))) := by
  unfold wholeB
  by_cases h1 : (FloatKind.f64.format.order 14069741636278059008 b == some .lt) = true
  · have hn : nanB b = false := by
      rcases h : nanB b with _ | _
      · rfl
      · rw [nan_lt _ _ h] at h1; cases h1
    by_cases h2 : (FloatKind.f64.format.order b 4846369599423283200 == some .lt) = true
    · have HT := Hid_mk (trunc_any w b hn)
      obtain ⟨t, ht⟩ : ∃ t, truncB b = t := ⟨_, rfl⟩
      rw [ht] at HT
      rw [ht]
      obtain ⟨r, hr⟩ : ∃ r, (FloatKind.f64.format.order b t == some .eq) = r := ⟨_, rfl⟩
      rw [h1, h2, hr]
      clear hn ht
      go_enter Tryz.func14, Tryz.ntmps14
      go_wp2_with fail
      with_reducible refine HT.out.mono ?_
      rintro e w1 ⟨rfl, rfl⟩
      go_wp2
      go_ret
      exact ⟨by simp [hr], rfl⟩
    · have h2f : (FloatKind.f64.format.order b 4846369599423283200 == some .lt) = false := by simpa using h2
      rw [h2f, h1]
      clear hn h2
      go_enter Tryz.func14, Tryz.ntmps14
      go_wp2
      go_ret
      exact ⟨rfl, rfl⟩
  · have h1f : (FloatKind.f64.format.order 14069741636278059008 b == some .lt) = false := by simpa using h1
    rw [h1f]
    clear h1
    go_enter Tryz.func14, Tryz.ntmps14
    go_wp2
    go_ret
    exact ⟨rfl, rfl⟩

end Go.Proofs.YtannbdbhkhmppaaGreatDoor.pf

namespace Go.Proofs.YtannbdbhkhmppaaGreatDoor.pf
open Go.RowKit Go.Lib Go.Proofs.YtannbdbhkhmppaaGreatDoor.sum Go.Proofs.YtannbdbhkhmppaaGreatDoor.kept Go.Proofs.YtannbdbhkhmppaaGreatDoor.app Go.Proofs.YtannbdbhkhmppaaGreatDoor.writer Go.Proofs.YtannbdbhkhmppaaGreatDoor.known Go.Proofs.YtannbdbhkhmppaaGreatDoor.str Go.Proofs.YtannbdbhkhmppaaGreatDoor.fmtf
set_option linter.unusedVariables false

set_option maxRecDepth 100000 in
set_option maxHeartbeats 2000000 in
theorem number_digits (w : World) (x : Nat) (f : Value) (D : List UInt8) (hw : wholeB x = true) (hd : Calls Tryz.prog 13 #[.float .f64 x] w (TxPost w D)) :
    Calls Tryz.prog 6 #[.float .f64 x, f] w fun e w' => e = .returned (.tuple #[.string (st D), .int .i64 0]) ∧ Kp No w w' := by
  have HD : Hid (Calls Tryz.prog 13 #[.float .f64 x] w fun e w' => e = .returned (.string (st D)) ∧ Kp No w w') := Hid_mk hd
  have HW : Hid (∀ W, Calls Tryz.prog 14 #[.float .f64 x] W (RV W (.bool true))) := Hid_mk fun W => hw ▸ whole_dg W x
  clear hd hw
  go_enter Tryz.func6, Tryz.ntmps6
  go_wp2_with fail
  with_reducible refine HD.out.mono ?_
  rintro e w1 ⟨rfl, hk1⟩
  have HK := Hid_mk hk1
  clear hk1
  go_wp2_with fail
  with_reducible refine (HW.out _).mono ?_
  rintro e w2 ⟨rfl, rfl⟩
  go_wp2
  refine bodyPost_ret (v := .tuple #[.string (st D), .int .i64 0]) ?_ rfl ⟨rfl, HK.out⟩
  simp [results, Tryz.results6, go_sem]

set_option maxRecDepth 100000 in
set_option maxHeartbeats 2000000 in
theorem number_format (w : World) (x : Nat) (f : Value) (D S : List UInt8) (hw : wholeB x = false) (hfin : finB x = true) (hd : Calls Tryz.prog 13 #[.float .f64 x] w (TxPost w D))
    (hf : ∀ W A, Kp No w W → ArgsAt W A [⟨x, D, true⟩] → Calls Tryz.prog 4 #[f, A] W fun e w' => e = .returned (.tuple #[.string (st S), .int .i64 0]) ∧ Kp No W w') :
    Calls Tryz.prog 6 #[.float .f64 x, f] w fun e w' => e = .returned (.tuple #[.string (st S), .int .i64 0]) ∧ Kp No w w' := by
  have HD : Hid (Calls Tryz.prog 13 #[.float .f64 x] w fun e w' => e = .returned (.string (st D)) ∧ Kp No w w') := Hid_mk hd
  have HW : Hid (∀ W, Calls Tryz.prog 14 #[.float .f64 x] W (RV W (.bool false))) := Hid_mk fun W => hw ▸ whole_dg W x
  have HFn : Hid (∀ W, Calls Tryz.prog 15 #[.float .f64 x] W fun e w' => e = .returned (.bool true) ∧ W = w') := Hid_mk fun W => by
    have := finite_any W x
    rw [hfin] at this
    exact this
  have HF := Hid_mk hf
  clear hd hw hf hfin
  go_enter Tryz.func6, Tryz.ntmps6
  go_wp2_with fail
  with_reducible refine HD.out.mono ?_
  rintro e w1 ⟨rfl, hk1⟩
  have HK := Hid_mk hk1
  clear hk1
  go_wp2_with fail
  with_reducible refine (HW.out _).mono ?_
  rintro e w2 ⟨rfl, rfl⟩
  go_wp2_with fail
  with_reducible refine (HFn.out _).mono ?_
  rintro e w2 ⟨rfl, rfl⟩
  go_wp2_with fail
  obtain ⟨W4, hW4, hk4, hz4⟩ := named_alloc w1 (.cells #[.float .f64 x, .string (st D), .bool true] 27)
  have hargs : ArgsAt W4 (.slice (some ⟨w1.heap.size, 0, none⟩) 1 1) [⟨x, D, true⟩] := by
    refine ⟨_, 1, rfl, Nat.le_refl _, by decide, fun k hk => ⟨_, 0, rfl, ?_⟩⟩
    have hk : k < 1 := hk
    obtain rfl : k = 0 := by omega
    rw [← hW4]
    exact ⟨by rw [World.cell?_alloc_mark]; rfl, by rw [World.cell?_alloc_mark]; rfl, by rw [World.cell?_alloc_mark]; rfl⟩
  rw [hW4]
  have HK := Hid_mk (HK.out.trans' hk4)
  have HC := Hid_mk (HF.out W4 _ HK.out hargs)
  clear hargs hW4 hk4 hz4
  with_reducible refine HC.out.mono ?_
  rintro e w5 ⟨rfl, hk5⟩
  have HK := Hid_mk (HK.out.trans' hk5)
  clear hk5
  go_wp2
  refine bodyPost_ret (v := .tuple #[.string (st S), .int .i64 0]) ?_ rfl ⟨rfl, HK.out⟩
  simp [results, Tryz.results6, go_sem]

end Go.Proofs.YtannbdbhkhmppaaGreatDoor.pf
