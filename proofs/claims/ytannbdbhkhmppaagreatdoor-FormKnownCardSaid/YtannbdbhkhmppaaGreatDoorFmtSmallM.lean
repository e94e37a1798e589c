/- internal/strconv: small calls that reckon. internal/strconv: scaling by a power of ten. -/
import Derived.Test.YtannbdbhkhmppaaGreatDoorRow0M
import Derived.Test.YtannbdbhkhmppaaGreatDoorShelf
import Derived.BigQuiet
import Derived.Deep.Cut
import Derived.Deep.QuietTactic

namespace Go.Proofs.YtannbdbhkhmppaaGreatDoor.fmtf
open Go.RowKit Go.Proofs.YtannbdbhkhmppaaGreatDoor.sum Go.Proofs.YtannbdbhkhmppaaGreatDoor.kept
set_option linter.unusedVariables false

def lg10 (x : Int) : Int := x * 78913 / 262144
def lg2 (x : Int) : Int := x * 108853 / 32768
/-- 1 of what is true, else 0 -/
def b2 (b : Bool) : Int := if b = true then 1 else 0
def RV (w : World) (v : Value) (e : Ending) (w' : World) : Prop := e = .returned v ∧ w = w'
set_option maxRecDepth 100000 in
set_option maxHeartbeats 2000000 in
theorem lg10_any (w : World) (x : Int) (h1 : -100000 ≤ x) (h2 : x ≤ 100000) : Calls Tryz.prog 90 #[.int .i64 x] w (RV w (.int .i64 (lg10 x))) := by
  have h3 : -7891300000 ≤ x * 78913 := by omega
  have h4 : x * 78913 ≤ 7891300000 := by omega
  unfold lg10
  go_enter Tryz.func90, Tryz.ntmps90
  go_wp2
  go_ret
  exact ⟨rfl, rfl⟩
set_option maxRecDepth 100000 in
set_option maxHeartbeats 2000000 in
theorem lg2_any (w : World) (x : Int) (h1 : -100000 ≤ x) (h2 : x ≤ 100000) : Calls Tryz.prog 108 #[.int .i64 x] w (RV w (.int .i64 (lg2 x))) := by
  have h3 : -10885300000 ≤ x * 108853 := by omega
  have h4 : x * 108853 ≤ 10885300000 := by omega
  unfold lg2
  go_enter Tryz.func108, Tryz.ntmps108
  go_wp2
  go_ret
  exact ⟨rfl, rfl⟩
set_option maxRecDepth 100000 in
set_option maxHeartbeats 2000000 in
theorem bool2i_any (w : World) (b : Bool) : Calls Tryz.prog 97 #[.bool b] w (RV w (.int .i64 (b2 b))) := by
  go_enter Tryz.func97, Tryz.ntmps97
  cases b
  · go_wp2
    go_ret
    exact ⟨rfl, rfl⟩
  · go_wp2
    go_ret
    exact ⟨rfl, rfl⟩
set_option maxRecDepth 100000 in
set_option maxHeartbeats 2000000 in
theorem bool2w_any (w : World) (b : Bool) : Calls Tryz.prog 124 #[.bool b] w (RV w (.int .u64 (b2 b))) := by
  go_enter Tryz.func124, Tryz.ntmps124
  cases b
  · go_wp2
    go_ret
    exact ⟨rfl, rfl⟩
  · go_wp2
    go_ret
    exact ⟨rfl, rfl⟩
set_option maxRecDepth 100000 in
set_option maxHeartbeats 2000000 in
theorem bool2u_any (w : World) (b : Bool) : Calls Tryz.prog 125 #[.bool b] w (RV w (.int .u64 (b2 b))) := by
  go_enter Tryz.func125, Tryz.ntmps125
  cases b
  · go_wp2
    go_ret
    exact ⟨rfl, rfl⟩
  · go_wp2
    go_ret
    exact ⟨rfl, rfl⟩
set_option maxRecDepth 100000 in
set_option maxHeartbeats 2000000 in
theorem unmin_any (w : World) (x : Nat) (h1 : 1 ≤ x) (h2 : x ≤ 4611686018427387903) : Calls Tryz.prog 114 #[.int .u64 (x : Int)] w (RV w (.int .u64 ((4 * x - 2 : Nat) : Int))) := by
  have h3 : (1 : Int) ≤ (x : Int) := by omega
  have h4 : (x : Int) ≤ 4611686018427387903 := by omega
  have h5 : ((4 * x - 2 : Nat) : Int) = (x : Int) * 4 - 2 := by omega
  rw [h5]
  clear h1 h2 h5
  go_enter Tryz.func114, Tryz.ntmps114
  go_wp2
  go_ret
  exact ⟨rfl, rfl⟩
def rndI (x : Int) : Int := IntKind.u64.wrap (IntKind.u64.wrap (x + 1) + bits .and .u64 (x / 4) 1) / 4
set_option maxRecDepth 100000 in
set_option maxHeartbeats 2000000 in
theorem round_any (w : World) (x : Int) (h3 : 0 ≤ x) : Calls Tryz.prog 113 #[.int .u64 x] w (RV w (.int .u64 (rndI x))) := by
  unfold rndI
  go_enter Tryz.func113, Tryz.ntmps113
  go_wp2
  go_ret
  exact ⟨rfl, rfl⟩
def divI (x : Int) : Int := bits .or .u64 (bits .or .u64 (IntKind.u64.wrap (x.tdiv 10)) (bits .and .u64 x 1)) (b2 (x % 10 != 0))

end Go.Proofs.YtannbdbhkhmppaaGreatDoor.fmtf

namespace Go.Proofs.YtannbdbhkhmppaaGreatDoor.fmtf
open Go.RowKit Go.Proofs.YtannbdbhkhmppaaGreatDoor.sum Go.Proofs.YtannbdbhkhmppaaGreatDoor.kept
set_option linter.unusedVariables false

theorem wp_name {P : Program} {c : Code} {Q : Exit → Act → World → Prop} {a : Act} {w : World} (p : World → Prop) (hp : p w) (h : ∀ W, p W → c.wp P Q a W) : c.wp P Q a w := h w hp
/-- a scaler -/
structure ScAt (w : World) (q : Nat) (hi lo s : Nat) : Prop where
  c0 : w.cell? ⟨q, 0, none⟩ = some (.int .u64 (hi : Int))
  c1 : w.cell? ⟨q, 1, none⟩ = some (.int .u64 (lo : Int))
  c2 : w.cell? ⟨q, 2, none⟩ = some (.int .i64 (s : Int))
def uscI (H M M2 s : Nat) : Int :=
  if (IntKind.u64.wrap ((H : Int) / 2 ^ s * 2 ^ s) != (H : Int)) = true then bits .or .u64 ((H : Int) / 2 ^ s) 1
  else bits .or .u64 (IntKind.u64.wrap ((H : Int) - b2 (decide (M < M2))) / 2 ^ s) (b2 (decide (1 < IntKind.u64.wrap ((M : Int) - (M2 : Int)))))
/-- a number, nothing turned but what draws -/
def QV (w : World) (v : Value) (e : Ending) (w' : World) : Prop := e = .returned v ∧ ∃ n, w' = w.drewN n
set_option maxRecDepth 100000 in
set_option maxHeartbeats 4000000 in
theorem uscale_any (w : World) (x q hi lo s : Nat) (h : ScAt w q hi lo s) (hx : x < 18446744073709551616) (hh : hi < 18446744073709551616) (hl : lo < 18446744073709551616) (hs : s < 64) :
    Calls Tryz.prog 109 #[.int .u64 (x : Int), .pointer (some ⟨q, 0, none⟩)] w (QV w (.int .u64 (uscI (x * hi / 18446744073709551616) (x * hi % 18446744073709551616) (x * lo / 18446744073709551616) s))) := by
  have HB := Hid_mk fun b w => bool2w_any w b
  have HM1 := Hid_mk (Go.Proofs.Tryz.bits_Mul64 x hi hx hh w)
  have HM2 := Hid_mk fun w => Go.Proofs.Tryz.bits_Mul64 x lo hx hl w
  obtain ⟨H, hH⟩ : ∃ H, x * hi / 18446744073709551616 = H := ⟨_, rfl⟩
  obtain ⟨M, hM⟩ : ∃ M, x * hi % 18446744073709551616 = M := ⟨_, rfl⟩
  obtain ⟨M2, hM2⟩ : ∃ M2, x * lo / 18446744073709551616 = M2 := ⟨_, rfl⟩
  rw [hH, hM] at HM1 ⊢
  rw [hM2] at HM2 ⊢
  obtain ⟨R, hR⟩ : ∃ R, uscI H M M2 s = R := ⟨_, rfl⟩
  rw [hR]
  unfold uscI at hR
  have HR := Hid_mk hR
  clear hR
  have HBq : Hid (∀ b n, Calls Tryz.prog 124 #[.bool b] (w.drewN n) fun e w'' => e = .returned (.int .u64 (b2 b)) ∧ ∃ m, w'' = w.drewN m) := Hid_mk fun b n => (bool2w_any (w.drewN n) b).mono fun e w' h => ⟨h.1, n, h.2.symm⟩
  have c0 := h.c0
  have c1 := h.c1
  have c2 := h.c2
  have hand : bits .and .i64 (s : Int) 63 = (s : Int) := by
    have hf : ∀ k : Fin 64, bits .and .i64 ((k.val : Nat) : Int) 63 = ((k.val : Nat) : Int) := by decide +kernel
    exact hf ⟨s, hs⟩
  have hs0 : (0 : Int) ≤ (s : Int) := Int.natCast_nonneg _
  have hs64 : (s : Int) < 64 := by omega
  clear h hx hh hl hs hH hM hM2
  go_enter Tryz.func109, Tryz.ntmps109
  go_wp2_with fail
  with_reducible refine HM1.out.mono ?_
  rintro e1 w1 ⟨rfl, rfl⟩
  by_cases hcond : (IntKind.u64.wrap ((H : Int) / 2 ^ s * 2 ^ s) != (H : Int)) = true
  · have hr := HR.out
    rw [if_pos hcond] at hr
    go_wp2_with fail
    go_ret
    exact ⟨by rw [← hr]; rfl, 0, rfl⟩
  · have hr := HR.out
    rw [if_neg hcond] at hr
    have hcond2 : (IntKind.u64.wrap ((H : Int) / 2 ^ s * 2 ^ s) != (H : Int)) = false := by simpa using hcond
    have HRr := Hid_mk hr
    clear hcond hr
    go_wp2_with fail
    with_reducible refine (HM2.out _).mono ?_
    rintro e1 w2 ⟨rfl, rfl⟩
    go_wp2_with fail
    with_reducible refine (HB.out _ _).mono ?_
    rintro e1 w3 ⟨rfl, rfl⟩
    go_upto_region 7 with fail
    go_quiet ((go_at_call 124; exact HBq.out _ _))
    go_wp2
    go_ret
    exact ⟨by rw [← HRr.out]; rfl, _, rfl⟩

set_option maxRecDepth 100000 in
set_option maxHeartbeats 2000000 in
theorem div_any (w : World) (x : Int) (h3 : 0 ≤ x) : Calls Tryz.prog 115 #[.int .u64 x, .int .u64 10] w (QV w (.int .u64 (divI x))) := by
  have HBq : Hid (∀ b n, Calls Tryz.prog 125 #[.bool b] (w.drewN n) fun e w'' => e = .returned (.int .u64 (b2 b)) ∧ ∃ m, w'' = w.drewN m) := Hid_mk fun b n => (bool2u_any (w.drewN n) b).mono fun e w' h => ⟨h.1, n, h.2.symm⟩
  unfold divI
  go_enter Tryz.func115, Tryz.ntmps115
  go_upto_region 2 with fail
  go_quiet ((go_at_call 125; exact HBq.out _ _))
  go_wp2
  go_ret
  exact ⟨rfl, _, rfl⟩

/-- the powers of ten that there are, as the program's table has them: of p's the two halves -/
def Pw (w : World) (p : Int) (hi lo : Nat) : Prop := w.cell? ⟨7, (p + 348).toNat * 2, none⟩ = some (.int .u64 (hi : Int)) ∧ w.cell? ⟨7, (p + 348).toNat * 2 + 1, none⟩ = some (.int .u64 (lo : Int))
theorem Pw.no {w w' : World} {p : Int} {hi lo : Nat} (h : Pw w p hi lo) (hk : Kp No w w') : Pw w' p hi lo := ⟨hk.cell' h.1 id, hk.cell' h.2 id⟩
/-- three cells of a scaler that may be written -/
structure ScMem (w : World) (q : Nat) (x0 x1 x2 : Value) : Prop where
  c0 : w.cell? ⟨q, 0, none⟩ = some x0
  c1 : w.cell? ⟨q, 1, none⟩ = some x1
  c2 : w.cell? ⟨q, 2, none⟩ = some x2
  warm : ∀ i, w.frozen? ⟨q, i, none⟩ = false
set_option maxRecDepth 100000 in
set_option maxHeartbeats 4000000 in
theorem prescale_any (w : World) (q : Nat) (a0 a1 a2 : Int) (hm : ScMem w q (.int .u64 a0) (.int .u64 a1) (.int .i64 a2)) (e p lp : Int) (hi lo s : Nat) (hp : Pw w p hi lo) (hp1 : -348 ≤ p) (hp2 : p ≤ 347) (he1 : -100000 ≤ e) (he2 : e ≤ 100000) (hl1 : -100000 ≤ lp) (hl2 : lp ≤ 100000) (hs : -(e + lp + 3) = (s : Int)) (hq : q ≠ 7) :
    Calls Tryz.prog 107 #[.pointer (some ⟨q, 0, none⟩), .int .i64 e, .int .i64 p, .int .i64 lp] w fun e w' => e = .returned (.tuple #[]) ∧ ScAt w' q hi lo s ∧ Kp (fun b => b = q) w w' := by
  obtain ⟨h0, h1⟩ := hp
  obtain ⟨k, hk⟩ : ∃ k : Nat, p + 348 = (k : Int) := ⟨(p + 348).toNat, by omega⟩
  rw [hk, Int.toNat_natCast] at h0 h1
  have hps : p - (-348) = (k : Int) := by omega
  have hk0 : (0 : Int) ≤ (k : Int) := Int.natCast_nonneg _
  have hk1 : (k : Int) < 696 := by omega
  have c0 := hm.c0
  have c1 := hm.c1
  have c2 := hm.c2
  have cw := hm.warm
  have hkz : Kp (fun b => b = q) w (((w.setCell ⟨q, 0, none⟩ (.int .u64 (hi : Int))).setCell ⟨q, 1, none⟩ (.int .u64 (lo : Int))).setCell ⟨q, 2, none⟩ (.int .i64 (s : Int))) := (((Kp.refl (fun b => b = q) w).setCell (p := ⟨q, 0, none⟩) (fun _ => rfl) _).setCell (p := ⟨q, 1, none⟩) (fun _ => rfl) _).setCell (p := ⟨q, 2, none⟩) (fun _ => rfl) _
  have HKz := Hid_mk hkz
  clear hm hk hkz
  go_enter Tryz.func107, Tryz.ntmps107
  go_wp2
  go_end0
  exact ⟨rfl, ⟨by rw [World.cell?_setCell_other _ _ _ _ (by intro e; cases e), World.cell?_setCell_other _ _ _ _ (by intro e; cases e)]; exact World.cell?_setCell_same _ _ _ c0, by rw [World.cell?_setCell_other _ _ _ _ (by intro e; cases e)]; exact World.cell?_setCell_same _ _ _ (by rw [World.cell?_setCell_other _ _ _ _ (by intro e; cases e)]; exact c1), World.cell?_setCell_same _ _ _ (by rw [World.cell?_setCell_other _ _ _ _ (by intro e; cases e), World.cell?_setCell_other _ _ _ _ (by intro e; cases e)]; exact c2)⟩, HKz.out⟩

end Go.Proofs.YtannbdbhkhmppaaGreatDoor.fmtf
