/- ClassKnown: the law's walk. -/
import Derived.Test.YtpfpnlhihnfahaaBracket2M

namespace Go.Proofs.Ytpfpnlhihnfahaa.cls
open Go.RowKit Go.Proofs.Ytpfpnlhihnfahaa.sum Go.Proofs.Ytpfpnlhihnfahaa.kept Go.Proofs.Ytpfpnlhihnfahaa.pop Go.Proofs.Ytpfpnlhihnfahaa.str
set_option linter.unusedVariables false

def kA : List UInt8 := [94, 93, 97, 93]
theorem kA_ok : brS (itemS kA) kA 1 5 1 nul = some (fun x => (nul x || ofL [93] x) || ofL [97] x, 4) := rfl
theorem kA_set : sv (fun x => !((nul x || ofL [93] x) || ofL [97] x)) = sv (fun x => !ofL [93, 97] x) := sv_congr (by decide +kernel)
def kB : List UInt8 := [93, 93]
theorem kB_ok : brS (itemS kB) kB 0 3 0 nul = some (fun x => nul x || ofL [93] x, 2) := rfl
theorem kB_set : sv (fun x => nul x || ofL [93] x) = sv (ofL [93]) := sv_congr (by decide +kernel)
def kC : List UInt8 := [91, 58, 100, 105, 103, 105, 116, 58, 93, 45, 93]
theorem kC_ok : brS (itemS kC) kC 0 12 0 nul = some (fun x => (nul x || digitsS x) || ofL [45] x, 11) := rfl
def kCs : Nat → Bool := fun x => digitsS x || ofL [45] x
theorem kC_set : sv (fun x => (nul x || digitsS x) || ofL [45] x) = sv kCs := sv_congr (by decide +kernel)
theorem kC_cnt : cnt kCs 0 256 = 11 := by decide +kernel
def kD : List UInt8 := [122, 45, 97, 93]
theorem kD_ok : brS (itemS kD) kD 0 5 0 nul = none := rfl
def kE : List UInt8 := [97, 98]
theorem kE_ok : brS (itemS kE) kE 0 3 0 nul = none := rfl

theorem brA (w : World) (hm : Mx w) : Calls Try.prog 8 #[.string ⟨#[94, 93, 97, 93]⟩, .int .i64 0] w fun e w' => e = .returned (.tuple #[sv (fun x => !ofL [93, 97] x), .int .i64 4, .bool true]) ∧ Kp No w w' := by
  refine (bracket_l w kA _ rfl true _ (by decide) (by decide) hm rfl kA_ok).mono ?_
  rintro e w' ⟨rfl, hk⟩
  rw [← kA_set]
  exact ⟨rfl, hk⟩
theorem brB (w : World) (hm : Mx w) : Calls Try.prog 8 #[.string ⟨#[93, 93]⟩, .int .i64 0] w fun e w' => e = .returned (.tuple #[sv (ofL [93]), .int .i64 2, .bool true]) ∧ Kp No w w' := by
  refine (bracket_l w kB _ rfl false _ (by decide) (by decide) hm rfl kB_ok).mono ?_
  rintro e w' ⟨rfl, hk⟩
  rw [← kB_set]
  exact ⟨rfl, hk⟩
theorem brC (w : World) (hm : Mx w) : Calls Try.prog 8 #[.string ⟨#[91, 58, 100, 105, 103, 105, 116, 58, 93, 45, 93]⟩, .int .i64 0] w fun e w' => e = .returned (.tuple #[sv kCs, .int .i64 11, .bool true]) ∧ Kp No w w' := by
  refine (bracket_l w kC _ rfl false _ (by decide) (by decide) hm rfl kC_ok).mono ?_
  rintro e w' ⟨rfl, hk⟩
  rw [← kC_set]
  exact ⟨rfl, hk⟩
theorem brD (w : World) (hm : Mx w) : Calls Try.prog 8 #[.string ⟨#[122, 45, 97, 93]⟩, .int .i64 0] w fun e w' => e = .returned (.tuple #[sv nul, .int .i64 0, .bool false]) ∧ Kp No w w' := by
  refine (bracket_l w kD _ rfl false _ (by decide) (by decide) hm rfl kD_ok).mono ?_
  rintro e w' ⟨rfl, hk⟩
  exact ⟨rfl, hk⟩
theorem brE (w : World) (hm : Mx w) : Calls Try.prog 8 #[.string ⟨#[97, 98]⟩, .int .i64 0] w fun e w' => e = .returned (.tuple #[sv nul, .int .i64 0, .bool false]) ∧ Kp No w w' := by
  refine (bracket_l w kE _ rfl false _ (by decide) (by decide) hm rfl kE_ok).mono ?_
  rintro e w' ⟨rfl, hk⟩
  exact ⟨rfl, hk⟩
theorem nW (w : World) : Calls Try.prog 7 #[.string ⟨#[119, 111, 114, 100]⟩] w fun e w' => e = .returned (.tuple #[sv nul, .bool false]) ∧ Kp No w w' :=
  named_l w [119, 111, 114, 100] ⟨#[119, 111, 114, 100]⟩ (by rw [ByteArray.toList_eq])

/-- what is there at the law's last line -/
structure Cur3 (w W : World) (qa qb qc : Nat) : Prop where
  a : SetAt W qa (fun x => !ofL [93, 97] x)
  b : SetAt W qb (ofL [93])
  c : SetAt W qc kCs
  k : Kp No w W
theorem Cur3.no {w W W' : World} {qa qb qc : Nat} (h : Cur3 w W qa qb qc) (hk : Kp No W W') : Cur3 w W' qa qb qc := ⟨h.a.no hk, h.b.no hk, h.c.no hk, h.k.trans' hk⟩

set_option maxRecDepth 100000 in
set_option maxHeartbeats 1000000 in
theorem classKnown_any (w : World) (hm : Mx w) : Calls Try.prog 3 #[] w fun e w' => e = .returned (.bool true) ∧ Kp No w w' := by
  have HM := Hid_mk hm
  have HN := Hid_mk fun W => nW W
  have HA := Hid_mk fun W h => brA W h
  have HB := Hid_mk fun W h => brB W h
  have HCC := Hid_mk fun W h => brC W h
  have HD := Hid_mk fun W h => brD W h
  have HE := Hid_mk fun W h => brE W h
  clear hm
  go_enter Try.func3, Try.ntmps3
  go_wp2_with fail
  with_reducible refine (HN.out _).mono ?_
  rintro e w1 ⟨rfl, k1⟩
  obtain ⟨q1, W1, hq1, hW1, -, hk1, -⟩ := made_any k1 nul
  have H1 := Hid_mk hW1; have Hq1 := Hid_mk hq1; have K1 := Hid_mk hk1
  clear hq1 hW1 hk1 k1
  go_wp2_with fail
  rw [H1.out]; rw [Hq1.out]
  clear H1 Hq1
  refine (HA.out W1 (HM.out.no K1.out)).mono ?_
  rintro e w2 ⟨rfl, k2⟩
  obtain ⟨qa, W2, hq2, hW2, hs2, hk2, -⟩ := made_any (K1.out.trans' k2) (fun x => !ofL [93, 97] x)
  have H2 := Hid_mk hW2; have Hq2 := Hid_mk hq2; have K2 := Hid_mk hk2; have SA2 := Hid_mk hs2
  clear hq2 hW2 hk2 k2 hs2
  go_wp2_with fail
  rw [H2.out]; rw [Hq2.out]
  clear H2 Hq2
  refine (HB.out W2 (HM.out.no K2.out)).mono ?_
  rintro e w3 ⟨rfl, k3⟩
  obtain ⟨qb, W3, hq3, hW3, hs3, hk3, hl3⟩ := made_any (K2.out.trans' k3) (ofL [93])
  have SA3 := Hid_mk ((SA2.out.no k3).no ((Kp.refl No w3).alloc (.cells #[.int .u64 (wd (ofL [93]) 0 64 : Nat), .int .u64 (wd (ofL [93]) 64 64 : Nat), .int .u64 (wd (ofL [93]) 128 64 : Nat), .int .u64 (wd (ofL [93]) 192 64 : Nat)] 24)))
  rw [hW3] at SA3
  have H3 := Hid_mk hW3; have Hq3 := Hid_mk hq3; have K3 := Hid_mk hk3; have SB3 := Hid_mk hs3
  clear hq3 hW3 hk3 k3 hs3 hl3 SA2
  go_wp2_with fail
  rw [H3.out]; rw [Hq3.out]
  clear H3 Hq3
  refine (HCC.out W3 (HM.out.no K3.out)).mono ?_
  rintro e w4 ⟨rfl, k4⟩
  obtain ⟨qc, W4, hq4, hW4, hs4, hk4, -⟩ := made_any (K3.out.trans' k4) kCs
  have hk4' : Kp No W3 W4 := by rw [← hW4]; exact k4.alloc _
  have HC := Hid_mk (show Cur3 w W4 qa qb qc from ⟨SA3.out.no hk4', SB3.out.no hk4', hs4, hk4⟩)
  have H4 := Hid_mk hW4; have Hq4 := Hid_mk hq4
  clear hq4 hW4 hk4 k4 hs4 hk4' SA3 SB3 K1 K2 K3 HA HB HCC HN
  go_wp2_with fail
  rw [H4.out]; rw [Hq4.out]
  clear H4 Hq4
  refine (HD.out W4 (HM.out.no HC.out.k)).mono ?_
  rintro e w5 ⟨rfl, k5⟩
  obtain ⟨q5, W5, hq5, hW5, -, -, hk5⟩ := made_any (HC.out.k.trans' k5) nul
  replace HC := Hid_mk ((HC.out.no k5).no hk5)
  have H5 := Hid_mk hW5; have Hq5 := Hid_mk hq5
  clear hq5 hW5 hk5 k5 HD
  go_wp2_with fail
  rw [H5.out]; rw [Hq5.out]
  clear H5 Hq5
  refine (HE.out W5 (HM.out.no HC.out.k)).mono ?_
  rintro e w6 ⟨rfl, k6⟩
  obtain ⟨q6, W6, hq6, hW6, -, -, hk6⟩ := made_any (HC.out.k.trans' k6) nul
  replace HC := Hid_mk ((HC.out.no k6).no hk6)
  have H6 := Hid_mk hW6; have Hq6 := Hid_mk hq6
  clear hq6 hW6 hk6 k6 HE
  go_wp2_with fail
  rw [H6.out]; rw [Hq6.out]
  clear H6 Hq6
  replace HC := Hid_mk (HC.out.no (Kp.refl No W6).drew)
  have hkeep : ∀ W, Cur3 w W qa qb qc → (W.cell? ⟨qa, 0, none⟩ = some (.int .u64 (wd (fun x => !ofL [93, 97] x) 0 64 : Nat)) ∧ W.cell? ⟨qa, 1, none⟩ = some (.int .u64 (wd (fun x => !ofL [93, 97] x) 64 64 : Nat)) ∧ W.cell? ⟨qa, 2, none⟩ = some (.int .u64 (wd (fun x => !ofL [93, 97] x) 128 64 : Nat)) ∧ W.cell? ⟨qa, 3, none⟩ = some (.int .u64 (wd (fun x => !ofL [93, 97] x) 192 64 : Nat)) ∧ W.cell? ⟨qb, 0, none⟩ = some (.int .u64 (wd (ofL [93]) 0 64 : Nat)) ∧ W.cell? ⟨qb, 1, none⟩ = some (.int .u64 (wd (ofL [93]) 64 64 : Nat)) ∧ W.cell? ⟨qb, 2, none⟩ = some (.int .u64 (wd (ofL [93]) 128 64 : Nat)) ∧ W.cell? ⟨qb, 3, none⟩ = some (.int .u64 (wd (ofL [93]) 192 64 : Nat)) ∧ W.cell? ⟨qc, 0, none⟩ = some (.int .u64 (wd kCs 0 64 : Nat)) ∧ W.cell? ⟨qc, 1, none⟩ = some (.int .u64 (wd kCs 64 64 : Nat)) ∧ W.cell? ⟨qc, 2, none⟩ = some (.int .u64 (wd kCs 128 64 : Nat)) ∧ W.cell? ⟨qc, 3, none⟩ = some (.int .u64 (wd kCs 192 64 : Nat))) := fun W h =>
    ⟨h.a.cell 0 (by decide), h.a.cell 1 (by decide), h.a.cell 2 (by decide), h.a.cell 3 (by decide), h.b.cell 0 (by decide), h.b.cell 1 (by decide), h.b.cell 2 (by decide), h.b.cell 3 (by decide), h.c.cell 0 (by decide), h.c.cell 1 (by decide), h.c.cell 2 (by decide), h.c.cell 3 (by decide)⟩
  have HKeep := Hid_mk hkeep
  have hS := hkeep _ HC.out
  clear hkeep
  have HKn := Hid_mk fun W (h : Mx W) => known_any W h
  have HNt := Hid_mk fun W => not_any W (ofL [93, 97])
  have HCt : Hid (∀ W, Calls Try.prog 12 #[sv kCs] W fun e w' => e = .returned (.int .i64 11) ∧ Kp No W w') := Hid_mk fun W => by have h := count_any W kCs; rw [kC_cnt] at h; exact h
  have HHs : Hid (∀ W, Calls Try.prog 13 #[sv kCs, .int .u8 45] W fun e w' => e = .returned (.bool true) ∧ Kp No W w') := Hid_mk fun W => has_any W kCs 45 (by decide)
  have hEq := fun W => eq_self (fun x => !ofL [93, 97] x) W
  have hEq2 := fun W => eq_self (ofL [93]) W
  go_region_held3 (fun V => V.cell? ⟨qa, 0, none⟩ = some (.int .u64 (wd (fun x => !ofL [93, 97] x) 0 64 : Nat)) ∧ V.cell? ⟨qa, 1, none⟩ = some (.int .u64 (wd (fun x => !ofL [93, 97] x) 64 64 : Nat)) ∧ V.cell? ⟨qa, 2, none⟩ = some (.int .u64 (wd (fun x => !ofL [93, 97] x) 128 64 : Nat)) ∧ V.cell? ⟨qa, 3, none⟩ = some (.int .u64 (wd (fun x => !ofL [93, 97] x) 192 64 : Nat)) ∧ V.cell? ⟨qb, 0, none⟩ = some (.int .u64 (wd (ofL [93]) 0 64 : Nat)) ∧ V.cell? ⟨qb, 1, none⟩ = some (.int .u64 (wd (ofL [93]) 64 64 : Nat)) ∧ V.cell? ⟨qb, 2, none⟩ = some (.int .u64 (wd (ofL [93]) 128 64 : Nat)) ∧ V.cell? ⟨qb, 3, none⟩ = some (.int .u64 (wd (ofL [93]) 192 64 : Nat)) ∧ V.cell? ⟨qc, 0, none⟩ = some (.int .u64 (wd kCs 0 64 : Nat)) ∧ V.cell? ⟨qc, 1, none⟩ = some (.int .u64 (wd kCs 64 64 : Nat)) ∧ V.cell? ⟨qc, 2, none⟩ = some (.int .u64 (wd kCs 128 64 : Nat)) ∧ V.cell? ⟨qc, 3, none⟩ = some (.int .u64 (wd kCs 192 64 : Nat)))
    (first | (dsimp only; exact hS) | go_keep)
    (first
      | (go_at_call 9; with_reducible refine (HKn.out _ (HM.out.no HC.out.k)).mono ?_; rintro e wn ⟨rfl, kn⟩; replace HC := Hid_mk (HC.out.no kn); replace hS := HKeep.out _ HC.out; clear kn)
      | (go_at_call 10; with_reducible refine (of_any _ _ [93, 97] (bs_l2 wn 93 97 93 97 rfl rfl)).mono ?_; rintro e wm ⟨rfl, kn⟩; replace kn := ((Kp.refl No wn).alloc (.cells #[.int .u8 93, .int .u8 97] 5)).trans' kn; replace HC := Hid_mk (HC.out.no kn); replace hS := HKeep.out _ HC.out; clear kn)
      | (go_at_call 11; with_reducible refine (HNt.out _).mono ?_; rintro e wn ⟨rfl, kn⟩; replace HC := Hid_mk (HC.out.no kn); replace hS := HKeep.out _ HC.out; clear kn)
      | (go_at_call 10; with_reducible refine (of_any _ _ [93] (bs_l1 wn 93 93 rfl)).mono ?_; rintro e wm ⟨rfl, kn⟩; replace kn := ((Kp.refl No wn).alloc (.cells #[.int .u8 93] 5)).trans' kn; replace HC := Hid_mk (HC.out.no kn); replace hS := HKeep.out _ HC.out; clear kn)
      | (go_at_call 12; with_reducible refine (HCt.out _).mono ?_; rintro e wn ⟨rfl, kn⟩; replace HC := Hid_mk (HC.out.no kn); replace hS := HKeep.out _ HC.out; clear kn)
      | (go_at_call 13; with_reducible refine (HHs.out _).mono ?_; rintro e wn ⟨rfl, kn⟩; replace HC := Hid_mk (HC.out.no kn); replace hS := HKeep.out _ HC.out; clear kn))
  all_goals
    go_wp2
    go_ret
    exact ⟨rfl, HC.out.k⟩

end Go.Proofs.Ytpfpnlhihnfahaa.cls
