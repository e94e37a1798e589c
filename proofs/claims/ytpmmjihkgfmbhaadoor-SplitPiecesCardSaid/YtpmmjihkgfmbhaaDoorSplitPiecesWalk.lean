/- SplitPieces: the law's walk, over what is asked of the project's Splitter. -/
import Derived.Test.YtpmmjihkgfmbhaaDoorSplitAll
import Derived.Test.YtpmmjihkgfmbhaaDoorSplitKnown0
import Derived.Test.YtpmmjihkgfmbhaaDoorBytesOf
import Derived.Test.YtpmmjihkgfmbhaaDoorSeps
namespace Go.Proofs.YtpmmjihkgfmbhaaDoor.spl
open Go.RowKit Go.Maps Go.Proofs.YtpmmjihkgfmbhaaDoor.sum Go.Proofs.YtpmmjihkgfmbhaaDoor.kept Go.Proofs.YtpmmjihkgfmbhaaDoor.app Go.Proofs.YtpmmjihkgfmbhaaDoor.writer Go.Proofs.YtpmmjihkgfmbhaaDoor.clone Go.Proofs.YtpmmjihkgfmbhaaDoor.known Go.Proofs.YtpmmjihkgfmbhaaDoor.unseal Go.Proofs.YtpmmjihkgfmbhaaDoor.snp
set_option linter.unusedVariables false

theorem Cu.no {w w' : World} {v : Value} {ns : List Int} (h : Cu w v ns) (hk : Kp No w w') : Cu w' v ns := by
  obtain ⟨a, c, e, h1, h2, h3⟩ := h
  refine ⟨a, c, e, h1, h2, fun hne => ?_⟩
  obtain ⟨b, o, e2, hc⟩ := h3 hne
  exact ⟨b, o, e2, fun k hk2 => hk.cell' (hc k hk2) id⟩
theorem Cu.take {w : World} {a : Option Addr} {n c : Nat} {ns : List Int} (h : Cu w (.slice a n c) ns) (k : Nat) (hk : k ≤ n) : Cu w (.slice a k c) (ns.take k) := by
  obtain ⟨a2, c2, e, h1, h2, h3⟩ := h
  simp only [Value.slice.injEq] at e
  obtain ⟨rfl, rfl, rfl⟩ := e
  have hl : (ns.take k).length = k := by simp; omega
  refine ⟨a, c, by rw [hl], by omega, h2, fun hne => ?_⟩
  obtain ⟨b, o, e2, hc⟩ := h3 (by intro e; rw [e] at hne; simp at hne)
  refine ⟨b, o, e2, fun j hj => ?_⟩
  rw [hl] at hj
  rw [hc j (by omega)]
  simp
theorem Cu.none (w : World) : Cu w (.slice none 0 0) [] := ⟨Option.none, 0, rfl, Nat.le_refl _, by decide, fun h => absurd rfl h⟩

set_option maxRecDepth 100000 in
set_option maxHeartbeats 8000000 in
theorem splitPieces_any {Sp : SpT} (C : SplitC Sp) (w : World) (most : Int) (vb vc : Value) (bs : List UInt8) (ns : List Int) (rs : Int) (near : Bool) (hb : Bs w vb bs) (hc : Cu w vc ns) (hq : Sq w) (hl : bs.length ≤ 140737488355328) :
    Calls Tryd.prog 4 #[.int .i64 most, vb, vc, .int .i64 rs, .bool near] w fun e w' => e = .returned (.bool true) ∧ Kp No w w' := by
  obtain ⟨m, hm⟩ : ∃ m : Nat, 1 + most % 12 = (m : Int) := ⟨(1 + most % 12).toNat, by have := Int.emod_nonneg most (show (12 : Int) ≠ 0 by omega); omega⟩
  have hm1 : 1 ≤ m := by have := Int.emod_nonneg most (show (12 : Int) ≠ 0 by omega); omega
  have hm2 : m ≤ 12 := by have := Int.emod_lt_of_pos most (show (0 : Int) < 12 by omega); omega
  obtain ⟨K, hK⟩ : ∃ K : Nat, rs % 5 = (K : Int) := ⟨(rs % 5).toNat, by have := Int.emod_nonneg rs (show (5 : Int) ≠ 0 by omega); omega⟩
  have hK5 : K < 5 := by have := Int.emod_lt_of_pos rs (show (0 : Int) < 5 by omega); omega
  obtain ⟨ab, cb, rfl, b1, b2, -⟩ := id hb
  unfold maxLen at b2
  obtain ⟨ac, cc, rfl, n1, n2, -⟩ := id hc
  obtain ⟨bt, hbte⟩ : ∃ bt, bs.take (min bs.length 300) = bt := ⟨_, rfl⟩
  have hbtl : bt.length = min bs.length 300 := by rw [← hbte, List.length_take]; omega
  have hbt := bs_take hb (min bs.length 300) (Nat.min_le_left _ _)
  rw [hbte, ← hbtl] at hbt
  have HBy := bytes_any w _ bt hbt (by omega)
  obtain ⟨L, hL⟩ : ∃ L, bt.length = L := ⟨_, rfl⟩
  have hL3 : L ≤ 300 := by omega
  have hLc : L ≤ cb := by omega
  rw [hL] at hbt HBy
  have HBy' := Hid_mk HBy
  obtain ⟨M, hM⟩ : ∃ M, min ns.length 40 = M := ⟨_, rfl⟩
  obtain ⟨nt, hnt⟩ : ∃ nt, ns.take M = nt := ⟨_, rfl⟩
  have hct := hc.take M (by omega)
  have hntl : nt.length ≤ 40 := by rw [← hnt, List.length_take]; omega
  rw [hnt] at hct
  have HCt := Hid_mk hct
  have HC0 := Hid_mk (Cu.none w)
  have hMc : M ≤ cc := by omega
  have hwm : IntKind.i64.wrap (1 + most % 12) = (m : Int) := by rw [hm]; exact IntWalk.i64_in _ (by omega)
  have HPk := Hid_mk (turned.pick_any most 12 (by omega) (by omega) w)
  have HPr := Hid_mk fun W => turned.pick_any rs 5 (by omega) (by omega) W
  have HBt := Hid_mk hbt
  have HL := Hid_mk hL
  have HQ := Hid_mk hq
  obtain ⟨sep, hsep⟩ : ∃ sep, sepL K = sep := ⟨_, rfl⟩
  have HSep := Hid_mk hsep
  have hsl : sep.length ≤ maxLen := by rw [← hsep]; have := sepL_len K; unfold maxLen; omega
  have HAl := Hid_mk fun W v bb vn nn (h1 : Bs W v bb) (h2 : bb.length ≤ 1000) (h3 : Cu W vn nn) (h4 : nn.length ≤ 40) => all_any C W m hm1 (by omega) v vn bb nn sep h1 h3 (by omega) (by omega) hsl
  have hsel : (bs.length ≤ 300 ∧ L = bs.length) ∨ (¬ bs.length ≤ 300 ∧ L = 300) := by omega
  have hsm : (ns.length ≤ 40 ∧ M = ns.length) ∨ (¬ ns.length ≤ 40 ∧ M = 40) := by omega
  have HSm := Hid_mk hsm
  have hk0 : (0 : Int) ≤ (K : Int) := Int.natCast_nonneg _
  have hki : (K : Int) < 5 := by omega
  have HNl := Hid_mk hntl
  clear hb hbt hbte hbtl hL hc hct hq hsep hsl hnt hM HBy hsm hntl
  rcases hsel with ⟨h3, e3⟩ | ⟨h3, e3⟩
  all_goals
    have h3i : (300 : Int) < (bs.length : Int) ∨ (bs.length : Int) ≤ 300 := by omega
    cases near
  all_goals
    go_enter Tryd.func4, Tryd.ntmps4
    go_wp2_with fail
    with_reducible refine HPk.out.mono ?_
    rintro e w' ⟨rfl, rfl⟩
    go_wp2_with fail
    rw [← e3]
    clear e3 h3 h3i HPk
  all_goals first
    | (with_reducible refine (HPr.out _).mono ?_
       obtain ⟨w1, hw1⟩ : ∃ w1, w1 = w := ⟨_, rfl⟩
       rw [← hw1]
       obtain ⟨bb, hbb⟩ : ∃ bb, bb = bt := ⟨_, rfl⟩
       have HBb := Hid_mk (show Bs w1 (.slice ab L cb) bb by rw [hbb, hw1]; exact HBt.out)
       have HK1 : Hid (Kp No w w1) := Hid_mk (by rw [hw1]; exact Kp.refl _ _)
       have HBl : Hid (bb.length ≤ 1000) := Hid_mk (by rw [hbb, HL.out]; omega)
       clear hw1 hbb HBy' HBt)
    | (with_reducible refine HBy'.out.mono ?_
       rintro e w1 ⟨rfl, hb1, hk1⟩
       obtain ⟨bb, hbb⟩ : ∃ bb, bb = kindsOf bt := ⟨_, rfl⟩
       have HBb := Hid_mk (show Bs w1 (.slice (some ⟨w.heap.size, 0, none⟩) L L) bb by rw [hbb]; exact hb1)
       have HK1 := Hid_mk hk1
       have HBl : Hid (bb.length ≤ 1000) := Hid_mk (by rw [hbb]; unfold kindsOf; rw [List.length_map, HL.out]; omega)
       clear hb1 hk1 hbb HBy' HBt
       go_wp2_with fail
       with_reducible refine (HPr.out _).mono ?_)
  all_goals
    rintro e w' ⟨rfl, rfl⟩
    rw [hK]
    have hcell := (HQ.out.no HK1.out) K hK5
    rw [HSep.out] at hcell
    go_wp2_with fail
    with_reducible refine (HAl.out w1 _ bb _ [] HBb.out HBl.out (HC0.out.no HK1.out) (by decide)).mono ?_
    rintro e w2 ⟨vx, rfl, hrow, hk2⟩
    have HB2 := Hid_mk (bs_no HBb.out hk2)
    have HK2 := Hid_mk (HK1.out.trans' hk2)
    have HRx := Hid_mk (TRow.tr hrow)
    have hvx : ∃ a n c, vx = .slice a n c := by
      obtain ⟨a, cc, e, -⟩ := TRow.tr hrow
      exact ⟨a, _, cc, e⟩
    obtain ⟨ax, nx, cx, rfl⟩ := hvx
    clear hrow hk2 HBb HK1 hcell
    have hsm := HSm.out
    rcases hsm with ⟨h4, e4⟩ | ⟨h4, e4⟩
  all_goals
    have h4i : (40 : Int) < (ns.length : Int) ∨ (ns.length : Int) ≤ 40 := by omega
    go_wp2_with fail
    rw [← e4]
    with_reducible refine (HAl.out w2 _ bb _ nt HB2.out HBl.out (HCt.out.no HK2.out) HNl.out).mono ?_
    rintro e w3 ⟨vy, rfl, hrow, hk3⟩
    have HK3 := Hid_mk (HK2.out.trans' hk3)
    have HRx3 := Hid_mk (HRx.out.no hk3)
    have HRy := Hid_mk (TRow.tr hrow)
    have hvy : ∃ a n c, vy = .slice a n c := by
      obtain ⟨a, cc, e, -⟩ := TRow.tr hrow
      exact ⟨a, _, cc, e⟩
    obtain ⟨ay, ny, cy, rfl⟩ := hvy
    have HKn := Hid_mk (splitknown_any C w3)
    clear hrow hk3 HRx HK2 HB2 e4 h4 h4i
    go_wp2_with fail
    with_reducible refine HKn.out.mono ?_
    rintro e w4 ⟨rfl, hk4⟩
    have HSt := Hid_mk (strs_any w4 _ _ _ (HRx3.out.no hk4) (HRy.out.no hk4))
    have HK4 := Hid_mk (HK3.out.trans' hk4)
    clear hk4 HKn
    go_wp2_with fail
    with_reducible refine HSt.out.mono ?_
    rintro e w5 ⟨rfl, hk5⟩
    have HK5 := Hid_mk (HK4.out.trans' hk5)
    clear hk5 HSt
    go_wp2
    go_ret
    exact ⟨rfl, HK5.out⟩

end Go.Proofs.YtpmmjihkgfmbhaaDoor.spl
