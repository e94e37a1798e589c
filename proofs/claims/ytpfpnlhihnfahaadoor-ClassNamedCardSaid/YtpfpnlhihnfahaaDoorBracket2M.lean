/- Package class: Bracket itself. Package class: Bracket of a text whose ends are bare bytes; the law's known. -/
import Derived.Test.YtpfpnlhihnfahaaDoorShelfM
import Derived.Deep.RegionWith
import Derived.Deep.RegionHeld3

namespace Go.Proofs.YtpfpnlhihnfahaaDoor.cls
open Go.RowKit Go.Proofs.YtpfpnlhihnfahaaDoor.sum Go.Proofs.YtpfpnlhihnfahaaDoor.kept Go.Proofs.YtpfpnlhihnfahaaDoor.pop Go.Proofs.YtpfpnlhihnfahaaDoor.str
set_option linter.unusedVariables false

/-- the items, till the closing byte -/
def brS (it : Nat → Option ((Nat → Bool) × Nat)) (l : List UInt8) (first : Nat) : Nat → Nat → (Nat → Bool) → Option ((Nat → Bool) × Nat)
  | 0, _, _ => none
  | f + 1, k, s =>
    if k < l.length ∧ ((l.getD k 0).toNat ≠ 93 ∨ k = first) then
      match it k with
      | none => none
      | some (g, n) => brS it l first f n (fun x => s x || g x)
    else if k = l.length then none else some (s, k + 1)
/-- what Bracket tells -/
def brV (o : Bool) : Option ((Nat → Bool) × Nat) → Value
  | none => .tuple #[sv nul, .int .i64 0, .bool false]
  | some (f, n) => .tuple #[sv (if o = true then fun x => !f x else f), .int .i64 (n : Nat), .bool true]
/-- at the loop's head -/
def BrRel (W0 : World) (q : Nat) (it : Nat → Option ((Nat → Bool) × Nat)) (l : List UInt8) (first : Nat) (R : Option ((Nat → Bool) × Nat)) (i : Value) (wr : World) : Prop :=
  ∃ (k fu : Nat) (s : Nat → Bool), i = .int .i64 (k : Int) ∧ first ≤ k ∧ k ≤ l.length ∧ l.length < k + fu ∧ brS it l first fu k s = R ∧ SetAt wr q s ∧ Kp (fun b => b = q) W0 wr

section
variable {it : Nat → Option ((Nat → Bool) × Nat)} {l : List UInt8} {first fu k : Nat} {s g : Nat → Bool} {n : Nat}
theorem brS_step (h : k < l.length) (hx : (l.getD k 0).toNat ≠ 93 ∨ k = first) (hi : it k = some (g, n)) : brS it l first (fu + 1) k s = brS it l first fu n (fun x => s x || g x) := by
  rw [brS, if_pos ⟨h, hx⟩, hi]
theorem brS_bad (h : k < l.length) (hx : (l.getD k 0).toNat ≠ 93 ∨ k = first) (hi : it k = none) : brS it l first (fu + 1) k s = none := by
  rw [brS, if_pos ⟨h, hx⟩, hi]
theorem brS_out (h : k = l.length) : brS it l first (fu + 1) k s = none := by
  rw [brS, if_neg (by omega), if_pos h]
theorem brS_end (h : k < l.length) (hx : (l.getD k 0).toNat = 93) (hf : k ≠ first) : brS it l first (fu + 1) k s = some (s, k + 1) := by
  rw [brS, if_neg (by intro e; rcases e.2 with e | e <;> omega), if_neg (by omega)]
end

set_option maxRecDepth 100000 in
set_option maxHeartbeats 2000000 in
theorem bracket_any (w : World) (l : List UInt8) (k0 : Nat) (o : Bool) (hk0 : k0 ≤ l.length) (hl : l.length < 4294967281) (hm : ∃ m, w.cell? ⟨2, 0, none⟩ = some (.int .i64 m)) (it : Nat → Option ((Nat → Bool) × Nat))
    (hit : ∀ W j, (∃ m, W.cell? ⟨2, 0, none⟩ = some (.int .i64 m)) → j < l.length → Calls Tryd.prog 63 #[.string (st l), .int .i64 (j : Int)] W (ItPost W (it j)))
    (hadv : ∀ j x, j < l.length → it j = some x → j < x.2 ∧ x.2 ≤ l.length) (ho : Lib.hasPrefix (l.drop k0) [94] = o) :
    Calls Tryd.prog 52 #[.string (st l), .int .i64 (k0 : Int)] w fun e w' => e = .returned (brV o (brS it l (if o = true then k0 + 1 else k0) (l.length + 1) (if o = true then k0 + 1 else k0) nul)) ∧ Kp No w w' := by
  have hko : o = true → k0 + 1 ≤ l.length := fun e => by
    rw [← ho] at e
    have := Lib.hasPrefix_le e
    rw [List.length_drop] at this
    simp at this
    omega
  obtain ⟨first, hfi⟩ : ∃ first, (if o = true then k0 + 1 else k0) = first := ⟨_, rfl⟩
  obtain ⟨R, hR⟩ : ∃ R, brS it l first (l.length + 1) first nul = R := ⟨_, rfl⟩
  obtain ⟨V, hV⟩ : ∃ V, brV o R = V := ⟨_, rfl⟩
  rw [hfi, hR, hV]
  have hfl : first ≤ l.length := by
    rw [← hfi]
    split
    · exact hko ‹_›
    · exact hk0
  have hsz := st_size l
  have hx := st_from l k0
  have hki0 : (0 : Int) ≤ (k0 : Int) := Int.natCast_nonneg _
  have hkl : ¬ (l.length : Int) < (k0 : Int) := by omega
  have HPre := Hid_mk fun W => pre_any W (l.drop k0) [94] ⟨#[94]⟩ rfl
  rw [ho] at HPre
  have HK0 := Hid_mk ((Kp.refl No w).alloc (.cells #[.int .u64 0, .int .u64 0, .int .u64 0, .int .u64 0] 60))
  have HZ := Hid_mk (SetAt.zero w)
  have hmq : 0 < w.heap.size := by
    obtain ⟨m, h⟩ := hm
    exact Nat.lt_of_le_of_lt (Nat.zero_le _) (World.block_lt_of_cell? w _ h)
  have HM := Hid_mk hm
  have HIt := Hid_mk hit
  have HAd := Hid_mk hadv
  have HR := Hid_mk hR
  have HV := Hid_mk hV
  have HF := Hid_mk hfi
  have HO := Hid_mk ho
  obtain ⟨W0, hW0⟩ : ∃ W0, w.alloc (.cells #[.int .u64 0, .int .u64 0, .int .u64 0, .int .u64 0] 60) = W0 := ⟨_, rfl⟩
  rw [hW0] at HK0 HZ
  have HW0 := Hid_mk hW0
  obtain ⟨q, hq⟩ : ∃ q, w.heap.size = q := ⟨_, rfl⟩
  rw [hq] at HZ hmq
  have Hq := Hid_mk hq
  clear hm hit hadv hR hV hfi hko hW0 hq ho
  go_enter Tryd.func52, Tryd.ntmps52
  go_wp2_with fail
  with_reducible refine (HPre.out _).mono ?_
  rintro e w1 ⟨rfl, rfl⟩
  have hw1 : IntKind.i64.wrap ((k0 : Int) + 1) = (k0 : Int) + 1 := IntWalk.i64_in _ (by omega)
  cases o
  · have hf2 := HF.out
    simp only [Bool.false_eq_true, if_false] at hf2
    subst hf2
    go_wp2_with fail
    try rw [HW0.out]
    try rw [Hq.out]
    go_loopw [1] (fun i wr => BrRel W0 q it l (k0) R i wr) (fun i _ => l.length - (intOf i).toNat)
    case atStart => exact ⟨k0, l.length + 1, nul, by first | rfl | (push_cast; rfl), Nat.le_refl _, hfl, by omega, HR.out, HZ.out, Kp.refl _ _⟩
    case round =>
      obtain ⟨k, fu, s, rfl, hfk, hkl2, hfu, hbr, hs, hkp⟩ := hrel
      obtain ⟨fu', rfl⟩ : ∃ f', fu = f' + 1 := ⟨fu - 1, by omega⟩
      have hki : (0 : Int) ≤ (k : Int) := Int.natCast_nonneg _
      have hk1 : wrap64 ((k : Int) + 1) = (k : Int) + 1 := IntWalk.wrap64_in _ (by omega)
      have hk2 : IntKind.i64.wrap ((k : Int) + 1) = (k : Int) + 1 := IntWalk.i64_in _ (by omega)
      have HS := Hid_mk hs
      have HKp := Hid_mk hkp
      have HBr := Hid_mk hbr
      have HFu := Hid_mk hfu
      clear hs hkp hbr hfu
      by_cases hlt : k < l.length
      · have hlti : (k : Int) < (l.length : Int) := by omega
        have hg := fun h => st_get l k h
        obtain ⟨x, hx⟩ : ∃ x, (l.getD k 0).toNat = x := ⟨_, rfl⟩
        rw [hx] at hg
        have HX := Hid_mk hx
        clear hx
        by_cases hgo : x ≠ 93 ∨ k = k0
        · have HGo := Hid_mk hgo
          have HLt := Hid_mk hlt
          clear hlt
          rcases Decidable.em (x = 93) with hx | hx
          · have hkF : k0 = k := by rcases hgo with h | h; exact absurd hx h; exact h.symm
            subst hx
            subst hkF
            clear hgo
            go_wp2_with fail
            refine (HIt.out _ k0 (by obtain ⟨m, h⟩ := HM.out; exact ⟨m, HKp.out.cell' (HK0.out.cell' h id) (by have h9 := World.block_lt_of_cell? _ _ h; simp only at h9; have h8 := Hq.out; show ¬ 2 = q; omega)⟩) HLt.out).mono ?_
            rintro e w2 ⟨g, n, rfl, hgn, k2⟩
            have HGn := Hid_mk hgn
            have HK2 := Hid_mk (HKp.out.trans k2 fun i _ e => e.elim)
            have hs2 := HS.out.kept k2 id
            have HS2 := Hid_mk hs2
            obtain ⟨r, hr⟩ : ∃ r, it (k0) = r := ⟨_, rfl⟩
            rw [hr] at HGn ⊢
            have HRr := Hid_mk hr
            clear hgn k2 hr
            obtain ⟨z0, z1, z2, z3⟩ := hs2.cells
            have zw := hs2.warm
            have y0 := fun o => ((Kp.refl No w2).alloc o).cell' z0 id
            have y1 := fun o => ((Kp.refl No w2).alloc o).cell' z1 id
            have y2 := fun o => ((Kp.refl No w2).alloc o).cell' z2 id
            have y3 := fun o => ((Kp.refl No w2).alloc o).cell' z3 id
            have yw := fun o => (HS2.out.kept ((Kp.refl No w2).alloc o) id).warm
            clear hs2
            cases r with
            | none =>
              have hRn : R = none := by rw [← HBr.out]; exact brS_bad HLt.out (.inr rfl) HRr.out
              obtain ⟨WR, hWR, hsr, hkr⟩ := put_nul (HS2.out.kept ((Kp.refl No w2).alloc (.cells #[.int .u64 (wd g 0 64 : Nat), .int .u64 (wd g 64 64 : Nat), .int .u64 (wd g 128 64 : Nat), .int .u64 (wd g 192 64 : Nat)] 60)) id) ((HK0.out.trans HK2.out fun i hi e => by have := Hq.out; omega).alloc _) (fun h => by have := Hq.out; omega)
              have HWR := Hid_mk hWR
              have HSr := Hid_mk hsr
              have HKR := Hid_mk hkr
              clear hWR hsr hkr
              have HV2 := Hid_mk (show brV _ none = V by rw [← hRn]; exact HV.out)
              clear hRn
              simp only [Option.isSome_none]
              go_wp2
              rw [HWR.out]
              obtain ⟨r0, r1, r2, r3⟩ := HSr.out.cells
              refine bodyPost_ret (v := V) ?_ rfl ⟨rfl, HKR.out⟩
              rw [← HV2.out]
              simp only [wd_nul] at r0 r1 r2 r3
              simp [results, Tryd.results52, go_sem, r0, r1, r2, r3, brV, wd_nul]
            | some y =>
              have hy := HGn.out y rfl
              subst hy
              have hb2 : brS it l (k0) fu' n (fun x => s x || g x) = R := by rw [← HBr.out]; exact (brS_step HLt.out (.inr rfl) HRr.out).symm
              have hn := HAd.out _ _ HLt.out HRr.out
              simp only at hn
              have HB2 := Hid_mk hb2
              clear hb2
              simp only [Option.isSome_some]
              go_wp2_with fail
              with_reducible refine (or_any _ s g).mono ?_
              rintro e w3 ⟨rfl, k3⟩
              have hk3 := ((Kp.refl No w2).alloc (.cells #[.int .u64 (wd g 0 64 : Nat), .int .u64 (wd g 64 64 : Nat), .int .u64 (wd g 128 64 : Nat), .int .u64 (wd g 192 64 : Nat)] 60)).trans' k3
              have hs3 := HS2.out.kept hk3 id
              obtain ⟨WR, hWR, hsr, hkr⟩ := put_any hs3 (fun x => s x || g x) (HK2.out.trans hk3 fun i _ e => e.elim) (fun _ => rfl)
              have HWR := Hid_mk hWR
              have HSr := Hid_mk hsr
              have HKR := Hid_mk hkr
              clear hWR hsr hkr z0 z1 z2 z3 zw y0 y1 y2 y3 yw k3 hk3
              obtain ⟨z0, z1, z2, z3⟩ := hs3.cells
              have zw := hs3.warm
              clear hs3
              go_wp2
              go_roundw
              case rel => exact ⟨n, fu', _, rfl, by have := HLt.out; omega, hn.2, by have := HFu.out; omega, HB2.out, by rw [HWR.out]; exact HSr.out, by rw [HWR.out]; exact HKR.out⟩
              case measure => have := HLt.out; simp only [intOf]; omega
          · have hxi : ((x : Int) != 93) = true := by simp; omega
            clear hgo hx
            go_wp2_with fail
            refine (HIt.out _ k (by obtain ⟨m, h⟩ := HM.out; exact ⟨m, HKp.out.cell' (HK0.out.cell' h id) (by have h9 := World.block_lt_of_cell? _ _ h; simp only at h9; have h8 := Hq.out; show ¬ 2 = q; omega)⟩) HLt.out).mono ?_
            rintro e w2 ⟨g, n, rfl, hgn, k2⟩
            have HGn := Hid_mk hgn
            have HK2 := Hid_mk (HKp.out.trans k2 fun i _ e => e.elim)
            have hs2 := HS.out.kept k2 id
            have HS2 := Hid_mk hs2
            obtain ⟨r, hr⟩ : ∃ r, it (k) = r := ⟨_, rfl⟩
            rw [hr] at HGn ⊢
            have HRr := Hid_mk hr
            clear hgn k2 hr
            obtain ⟨z0, z1, z2, z3⟩ := hs2.cells
            have zw := hs2.warm
            have y0 := fun o => ((Kp.refl No w2).alloc o).cell' z0 id
            have y1 := fun o => ((Kp.refl No w2).alloc o).cell' z1 id
            have y2 := fun o => ((Kp.refl No w2).alloc o).cell' z2 id
            have y3 := fun o => ((Kp.refl No w2).alloc o).cell' z3 id
            have yw := fun o => (HS2.out.kept ((Kp.refl No w2).alloc o) id).warm
            clear hs2
            cases r with
            | none =>
              have hRn : R = none := by rw [← HBr.out]; exact brS_bad HLt.out (by rw [HX.out]; exact HGo.out) HRr.out
              obtain ⟨WR, hWR, hsr, hkr⟩ := put_nul (HS2.out.kept ((Kp.refl No w2).alloc (.cells #[.int .u64 (wd g 0 64 : Nat), .int .u64 (wd g 64 64 : Nat), .int .u64 (wd g 128 64 : Nat), .int .u64 (wd g 192 64 : Nat)] 60)) id) ((HK0.out.trans HK2.out fun i hi e => by have := Hq.out; omega).alloc _) (fun h => by have := Hq.out; omega)
              have HWR := Hid_mk hWR
              have HSr := Hid_mk hsr
              have HKR := Hid_mk hkr
              clear hWR hsr hkr
              have HV2 := Hid_mk (show brV _ none = V by rw [← hRn]; exact HV.out)
              clear hRn
              simp only [Option.isSome_none]
              go_wp2
              rw [HWR.out]
              obtain ⟨r0, r1, r2, r3⟩ := HSr.out.cells
              refine bodyPost_ret (v := V) ?_ rfl ⟨rfl, HKR.out⟩
              rw [← HV2.out]
              simp only [wd_nul] at r0 r1 r2 r3
              simp [results, Tryd.results52, go_sem, r0, r1, r2, r3, brV, wd_nul]
            | some y =>
              have hy := HGn.out y rfl
              subst hy
              have hb2 : brS it l (k0) fu' n (fun x => s x || g x) = R := by rw [← HBr.out]; exact (brS_step HLt.out (by rw [HX.out]; exact HGo.out) HRr.out).symm
              have hn := HAd.out _ _ HLt.out HRr.out
              simp only at hn
              have HB2 := Hid_mk hb2
              clear hb2
              simp only [Option.isSome_some]
              go_wp2_with fail
              with_reducible refine (or_any _ s g).mono ?_
              rintro e w3 ⟨rfl, k3⟩
              have hk3 := ((Kp.refl No w2).alloc (.cells #[.int .u64 (wd g 0 64 : Nat), .int .u64 (wd g 64 64 : Nat), .int .u64 (wd g 128 64 : Nat), .int .u64 (wd g 192 64 : Nat)] 60)).trans' k3
              have hs3 := HS2.out.kept hk3 id
              obtain ⟨WR, hWR, hsr, hkr⟩ := put_any hs3 (fun x => s x || g x) (HK2.out.trans hk3 fun i _ e => e.elim) (fun _ => rfl)
              have HWR := Hid_mk hWR
              have HSr := Hid_mk hsr
              have HKR := Hid_mk hkr
              clear hWR hsr hkr z0 z1 z2 z3 zw y0 y1 y2 y3 yw k3 hk3
              obtain ⟨z0, z1, z2, z3⟩ := hs3.cells
              have zw := hs3.warm
              clear hs3
              go_wp2
              go_roundw
              case rel => exact ⟨n, fu', _, rfl, by have := HLt.out; omega, hn.2, by have := HFu.out; omega, HB2.out, by rw [HWR.out]; exact HSr.out, by rw [HWR.out]; exact HKR.out⟩
              case measure => have := HLt.out; simp only [intOf]; omega
        · obtain ⟨hx3, hkf⟩ : x = 93 ∧ ¬ k = k0 := ⟨Decidable.byContradiction fun h => hgo (.inl h), fun h => hgo (.inr h)⟩
          subst hx3
          have hkfi : ((k : Int) == (k0 : Int)) = false := by simp; omega
          have hne : ¬ (k : Int) = (l.length : Int) := by omega
          have hRn : R = some (s, k + 1) := by rw [← HBr.out]; exact brS_end hlt HX.out hkf
          have HV2 := Hid_mk (show brV false (some (s, k + 1)) = V by rw [← hRn]; exact HV.out)
          have hs := HS.out
          have hkp := HKp.out
          clear hRn hgo
          obtain ⟨WR, hWR, hsr, hkr⟩ := put_any hs s (HK0.out.trans hkp fun i hi e => by have := Hq.out; omega) (fun h => by have := Hq.out; omega)
          have HWR := Hid_mk hWR
          have HSr := Hid_mk hsr
          have HKR := Hid_mk hkr
          obtain ⟨z0, z1, z2, z3⟩ := hs.cells
          have zw := hs.warm
          have HKS := Hid_mk (HK0.out.trans hkp fun i hi e => by have := Hq.out; omega)
          clear hWR hsr hkr hs hkp
          go_wp2
          obtain ⟨r0, r1, r2, r3⟩ := HS.out.cells
          refine bodyPost_ret (v := V) ?_ rfl ⟨rfl, (by first | exact HKS.out | (rw [HWR.out]; exact HKR.out))⟩
          rw [← HV2.out]
          simp [results, Tryd.results52, go_sem, r0, r1, r2, r3, brV]
      · obtain rfl : k = l.length := by omega
        have hlti : ¬ ((l.length : Nat) : Int) < (l.length : Int) := by omega
        have hRn : R = none := by rw [← HBr.out]; exact brS_out rfl
        have HV2 := Hid_mk (show brV false none = V by rw [← hRn]; exact HV.out)
        have hs := HS.out
        obtain ⟨WR, hWR, hsr, hkr⟩ := put_nul hs (HK0.out.trans HKp.out fun i hi e => by have := Hq.out; omega) (fun h => by have := Hq.out; omega)
        have HWR := Hid_mk hWR
        have HSr := Hid_mk hsr
        have HKR := Hid_mk hkr
        clear hWR hsr hkr hRn
        obtain ⟨z0, z1, z2, z3⟩ := hs.cells
        have zw := hs.warm
        clear hs
        go_wp2
        rw [HWR.out]
        obtain ⟨r0, r1, r2, r3⟩ := HSr.out.cells
        refine bodyPost_ret (v := V) ?_ rfl ⟨rfl, HKR.out⟩
        rw [← HV2.out]
        simp only [wd_nul] at r0 r1 r2 r3
        simp [results, Tryd.results52, go_sem, r0, r1, r2, r3, brV, wd_nul]
  · have hf2 := HF.out
    simp only [if_true] at hf2
    subst hf2
    go_wp2_with fail
    try rw [HW0.out]
    try rw [Hq.out]
    go_loopw [1] (fun i wr => BrRel W0 q it l (k0 + 1) R i wr) (fun i _ => l.length - (intOf i).toNat)
    case atStart => exact ⟨k0 + 1, l.length + 1, nul, by first | rfl | (push_cast; rfl), Nat.le_refl _, hfl, by omega, HR.out, HZ.out, Kp.refl _ _⟩
    case round =>
      obtain ⟨k, fu, s, rfl, hfk, hkl2, hfu, hbr, hs, hkp⟩ := hrel
      obtain ⟨fu', rfl⟩ : ∃ f', fu = f' + 1 := ⟨fu - 1, by omega⟩
      have hki : (0 : Int) ≤ (k : Int) := Int.natCast_nonneg _
      have hk1 : wrap64 ((k : Int) + 1) = (k : Int) + 1 := IntWalk.wrap64_in _ (by omega)
      have hk2 : IntKind.i64.wrap ((k : Int) + 1) = (k : Int) + 1 := IntWalk.i64_in _ (by omega)
      have HS := Hid_mk hs
      have HKp := Hid_mk hkp
      have HBr := Hid_mk hbr
      have HFu := Hid_mk hfu
      clear hs hkp hbr hfu
      by_cases hlt : k < l.length
      · have hlti : (k : Int) < (l.length : Int) := by omega
        have hg := fun h => st_get l k h
        obtain ⟨x, hx⟩ : ∃ x, (l.getD k 0).toNat = x := ⟨_, rfl⟩
        rw [hx] at hg
        have HX := Hid_mk hx
        clear hx
        by_cases hgo : x ≠ 93 ∨ k = k0 + 1
        · have HGo := Hid_mk hgo
          have HLt := Hid_mk hlt
          clear hlt
          rcases Decidable.em (x = 93) with hx | hx
          · have hkF : k0 + 1 = k := by rcases hgo with h | h; exact absurd hx h; exact h.symm
            subst hx
            subst hkF
            clear hgo
            go_wp2_with fail
            refine (HIt.out _ (k0 + 1) (by obtain ⟨m, h⟩ := HM.out; exact ⟨m, HKp.out.cell' (HK0.out.cell' h id) (by have h9 := World.block_lt_of_cell? _ _ h; simp only at h9; have h8 := Hq.out; show ¬ 2 = q; omega)⟩) HLt.out).mono ?_
            rintro e w2 ⟨g, n, rfl, hgn, k2⟩
            have HGn := Hid_mk hgn
            have HK2 := Hid_mk (HKp.out.trans k2 fun i _ e => e.elim)
            have hs2 := HS.out.kept k2 id
            have HS2 := Hid_mk hs2
            obtain ⟨r, hr⟩ : ∃ r, it ((k0 + 1)) = r := ⟨_, rfl⟩
            rw [hr] at HGn ⊢
            have HRr := Hid_mk hr
            clear hgn k2 hr
            obtain ⟨z0, z1, z2, z3⟩ := hs2.cells
            have zw := hs2.warm
            have y0 := fun o => ((Kp.refl No w2).alloc o).cell' z0 id
            have y1 := fun o => ((Kp.refl No w2).alloc o).cell' z1 id
            have y2 := fun o => ((Kp.refl No w2).alloc o).cell' z2 id
            have y3 := fun o => ((Kp.refl No w2).alloc o).cell' z3 id
            have yw := fun o => (HS2.out.kept ((Kp.refl No w2).alloc o) id).warm
            clear hs2
            cases r with
            | none =>
              have hRn : R = none := by rw [← HBr.out]; exact brS_bad HLt.out (.inr rfl) HRr.out
              obtain ⟨WR, hWR, hsr, hkr⟩ := put_nul (HS2.out.kept ((Kp.refl No w2).alloc (.cells #[.int .u64 (wd g 0 64 : Nat), .int .u64 (wd g 64 64 : Nat), .int .u64 (wd g 128 64 : Nat), .int .u64 (wd g 192 64 : Nat)] 60)) id) ((HK0.out.trans HK2.out fun i hi e => by have := Hq.out; omega).alloc _) (fun h => by have := Hq.out; omega)
              have HWR := Hid_mk hWR
              have HSr := Hid_mk hsr
              have HKR := Hid_mk hkr
              clear hWR hsr hkr
              have HV2 := Hid_mk (show brV _ none = V by rw [← hRn]; exact HV.out)
              clear hRn
              simp only [Option.isSome_none]
              go_wp2
              rw [HWR.out]
              obtain ⟨r0, r1, r2, r3⟩ := HSr.out.cells
              refine bodyPost_ret (v := V) ?_ rfl ⟨rfl, HKR.out⟩
              rw [← HV2.out]
              simp only [wd_nul] at r0 r1 r2 r3
              simp [results, Tryd.results52, go_sem, r0, r1, r2, r3, brV, wd_nul]
            | some y =>
              have hy := HGn.out y rfl
              subst hy
              have hb2 : brS it l (k0 + 1) fu' n (fun x => s x || g x) = R := by rw [← HBr.out]; exact (brS_step HLt.out (.inr rfl) HRr.out).symm
              have hn := HAd.out _ _ HLt.out HRr.out
              simp only at hn
              have HB2 := Hid_mk hb2
              clear hb2
              simp only [Option.isSome_some]
              go_wp2_with fail
              with_reducible refine (or_any _ s g).mono ?_
              rintro e w3 ⟨rfl, k3⟩
              have hk3 := ((Kp.refl No w2).alloc (.cells #[.int .u64 (wd g 0 64 : Nat), .int .u64 (wd g 64 64 : Nat), .int .u64 (wd g 128 64 : Nat), .int .u64 (wd g 192 64 : Nat)] 60)).trans' k3
              have hs3 := HS2.out.kept hk3 id
              obtain ⟨WR, hWR, hsr, hkr⟩ := put_any hs3 (fun x => s x || g x) (HK2.out.trans hk3 fun i _ e => e.elim) (fun _ => rfl)
              have HWR := Hid_mk hWR
              have HSr := Hid_mk hsr
              have HKR := Hid_mk hkr
              clear hWR hsr hkr z0 z1 z2 z3 zw y0 y1 y2 y3 yw k3 hk3
              obtain ⟨z0, z1, z2, z3⟩ := hs3.cells
              have zw := hs3.warm
              clear hs3
              go_wp2
              go_roundw
              case rel => exact ⟨n, fu', _, rfl, by have := HLt.out; omega, hn.2, by have := HFu.out; omega, HB2.out, by rw [HWR.out]; exact HSr.out, by rw [HWR.out]; exact HKR.out⟩
              case measure => have := HLt.out; simp only [intOf]; omega
          · have hxi : ((x : Int) != 93) = true := by simp; omega
            clear hgo hx
            go_wp2_with fail
            refine (HIt.out _ k (by obtain ⟨m, h⟩ := HM.out; exact ⟨m, HKp.out.cell' (HK0.out.cell' h id) (by have h9 := World.block_lt_of_cell? _ _ h; simp only at h9; have h8 := Hq.out; show ¬ 2 = q; omega)⟩) HLt.out).mono ?_
            rintro e w2 ⟨g, n, rfl, hgn, k2⟩
            have HGn := Hid_mk hgn
            have HK2 := Hid_mk (HKp.out.trans k2 fun i _ e => e.elim)
            have hs2 := HS.out.kept k2 id
            have HS2 := Hid_mk hs2
            obtain ⟨r, hr⟩ : ∃ r, it (k) = r := ⟨_, rfl⟩
            rw [hr] at HGn ⊢
            have HRr := Hid_mk hr
            clear hgn k2 hr
            obtain ⟨z0, z1, z2, z3⟩ := hs2.cells
            have zw := hs2.warm
            have y0 := fun o => ((Kp.refl No w2).alloc o).cell' z0 id
            have y1 := fun o => ((Kp.refl No w2).alloc o).cell' z1 id
            have y2 := fun o => ((Kp.refl No w2).alloc o).cell' z2 id
            have y3 := fun o => ((Kp.refl No w2).alloc o).cell' z3 id
            have yw := fun o => (HS2.out.kept ((Kp.refl No w2).alloc o) id).warm
            clear hs2
            cases r with
            | none =>
              have hRn : R = none := by rw [← HBr.out]; exact brS_bad HLt.out (by rw [HX.out]; exact HGo.out) HRr.out
              obtain ⟨WR, hWR, hsr, hkr⟩ := put_nul (HS2.out.kept ((Kp.refl No w2).alloc (.cells #[.int .u64 (wd g 0 64 : Nat), .int .u64 (wd g 64 64 : Nat), .int .u64 (wd g 128 64 : Nat), .int .u64 (wd g 192 64 : Nat)] 60)) id) ((HK0.out.trans HK2.out fun i hi e => by have := Hq.out; omega).alloc _) (fun h => by have := Hq.out; omega)
              have HWR := Hid_mk hWR
              have HSr := Hid_mk hsr
              have HKR := Hid_mk hkr
              clear hWR hsr hkr
              have HV2 := Hid_mk (show brV _ none = V by rw [← hRn]; exact HV.out)
              clear hRn
              simp only [Option.isSome_none]
              go_wp2
              rw [HWR.out]
              obtain ⟨r0, r1, r2, r3⟩ := HSr.out.cells
              refine bodyPost_ret (v := V) ?_ rfl ⟨rfl, HKR.out⟩
              rw [← HV2.out]
              simp only [wd_nul] at r0 r1 r2 r3
              simp [results, Tryd.results52, go_sem, r0, r1, r2, r3, brV, wd_nul]
            | some y =>
              have hy := HGn.out y rfl
              subst hy
              have hb2 : brS it l (k0 + 1) fu' n (fun x => s x || g x) = R := by rw [← HBr.out]; exact (brS_step HLt.out (by rw [HX.out]; exact HGo.out) HRr.out).symm
              have hn := HAd.out _ _ HLt.out HRr.out
              simp only at hn
              have HB2 := Hid_mk hb2
              clear hb2
              simp only [Option.isSome_some]
              go_wp2_with fail
              with_reducible refine (or_any _ s g).mono ?_
              rintro e w3 ⟨rfl, k3⟩
              have hk3 := ((Kp.refl No w2).alloc (.cells #[.int .u64 (wd g 0 64 : Nat), .int .u64 (wd g 64 64 : Nat), .int .u64 (wd g 128 64 : Nat), .int .u64 (wd g 192 64 : Nat)] 60)).trans' k3
              have hs3 := HS2.out.kept hk3 id
              obtain ⟨WR, hWR, hsr, hkr⟩ := put_any hs3 (fun x => s x || g x) (HK2.out.trans hk3 fun i _ e => e.elim) (fun _ => rfl)
              have HWR := Hid_mk hWR
              have HSr := Hid_mk hsr
              have HKR := Hid_mk hkr
              clear hWR hsr hkr z0 z1 z2 z3 zw y0 y1 y2 y3 yw k3 hk3
              obtain ⟨z0, z1, z2, z3⟩ := hs3.cells
              have zw := hs3.warm
              clear hs3
              go_wp2
              go_roundw
              case rel => exact ⟨n, fu', _, rfl, by have := HLt.out; omega, hn.2, by have := HFu.out; omega, HB2.out, by rw [HWR.out]; exact HSr.out, by rw [HWR.out]; exact HKR.out⟩
              case measure => have := HLt.out; simp only [intOf]; omega
        · obtain ⟨hx3, hkf⟩ : x = 93 ∧ ¬ k = k0 + 1 := ⟨Decidable.byContradiction fun h => hgo (.inl h), fun h => hgo (.inr h)⟩
          subst hx3
          have hkfi : ((k : Int) == (k0 : Int) + 1) = false := by simp; omega
          have hne : ¬ (k : Int) = (l.length : Int) := by omega
          have hRn : R = some (s, k + 1) := by rw [← HBr.out]; exact brS_end hlt HX.out hkf
          have HV2 := Hid_mk (show brV true (some (s, k + 1)) = V by rw [← hRn]; exact HV.out)
          have hs := HS.out
          have hkp := HKp.out
          clear hRn hgo
          obtain ⟨z0, z1, z2, z3⟩ := hs.cells
          have zw := hs.warm
          have HKS := Hid_mk (HK0.out.trans hkp fun i hi e => by have := Hq.out; omega)
          clear hs hkp
          go_wp2_with fail
          with_reducible refine (not_any _ s).mono ?_
          rintro e w3 ⟨rfl, k3⟩
          have hs3 := HS.out.kept k3 id
          obtain ⟨WR, hWR, hsr, hkr⟩ := put_any hs3 (fun x => !s x) (HKS.out.trans' k3) (fun h => by have := Hq.out; omega)
          have HWR := Hid_mk hWR
          have HSr := Hid_mk hsr
          have HKR := Hid_mk hkr
          clear z0 z1 z2 z3 zw k3 hWR hsr hkr
          obtain ⟨z0, z1, z2, z3⟩ := hs3.cells
          have zw := hs3.warm
          clear hs3
          obtain ⟨WR2, hWR2, hsr2, hkr2⟩ := put_any HSr.out (fun x => !s x) HKR.out (fun h => by have := Hq.out; omega)
          have HWR2 := Hid_mk hWR2
          have HSr2 := Hid_mk hsr2
          have HKR2 := Hid_mk hkr2
          clear hWR2 hsr2 hkr2
          go_wp2
          rw [HWR.out, HWR2.out]
          obtain ⟨r0, r1, r2, r3⟩ := HSr2.out.cells
          refine bodyPost_ret (v := V) ?_ rfl ⟨rfl, HKR2.out⟩
          rw [← HV2.out]
          simp [results, Tryd.results52, go_sem, r0, r1, r2, r3, brV]
      · obtain rfl : k = l.length := by omega
        have hlti : ¬ ((l.length : Nat) : Int) < (l.length : Int) := by omega
        have hRn : R = none := by rw [← HBr.out]; exact brS_out rfl
        have HV2 := Hid_mk (show brV true none = V by rw [← hRn]; exact HV.out)
        have hs := HS.out
        obtain ⟨WR, hWR, hsr, hkr⟩ := put_nul hs (HK0.out.trans HKp.out fun i hi e => by have := Hq.out; omega) (fun h => by have := Hq.out; omega)
        have HWR := Hid_mk hWR
        have HSr := Hid_mk hsr
        have HKR := Hid_mk hkr
        clear hWR hsr hkr hRn
        obtain ⟨z0, z1, z2, z3⟩ := hs.cells
        have zw := hs.warm
        clear hs
        go_wp2
        rw [HWR.out]
        obtain ⟨r0, r1, r2, r3⟩ := HSr.out.cells
        refine bodyPost_ret (v := V) ?_ rfl ⟨rfl, HKR.out⟩
        rw [← HV2.out]
        simp only [wd_nul] at r0 r1 r2 r3
        simp [results, Tryd.results52, go_sem, r0, r1, r2, r3, brV, wd_nul]

end Go.Proofs.YtpfpnlhihnfahaaDoor.cls

namespace Go.Proofs.YtpfpnlhihnfahaaDoor.cls
open Go.RowKit Go.Proofs.YtpfpnlhihnfahaaDoor.sum Go.Proofs.YtpfpnlhihnfahaaDoor.kept Go.Proofs.YtpfpnlhihnfahaaDoor.pop Go.Proofs.YtpfpnlhihnfahaaDoor.str
set_option linter.unusedVariables false

/-- the library's own variable holds some number -/
def Mx (w : World) : Prop := ∃ m, w.cell? ⟨2, 0, none⟩ = some (.int .i64 m)
theorem Mx.no {w w' : World} (h : Mx w) (hk : Kp No w w') : Mx w' := by obtain ⟨m, h⟩ := h; exact ⟨m, hk.cell' h id⟩
theorem sv_congr {f g : Nat → Bool} (h : ∀ x, x < 256 → f x = g x) : sv f = sv g := by
  rw [svd, svd, wd_congr (o := 0) (f := f) (g := g) fun j hj => h _ (by omega), wd_congr (o := 64) (f := f) (g := g) fun j hj => h _ (by omega), wd_congr (o := 128) (f := f) (g := g) fun j hj => h _ (by omega), wd_congr (o := 192) (f := f) (g := g) fun j hj => h _ (by omega)]

theorem eq_set (a b c d x y z u : Int) (w : World) : (Op.equalIn 10000 60 (.agg #[.int .u64 a, .int .u64 b, .int .u64 c, .int .u64 d]) (.agg #[.int .u64 x, .int .u64 y, .int .u64 z, .int .u64 u])).run Tryd.prog w = .ok (a == x && b == y && c == z && d == u) w := by
  have u3 := Tryd.underlying58
  have a3 := Tryd.isAgg58
  have z3 := Tryd.sizeOf58
  rw [show (10000 : Nat) = 9999 + 1 from rfl, Op.equalIn]
  simp only [Sem.run_bind, run_underlying Tryd.underlying60, Result.andThen_ok]
  simp only [Std.Legacy.Range.forIn_eq_forIn_range', Std.Legacy.Range.size, Nat.sub_zero, Nat.add_sub_cancel, Nat.div_one, List.range'_succ, List.range'_zero, List.forIn_cons, List.forIn_nil]
  go_simp
  by_cases h1 : a = x <;> by_cases h2 : b = y <;> by_cases h3 : c = z <;> by_cases h4 : d = u <;> simp [h1, h2, h3, h4]
theorem eq_self (f : Nat → Bool) (w : World) : (Op.equalIn 10000 60 (.agg #[.int .u64 (wd f 0 64 : Nat), .int .u64 (wd f 64 64 : Nat), .int .u64 (wd f 128 64 : Nat), .int .u64 (wd f 192 64 : Nat)]) (.agg #[.int .u64 (wd f 0 64 : Nat), .int .u64 (wd f 64 64 : Nat), .int .u64 (wd f 128 64 : Nat), .int .u64 (wd f 192 64 : Nat)])).run Tryd.prog w = .ok true w := by
  rw [eq_set]
  simp

theorem item_any (l : List UInt8) (h92 : ∀ k, k < l.length → (l.getD k 0).toNat ≠ 92) (hl : l.length < 4294967281) (w : World) (k : Nat) (hm : Mx w) (hk : k < l.length) :
    Calls Tryd.prog 63 #[.string (st l), .int .i64 (k : Int)] w (ItPost w (itemS l k)) := by
  by_cases hn : namesB l k = true
  · exact item_name w l k hn hl hm
  · have hn' : namesB l k = false := by simpa using hn
    by_cases hr : rangesB l (k + 1) = true
    · exact item_range w l k hn' (h92 k hk) hr hl fun _ => ⟨ranges_lt hr, h92 _ (ranges_lt hr)⟩
    · exact item_one w l k hk hn' (h92 k hk) (by simpa using hr) hl
theorem item_adv (l : List UInt8) (k : Nat) (x : (Nat → Bool) × Nat) (hk : k < l.length) (h : itemS l k = some x) : k < x.2 ∧ x.2 ≤ l.length := by
  unfold itemS at h
  split at h
  · rename_i hn
    have h2 := names_lt hn
    split at h
    · rename_i hc
      cases h
      unfold nameS at hc ⊢
      simp only [Bool.and_eq_true] at hc
      obtain ⟨hc, -⟩ := hc
      unfold Lib.cut at hc ⊢
      split at hc
      · rename_i h0
        have hro := Lib.index_room (l.drop (k + 2)) [58, 93] h0
        simp only [List.length_drop, List.length_cons, List.length_nil] at hro
        rw [if_pos h0]
        simp only [List.length_take, List.length_drop]
        omega
      · cases hc
    · cases h
  · split at h
    · cases h
      exact ⟨Nat.lt_succ_self _, hk⟩
    · rename_i hr
      have hr2 := ranges_lt (l := l) (k := k + 1) (by simpa using hr)
      split at h
      · cases h
      · split at h
        · cases h
          exact ⟨by simp only; omega, by simp only; omega⟩
        · cases h

/-- Bracket of a text of known bytes -/
theorem bracket_l (w : World) (l : List UInt8) (s : ByteArray) (hs : s = st l) (o : Bool) (R : Option ((Nat → Bool) × Nat)) (h92 : ∀ k, k < l.length → (l.getD k 0).toNat ≠ 92) (hl : l.length < 4294967281) (hm : Mx w)
    (ho : Lib.hasPrefix l [94] = o) (hR : brS (itemS l) l (if o = true then 0 + 1 else 0) (l.length + 1) (if o = true then 0 + 1 else 0) nul = R) :
    Calls Tryd.prog 52 #[.string s, .int .i64 0] w fun e w' => e = .returned (brV o R) ∧ Kp No w w' := by
  subst hs hR
  exact bracket_any w l 0 o (Nat.zero_le _) hl hm (itemS l) (fun W j h hj => item_any l h92 hl W j h hj) (item_adv l) (by rw [List.drop_zero]; exact ho)

theorem bs_l3 (w : World) (a b c : UInt8) (x y z : Int) (hx : x = (a.toNat : Int)) (hy : y = (b.toNat : Int)) (hz : z = (c.toNat : Int)) : Bs (w.alloc (.cells #[.int .u8 x, .int .u8 y, .int .u8 z] 5)) (.slice (some ⟨w.heap.size, 0, none⟩) 3 3) [a, b, c] := by
  subst hx hy hz
  exact bs_of3 w a b c
theorem bs_l2 (w : World) (a b : UInt8) (x y : Int) (hx : x = (a.toNat : Int)) (hy : y = (b.toNat : Int)) : Bs (w.alloc (.cells #[.int .u8 x, .int .u8 y] 5)) (.slice (some ⟨w.heap.size, 0, none⟩) 2 2) [a, b] := by
  subst hx hy
  exact bs_of2 w a b
theorem bs_l1 (w : World) (a : UInt8) (x : Int) (hx : x = (a.toNat : Int)) : Bs (w.alloc (.cells #[.int .u8 x] 5)) (.slice (some ⟨w.heap.size, 0, none⟩) 1 1) [a] := by
  subst hx
  exact bs_of1 w a

def bA : List UInt8 := [97, 45, 99, 93, 120]
theorem bA_ok : brS (itemS bA) bA 0 6 0 nul = some (fun x => nul x || spn 97 99 x, 4) := rfl
theorem bracketA (w : World) (hm : Mx w) : Calls Tryd.prog 52 #[.string ⟨#[97, 45, 99, 93, 120]⟩, .int .i64 0] w fun e w' => e = .returned (.tuple #[sv (spn 97 99), .int .i64 4, .bool true]) ∧ Kp No w w' := by
  refine (bracket_l w bA _ rfl false _ (by decide) (by decide) hm rfl bA_ok).mono ?_
  rintro e w' ⟨rfl, hk⟩
  refine ⟨?_, hk⟩
  simp only [brV]
  rfl

theorem ofL_abc : sv (ofL [97, 98, 99]) = sv (spn 97 99) := sv_congr (by decide +kernel)
theorem cnt_ac : cnt (spn 97 99) 0 256 = 3 := by decide +kernel
theorem digit_named : namedS [100, 105, 103, 105, 116] = (digitsS, true) := rfl

set_option maxRecDepth 100000 in
set_option maxHeartbeats 300000 in
theorem known_any (w : World) (hm : Mx w) : Calls Tryd.prog 29 #[] w fun e w' => e = .returned (.bool true) ∧ Kp No w w' := by
  have HM := Hid_mk hm
  have HN := Hid_mk fun W => named_l W [100, 105, 103, 105, 116] ⟨#[100, 105, 103, 105, 116]⟩ (by rw [ByteArray.toList_eq])
  rw [digit_named] at HN
  clear hm
  go_enter Tryd.func29, Tryd.ntmps29
  go_wp2_with fail
  with_reducible refine (HN.out _).mono ?_
  rintro e w1 ⟨rfl, k1⟩
  have HK1 := Hid_mk k1
  have HS1 := Hid_mk (SetAt.made w1 digitsS)
  have HKa := Hid_mk (k1.alloc (.cells #[.int .u64 (wd digitsS 0 64 : Nat), .int .u64 (wd digitsS 64 64 : Nat), .int .u64 (wd digitsS 128 64 : Nat), .int .u64 (wd digitsS 192 64 : Nat)] 60))
  obtain ⟨q1, hq1⟩ : ∃ q, w1.heap.size = q := ⟨_, rfl⟩
  obtain ⟨W1, hW1⟩ : ∃ W, w1.alloc (.cells #[.int .u64 (wd digitsS 0 64 : Nat), .int .u64 (wd digitsS 64 64 : Nat), .int .u64 (wd digitsS 128 64 : Nat), .int .u64 (wd digitsS 192 64 : Nat)] 60) = W := ⟨_, rfl⟩
  rw [hW1] at HS1 HKa
  rw [hq1] at HS1
  have HW1 := Hid_mk hW1
  have Hq1 := Hid_mk hq1
  clear k1 hW1 hq1
  go_wp2_with fail
  rw [HW1.out]
  rw [Hq1.out]
  refine (bracketA W1 (HM.out.no HKa.out)).mono ?_
  rintro e w2 ⟨rfl, k2⟩
  have HS2 := Hid_mk (HS1.out.kept k2 id)
  have HT2 := Hid_mk (SetAt.made w2 (spn 97 99))
  have HKb := Hid_mk ((HKa.out.trans' k2).alloc (.cells #[.int .u64 (wd (spn 97 99) 0 64 : Nat), .int .u64 (wd (spn 97 99) 64 64 : Nat), .int .u64 (wd (spn 97 99) 128 64 : Nat), .int .u64 (wd (spn 97 99) 192 64 : Nat)] 60))
  have HS3 := Hid_mk (HS2.out.kept ((Kp.refl No w2).alloc (.cells #[.int .u64 (wd (spn 97 99) 0 64 : Nat), .int .u64 (wd (spn 97 99) 64 64 : Nat), .int .u64 (wd (spn 97 99) 128 64 : Nat), .int .u64 (wd (spn 97 99) 192 64 : Nat)] 60)) id)
  obtain ⟨q2, hq2⟩ : ∃ q, w2.heap.size = q := ⟨_, rfl⟩
  obtain ⟨W2, hW2⟩ : ∃ W, w2.alloc (.cells #[.int .u64 (wd (spn 97 99) 0 64 : Nat), .int .u64 (wd (spn 97 99) 64 64 : Nat), .int .u64 (wd (spn 97 99) 128 64 : Nat), .int .u64 (wd (spn 97 99) 192 64 : Nat)] 60) = W := ⟨_, rfl⟩
  rw [hW2] at HT2 HKb HS3
  rw [hq2] at HT2
  have HW2 := Hid_mk hW2
  have Hq2 := Hid_mk hq2
  clear k2 hW2 hq2 HN HM HS1 HS2 HKa HK1
  go_wp2_with fail
  rw [HW2.out]
  rw [Hq2.out]
  clear HW1 HW2 Hq1 Hq2
  have HSd := Hid_mk (HS3.out.kept ((Kp.refl No W2).drew) id)
  have HTd := Hid_mk (HT2.out.kept ((Kp.refl No W2).drew) id)
  have HKd := Hid_mk (HKb.out.drew)
  have hkeep : ∀ W, SetAt W q1 digitsS → SetAt W q2 (spn 97 99) → (W.cell? ⟨q1, 0, none⟩ = some (.int .u64 (wd digitsS 0 64 : Nat)) ∧ W.cell? ⟨q1, 1, none⟩ = some (.int .u64 (wd digitsS 64 64 : Nat)) ∧ W.cell? ⟨q1, 2, none⟩ = some (.int .u64 (wd digitsS 128 64 : Nat)) ∧ W.cell? ⟨q1, 3, none⟩ = some (.int .u64 (wd digitsS 192 64 : Nat)) ∧ W.cell? ⟨q2, 0, none⟩ = some (.int .u64 (wd (spn 97 99) 0 64 : Nat)) ∧ W.cell? ⟨q2, 1, none⟩ = some (.int .u64 (wd (spn 97 99) 64 64 : Nat)) ∧ W.cell? ⟨q2, 2, none⟩ = some (.int .u64 (wd (spn 97 99) 128 64 : Nat)) ∧ W.cell? ⟨q2, 3, none⟩ = some (.int .u64 (wd (spn 97 99) 192 64 : Nat))) := fun W h1 h2 =>
    ⟨h1.cell 0 (by decide), h1.cell 1 (by decide), h1.cell 2 (by decide), h1.cell 3 (by decide), h2.cell 0 (by decide), h2.cell 1 (by decide), h2.cell 2 (by decide), h2.cell 3 (by decide)⟩
  have HKeep := Hid_mk hkeep
  have hS0 := hkeep _ HSd.out HTd.out
  clear HS3 HT2 HKb hkeep
  have hEq := fun W => eq_self (spn 97 99) W
  go_region_held3 (fun V => V.cell? ⟨q1, 0, none⟩ = some (.int .u64 (wd digitsS 0 64 : Nat)) ∧ V.cell? ⟨q1, 1, none⟩ = some (.int .u64 (wd digitsS 64 64 : Nat)) ∧ V.cell? ⟨q1, 2, none⟩ = some (.int .u64 (wd digitsS 128 64 : Nat)) ∧ V.cell? ⟨q1, 3, none⟩ = some (.int .u64 (wd digitsS 192 64 : Nat)) ∧ V.cell? ⟨q2, 0, none⟩ = some (.int .u64 (wd (spn 97 99) 0 64 : Nat)) ∧ V.cell? ⟨q2, 1, none⟩ = some (.int .u64 (wd (spn 97 99) 64 64 : Nat)) ∧ V.cell? ⟨q2, 2, none⟩ = some (.int .u64 (wd (spn 97 99) 128 64 : Nat)) ∧ V.cell? ⟨q2, 3, none⟩ = some (.int .u64 (wd (spn 97 99) 192 64 : Nat)))
    (first | (dsimp only; exact hS8) | (dsimp only; exact hS7) | (dsimp only; exact hS6) | (dsimp only; exact hS5) | (dsimp only; exact hS4) | (dsimp only; exact hS0) | go_keep)
    (first
      | (go_at_call 49; with_reducible refine (span_i _ 97 99 97 99 rfl rfl (by decide) (by decide)).mono ?_; rintro e w4 ⟨rfl, k4⟩; have HS4 := Hid_mk (HSd.out.kept k4 id); have HT4 := Hid_mk (HTd.out.kept k4 id); have HK4 := Hid_mk (HKd.out.trans' k4); have hS4 := HKeep.out _ HS4.out HT4.out; clear k4)
      | (go_at_call 53; with_reducible refine (count_any _ (spn 97 99)).mono ?_; rw [cnt_ac]; rintro e w5 ⟨rfl, k5⟩; have HS5 := Hid_mk (HS4.out.kept k5 id); have HT5 := Hid_mk (HT4.out.kept k5 id); have HK5 := Hid_mk (HK4.out.trans' k5); have hS5 := HKeep.out _ HS5.out HT5.out; clear k5 hS4)
      | (go_at_call 54; with_reducible refine (has_i _ digitsS 53 53 rfl (by decide)).mono ?_; rw [show digitsS 53 = true from rfl]; rintro e w6 ⟨rfl, k6⟩; have HS6 := Hid_mk (HS5.out.kept k6 id); have HT6 := Hid_mk (HT5.out.kept k6 id); have HK6 := Hid_mk (HK5.out.trans' k6); have hS6 := HKeep.out _ HS6.out HT6.out; clear k6 hS5)
      | (go_at_call 54; with_reducible refine (has_i _ digitsS 97 97 rfl (by decide)).mono ?_; rw [show digitsS 97 = false from rfl]; rintro e w7 ⟨rfl, k7⟩; have HS7 := Hid_mk (HS6.out.kept k7 id); have HT7 := Hid_mk (HT6.out.kept k7 id); have HK7 := Hid_mk (HK6.out.trans' k7); have hS7 := HKeep.out _ HS7.out HT7.out; clear k7 hS6)
      | (go_at_call 50; with_reducible refine (of_any _ _ [97, 98, 99] (bs_l3 w7 97 98 99 97 98 99 rfl rfl rfl)).mono ?_; rw [ofL_abc]; rintro e w8 ⟨rfl, k8⟩; have HK8 := Hid_mk ((HK7.out.alloc (.cells #[.int .u8 97, .int .u8 98, .int .u8 99] 5)).trans' k8); have hS8 := HKeep.out _ ((HS7.out.kept ((Kp.refl No w7).alloc (.cells #[.int .u8 97, .int .u8 98, .int .u8 99] 5)) id).kept k8 id) ((HT7.out.kept ((Kp.refl No w7).alloc (.cells #[.int .u8 97, .int .u8 98, .int .u8 99] 5)) id).kept k8 id); clear k8))
  all_goals
    go_wp2
    go_ret
    exact ⟨rfl, HK8.out⟩

end Go.Proofs.YtpfpnlhihnfahaaDoor.cls
