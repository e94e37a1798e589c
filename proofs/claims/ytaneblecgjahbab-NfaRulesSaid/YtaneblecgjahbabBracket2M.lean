/- Package class: Bracket itself. Package class: Bracket of a text whose ends are bare bytes; the law's known. Regular expressions as trees: plain, and in memory. -/
import Derived.Test.YtaneblecgjahbabBracket
import Derived.Deep.RegionWith
import Derived.Deep.RegionHeld3

namespace Go.Proofs.Ytaneblecgjahbab.cls
open Go.RowKit Go.Proofs.Ytaneblecgjahbab.sum Go.Proofs.Ytaneblecgjahbab.kept Go.Proofs.Ytaneblecgjahbab.pop Go.Proofs.Ytaneblecgjahbab.str
set_option linter.unusedVariables false

/-- the items, till the closing byte -/
def brS (it : Nat → Option ((Nat → Bool) × Nat)) (l : List UInt8) (first : Nat) : Nat → Nat → (Nat → Bool) → Option ((Nat → Bool) × Nat)
  | 0, _, _ => none
  | f + 1, k, s =>
    if k < l.length ∧ ((l.getD k 0).toNat ≠ 93 ∨ k = first) then
      match it k with
      | none => none
      | some (g, n) => brS it l first f n (fun x => s x || g x)
    else if k = l.length then none else some (s, k + 1)
/-- what Bracket tells -/
def brV (o : Bool) : Option ((Nat → Bool) × Nat) → Value
  | none => .tuple #[sv nul, .int .i64 0, .bool false]
  | some (f, n) => .tuple #[sv (if o = true then fun x => !f x else f), .int .i64 (n : Nat), .bool true]
/-- at the loop's head -/
def BrRel (W0 : World) (q : Nat) (it : Nat → Option ((Nat → Bool) × Nat)) (l : List UInt8) (first : Nat) (R : Option ((Nat → Bool) × Nat)) (i : Value) (wr : World) : Prop :=
  ∃ (k fu : Nat) (s : Nat → Bool), i = .int .i64 (k : Int) ∧ first ≤ k ∧ k ≤ l.length ∧ l.length < k + fu ∧ brS it l first fu k s = R ∧ SetAt wr q s ∧ Kp (fun b => b = q) W0 wr

section
variable {it : Nat → Option ((Nat → Bool) × Nat)} {l : List UInt8} {first fu k : Nat} {s g : Nat → Bool} {n : Nat}
theorem brS_step (h : k < l.length) (hx : (l.getD k 0).toNat ≠ 93 ∨ k = first) (hi : it k = some (g, n)) : brS it l first (fu + 1) k s = brS it l first fu n (fun x => s x || g x) := by
  rw [brS, if_pos ⟨h, hx⟩, hi]
theorem brS_bad (h : k < l.length) (hx : (l.getD k 0).toNat ≠ 93 ∨ k = first) (hi : it k = none) : brS it l first (fu + 1) k s = none := by
  rw [brS, if_pos ⟨h, hx⟩, hi]
theorem brS_out (h : k = l.length) : brS it l first (fu + 1) k s = none := by
  rw [brS, if_neg (by omega), if_pos h]
theorem brS_end (h : k < l.length) (hx : (l.getD k 0).toNat = 93) (hf : k ≠ first) : brS it l first (fu + 1) k s = some (s, k + 1) := by
  rw [brS, if_neg (by intro e; rcases e.2 with e | e <;> omega), if_neg (by omega)]
end

set_option maxRecDepth 100000 in
set_option maxHeartbeats 2000000 in
theorem bracket_any (w : World) (l : List UInt8) (k0 : Nat) (o : Bool) (hk0 : k0 ≤ l.length) (hl : l.length < 4294967281) (hm : ∃ m, w.cell? ⟨0, 0, none⟩ = some (.int .i64 m)) (it : Nat → Option ((Nat → Bool) × Nat))
    (hit : ∀ W j, (∃ m, W.cell? ⟨0, 0, none⟩ = some (.int .i64 m)) → j < l.length → Calls Try.prog 121 #[.string (st l), .int .i64 (j : Int)] W (ItPost W (it j)))
    (hadv : ∀ j x, j < l.length → it j = some x → j < x.2 ∧ x.2 ≤ l.length) (ho : Lib.hasPrefix (l.drop k0) [94] = o) :
    Calls Try.prog 110 #[.string (st l), .int .i64 (k0 : Int)] w fun e w' => e = .returned (brV o (brS it l (if o = true then k0 + 1 else k0) (l.length + 1) (if o = true then k0 + 1 else k0) nul)) ∧ Kp No w w' := by
  have hko : o = true → k0 + 1 ≤ l.length := fun e => by
    rw [← ho] at e
    have := Lib.hasPrefix_le e
    rw [List.length_drop] at this
    simp at this
    omega
  obtain ⟨first, hfi⟩ : ∃ first, (if o = true then k0 + 1 else k0) = first := ⟨_, rfl⟩
  obtain ⟨R, hR⟩ : ∃ R, brS it l first (l.length + 1) first nul = R := ⟨_, rfl⟩
  obtain ⟨V, hV⟩ : ∃ V, brV o R = V := ⟨_, rfl⟩
  rw [hfi, hR, hV]
  have hfl : first ≤ l.length := by
    rw [← hfi]
    split
    · exact hko ‹_›
    · exact hk0
  have hsz := st_size l
  have hx := st_from l k0
  have hki0 : (0 : Int) ≤ (k0 : Int) := Int.natCast_nonneg _
  have hkl : ¬ (l.length : Int) < (k0 : Int) := by omega
  have HPre := Hid_mk fun W => pre_any W (l.drop k0) [94] ⟨#[94]⟩ rfl
  rw [ho] at HPre
  have HK0 := Hid_mk ((Kp.refl No w).alloc (.cells #[.int .u64 0, .int .u64 0, .int .u64 0, .int .u64 0] 27))
  have HZ := Hid_mk (SetAt.zero w)
  have hmq : 0 < w.heap.size := by
    obtain ⟨m, h⟩ := hm
    exact Nat.lt_of_le_of_lt (Nat.zero_le _) (World.block_lt_of_cell? w _ h)
  have HM := Hid_mk hm
  have HIt := Hid_mk hit
  have HAd := Hid_mk hadv
  have HR := Hid_mk hR
  have HV := Hid_mk hV
  have HF := Hid_mk hfi
  have HO := Hid_mk ho
  obtain ⟨W0, hW0⟩ : ∃ W0, w.alloc (.cells #[.int .u64 0, .int .u64 0, .int .u64 0, .int .u64 0] 27) = W0 := ⟨_, rfl⟩
  rw [hW0] at HK0 HZ
  have HW0 := Hid_mk hW0
  obtain ⟨q, hq⟩ : ∃ q, w.heap.size = q := ⟨_, rfl⟩
  rw [hq] at HZ hmq
  have Hq := Hid_mk hq
  clear hm hit hadv hR hV hfi hko hW0 hq ho
  go_enter Try.func110, Try.ntmps110
  go_wp2_with fail
  with_reducible refine (HPre.out _).mono ?_
  rintro e w1 ⟨rfl, rfl⟩
  have hw1 : IntKind.i64.wrap ((k0 : Int) + 1) = (k0 : Int) + 1 := IntWalk.i64_in _ (by omega)
  cases o
  · have hf2 := HF.out
    simp only [Bool.false_eq_true, if_false] at hf2
    subst hf2
    go_wp2_with fail
    try rw [HW0.out]
    try rw [Hq.out]
    go_loopw [1] (fun i wr => BrRel W0 q it l (k0) R i wr) (fun i _ => l.length - (intOf i).toNat)
    case atStart => exact ⟨k0, l.length + 1, nul, by first | rfl | (push_cast; rfl), Nat.le_refl _, hfl, by omega, HR.out, HZ.out, Kp.refl _ _⟩
    case round =>
      obtain ⟨k, fu, s, rfl, hfk, hkl2, hfu, hbr, hs, hkp⟩ := hrel
      obtain ⟨fu', rfl⟩ : ∃ f', fu = f' + 1 := ⟨fu - 1, by omega⟩
      have hki : (0 : Int) ≤ (k : Int) := Int.natCast_nonneg _
      have hk1 : wrap64 ((k : Int) + 1) = (k : Int) + 1 := IntWalk.wrap64_in _ (by omega)
      have hk2 : IntKind.i64.wrap ((k : Int) + 1) = (k : Int) + 1 := IntWalk.i64_in _ (by omega)
      have HS := Hid_mk hs
      have HKp := Hid_mk hkp
      have HBr := Hid_mk hbr
      have HFu := Hid_mk hfu
      clear hs hkp hbr hfu
      by_cases hlt : k < l.length
      · have hlti : (k : Int) < (l.length : Int) := by omega
        have hg := fun h => st_get l k h
        obtain ⟨x, hx⟩ : ∃ x, (l.getD k 0).toNat = x := ⟨_, rfl⟩
        rw [hx] at hg
        have HX := Hid_mk hx
        clear hx
        by_cases hgo : x ≠ 93 ∨ k = k0
        · have HGo := Hid_mk hgo
          have HLt := Hid_mk hlt
          clear hlt
          rcases Decidable.em (x = 93) with hx | hx
          · have hkF : k0 = k := by rcases hgo with h | h; exact absurd hx h; exact h.symm
            subst hx
            subst hkF
            clear hgo
            go_wp2_with fail
            refine (HIt.out _ k0 (by obtain ⟨m, h⟩ := HM.out; exact ⟨m, HKp.out.cell' (HK0.out.cell' h id) (by have h9 := World.block_lt_of_cell? _ _ h; simp only at h9; have h8 := Hq.out; show ¬ 0 = q; omega)⟩) HLt.out).mono ?_
            rintro e w2 ⟨g, n, rfl, hgn, k2⟩
            have HGn := Hid_mk hgn
            have HK2 := Hid_mk (HKp.out.trans k2 fun i _ e => e.elim)
            have hs2 := HS.out.kept k2 id
            have HS2 := Hid_mk hs2
            obtain ⟨r, hr⟩ : ∃ r, it (k0) = r := ⟨_, rfl⟩
            rw [hr] at HGn ⊢
            have HRr := Hid_mk hr
            clear hgn k2 hr
            obtain ⟨z0, z1, z2, z3⟩ := hs2.cells
            have zw := hs2.warm
            have y0 := fun o => ((Kp.refl No w2).alloc o).cell' z0 id
            have y1 := fun o => ((Kp.refl No w2).alloc o).cell' z1 id
            have y2 := fun o => ((Kp.refl No w2).alloc o).cell' z2 id
            have y3 := fun o => ((Kp.refl No w2).alloc o).cell' z3 id
            have yw := fun o => (HS2.out.kept ((Kp.refl No w2).alloc o) id).warm
            clear hs2
            cases r with
            | none =>
              have hRn : R = none := by rw [← HBr.out]; exact brS_bad HLt.out (.inr rfl) HRr.out
              obtain ⟨WR, hWR, hsr, hkr⟩ := put_nul (HS2.out.kept ((Kp.refl No w2).alloc (.cells #[.int .u64 (wd g 0 64 : Nat), .int .u64 (wd g 64 64 : Nat), .int .u64 (wd g 128 64 : Nat), .int .u64 (wd g 192 64 : Nat)] 27)) id) ((HK0.out.trans HK2.out fun i hi e => by have := Hq.out; omega).alloc _) (fun h => by have := Hq.out; omega)
              have HWR := Hid_mk hWR
              have HSr := Hid_mk hsr
              have HKR := Hid_mk hkr
              clear hWR hsr hkr
              have HV2 := Hid_mk (show brV _ none = V by rw [← hRn]; exact HV.out)
              clear hRn
              simp only [Option.isSome_none]
              go_wp2
              rw [HWR.out]
              obtain ⟨r0, r1, r2, r3⟩ := HSr.out.cells
              refine bodyPost_ret (v := V) ?_ rfl ⟨rfl, HKR.out⟩
              rw [← HV2.out]
              simp only [wd_nul] at r0 r1 r2 r3
              simp [results, Try.results110, go_sem, r0, r1, r2, r3, brV, wd_nul]
            | some y =>
              have hy := HGn.out y rfl
              subst hy
              have hb2 : brS it l (k0) fu' n (fun x => s x || g x) = R := by rw [← HBr.out]; exact (brS_step HLt.out (.inr rfl) HRr.out).symm
              have hn := HAd.out _ _ HLt.out HRr.out
              simp only at hn
              have HB2 := Hid_mk hb2
              clear hb2
              simp only [Option.isSome_some]
              go_wp2_with fail
              with_reducible refine (or_any _ s g).mono ?_
              rintro e w3 ⟨rfl, k3⟩
              have hk3 := ((Kp.refl No w2).alloc (.cells #[.int .u64 (wd g 0 64 : Nat), .int .u64 (wd g 64 64 : Nat), .int .u64 (wd g 128 64 : Nat), .int .u64 (wd g 192 64 : Nat)] 27)).trans' k3
              have hs3 := HS2.out.kept hk3 id
              obtain ⟨WR, hWR, hsr, hkr⟩ := put_any hs3 (fun x => s x || g x) (HK2.out.trans hk3 fun i _ e => e.elim) (fun _ => rfl)
              have HWR := Hid_mk hWR
              have HSr := Hid_mk hsr
              have HKR := Hid_mk hkr
              clear hWR hsr hkr z0 z1 z2 z3 zw y0 y1 y2 y3 yw k3 hk3
              obtain ⟨z0, z1, z2, z3⟩ := hs3.cells
              have zw := hs3.warm
              clear hs3
              go_wp2
              go_roundw
              case rel => exact ⟨n, fu', _, rfl, by have := HLt.out; omega, hn.2, by have := HFu.out; omega, HB2.out, by rw [HWR.out]; exact HSr.out, by rw [HWR.out]; exact HKR.out⟩
              case measure => have := HLt.out; simp only [intOf]; omega
          · have hxi : ((x : Int) != 93) = true := by simp; omega
            clear hgo hx
            go_wp2_with fail
            refine (HIt.out _ k (by obtain ⟨m, h⟩ := HM.out; exact ⟨m, HKp.out.cell' (HK0.out.cell' h id) (by have h9 := World.block_lt_of_cell? _ _ h; simp only at h9; have h8 := Hq.out; show ¬ 0 = q; omega)⟩) HLt.out).mono ?_
            rintro e w2 ⟨g, n, rfl, hgn, k2⟩
            have HGn := Hid_mk hgn
            have HK2 := Hid_mk (HKp.out.trans k2 fun i _ e => e.elim)
            have hs2 := HS.out.kept k2 id
            have HS2 := Hid_mk hs2
            obtain ⟨r, hr⟩ : ∃ r, it (k) = r := ⟨_, rfl⟩
            rw [hr] at HGn ⊢
            have HRr := Hid_mk hr
            clear hgn k2 hr
            obtain ⟨z0, z1, z2, z3⟩ := hs2.cells
            have zw := hs2.warm
            have y0 := fun o => ((Kp.refl No w2).alloc o).cell' z0 id
            have y1 := fun o => ((Kp.refl No w2).alloc o).cell' z1 id
            have y2 := fun o => ((Kp.refl No w2).alloc o).cell' z2 id
            have y3 := fun o => ((Kp.refl No w2).alloc o).cell' z3 id
            have yw := fun o => (HS2.out.kept ((Kp.refl No w2).alloc o) id).warm
            clear hs2
            cases r with
            | none =>
              have hRn : R = none := by rw [← HBr.out]; exact brS_bad HLt.out (by rw [HX.out]; exact HGo.out) HRr.out
              obtain ⟨WR, hWR, hsr, hkr⟩ := put_nul (HS2.out.kept ((Kp.refl No w2).alloc (.cells #[.int .u64 (wd g 0 64 : Nat), .int .u64 (wd g 64 64 : Nat), .int .u64 (wd g 128 64 : Nat), .int .u64 (wd g 192 64 : Nat)] 27)) id) ((HK0.out.trans HK2.out fun i hi e => by have := Hq.out; omega).alloc _) (fun h => by have := Hq.out; omega)
              have HWR := Hid_mk hWR
              have HSr := Hid_mk hsr
              have HKR := Hid_mk hkr
              clear hWR hsr hkr
              have HV2 := Hid_mk (show brV _ none = V by rw [← hRn]; exact HV.out)
              clear hRn
              simp only [Option.isSome_none]
              go_wp2
              rw [HWR.out]
              obtain ⟨r0, r1, r2, r3⟩ := HSr.out.cells
              refine bodyPost_ret (v := V) ?_ rfl ⟨rfl, HKR.out⟩
              rw [← HV2.out]
              simp only [wd_nul] at r0 r1 r2 r3
              simp [results, Try.results110, go_sem, r0, r1, r2, r3, brV, wd_nul]
            | some y =>
              have hy := HGn.out y rfl
              subst hy
              have hb2 : brS it l (k0) fu' n (fun x => s x || g x) = R := by rw [← HBr.out]; exact (brS_step HLt.out (by rw [HX.out]; exact HGo.out) HRr.out).symm
              have hn := HAd.out _ _ HLt.out HRr.out
              simp only at hn
              have HB2 := Hid_mk hb2
              clear hb2
              simp only [Option.isSome_some]
              go_wp2_with fail
              with_reducible refine (or_any _ s g).mono ?_
              rintro e w3 ⟨rfl, k3⟩
              have hk3 := ((Kp.refl No w2).alloc (.cells #[.int .u64 (wd g 0 64 : Nat), .int .u64 (wd g 64 64 : Nat), .int .u64 (wd g 128 64 : Nat), .int .u64 (wd g 192 64 : Nat)] 27)).trans' k3
              have hs3 := HS2.out.kept hk3 id
              obtain ⟨WR, hWR, hsr, hkr⟩ := put_any hs3 (fun x => s x || g x) (HK2.out.trans hk3 fun i _ e => e.elim) (fun _ => rfl)
              have HWR := Hid_mk hWR
              have HSr := Hid_mk hsr
              have HKR := Hid_mk hkr
              clear hWR hsr hkr z0 z1 z2 z3 zw y0 y1 y2 y3 yw k3 hk3
              obtain ⟨z0, z1, z2, z3⟩ := hs3.cells
              have zw := hs3.warm
              clear hs3
              go_wp2
              go_roundw
              case rel => exact ⟨n, fu', _, rfl, by have := HLt.out; omega, hn.2, by have := HFu.out; omega, HB2.out, by rw [HWR.out]; exact HSr.out, by rw [HWR.out]; exact HKR.out⟩
              case measure => have := HLt.out; simp only [intOf]; omega
        · obtain ⟨hx3, hkf⟩ : x = 93 ∧ ¬ k = k0 := ⟨Decidable.byContradiction fun h => hgo (.inl h), fun h => hgo (.inr h)⟩
          subst hx3
          have hkfi : ((k : Int) == (k0 : Int)) = false := by simp; omega
          have hne : ¬ (k : Int) = (l.length : Int) := by omega
          have hRn : R = some (s, k + 1) := by rw [← HBr.out]; exact brS_end hlt HX.out hkf
          have HV2 := Hid_mk (show brV false (some (s, k + 1)) = V by rw [← hRn]; exact HV.out)
          have hs := HS.out
          have hkp := HKp.out
          clear hRn hgo
          obtain ⟨WR, hWR, hsr, hkr⟩ := put_any hs s (HK0.out.trans hkp fun i hi e => by have := Hq.out; omega) (fun h => by have := Hq.out; omega)
          have HWR := Hid_mk hWR
          have HSr := Hid_mk hsr
          have HKR := Hid_mk hkr
          obtain ⟨z0, z1, z2, z3⟩ := hs.cells
          have zw := hs.warm
          have HKS := Hid_mk (HK0.out.trans hkp fun i hi e => by have := Hq.out; omega)
          clear hWR hsr hkr hs hkp
          go_wp2
          obtain ⟨r0, r1, r2, r3⟩ := HS.out.cells
          refine bodyPost_ret (v := V) ?_ rfl ⟨rfl, (by first | exact HKS.out | (rw [HWR.out]; exact HKR.out))⟩
          rw [← HV2.out]
          simp [results, Try.results110, go_sem, r0, r1, r2, r3, brV]
      · obtain rfl : k = l.length := by omega
        have hlti : ¬ ((l.length : Nat) : Int) < (l.length : Int) := by omega
        have hRn : R = none := by rw [← HBr.out]; exact brS_out rfl
        have HV2 := Hid_mk (show brV false none = V by rw [← hRn]; exact HV.out)
        have hs := HS.out
        obtain ⟨WR, hWR, hsr, hkr⟩ := put_nul hs (HK0.out.trans HKp.out fun i hi e => by have := Hq.out; omega) (fun h => by have := Hq.out; omega)
        have HWR := Hid_mk hWR
        have HSr := Hid_mk hsr
        have HKR := Hid_mk hkr
        clear hWR hsr hkr hRn
        obtain ⟨z0, z1, z2, z3⟩ := hs.cells
        have zw := hs.warm
        clear hs
        go_wp2
        rw [HWR.out]
        obtain ⟨r0, r1, r2, r3⟩ := HSr.out.cells
        refine bodyPost_ret (v := V) ?_ rfl ⟨rfl, HKR.out⟩
        rw [← HV2.out]
        simp only [wd_nul] at r0 r1 r2 r3
        simp [results, Try.results110, go_sem, r0, r1, r2, r3, brV, wd_nul]
  · have hf2 := HF.out
    simp only [if_true] at hf2
    subst hf2
    go_wp2_with fail
    try rw [HW0.out]
    try rw [Hq.out]
    go_loopw [1] (fun i wr => BrRel W0 q it l (k0 + 1) R i wr) (fun i _ => l.length - (intOf i).toNat)
    case atStart => exact ⟨k0 + 1, l.length + 1, nul, by first | rfl | (push_cast; rfl), Nat.le_refl _, hfl, by omega, HR.out, HZ.out, Kp.refl _ _⟩
    case round =>
      obtain ⟨k, fu, s, rfl, hfk, hkl2, hfu, hbr, hs, hkp⟩ := hrel
      obtain ⟨fu', rfl⟩ : ∃ f', fu = f' + 1 := ⟨fu - 1, by omega⟩
      have hki : (0 : Int) ≤ (k : Int) := Int.natCast_nonneg _
      have hk1 : wrap64 ((k : Int) + 1) = (k : Int) + 1 := IntWalk.wrap64_in _ (by omega)
      have hk2 : IntKind.i64.wrap ((k : Int) + 1) = (k : Int) + 1 := IntWalk.i64_in _ (by omega)
      have HS := Hid_mk hs
      have HKp := Hid_mk hkp
      have HBr := Hid_mk hbr
      have HFu := Hid_mk hfu
      clear hs hkp hbr hfu
      by_cases hlt : k < l.length
      · have hlti : (k : Int) < (l.length : Int) := by omega
        have hg := fun h => st_get l k h
        obtain ⟨x, hx⟩ : ∃ x, (l.getD k 0).toNat = x := ⟨_, rfl⟩
        rw [hx] at hg
        have HX := Hid_mk hx
        clear hx
        by_cases hgo : x ≠ 93 ∨ k = k0 + 1
        · have HGo := Hid_mk hgo
          have HLt := Hid_mk hlt
          clear hlt
          rcases Decidable.em (x = 93) with hx | hx
          · have hkF : k0 + 1 = k := by rcases hgo with h | h; exact absurd hx h; exact h.symm
            subst hx
            subst hkF
            clear hgo
            go_wp2_with fail
            refine (HIt.out _ (k0 + 1) (by obtain ⟨m, h⟩ := HM.out; exact ⟨m, HKp.out.cell' (HK0.out.cell' h id) (by have h9 := World.block_lt_of_cell? _ _ h; simp only at h9; have h8 := Hq.out; show ¬ 0 = q; omega)⟩) HLt.out).mono ?_
            rintro e w2 ⟨g, n, rfl, hgn, k2⟩
            have HGn := Hid_mk hgn
            have HK2 := Hid_mk (HKp.out.trans k2 fun i _ e => e.elim)
            have hs2 := HS.out.kept k2 id
            have HS2 := Hid_mk hs2
            obtain ⟨r, hr⟩ : ∃ r, it ((k0 + 1)) = r := ⟨_, rfl⟩
            rw [hr] at HGn ⊢
            have HRr := Hid_mk hr
            clear hgn k2 hr
            obtain ⟨z0, z1, z2, z3⟩ := hs2.cells
            have zw := hs2.warm
            have y0 := fun o => ((Kp.refl No w2).alloc o).cell' z0 id
            have y1 := fun o => ((Kp.refl No w2).alloc o).cell' z1 id
            have y2 := fun o => ((Kp.refl No w2).alloc o).cell' z2 id
            have y3 := fun o => ((Kp.refl No w2).alloc o).cell' z3 id
            have yw := fun o => (HS2.out.kept ((Kp.refl No w2).alloc o) id).warm
            clear hs2
            cases r with
            | none =>
              have hRn : R = none := by rw [← HBr.out]; exact brS_bad HLt.out (.inr rfl) HRr.out
              obtain ⟨WR, hWR, hsr, hkr⟩ := put_nul (HS2.out.kept ((Kp.refl No w2).alloc (.cells #[.int .u64 (wd g 0 64 : Nat), .int .u64 (wd g 64 64 : Nat), .int .u64 (wd g 128 64 : Nat), .int .u64 (wd g 192 64 : Nat)] 27)) id) ((HK0.out.trans HK2.out fun i hi e => by have := Hq.out; omega).alloc _) (fun h => by have := Hq.out; omega)
              have HWR := Hid_mk hWR
              have HSr := Hid_mk hsr
              have HKR := Hid_mk hkr
              clear hWR hsr hkr
              have HV2 := Hid_mk (show brV _ none = V by rw [← hRn]; exact HV.out)
              clear hRn
              simp only [Option.isSome_none]
              go_wp2
              rw [HWR.out]
              obtain ⟨r0, r1, r2, r3⟩ := HSr.out.cells
              refine bodyPost_ret (v := V) ?_ rfl ⟨rfl, HKR.out⟩
              rw [← HV2.out]
              simp only [wd_nul] at r0 r1 r2 r3
              simp [results, Try.results110, go_sem, r0, r1, r2, r3, brV, wd_nul]
            | some y =>
              have hy := HGn.out y rfl
              subst hy
              have hb2 : brS it l (k0 + 1) fu' n (fun x => s x || g x) = R := by rw [← HBr.out]; exact (brS_step HLt.out (.inr rfl) HRr.out).symm
              have hn := HAd.out _ _ HLt.out HRr.out
              simp only at hn
              have HB2 := Hid_mk hb2
              clear hb2
              simp only [Option.isSome_some]
              go_wp2_with fail
              with_reducible refine (or_any _ s g).mono ?_
              rintro e w3 ⟨rfl, k3⟩
              have hk3 := ((Kp.refl No w2).alloc (.cells #[.int .u64 (wd g 0 64 : Nat), .int .u64 (wd g 64 64 : Nat), .int .u64 (wd g 128 64 : Nat), .int .u64 (wd g 192 64 : Nat)] 27)).trans' k3
              have hs3 := HS2.out.kept hk3 id
              obtain ⟨WR, hWR, hsr, hkr⟩ := put_any hs3 (fun x => s x || g x) (HK2.out.trans hk3 fun i _ e => e.elim) (fun _ => rfl)
              have HWR := Hid_mk hWR
              have HSr := Hid_mk hsr
              have HKR := Hid_mk hkr
              clear hWR hsr hkr z0 z1 z2 z3 zw y0 y1 y2 y3 yw k3 hk3
              obtain ⟨z0, z1, z2, z3⟩ := hs3.cells
              have zw := hs3.warm
              clear hs3
              go_wp2
              go_roundw
              case rel => exact ⟨n, fu', _, rfl, by have := HLt.out; omega, hn.2, by have := HFu.out; omega, HB2.out, by rw [HWR.out]; exact HSr.out, by rw [HWR.out]; exact HKR.out⟩
              case measure => have := HLt.out; simp only [intOf]; omega
          · have hxi : ((x : Int) != 93) = true := by simp; omega
            clear hgo hx
            go_wp2_with fail
            refine (HIt.out _ k (by obtain ⟨m, h⟩ := HM.out; exact ⟨m, HKp.out.cell' (HK0.out.cell' h id) (by have h9 := World.block_lt_of_cell? _ _ h; simp only at h9; have h8 := Hq.out; show ¬ 0 = q; omega)⟩) HLt.out).mono ?_
            rintro e w2 ⟨g, n, rfl, hgn, k2⟩
            have HGn := Hid_mk hgn
            have HK2 := Hid_mk (HKp.out.trans k2 fun i _ e => e.elim)
            have hs2 := HS.out.kept k2 id
            have HS2 := Hid_mk hs2
            obtain ⟨r, hr⟩ : ∃ r, it (k) = r := ⟨_, rfl⟩
            rw [hr] at HGn ⊢
            have HRr := Hid_mk hr
            clear hgn k2 hr
            obtain ⟨z0, z1, z2, z3⟩ := hs2.cells
            have zw := hs2.warm
            have y0 := fun o => ((Kp.refl No w2).alloc o).cell' z0 id
            have y1 := fun o => ((Kp.refl No w2).alloc o).cell' z1 id
            have y2 := fun o => ((Kp.refl No w2).alloc o).cell' z2 id
            have y3 := fun o => ((Kp.refl No w2).alloc o).cell' z3 id
            have yw := fun o => (HS2.out.kept ((Kp.refl No w2).alloc o) id).warm
            clear hs2
            cases r with
            | none =>
              have hRn : R = none := by rw [← HBr.out]; exact brS_bad HLt.out (by rw [HX.out]; exact HGo.out) HRr.out
              obtain ⟨WR, hWR, hsr, hkr⟩ := put_nul (HS2.out.kept ((Kp.refl No w2).alloc (.cells #[.int .u64 (wd g 0 64 : Nat), .int .u64 (wd g 64 64 : Nat), .int .u64 (wd g 128 64 : Nat), .int .u64 (wd g 192 64 : Nat)] 27)) id) ((HK0.out.trans HK2.out fun i hi e => by have := Hq.out; omega).alloc _) (fun h => by have := Hq.out; omega)
              have HWR := Hid_mk hWR
              have HSr := Hid_mk hsr
              have HKR := Hid_mk hkr
              clear hWR hsr hkr
              have HV2 := Hid_mk (show brV _ none = V by rw [← hRn]; exact HV.out)
              clear hRn
              simp only [Option.isSome_none]
              go_wp2
              rw [HWR.out]
              obtain ⟨r0, r1, r2, r3⟩ := HSr.out.cells
              refine bodyPost_ret (v := V) ?_ rfl ⟨rfl, HKR.out⟩
              rw [← HV2.out]
              simp only [wd_nul] at r0 r1 r2 r3
              simp [results, Try.results110, go_sem, r0, r1, r2, r3, brV, wd_nul]
            | some y =>
              have hy := HGn.out y rfl
              subst hy
              have hb2 : brS it l (k0 + 1) fu' n (fun x => s x || g x) = R := by rw [← HBr.out]; exact (brS_step HLt.out (by rw [HX.out]; exact HGo.out) HRr.out).symm
              have hn := HAd.out _ _ HLt.out HRr.out
              simp only at hn
              have HB2 := Hid_mk hb2
              clear hb2
              simp only [Option.isSome_some]
              go_wp2_with fail
              with_reducible refine (or_any _ s g).mono ?_
              rintro e w3 ⟨rfl, k3⟩
              have hk3 := ((Kp.refl No w2).alloc (.cells #[.int .u64 (wd g 0 64 : Nat), .int .u64 (wd g 64 64 : Nat), .int .u64 (wd g 128 64 : Nat), .int .u64 (wd g 192 64 : Nat)] 27)).trans' k3
              have hs3 := HS2.out.kept hk3 id
              obtain ⟨WR, hWR, hsr, hkr⟩ := put_any hs3 (fun x => s x || g x) (HK2.out.trans hk3 fun i _ e => e.elim) (fun _ => rfl)
              have HWR := Hid_mk hWR
              have HSr := Hid_mk hsr
              have HKR := Hid_mk hkr
              clear hWR hsr hkr z0 z1 z2 z3 zw y0 y1 y2 y3 yw k3 hk3
              obtain ⟨z0, z1, z2, z3⟩ := hs3.cells
              have zw := hs3.warm
              clear hs3
              go_wp2
              go_roundw
              case rel => exact ⟨n, fu', _, rfl, by have := HLt.out; omega, hn.2, by have := HFu.out; omega, HB2.out, by rw [HWR.out]; exact HSr.out, by rw [HWR.out]; exact HKR.out⟩
              case measure => have := HLt.out; simp only [intOf]; omega
        · obtain ⟨hx3, hkf⟩ : x = 93 ∧ ¬ k = k0 + 1 := ⟨Decidable.byContradiction fun h => hgo (.inl h), fun h => hgo (.inr h)⟩
          subst hx3
          have hkfi : ((k : Int) == (k0 : Int) + 1) = false := by simp; omega
          have hne : ¬ (k : Int) = (l.length : Int) := by omega
          have hRn : R = some (s, k + 1) := by rw [← HBr.out]; exact brS_end hlt HX.out hkf
          have HV2 := Hid_mk (show brV true (some (s, k + 1)) = V by rw [← hRn]; exact HV.out)
          have hs := HS.out
          have hkp := HKp.out
          clear hRn hgo
          obtain ⟨z0, z1, z2, z3⟩ := hs.cells
          have zw := hs.warm
          have HKS := Hid_mk (HK0.out.trans hkp fun i hi e => by have := Hq.out; omega)
          clear hs hkp
          go_wp2_with fail
          with_reducible refine (not_any _ s).mono ?_
          rintro e w3 ⟨rfl, k3⟩
          have hs3 := HS.out.kept k3 id
          obtain ⟨WR, hWR, hsr, hkr⟩ := put_any hs3 (fun x => !s x) (HKS.out.trans' k3) (fun h => by have := Hq.out; omega)
          have HWR := Hid_mk hWR
          have HSr := Hid_mk hsr
          have HKR := Hid_mk hkr
          clear z0 z1 z2 z3 zw k3 hWR hsr hkr
          obtain ⟨z0, z1, z2, z3⟩ := hs3.cells
          have zw := hs3.warm
          clear hs3
          obtain ⟨WR2, hWR2, hsr2, hkr2⟩ := put_any HSr.out (fun x => !s x) HKR.out (fun h => by have := Hq.out; omega)
          have HWR2 := Hid_mk hWR2
          have HSr2 := Hid_mk hsr2
          have HKR2 := Hid_mk hkr2
          clear hWR2 hsr2 hkr2
          go_wp2
          rw [HWR.out, HWR2.out]
          obtain ⟨r0, r1, r2, r3⟩ := HSr2.out.cells
          refine bodyPost_ret (v := V) ?_ rfl ⟨rfl, HKR2.out⟩
          rw [← HV2.out]
          simp [results, Try.results110, go_sem, r0, r1, r2, r3, brV]
      · obtain rfl : k = l.length := by omega
        have hlti : ¬ ((l.length : Nat) : Int) < (l.length : Int) := by omega
        have hRn : R = none := by rw [← HBr.out]; exact brS_out rfl
        have HV2 := Hid_mk (show brV true none = V by rw [← hRn]; exact HV.out)
        have hs := HS.out
        obtain ⟨WR, hWR, hsr, hkr⟩ := put_nul hs (HK0.out.trans HKp.out fun i hi e => by have := Hq.out; omega) (fun h => by have := Hq.out; omega)
        have HWR := Hid_mk hWR
        have HSr := Hid_mk hsr
        have HKR := Hid_mk hkr
        clear hWR hsr hkr hRn
        obtain ⟨z0, z1, z2, z3⟩ := hs.cells
        have zw := hs.warm
        clear hs
        go_wp2
        rw [HWR.out]
        obtain ⟨r0, r1, r2, r3⟩ := HSr.out.cells
        refine bodyPost_ret (v := V) ?_ rfl ⟨rfl, HKR.out⟩
        rw [← HV2.out]
        simp only [wd_nul] at r0 r1 r2 r3
        simp [results, Try.results110, go_sem, r0, r1, r2, r3, brV, wd_nul]

end Go.Proofs.Ytaneblecgjahbab.cls

namespace Go.Proofs.Ytaneblecgjahbab.cls
open Go.RowKit Go.Proofs.Ytaneblecgjahbab.sum Go.Proofs.Ytaneblecgjahbab.kept Go.Proofs.Ytaneblecgjahbab.pop Go.Proofs.Ytaneblecgjahbab.str
set_option linter.unusedVariables false

/-- the library's own variable holds some number -/
def Mx (w : World) : Prop := ∃ m, w.cell? ⟨0, 0, none⟩ = some (.int .i64 m)
theorem Mx.no {w w' : World} (h : Mx w) (hk : Kp No w w') : Mx w' := by obtain ⟨m, h⟩ := h; exact ⟨m, hk.cell' h id⟩
theorem sv_congr {f g : Nat → Bool} (h : ∀ x, x < 256 → f x = g x) : sv f = sv g := by
  rw [svd, svd, wd_congr (o := 0) (f := f) (g := g) fun j hj => h _ (by omega), wd_congr (o := 64) (f := f) (g := g) fun j hj => h _ (by omega), wd_congr (o := 128) (f := f) (g := g) fun j hj => h _ (by omega), wd_congr (o := 192) (f := f) (g := g) fun j hj => h _ (by omega)]

theorem eq_set (a b c d x y z u : Int) (w : World) : (Op.equalIn 10000 27 (.agg #[.int .u64 a, .int .u64 b, .int .u64 c, .int .u64 d]) (.agg #[.int .u64 x, .int .u64 y, .int .u64 z, .int .u64 u])).run Try.prog w = .ok (a == x && b == y && c == z && d == u) w := by
  have u3 := Try.underlying25
  have a3 := Try.isAgg25
  have z3 := Try.sizeOf25
  rw [show (10000 : Nat) = 9999 + 1 from rfl, Op.equalIn]
  simp only [Sem.run_bind, run_underlying Try.underlying27, Result.andThen_ok]
  simp only [Std.Legacy.Range.forIn_eq_forIn_range', Std.Legacy.Range.size, Nat.sub_zero, Nat.add_sub_cancel, Nat.div_one, List.range'_succ, List.range'_zero, List.forIn_cons, List.forIn_nil]
  go_simp
  by_cases h1 : a = x <;> by_cases h2 : b = y <;> by_cases h3 : c = z <;> by_cases h4 : d = u <;> simp [h1, h2, h3, h4]
theorem eq_self (f : Nat → Bool) (w : World) : (Op.equalIn 10000 27 (.agg #[.int .u64 (wd f 0 64 : Nat), .int .u64 (wd f 64 64 : Nat), .int .u64 (wd f 128 64 : Nat), .int .u64 (wd f 192 64 : Nat)]) (.agg #[.int .u64 (wd f 0 64 : Nat), .int .u64 (wd f 64 64 : Nat), .int .u64 (wd f 128 64 : Nat), .int .u64 (wd f 192 64 : Nat)])).run Try.prog w = .ok true w := by
  rw [eq_set]
  simp

theorem item_any (l : List UInt8) (h92 : ∀ k, k < l.length → (l.getD k 0).toNat ≠ 92) (hl : l.length < 4294967281) (w : World) (k : Nat) (hm : Mx w) (hk : k < l.length) :
    Calls Try.prog 121 #[.string (st l), .int .i64 (k : Int)] w (ItPost w (itemS l k)) := by
  by_cases hn : namesB l k = true
  · exact item_name w l k hn hl hm
  · have hn' : namesB l k = false := by simpa using hn
    by_cases hr : rangesB l (k + 1) = true
    · exact item_range w l k hn' (h92 k hk) hr hl fun _ => ⟨ranges_lt hr, h92 _ (ranges_lt hr)⟩
    · exact item_one w l k hk hn' (h92 k hk) (by simpa using hr) hl
theorem item_adv (l : List UInt8) (k : Nat) (x : (Nat → Bool) × Nat) (hk : k < l.length) (h : itemS l k = some x) : k < x.2 ∧ x.2 ≤ l.length := by
  unfold itemS at h
  split at h
  · rename_i hn
    have h2 := names_lt hn
    split at h
    · rename_i hc
      cases h
      unfold nameS at hc ⊢
      simp only [Bool.and_eq_true] at hc
      obtain ⟨hc, -⟩ := hc
      unfold Lib.cut at hc ⊢
      split at hc
      · rename_i h0
        have hro := Lib.index_room (l.drop (k + 2)) [58, 93] h0
        simp only [List.length_drop, List.length_cons, List.length_nil] at hro
        rw [if_pos h0]
        simp only [List.length_take, List.length_drop]
        omega
      · cases hc
    · cases h
  · split at h
    · cases h
      exact ⟨Nat.lt_succ_self _, hk⟩
    · rename_i hr
      have hr2 := ranges_lt (l := l) (k := k + 1) (by simpa using hr)
      split at h
      · cases h
      · split at h
        · cases h
          exact ⟨by simp only; omega, by simp only; omega⟩
        · cases h

/-- Bracket of a text of known bytes -/
theorem bracket_l (w : World) (l : List UInt8) (s : ByteArray) (hs : s = st l) (o : Bool) (R : Option ((Nat → Bool) × Nat)) (h92 : ∀ k, k < l.length → (l.getD k 0).toNat ≠ 92) (hl : l.length < 4294967281) (hm : Mx w)
    (ho : Lib.hasPrefix l [94] = o) (hR : brS (itemS l) l (if o = true then 0 + 1 else 0) (l.length + 1) (if o = true then 0 + 1 else 0) nul = R) :
    Calls Try.prog 110 #[.string s, .int .i64 0] w fun e w' => e = .returned (brV o R) ∧ Kp No w w' := by
  subst hs hR
  exact bracket_any w l 0 o (Nat.zero_le _) hl hm (itemS l) (fun W j h hj => item_any l h92 hl W j h hj) (item_adv l) (by rw [List.drop_zero]; exact ho)

theorem bs_l3 (w : World) (a b c : UInt8) (x y z : Int) (hx : x = (a.toNat : Int)) (hy : y = (b.toNat : Int)) (hz : z = (c.toNat : Int)) : Bs (w.alloc (.cells #[.int .u8 x, .int .u8 y, .int .u8 z] 5)) (.slice (some ⟨w.heap.size, 0, none⟩) 3 3) [a, b, c] := by
  subst hx hy hz
  exact bs_of3 w a b c
theorem bs_l2 (w : World) (a b : UInt8) (x y : Int) (hx : x = (a.toNat : Int)) (hy : y = (b.toNat : Int)) : Bs (w.alloc (.cells #[.int .u8 x, .int .u8 y] 5)) (.slice (some ⟨w.heap.size, 0, none⟩) 2 2) [a, b] := by
  subst hx hy
  exact bs_of2 w a b
theorem bs_l1 (w : World) (a : UInt8) (x : Int) (hx : x = (a.toNat : Int)) : Bs (w.alloc (.cells #[.int .u8 x] 5)) (.slice (some ⟨w.heap.size, 0, none⟩) 1 1) [a] := by
  subst hx
  exact bs_of1 w a

def bA : List UInt8 := [97, 45, 99, 93, 120]
theorem bA_ok : brS (itemS bA) bA 0 6 0 nul = some (fun x => nul x || spn 97 99 x, 4) := rfl
theorem bracketA (w : World) (hm : Mx w) : Calls Try.prog 110 #[.string ⟨#[97, 45, 99, 93, 120]⟩, .int .i64 0] w fun e w' => e = .returned (.tuple #[sv (spn 97 99), .int .i64 4, .bool true]) ∧ Kp No w w' := by
  refine (bracket_l w bA _ rfl false _ (by decide) (by decide) hm rfl bA_ok).mono ?_
  rintro e w' ⟨rfl, hk⟩
  refine ⟨?_, hk⟩
  simp only [brV]
  rfl

theorem ofL_abc : sv (ofL [97, 98, 99]) = sv (spn 97 99) := sv_congr (by decide +kernel)
theorem cnt_ac : cnt (spn 97 99) 0 256 = 3 := by decide +kernel
theorem digit_named : namedS [100, 105, 103, 105, 116] = (digitsS, true) := rfl

end Go.Proofs.Ytaneblecgjahbab.cls

namespace Go.Proofs.Ytaneblecgjahbab.tre
open Go.RowKit Go.Proofs.Ytaneblecgjahbab.sum Go.Proofs.Ytaneblecgjahbab.kept Go.Proofs.Ytaneblecgjahbab.pop Go.Proofs.Ytaneblecgjahbab.cls
set_option linter.unusedVariables false

/-- a tree: its kind, its set, its kids -/
inductive Tr where
  | mk (k : Int) (f : Nat → Bool) (l : List Tr)
def Tr.kind : Tr → Int
  | .mk k _ _ => k
def Tr.set : Tr → Nat → Bool
  | .mk _ f _ => f
def Tr.kids : Tr → List Tr
  | .mk _ _ l => l
mutual
/-- how many nodes -/
def Tr.size : Tr → Nat
  | .mk _ _ l => sizeL l + 1
def sizeL : List Tr → Nat
  | [] => 0
  | t :: l => t.size + sizeL l
end
theorem size_get : ∀ (l : List Tr) (i : Nat) (h : i < l.length), (l[i]).size ≤ sizeL l
  | t :: l, 0, _ => by simp only [List.getElem_cons_zero, sizeL]; omega
  | t :: l, i + 1, h => by
    have := size_get l i (by simpa using h)
    simp only [List.getElem_cons_succ, sizeL]
    omega
/-- six cells of a tree whose kids lie at a -/
abbrev cellsR (k : Int) (f : Nat → Bool) (a : Option Addr) (n c : Nat) : Array Value := #[.int .i64 k, .int .u64 (wd f 0 64 : Nat), .int .u64 (wd f 64 64 : Nat), .int .u64 (wd f 128 64 : Nat), .int .u64 (wd f 192 64 : Nat), .slice a n c]
mutual
/-- a value is this tree; what its kids lie in is among T -/
def ReV (T : Nat → Prop) (w : World) : Tr → Value → Prop
  | .mk k f l, v => ∃ a c, v = .agg (cellsR k f a l.length c) ∧ l.length ≤ c ∧ c ≤ 9223372036854775807 ∧ (l ≠ [] → ∃ b o, a = some ⟨b, o, none⟩ ∧ (T b ∧ b < w.heap.size) ∧ ReL T w b o l)
/-- these trees lie one behind the other -/
def ReL (T : Nat → Prop) (w : World) (b : Nat) : Nat → List Tr → Prop
  | _, [] => True
  | o, t :: l => (∃ x0 x1 x2 x3 x4 x5, w.cell? ⟨b, o, none⟩ = some x0 ∧ w.cell? ⟨b, o + 1, none⟩ = some x1 ∧ w.cell? ⟨b, o + 2, none⟩ = some x2 ∧ w.cell? ⟨b, o + 3, none⟩ = some x3 ∧ w.cell? ⟨b, o + 4, none⟩ = some x4 ∧ w.cell? ⟨b, o + 5, none⟩ = some x5 ∧ ReV T w t (.agg #[x0, x1, x2, x3, x4, x5])) ∧ ReL T w b (o + 6) l
end
mutual
theorem ReV.kept {S T : Nat → Prop} {w w' : World} (hk : Kp S w w') (hS : ∀ b, T b → b < w.heap.size → ¬ S b) : ∀ (t : Tr) (v : Value), ReV T w t v → ReV T w' t v
  | .mk k f l, v, ⟨a, c, h1, h2, h3, h4⟩ => ⟨a, c, h1, h2, h3, fun hne => by
    obtain ⟨b, o, e, ⟨hb, hlt⟩, h⟩ := h4 hne
    exact ⟨b, o, e, ⟨hb, Nat.lt_of_lt_of_le hlt hk.size⟩, ReL.kept hk hS b (hS b hb hlt) o l h⟩⟩
theorem ReL.kept {S T : Nat → Prop} {w w' : World} (hk : Kp S w w') (hS : ∀ b, T b → b < w.heap.size → ¬ S b) (b : Nat) (hb : ¬ S b) : ∀ (o : Nat) (l : List Tr), ReL T w b o l → ReL T w' b o l
  | _, [], _ => trivial
  | o, t :: l, ⟨⟨x0, x1, x2, x3, x4, x5, h0, h1, h2, h3, h4, h5, hv⟩, hl⟩ =>
    ⟨⟨x0, x1, x2, x3, x4, x5, hk.cell' h0 hb, hk.cell' h1 hb, hk.cell' h2 hb, hk.cell' h3 hb, hk.cell' h4 hb, hk.cell' h5 hb, ReV.kept hk hS t _ hv⟩, ReL.kept hk hS b hb (o + 6) l hl⟩
end
theorem ReV.no {T : Nat → Prop} {w w' : World} (hk : Kp No w w') (t : Tr) (v : Value) (h : ReV T w t v) : ReV T w' t v := ReV.kept hk (fun _ _ _ => id) t v h
theorem ReL.no {T : Nat → Prop} {w w' : World} (hk : Kp No w w') (b o : Nat) (l : List Tr) (h : ReL T w b o l) : ReL T w' b o l := ReL.kept hk (fun _ _ _ => id) b id o l h
mutual
theorem ReV.wider {T T' : Nat → Prop} {w : World} (hT : ∀ b, T b → b < w.heap.size → T' b) : ∀ (t : Tr) (v : Value), ReV T w t v → ReV T' w t v
  | .mk k f l, v, ⟨a, c, h1, h2, h3, h4⟩ => ⟨a, c, h1, h2, h3, fun hne => by
    obtain ⟨b, o, e, ⟨hb, hlt⟩, h⟩ := h4 hne
    exact ⟨b, o, e, ⟨hT b hb hlt, hlt⟩, ReL.wider hT b o l h⟩⟩
theorem ReL.wider {T T' : Nat → Prop} {w : World} (hT : ∀ b, T b → b < w.heap.size → T' b) (b : Nat) : ∀ (o : Nat) (l : List Tr), ReL T w b o l → ReL T' w b o l
  | _, [], _ => trivial
  | o, t :: l, ⟨⟨x0, x1, x2, x3, x4, x5, h0, h1, h2, h3, h4, h5, hv⟩, hl⟩ =>
    ⟨⟨x0, x1, x2, x3, x4, x5, h0, h1, h2, h3, h4, h5, ReV.wider hT t _ hv⟩, ReL.wider hT b (o + 6) l hl⟩
end
/-- the i-th one -/
theorem ReL.get {T : Nat → Prop} {w : World} {b : Nat} : ∀ {l : List Tr} {o : Nat}, ReL T w b o l → ∀ (i : Nat) (h : i < l.length), ∃ k f a n c, w.cell? ⟨b, o + i * 6, none⟩ = some (.int .i64 k) ∧ w.cell? ⟨b, o + i * 6 + 1, none⟩ = some (.int .u64 (wd f 0 64 : Nat)) ∧ w.cell? ⟨b, o + i * 6 + 2, none⟩ = some (.int .u64 (wd f 64 64 : Nat)) ∧ w.cell? ⟨b, o + i * 6 + 3, none⟩ = some (.int .u64 (wd f 128 64 : Nat)) ∧ w.cell? ⟨b, o + i * 6 + 4, none⟩ = some (.int .u64 (wd f 192 64 : Nat)) ∧ w.cell? ⟨b, o + i * 6 + 5, none⟩ = some (.slice a n c) ∧ ReV T w l[i] (.agg (cellsR k f a n c))
  | t :: l, o, ⟨⟨x0, x1, x2, x3, x4, x5, h0, h1, h2, h3, h4, h5, hv⟩, hl⟩, 0, _ => by
    obtain ⟨k, f, l'⟩ := t
    obtain ⟨a, c, e, g1, g2, g3⟩ := hv
    simp only [Value.agg.injEq, Array.mk.injEq, List.cons.injEq, and_true] at e
    obtain ⟨rfl, rfl, rfl, rfl, rfl, rfl⟩ := e
    simp only [Nat.zero_mul, Nat.add_zero]
    exact ⟨k, f, a, l'.length, c, h0, h1, h2, h3, h4, h5, ⟨a, c, rfl, g1, g2, g3⟩⟩
  | t :: l, o, ⟨_, hl⟩, i + 1, h => by
    have := ReL.get hl i (by simpa using h)
    rw [show o + (i + 1) * 6 = o + 6 + i * 6 by omega]
    exact this

/-- is a set zero? -/
def zeroB (f : Nat → Bool) : Bool := wd f 0 64 == 0 && wd f 64 64 == 0 && wd f 128 64 == 0 && wd f 192 64 == 0
/-- how many kids a kind has -/
def kidsS (k : Int) : Int := if k = 0 ∨ k = 1 ∨ k = 7 ∨ k = 8 then 0 else if k = 4 ∨ k = 5 ∨ k = 6 then 1 else if k = 2 ∨ k = 3 then 2 else -1
mutual
def shapedS : Tr → Bool
  | .mk k f l => decide ((l.length : Int) = kidsS k) && (decide (k = 1) || zeroB f) && shapedL l
def shapedL : List Tr → Bool
  | [] => true
  | t :: l => shapedS t && shapedL l
end
mutual
def setsS : Tr → Nat
  | .mk _ _ [] => 1
  | .mk _ _ (t :: l) => setsS t + setsL l
def setsL : List Tr → Nat
  | [] => 0
  | t :: l => setsS t + setsL l
end
/-- is a kid as deep as its parent? -/
def sameB (k : Int) (i : Nat) : Bool := decide (i = 1) && (decide (k = 2) || decide (k = 3))
mutual
def deepS : Tr → Nat → Bool
  | .mk _ _ _, 0 => false
  | .mk k _ l, n + 1 => deepL k (n + 1) 0 l
def deepL (k : Int) (n : Nat) : Nat → List Tr → Bool
  | _, [] => true
  | i, t :: l => deepS t (if sameB k i = true then n else n - 1) && deepL k n (i + 1) l
end

end Go.Proofs.Ytaneblecgjahbab.tre
