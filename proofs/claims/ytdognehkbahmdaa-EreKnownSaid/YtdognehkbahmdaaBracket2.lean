/- Package class: Bracket itself. -/
import Derived.Test.YtdognehkbahmdaaBracket
namespace Go.Proofs.Ytdognehkbahmdaa.cls
open Go.RowKit Go.Proofs.Ytdognehkbahmdaa.sum Go.Proofs.Ytdognehkbahmdaa.kept Go.Proofs.Ytdognehkbahmdaa.pop Go.Proofs.Ytdognehkbahmdaa.str
set_option linter.unusedVariables false

/-- the items, till the closing byte -/
def brS (it : Nat → Option ((Nat → Bool) × Nat)) (l : List UInt8) (first : Nat) : Nat → Nat → (Nat → Bool) → Option ((Nat → Bool) × Nat)
  | 0, _, _ => none
  | f + 1, k, s =>
    if k < l.length ∧ ((l.getD k 0).toNat ≠ 93 ∨ k = first) then
      match it k with
      | none => none
      | some (g, n) => brS it l first f n (fun x => s x || g x)
    else if k = l.length then none else some (s, k + 1)
/-- what Bracket tells -/
def brV (o : Bool) : Option ((Nat → Bool) × Nat) → Value
  | none => .tuple #[sv nul, .int .i64 0, .bool false]
  | some (f, n) => .tuple #[sv (if o = true then fun x => !f x else f), .int .i64 (n : Nat), .bool true]
/-- at the loop's head -/
def BrRel (W0 : World) (q : Nat) (it : Nat → Option ((Nat → Bool) × Nat)) (l : List UInt8) (first : Nat) (R : Option ((Nat → Bool) × Nat)) (i : Value) (wr : World) : Prop :=
  ∃ (k fu : Nat) (s : Nat → Bool), i = .int .i64 (k : Int) ∧ first ≤ k ∧ k ≤ l.length ∧ l.length < k + fu ∧ brS it l first fu k s = R ∧ SetAt wr q s ∧ Kp (fun b => b = q) W0 wr

section
variable {it : Nat → Option ((Nat → Bool) × Nat)} {l : List UInt8} {first fu k : Nat} {s g : Nat → Bool} {n : Nat}
theorem brS_step (h : k < l.length) (hx : (l.getD k 0).toNat ≠ 93 ∨ k = first) (hi : it k = some (g, n)) : brS it l first (fu + 1) k s = brS it l first fu n (fun x => s x || g x) := by
  rw [brS, if_pos ⟨h, hx⟩, hi]
theorem brS_bad (h : k < l.length) (hx : (l.getD k 0).toNat ≠ 93 ∨ k = first) (hi : it k = none) : brS it l first (fu + 1) k s = none := by
  rw [brS, if_pos ⟨h, hx⟩, hi]
theorem brS_out (h : k = l.length) : brS it l first (fu + 1) k s = none := by
  rw [brS, if_neg (by omega), if_pos h]
theorem brS_end (h : k < l.length) (hx : (l.getD k 0).toNat = 93) (hf : k ≠ first) : brS it l first (fu + 1) k s = some (s, k + 1) := by
  rw [brS, if_neg (by intro e; rcases e.2 with e | e <;> omega), if_neg (by omega)]
end

set_option maxRecDepth 100000 in
set_option maxHeartbeats 2000000 in
theorem bracket_any (w : World) (l : List UInt8) (k0 : Nat) (o : Bool) (hk0 : k0 ≤ l.length) (hl : l.length < 4294967281) (hm : ∃ m, w.cell? ⟨0, 0, none⟩ = some (.int .i64 m)) (it : Nat → Option ((Nat → Bool) × Nat))
    (hit : ∀ W j, (∃ m, W.cell? ⟨0, 0, none⟩ = some (.int .i64 m)) → j < l.length → Calls Try.prog 102 #[.string (st l), .int .i64 (j : Int)] W (ItPost W (it j)))
    (hadv : ∀ j x, j < l.length → it j = some x → j < x.2 ∧ x.2 ≤ l.length) (ho : Lib.hasPrefix (l.drop k0) [94] = o) :
    Calls Try.prog 91 #[.string (st l), .int .i64 (k0 : Int)] w fun e w' => e = .returned (brV o (brS it l (if o = true then k0 + 1 else k0) (l.length + 1) (if o = true then k0 + 1 else k0) nul)) ∧ Kp No w w' := by
  have hko : o = true → k0 + 1 ≤ l.length := fun e => by
    rw [← ho] at e
    have := Lib.hasPrefix_le e
    rw [List.length_drop] at this
    simp at this
    omega
  obtain ⟨first, hfi⟩ : ∃ first, (if o = true then k0 + 1 else k0) = first := ⟨_, rfl⟩
  obtain ⟨R, hR⟩ : ∃ R, brS it l first (l.length + 1) first nul = R := ⟨_, rfl⟩
  obtain ⟨V, hV⟩ : ∃ V, brV o R = V := ⟨_, rfl⟩
  rw [hfi, hR, hV]
  have hfl : first ≤ l.length := by
    rw [← hfi]
    split
    · exact hko ‹_›
    · exact hk0
  have hsz := st_size l
  have hx := st_from l k0
  have hki0 : (0 : Int) ≤ (k0 : Int) := Int.natCast_nonneg _
  have hkl : ¬ (l.length : Int) < (k0 : Int) := by omega
  have HPre := Hid_mk fun W => pre_any W (l.drop k0) [94] ⟨#[94]⟩ rfl
  rw [ho] at HPre
  have HK0 := Hid_mk ((Kp.refl No w).alloc (.cells #[.int .u64 0, .int .u64 0, .int .u64 0, .int .u64 0] 24))
  have HZ := Hid_mk (SetAt.zero w)
  have hmq : 0 < w.heap.size := by
    obtain ⟨m, h⟩ := hm
    exact Nat.lt_of_le_of_lt (Nat.zero_le _) (World.block_lt_of_cell? w _ h)
  have HM := Hid_mk hm
  have HIt := Hid_mk hit
  have HAd := Hid_mk hadv
  have HR := Hid_mk hR
  have HV := Hid_mk hV
  have HF := Hid_mk hfi
  have HO := Hid_mk ho
  obtain ⟨W0, hW0⟩ : ∃ W0, w.alloc (.cells #[.int .u64 0, .int .u64 0, .int .u64 0, .int .u64 0] 24) = W0 := ⟨_, rfl⟩
  rw [hW0] at HK0 HZ
  have HW0 := Hid_mk hW0
  obtain ⟨q, hq⟩ : ∃ q, w.heap.size = q := ⟨_, rfl⟩
  rw [hq] at HZ hmq
  have Hq := Hid_mk hq
  clear hm hit hadv hR hV hfi hko hW0 hq ho
  go_enter Try.func91, Try.ntmps91
  go_wp2_with fail
  with_reducible refine (HPre.out _).mono ?_
  rintro e w1 ⟨rfl, rfl⟩
  have hw1 : IntKind.i64.wrap ((k0 : Int) + 1) = (k0 : Int) + 1 := IntWalk.i64_in _ (by omega)
  cases o
  · have hf2 := HF.out
    simp only [Bool.false_eq_true, if_false] at hf2
    subst hf2
    go_wp2_with fail
    try rw [HW0.out]
    try rw [Hq.out]
    go_loopw [1] (fun i wr => BrRel W0 q it l (k0) R i wr) (fun i _ => l.length - (intOf i).toNat)
    case atStart => exact ⟨k0, l.length + 1, nul, by first | rfl | (push_cast; rfl), Nat.le_refl _, hfl, by omega, HR.out, HZ.out, Kp.refl _ _⟩
    case round =>
      obtain ⟨k, fu, s, rfl, hfk, hkl2, hfu, hbr, hs, hkp⟩ := hrel
      obtain ⟨fu', rfl⟩ : ∃ f', fu = f' + 1 := ⟨fu - 1, by omega⟩
      have hki : (0 : Int) ≤ (k : Int) := Int.natCast_nonneg _
      have hk1 : wrap64 ((k : Int) + 1) = (k : Int) + 1 := IntWalk.wrap64_in _ (by omega)
      have hk2 : IntKind.i64.wrap ((k : Int) + 1) = (k : Int) + 1 := IntWalk.i64_in _ (by omega)
      have HS := Hid_mk hs
      have HKp := Hid_mk hkp
      have HBr := Hid_mk hbr
      have HFu := Hid_mk hfu
      clear hs hkp hbr hfu
      by_cases hlt : k < l.length
      · have hlti : (k : Int) < (l.length : Int) := by omega
        have hg := fun h => st_get l k h
        obtain ⟨x, hx⟩ : ∃ x, (l.getD k 0).toNat = x := ⟨_, rfl⟩
        rw [hx] at hg
        have HX := Hid_mk hx
        clear hx
        by_cases hgo : x ≠ 93 ∨ k = k0
        · have HGo := Hid_mk hgo
          have HLt := Hid_mk hlt
          clear hlt
          rcases Decidable.em (x = 93) with hx | hx
          · have hkF : k0 = k := by rcases hgo with h | h; exact absurd hx h; exact h.symm
            subst hx
            subst hkF
            clear hgo
            go_wp2_with fail
            refine (HIt.out _ k0 (by obtain ⟨m, h⟩ := HM.out; exact ⟨m, HKp.out.cell' (HK0.out.cell' h id) (by have h9 := World.block_lt_of_cell? _ _ h; simp only at h9; have h8 := Hq.out; show ¬ 0 = q; omega)⟩) HLt.out).mono ?_
            rintro e w2 ⟨g, n, rfl, hgn, k2⟩
            have HGn := Hid_mk hgn
            have HK2 := Hid_mk (HKp.out.trans k2 fun i _ e => e.elim)
            have hs2 := HS.out.kept k2 id
            have HS2 := Hid_mk hs2
            obtain ⟨r, hr⟩ : ∃ r, it (k0) = r := ⟨_, rfl⟩
            rw [hr] at HGn ⊢
            have HRr := Hid_mk hr
            clear hgn k2 hr
            obtain ⟨z0, z1, z2, z3⟩ := hs2.cells
            have zw := hs2.warm
            have y0 := fun o => ((Kp.refl No w2).alloc o).cell' z0 id
            have y1 := fun o => ((Kp.refl No w2).alloc o).cell' z1 id
            have y2 := fun o => ((Kp.refl No w2).alloc o).cell' z2 id
            have y3 := fun o => ((Kp.refl No w2).alloc o).cell' z3 id
            have yw := fun o => (HS2.out.kept ((Kp.refl No w2).alloc o) id).warm
            clear hs2
            cases r with
            | none =>
              have hRn : R = none := by rw [← HBr.out]; exact brS_bad HLt.out (.inr rfl) HRr.out
              obtain ⟨WR, hWR, hsr, hkr⟩ := put_nul (HS2.out.kept ((Kp.refl No w2).alloc (.cells #[.int .u64 (wd g 0 64 : Nat), .int .u64 (wd g 64 64 : Nat), .int .u64 (wd g 128 64 : Nat), .int .u64 (wd g 192 64 : Nat)] 24)) id) ((HK0.out.trans HK2.out fun i hi e => by have := Hq.out; omega).alloc _) (fun h => by have := Hq.out; omega)
              have HWR := Hid_mk hWR
              have HSr := Hid_mk hsr
              have HKR := Hid_mk hkr
              clear hWR hsr hkr
              have HV2 := Hid_mk (show brV _ none = V by rw [← hRn]; exact HV.out)
              clear hRn
              simp only [Option.isSome_none]
              go_wp2
              rw [HWR.out]
              obtain ⟨r0, r1, r2, r3⟩ := HSr.out.cells
              refine bodyPost_ret (v := V) ?_ rfl ⟨rfl, HKR.out⟩
              rw [← HV2.out]
              simp only [wd_nul] at r0 r1 r2 r3
              simp [results, Try.results91, go_sem, r0, r1, r2, r3, brV, wd_nul]
            | some y =>
              have hy := HGn.out y rfl
              subst hy
              have hb2 : brS it l (k0) fu' n (fun x => s x || g x) = R := by rw [← HBr.out]; exact (brS_step HLt.out (.inr rfl) HRr.out).symm
              have hn := HAd.out _ _ HLt.out HRr.out
              simp only at hn
              have HB2 := Hid_mk hb2
              clear hb2
              simp only [Option.isSome_some]
              go_wp2_with fail
              with_reducible refine (or_any _ s g).mono ?_
              rintro e w3 ⟨rfl, k3⟩
              have hk3 := ((Kp.refl No w2).alloc (.cells #[.int .u64 (wd g 0 64 : Nat), .int .u64 (wd g 64 64 : Nat), .int .u64 (wd g 128 64 : Nat), .int .u64 (wd g 192 64 : Nat)] 24)).trans' k3
              have hs3 := HS2.out.kept hk3 id
              obtain ⟨WR, hWR, hsr, hkr⟩ := put_any hs3 (fun x => s x || g x) (HK2.out.trans hk3 fun i _ e => e.elim) (fun _ => rfl)
              have HWR := Hid_mk hWR
              have HSr := Hid_mk hsr
              have HKR := Hid_mk hkr
              clear hWR hsr hkr z0 z1 z2 z3 zw y0 y1 y2 y3 yw k3 hk3
              obtain ⟨z0, z1, z2, z3⟩ := hs3.cells
              have zw := hs3.warm
              clear hs3
              go_wp2
              go_roundw
              case rel => exact ⟨n, fu', _, rfl, by have := HLt.out; omega, hn.2, by have := HFu.out; omega, HB2.out, by rw [HWR.out]; exact HSr.out, by rw [HWR.out]; exact HKR.out⟩
              case measure => have := HLt.out; simp only [intOf]; omega
          · have hxi : ((x : Int) != 93) = true := by simp; omega
            clear hgo hx
            go_wp2_with fail
            refine (HIt.out _ k (by obtain ⟨m, h⟩ := HM.out; exact ⟨m, HKp.out.cell' (HK0.out.cell' h id) (by have h9 := World.block_lt_of_cell? _ _ h; simp only at h9; have h8 := Hq.out; show ¬ 0 = q; omega)⟩) HLt.out).mono ?_
            rintro e w2 ⟨g, n, rfl, hgn, k2⟩
            have HGn := Hid_mk hgn
            have HK2 := Hid_mk (HKp.out.trans k2 fun i _ e => e.elim)
            have hs2 := HS.out.kept k2 id
            have HS2 := Hid_mk hs2
            obtain ⟨r, hr⟩ : ∃ r, it (k) = r := ⟨_, rfl⟩
            rw [hr] at HGn ⊢
            have HRr := Hid_mk hr
            clear hgn k2 hr
            obtain ⟨z0, z1, z2, z3⟩ := hs2.cells
            have zw := hs2.warm
            have y0 := fun o => ((Kp.refl No w2).alloc o).cell' z0 id
            have y1 := fun o => ((Kp.refl No w2).alloc o).cell' z1 id
            have y2 := fun o => ((Kp.refl No w2).alloc o).cell' z2 id
            have y3 := fun o => ((Kp.refl No w2).alloc o).cell' z3 id
            have yw := fun o => (HS2.out.kept ((Kp.refl No w2).alloc o) id).warm
            clear hs2
            cases r with
            | none =>
              have hRn : R = none := by rw [← HBr.out]; exact brS_bad HLt.out (by rw [HX.out]; exact HGo.out) HRr.out
              obtain ⟨WR, hWR, hsr, hkr⟩ := put_nul (HS2.out.kept ((Kp.refl No w2).alloc (.cells #[.int .u64 (wd g 0 64 : Nat), .int .u64 (wd g 64 64 : Nat), .int .u64 (wd g 128 64 : Nat), .int .u64 (wd g 192 64 : Nat)] 24)) id) ((HK0.out.trans HK2.out fun i hi e => by have := Hq.out; omega).alloc _) (fun h => by have := Hq.out; omega)
              have HWR := Hid_mk hWR
              have HSr := Hid_mk hsr
              have HKR := Hid_mk hkr
              clear hWR hsr hkr
              have HV2 := Hid_mk (show brV _ none = V by rw [← hRn]; exact HV.out)
              clear hRn
              simp only [Option.isSome_none]
              go_wp2
              rw [HWR.out]
              obtain ⟨r0, r1, r2, r3⟩ := HSr.out.cells
              refine bodyPost_ret (v := V) ?_ rfl ⟨rfl, HKR.out⟩
              rw [← HV2.out]
              simp only [wd_nul] at r0 r1 r2 r3
              simp [results, Try.results91, go_sem, r0, r1, r2, r3, brV, wd_nul]
            | some y =>
              have hy := HGn.out y rfl
              subst hy
              have hb2 : brS it l (k0) fu' n (fun x => s x || g x) = R := by rw [← HBr.out]; exact (brS_step HLt.out (by rw [HX.out]; exact HGo.out) HRr.out).symm
              have hn := HAd.out _ _ HLt.out HRr.out
              simp only at hn
              have HB2 := Hid_mk hb2
              clear hb2
              simp only [Option.isSome_some]
              go_wp2_with fail
              with_reducible refine (or_any _ s g).mono ?_
              rintro e w3 ⟨rfl, k3⟩
              have hk3 := ((Kp.refl No w2).alloc (.cells #[.int .u64 (wd g 0 64 : Nat), .int .u64 (wd g 64 64 : Nat), .int .u64 (wd g 128 64 : Nat), .int .u64 (wd g 192 64 : Nat)] 24)).trans' k3
              have hs3 := HS2.out.kept hk3 id
              obtain ⟨WR, hWR, hsr, hkr⟩ := put_any hs3 (fun x => s x || g x) (HK2.out.trans hk3 fun i _ e => e.elim) (fun _ => rfl)
              have HWR := Hid_mk hWR
              have HSr := Hid_mk hsr
              have HKR := Hid_mk hkr
              clear hWR hsr hkr z0 z1 z2 z3 zw y0 y1 y2 y3 yw k3 hk3
              obtain ⟨z0, z1, z2, z3⟩ := hs3.cells
              have zw := hs3.warm
              clear hs3
              go_wp2
              go_roundw
              case rel => exact ⟨n, fu', _, rfl, by have := HLt.out; omega, hn.2, by have := HFu.out; omega, HB2.out, by rw [HWR.out]; exact HSr.out, by rw [HWR.out]; exact HKR.out⟩
              case measure => have := HLt.out; simp only [intOf]; omega
        · obtain ⟨hx3, hkf⟩ : x = 93 ∧ ¬ k = k0 := ⟨Decidable.byContradiction fun h => hgo (.inl h), fun h => hgo (.inr h)⟩
          subst hx3
          have hkfi : ((k : Int) == (k0 : Int)) = false := by simp; omega
          have hne : ¬ (k : Int) = (l.length : Int) := by omega
          have hRn : R = some (s, k + 1) := by rw [← HBr.out]; exact brS_end hlt HX.out hkf
          have HV2 := Hid_mk (show brV false (some (s, k + 1)) = V by rw [← hRn]; exact HV.out)
          have hs := HS.out
          have hkp := HKp.out
          clear hRn hgo
          obtain ⟨WR, hWR, hsr, hkr⟩ := put_any hs s (HK0.out.trans hkp fun i hi e => by have := Hq.out; omega) (fun h => by have := Hq.out; omega)
          have HWR := Hid_mk hWR
          have HSr := Hid_mk hsr
          have HKR := Hid_mk hkr
          obtain ⟨z0, z1, z2, z3⟩ := hs.cells
          have zw := hs.warm
          have HKS := Hid_mk (HK0.out.trans hkp fun i hi e => by have := Hq.out; omega)
          clear hWR hsr hkr hs hkp
          go_wp2
          obtain ⟨r0, r1, r2, r3⟩ := HS.out.cells
          refine bodyPost_ret (v := V) ?_ rfl ⟨rfl, (by first | exact HKS.out | (rw [HWR.out]; exact HKR.out))⟩
          rw [← HV2.out]
          simp [results, Try.results91, go_sem, r0, r1, r2, r3, brV]
      · obtain rfl : k = l.length := by omega
        have hlti : ¬ ((l.length : Nat) : Int) < (l.length : Int) := by omega
        have hRn : R = none := by rw [← HBr.out]; exact brS_out rfl
        have HV2 := Hid_mk (show brV false none = V by rw [← hRn]; exact HV.out)
        have hs := HS.out
        obtain ⟨WR, hWR, hsr, hkr⟩ := put_nul hs (HK0.out.trans HKp.out fun i hi e => by have := Hq.out; omega) (fun h => by have := Hq.out; omega)
        have HWR := Hid_mk hWR
        have HSr := Hid_mk hsr
        have HKR := Hid_mk hkr
        clear hWR hsr hkr hRn
        obtain ⟨z0, z1, z2, z3⟩ := hs.cells
        have zw := hs.warm
        clear hs
        go_wp2
        rw [HWR.out]
        obtain ⟨r0, r1, r2, r3⟩ := HSr.out.cells
        refine bodyPost_ret (v := V) ?_ rfl ⟨rfl, HKR.out⟩
        rw [← HV2.out]
        simp only [wd_nul] at r0 r1 r2 r3
        simp [results, Try.results91, go_sem, r0, r1, r2, r3, brV, wd_nul]
  · have hf2 := HF.out
    simp only [if_true] at hf2
    subst hf2
    go_wp2_with fail
    try rw [HW0.out]
    try rw [Hq.out]
    go_loopw [1] (fun i wr => BrRel W0 q it l (k0 + 1) R i wr) (fun i _ => l.length - (intOf i).toNat)
    case atStart => exact ⟨k0 + 1, l.length + 1, nul, by first | rfl | (push_cast; rfl), Nat.le_refl _, hfl, by omega, HR.out, HZ.out, Kp.refl _ _⟩
    case round =>
      obtain ⟨k, fu, s, rfl, hfk, hkl2, hfu, hbr, hs, hkp⟩ := hrel
      obtain ⟨fu', rfl⟩ : ∃ f', fu = f' + 1 := ⟨fu - 1, by omega⟩
      have hki : (0 : Int) ≤ (k : Int) := Int.natCast_nonneg _
      have hk1 : wrap64 ((k : Int) + 1) = (k : Int) + 1 := IntWalk.wrap64_in _ (by omega)
      have hk2 : IntKind.i64.wrap ((k : Int) + 1) = (k : Int) + 1 := IntWalk.i64_in _ (by omega)
      have HS := Hid_mk hs
      have HKp := Hid_mk hkp
      have HBr := Hid_mk hbr
      have HFu := Hid_mk hfu
      clear hs hkp hbr hfu
      by_cases hlt : k < l.length
      · have hlti : (k : Int) < (l.length : Int) := by omega
        have hg := fun h => st_get l k h
        obtain ⟨x, hx⟩ : ∃ x, (l.getD k 0).toNat = x := ⟨_, rfl⟩
        rw [hx] at hg
        have HX := Hid_mk hx
        clear hx
        by_cases hgo : x ≠ 93 ∨ k = k0 + 1
        · have HGo := Hid_mk hgo
          have HLt := Hid_mk hlt
          clear hlt
          rcases Decidable.em (x = 93) with hx | hx
          · have hkF : k0 + 1 = k := by rcases hgo with h | h; exact absurd hx h; exact h.symm
            subst hx
            subst hkF
            clear hgo
            go_wp2_with fail
            refine (HIt.out _ (k0 + 1) (by obtain ⟨m, h⟩ := HM.out; exact ⟨m, HKp.out.cell' (HK0.out.cell' h id) (by have h9 := World.block_lt_of_cell? _ _ h; simp only at h9; have h8 := Hq.out; show ¬ 0 = q; omega)⟩) HLt.out).mono ?_
            rintro e w2 ⟨g, n, rfl, hgn, k2⟩
            have HGn := Hid_mk hgn
            have HK2 := Hid_mk (HKp.out.trans k2 fun i _ e => e.elim)
            have hs2 := HS.out.kept k2 id
            have HS2 := Hid_mk hs2
            obtain ⟨r, hr⟩ : ∃ r, it ((k0 + 1)) = r := ⟨_, rfl⟩
            rw [hr] at HGn ⊢
            have HRr := Hid_mk hr
            clear hgn k2 hr
            obtain ⟨z0, z1, z2, z3⟩ := hs2.cells
            have zw := hs2.warm
            have y0 := fun o => ((Kp.refl No w2).alloc o).cell' z0 id
            have y1 := fun o => ((Kp.refl No w2).alloc o).cell' z1 id
            have y2 := fun o => ((Kp.refl No w2).alloc o).cell' z2 id
            have y3 := fun o => ((Kp.refl No w2).alloc o).cell' z3 id
            have yw := fun o => (HS2.out.kept ((Kp.refl No w2).alloc o) id).warm
            clear hs2
            cases r with
            | none =>
              have hRn : R = none := by rw [← HBr.out]; exact brS_bad HLt.out (.inr rfl) HRr.out
              obtain ⟨WR, hWR, hsr, hkr⟩ := put_nul (HS2.out.kept ((Kp.refl No w2).alloc (.cells #[.int .u64 (wd g 0 64 : Nat), .int .u64 (wd g 64 64 : Nat), .int .u64 (wd g 128 64 : Nat), .int .u64 (wd g 192 64 : Nat)] 24)) id) ((HK0.out.trans HK2.out fun i hi e => by have := Hq.out; omega).alloc _) (fun h => by have := Hq.out; omega)
              have HWR := Hid_mk hWR
              have HSr := Hid_mk hsr
              have HKR := Hid_mk hkr
              clear hWR hsr hkr
              have HV2 := Hid_mk (show brV _ none = V by rw [← hRn]; exact HV.out)
              clear hRn
              simp only [Option.isSome_none]
              go_wp2
              rw [HWR.out]
              obtain ⟨r0, r1, r2, r3⟩ := HSr.out.cells
              refine bodyPost_ret (v := V) ?_ rfl ⟨rfl, HKR.out⟩
              rw [← HV2.out]
              simp only [wd_nul] at r0 r1 r2 r3
              simp [results, Try.results91, go_sem, r0, r1, r2, r3, brV, wd_nul]
            | some y =>
              have hy := HGn.out y rfl
              subst hy
              have hb2 : brS it l (k0 + 1) fu' n (fun x => s x || g x) = R := by rw [← HBr.out]; exact (brS_step HLt.out (.inr rfl) HRr.out).symm
              have hn := HAd.out _ _ HLt.out HRr.out
              simp only at hn
              have HB2 := Hid_mk hb2
              clear hb2
              simp only [Option.isSome_some]
              go_wp2_with fail
              with_reducible refine (or_any _ s g).mono ?_
              rintro e w3 ⟨rfl, k3⟩
              have hk3 := ((Kp.refl No w2).alloc (.cells #[.int .u64 (wd g 0 64 : Nat), .int .u64 (wd g 64 64 : Nat), .int .u64 (wd g 128 64 : Nat), .int .u64 (wd g 192 64 : Nat)] 24)).trans' k3
              have hs3 := HS2.out.kept hk3 id
              obtain ⟨WR, hWR, hsr, hkr⟩ := put_any hs3 (fun x => s x || g x) (HK2.out.trans hk3 fun i _ e => e.elim) (fun _ => rfl)
              have HWR := Hid_mk hWR
              have HSr := Hid_mk hsr
              have HKR := Hid_mk hkr
              clear hWR hsr hkr z0 z1 z2 z3 zw y0 y1 y2 y3 yw k3 hk3
              obtain ⟨z0, z1, z2, z3⟩ := hs3.cells
              have zw := hs3.warm
              clear hs3
              go_wp2
              go_roundw
              case rel => exact ⟨n, fu', _, rfl, by have := HLt.out; omega, hn.2, by have := HFu.out; omega, HB2.out, by rw [HWR.out]; exact HSr.out, by rw [HWR.out]; exact HKR.out⟩
              case measure => have := HLt.out; simp only [intOf]; omega
          · have hxi : ((x : Int) != 93) = true := by simp; omega
            clear hgo hx
            go_wp2_with fail
            refine (HIt.out _ k (by obtain ⟨m, h⟩ := HM.out; exact ⟨m, HKp.out.cell' (HK0.out.cell' h id) (by have h9 := World.block_lt_of_cell? _ _ h; simp only at h9; have h8 := Hq.out; show ¬ 0 = q; omega)⟩) HLt.out).mono ?_
            rintro e w2 ⟨g, n, rfl, hgn, k2⟩
            have HGn := Hid_mk hgn
            have HK2 := Hid_mk (HKp.out.trans k2 fun i _ e => e.elim)
            have hs2 := HS.out.kept k2 id
            have HS2 := Hid_mk hs2
            obtain ⟨r, hr⟩ : ∃ r, it (k) = r := ⟨_, rfl⟩
            rw [hr] at HGn ⊢
            have HRr := Hid_mk hr
            clear hgn k2 hr
            obtain ⟨z0, z1, z2, z3⟩ := hs2.cells
            have zw := hs2.warm
            have y0 := fun o => ((Kp.refl No w2).alloc o).cell' z0 id
            have y1 := fun o => ((Kp.refl No w2).alloc o).cell' z1 id
            have y2 := fun o => ((Kp.refl No w2).alloc o).cell' z2 id
            have y3 := fun o => ((Kp.refl No w2).alloc o).cell' z3 id
            have yw := fun o => (HS2.out.kept ((Kp.refl No w2).alloc o) id).warm
            clear hs2
            cases r with
            | none =>
              have hRn : R = none := by rw [← HBr.out]; exact brS_bad HLt.out (by rw [HX.out]; exact HGo.out) HRr.out
              obtain ⟨WR, hWR, hsr, hkr⟩ := put_nul (HS2.out.kept ((Kp.refl No w2).alloc (.cells #[.int .u64 (wd g 0 64 : Nat), .int .u64 (wd g 64 64 : Nat), .int .u64 (wd g 128 64 : Nat), .int .u64 (wd g 192 64 : Nat)] 24)) id) ((HK0.out.trans HK2.out fun i hi e => by have := Hq.out; omega).alloc _) (fun h => by have := Hq.out; omega)
              have HWR := Hid_mk hWR
              have HSr := Hid_mk hsr
              have HKR := Hid_mk hkr
              clear hWR hsr hkr
              have HV2 := Hid_mk (show brV _ none = V by rw [← hRn]; exact HV.out)
              clear hRn
              simp only [Option.isSome_none]
              go_wp2
              rw [HWR.out]
              obtain ⟨r0, r1, r2, r3⟩ := HSr.out.cells
              refine bodyPost_ret (v := V) ?_ rfl ⟨rfl, HKR.out⟩
              rw [← HV2.out]
              simp only [wd_nul] at r0 r1 r2 r3
              simp [results, Try.results91, go_sem, r0, r1, r2, r3, brV, wd_nul]
            | some y =>
              have hy := HGn.out y rfl
              subst hy
              have hb2 : brS it l (k0 + 1) fu' n (fun x => s x || g x) = R := by rw [← HBr.out]; exact (brS_step HLt.out (by rw [HX.out]; exact HGo.out) HRr.out).symm
              have hn := HAd.out _ _ HLt.out HRr.out
              simp only at hn
              have HB2 := Hid_mk hb2
              clear hb2
              simp only [Option.isSome_some]
              go_wp2_with fail
              with_reducible refine (or_any _ s g).mono ?_
              rintro e w3 ⟨rfl, k3⟩
              have hk3 := ((Kp.refl No w2).alloc (.cells #[.int .u64 (wd g 0 64 : Nat), .int .u64 (wd g 64 64 : Nat), .int .u64 (wd g 128 64 : Nat), .int .u64 (wd g 192 64 : Nat)] 24)).trans' k3
              have hs3 := HS2.out.kept hk3 id
              obtain ⟨WR, hWR, hsr, hkr⟩ := put_any hs3 (fun x => s x || g x) (HK2.out.trans hk3 fun i _ e => e.elim) (fun _ => rfl)
              have HWR := Hid_mk hWR
              have HSr := Hid_mk hsr
              have HKR := Hid_mk hkr
              clear hWR hsr hkr z0 z1 z2 z3 zw y0 y1 y2 y3 yw k3 hk3
              obtain ⟨z0, z1, z2, z3⟩ := hs3.cells
              have zw := hs3.warm
              clear hs3
              go_wp2
              go_roundw
              case rel => exact ⟨n, fu', _, rfl, by have := HLt.out; omega, hn.2, by have := HFu.out; omega, HB2.out, by rw [HWR.out]; exact HSr.out, by rw [HWR.out]; exact HKR.out⟩
              case measure => have := HLt.out; simp only [intOf]; omega
        · obtain ⟨hx3, hkf⟩ : x = 93 ∧ ¬ k = k0 + 1 := ⟨Decidable.byContradiction fun h => hgo (.inl h), fun h => hgo (.inr h)⟩
          subst hx3
          have hkfi : ((k : Int) == (k0 : Int) + 1) = false := by simp; omega
          have hne : ¬ (k : Int) = (l.length : Int) := by omega
          have hRn : R = some (s, k + 1) := by rw [← HBr.out]; exact brS_end hlt HX.out hkf
          have HV2 := Hid_mk (show brV true (some (s, k + 1)) = V by rw [← hRn]; exact HV.out)
          have hs := HS.out
          have hkp := HKp.out
          clear hRn hgo
          obtain ⟨z0, z1, z2, z3⟩ := hs.cells
          have zw := hs.warm
          have HKS := Hid_mk (HK0.out.trans hkp fun i hi e => by have := Hq.out; omega)
          clear hs hkp
          go_wp2_with fail
          with_reducible refine (not_any _ s).mono ?_
          rintro e w3 ⟨rfl, k3⟩
          have hs3 := HS.out.kept k3 id
          obtain ⟨WR, hWR, hsr, hkr⟩ := put_any hs3 (fun x => !s x) (HKS.out.trans' k3) (fun h => by have := Hq.out; omega)
          have HWR := Hid_mk hWR
          have HSr := Hid_mk hsr
          have HKR := Hid_mk hkr
          clear z0 z1 z2 z3 zw k3 hWR hsr hkr
          obtain ⟨z0, z1, z2, z3⟩ := hs3.cells
          have zw := hs3.warm
          clear hs3
          obtain ⟨WR2, hWR2, hsr2, hkr2⟩ := put_any HSr.out (fun x => !s x) HKR.out (fun h => by have := Hq.out; omega)
          have HWR2 := Hid_mk hWR2
          have HSr2 := Hid_mk hsr2
          have HKR2 := Hid_mk hkr2
          clear hWR2 hsr2 hkr2
          go_wp2
          rw [HWR.out, HWR2.out]
          obtain ⟨r0, r1, r2, r3⟩ := HSr2.out.cells
          refine bodyPost_ret (v := V) ?_ rfl ⟨rfl, HKR2.out⟩
          rw [← HV2.out]
          simp [results, Try.results91, go_sem, r0, r1, r2, r3, brV]
      · obtain rfl : k = l.length := by omega
        have hlti : ¬ ((l.length : Nat) : Int) < (l.length : Int) := by omega
        have hRn : R = none := by rw [← HBr.out]; exact brS_out rfl
        have HV2 := Hid_mk (show brV true none = V by rw [← hRn]; exact HV.out)
        have hs := HS.out
        obtain ⟨WR, hWR, hsr, hkr⟩ := put_nul hs (HK0.out.trans HKp.out fun i hi e => by have := Hq.out; omega) (fun h => by have := Hq.out; omega)
        have HWR := Hid_mk hWR
        have HSr := Hid_mk hsr
        have HKR := Hid_mk hkr
        clear hWR hsr hkr hRn
        obtain ⟨z0, z1, z2, z3⟩ := hs.cells
        have zw := hs.warm
        clear hs
        go_wp2
        rw [HWR.out]
        obtain ⟨r0, r1, r2, r3⟩ := HSr.out.cells
        refine bodyPost_ret (v := V) ?_ rfl ⟨rfl, HKR.out⟩
        rw [← HV2.out]
        simp only [wd_nul] at r0 r1 r2 r3
        simp [results, Try.results91, go_sem, r0, r1, r2, r3, brV, wd_nul]

end Go.Proofs.Ytdognehkbahmdaa.cls
