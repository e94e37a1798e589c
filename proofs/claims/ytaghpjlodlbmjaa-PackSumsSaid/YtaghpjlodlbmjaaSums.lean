/- PackSums: the law's walk. -/
import Derived.Test.YtaghpjlodlbmjaaRefUnseal
import Derived.Test.YtaghpjlodlbmjaaSumLaw
import Derived.Deep.RegionHeld3
import Derived.RegionCalls
namespace Go.Proofs.Ytaghpjlodlbmjaa.sums
open Go.RowKit Go.Proofs.Ytaghpjlodlbmjaa.sum Go.Proofs.Ytaghpjlodlbmjaa.kept Go.Proofs.Ytaghpjlodlbmjaa.app Go.Proofs.Ytaghpjlodlbmjaa.writer Go.Proofs.Ytaghpjlodlbmjaa.clone Go.Proofs.Ytaghpjlodlbmjaa.known Go.Proofs.Ytaghpjlodlbmjaa.seal Go.Proofs.Ytaghpjlodlbmjaa.unseal Go.Proofs.Ytaghpjlodlbmjaa.turnedPlain
set_option linter.unusedVariables false

/-- what bytes are unsealed as: bytes, and what was wrong -/
def un (bs : List UInt8) : List UInt8 × Nat :=
  if bs.length < 6 then ([], 10) else if pl.sum (bs.take (bs.length - 6)) = said (bs.drop (bs.length - 6)) then (bs.take (bs.length - 6), 0) else ([], 13)

def Un (w : World) (bs : List UInt8) (e : Ending) (w' : World) : Prop :=
  ∃ v', e = .returned (.tuple #[v', .int .i64 ((un bs).2 : Int)]) ∧ Bs w' v' (un bs).1 ∧ Kp No w w'

theorem bs_nil (w : World) : Bs w (.slice none 0 0) [] := ⟨none, 0, rfl, Nat.le_refl _, Nat.zero_le _, fun h => absurd rfl h⟩

theorem un_of {w w' : World} {bs : List UInt8} {e : Ending} (h : UnsealPost w bs e w') : Un w bs e w' := by
  unfold UnsealPost at h
  unfold Un un
  split at h
  · rename_i h1
    rw [if_pos h1]
    exact ⟨_, h.2, bs_nil _, h.1⟩
  · rename_i h1
    rw [if_neg h1]
    split at h
    · rename_i h2
      rw [if_pos h2]
      obtain ⟨hk, v', he, ho⟩ := h
      exact ⟨v', he, owns_bs ho, hk⟩
    · rename_i h2
      rw [if_neg h2]
      exact ⟨_, h.2, bs_nil _, h.1⟩

theorem un_pack (w : World) (v : Value) (bs : List UInt8) (h : Bs w v bs) (hm : bs.length ≤ 140737488355328) : Calls Try.prog 43 #[v] w (Un w bs) :=
  (unseal_all w v bs h hm).mono fun _ _ h => un_of h

theorem un_ref (w : World) (v : Value) (bs : List UInt8) (h : Bs w v bs) (hm : bs.length ≤ 140737488355328) : Calls Try.prog 44 #[v] w (Un w bs) := by
  by_cases hl : bs.length < 6
  · refine (ref.unseal_short w v bs h hl).mono ?_
    rintro e w' ⟨rfl, rfl⟩
    refine un_of ?_
    unfold UnsealPost
    rw [if_pos hl]
    exact ⟨Kp.refl _ _, rfl⟩
  · have H := h
    obtain ⟨a, cap, rfl, hlc, hmx, hc⟩ := h
    obtain ⟨b, o, rfl, hcell⟩ := hc (by intro e; subst e; simp at hl)
    obtain ⟨k, hk⟩ : ∃ k, bs.length = k + 6 := ⟨bs.length - 6, by omega⟩
    rw [hk] at H ⊢
    refine (ref.unseal_long w b o k cap bs H (by omega)).mono ?_
    intro e w' h
    refine un_of ?_
    have hi := ref.seal_iff bs (by omega)
    unfold UnsealPost
    rw [if_neg hl]
    rw [hk, show k + 6 - 6 = k by omega] at hi ⊢
    by_cases h2 : sealed (bs.take k) = bs
    · rw [if_pos h2] at h
      rw [if_pos (hi.1 h2)]
      exact h
    · rw [if_neg h2] at h
      rw [if_neg fun x => h2 (hi.2 x)]
      exact h

theorem un_sealed (bs : List UInt8) : un (sealed bs) = (bs, 0) := by
  have so := sealed_ok bs
  unfold un
  rw [if_neg (by omega), so.1, show bs.length + 6 - 6 = bs.length by omega, so.2.1, so.2.2, if_pos rfl]

/-- all that lies about -/
structure Six (w : World) (bs xs : List UInt8) (vb vo vx vy vs vu : Value) : Prop where
  b : Bs w vb bs
  o : Bs w vo bs
  x : Bs w vx xs
  y : Bs w vy xs
  s : Bs w vs (sealed bs)
  u : Bs w vu bs
theorem Six.no {w w' : World} {bs xs : List UInt8} {vb vo vx vy vs vu : Value} (h : Six w bs xs vb vo vx vy vs vu) (hk : Kp No w w') : Six w' bs xs vb vo vx vy vs vu :=
  ⟨bs_no h.b hk, bs_no h.o hk, bs_no h.x hk, bs_no h.y hk, bs_no h.s hk, bs_no h.u hk⟩

/-- a stronger condition on the world serves as well -/
theorem wpAnyH_imp {P : Program} {ops : Array Oper} {Q : Exit → Act → World → Prop} {md : Region.Mode} {S S' : World → Prop} (h : ∀ w, S' w → S w) : ∀ (fuel : Nat) (listed : Array Bool) (a : Act) (w : World), wpAnyH P md ops Q S' fuel listed a w → wpAnyH P md ops Q S fuel listed a w
  | 0, _, _, _, hh => hh
  | fuel + 1, listed, a, w, hh => ⟨hh.1, fun i hi => wpOp_mono (fun a' w' h' => ⟨h _ h'.1, wpAnyH_imp h fuel _ a' w' h'.2⟩) (hh.2 i hi)⟩

theorem mkS {w5 W : World} {bs xs : List UInt8} {vb vo vx vy vs vu : Value} (h : Six W bs xs vb vo vx vy vs vu) (hk : Kp No w5 W) :
    (convert 28 9 vs).run Try.prog W = .ok (.string ⟨(sealed bs).toArray⟩) W ∧ (convert 28 9 vx).run Try.prog W = .ok (.string ⟨xs.toArray⟩) W ∧
    (convert 28 9 vy).run Try.prog W = .ok (.string ⟨xs.toArray⟩) W ∧ (convert 28 9 vu).run Try.prog W = .ok (.string ⟨bs.toArray⟩) W ∧
    (convert 28 9 vb).run Try.prog W = .ok (.string ⟨bs.toArray⟩) W ∧ (convert 28 9 vo).run Try.prog W = .ok (.string ⟨bs.toArray⟩) W ∧
    Hid (Six W bs xs vb vo vx vy vs vu ∧ Kp No w5 W) :=
  ⟨conv_bs h.s, conv_bs h.x, conv_bs h.y, conv_bs h.u, conv_bs h.b, conv_bs h.o, Hid_mk ⟨h, hk⟩⟩

set_option maxRecDepth 100000 in
set_option maxHeartbeats 8000000 in
theorem sums_any (w : World) (vb : Value) (bs : List UInt8) (hb : Bs w vb bs) (hl : bs.length + 6 ≤ 140737488355328) :
    Calls Try.prog 11 #[vb] w fun e w' => e = .returned (.bool true) ∧ Kp No w w' := by
  have HB := Hid_mk hb
  have k0 : Kp No w (w.alloc (.cells #[] 5)) := (Kp.refl _ _).alloc _
  have h0 : (w.alloc (.cells #[] 5)).ownsRow w.heap.size 5 1 (.slice (some ⟨w.heap.size, 0, none⟩) 0 0) 0 [] := World.ownsRow_made w #[] 0 (Nat.le_refl _) (by decide) rfl
  have HX := Hid_mk (bs_no hb k0)
  obtain ⟨⟨xs, c⟩, hun⟩ : ∃ t, un bs = t := ⟨_, rfl⟩
  have HUn := Hid_mk hun
  clear hb hun
  go_enter Try.func11, Try.ntmps11
  go_wp2_with (at_builtin; (refine wpList_append_bs _ rfl _ _ rfl w.heap.size _ [] rfl h0 _ bs rfl HX.out ?c1 ?c2 ?_))
  case c1 => simp; omega
  case c2 => simp
  intro vo w1 happ
  have ho1 : w1.ownsRow w.heap.size 5 1 vo bs.length (bs.map B) := by simpa using happ.1
  have HK1 := Hid_mk (k0.grown happ.2.1 fun k hk e => by simp [Value.ownBlock] at e; omega)
  have HO1 := Hid_mk (owns_bs (bs := bs) ho1)
  clear happ k0 h0 ho1
  go_wp2_with fail
  refine (un_pack w1 vo bs HO1.out (by omega)).mono ?_
  rintro e w2 ⟨vx, rfl, hx, hk2⟩
  rw [HUn.out] at hx ⊢
  have HK2 := Hid_mk (HK1.out.trans' hk2)
  have HX2 := Hid_mk hx
  have HO2 := Hid_mk (bs_no HO1.out hk2)
  clear hx hk2
  go_wp2_with fail
  refine (un_ref w2 vb bs (bs_no HB.out HK2.out) (by omega)).mono ?_
  rintro e w3 ⟨vy, rfl, hy, hk3⟩
  rw [HUn.out] at hy ⊢
  have HK3 := Hid_mk (HK2.out.trans' hk3)
  have HY3 := Hid_mk hy
  have HX3 := Hid_mk (bs_no HX2.out hk3)
  have HO3 := Hid_mk (bs_no HO2.out hk3)
  clear hy hk3
  go_wp2_with fail
  refine (seal.seal_any w3 vo bs HO3.out hl).mono ?_
  rintro e w4 ⟨vs, rfl, hs, hk4⟩
  have HS4 := Hid_mk (owns_bs hs)
  have HY4 := Hid_mk (bs_no HY3.out hk4)
  have HX4 := Hid_mk (bs_no HX3.out hk4)
  have HO4 := Hid_mk (bs_no HO3.out hk4)
  have HK4 := Hid_mk (HK3.out.trans' hk4)
  clear hs hk4
  go_wp2_with fail
  refine (un_pack w4 vs (sealed bs) HS4.out (by rw [(sealed_ok bs).1]; exact hl)).mono ?_
  rintro e w5 ⟨vu, rfl, hu, hk5⟩
  rw [un_sealed] at hu ⊢
  have HK5 := Hid_mk (HK4.out.trans' hk5)
  have H5 : Hid (Six w5 bs xs vb vo vx vy vs vu) := Hid_mk ⟨bs_no HB.out HK5.out, bs_no HO4.out hk5, bs_no HX4.out hk5, bs_no HY4.out hk5, bs_no HS4.out hk5, hu⟩
  clear hu hk5 HS4 HY4 HX4 HO4 HK4 HO3 HX3 HY3 HK3 HO2 HX2 HK2 HO1 HK1 HX
  have hkn : ∀ W, Hid (Six W bs xs vb vo vx vy vs vu ∧ Kp No w5 W) → Calls Try.prog 26 #[] W fun e W1 => e = .returned (.bool true) ∧ Hid (Six W1 bs xs vb vo vx vy vs vu ∧ Kp No w5 W1) := by
    intro W hW
    refine (known_any W).mono ?_
    rintro e W1 ⟨rfl, hk⟩
    exact ⟨rfl, Hid_mk ⟨hW.out.1.no hk, hW.out.2.trans' hk⟩⟩
  have HKn := Hid_mk hkn
  have hsm : ∀ W, Hid (Six W bs xs vb vo vx vy vs vu ∧ Kp No w5 W) → Calls Try.prog 46 #[vo] W fun e W1 => e = .returned (.bool true) ∧ W = W1 := fun W hW => sumLaw.sum_law W vo bs hW.out.1.o
  have HSm := Hid_mk hsm
  have hsl : ∀ W, Hid (Six W bs xs vb vo vx vy vs vu ∧ Kp No w5 W) → Calls Try.prog 47 #[vb] W fun e W1 => ∃ v, e = .returned v ∧ (convert 28 9 v).run Try.prog W1 = .ok (.string ⟨(sealed bs).toArray⟩) W1 ∧ Hid (Six W1 bs xs vb vo vx vy vs vu ∧ Kp No w5 W1) := by
    intro W hW
    refine (ref.seal_any W vb bs hW.out.1.b hl).mono ?_
    rintro e W1 ⟨v, rfl, ho, hk⟩
    exact ⟨v, rfl, conv_bs (owns_bs ho), Hid_mk ⟨hW.out.1.no hk, hW.out.2.trans' hk⟩⟩
  have HSl := Hid_mk hsl
  have H0 : Hid (Six w5.drew bs xs vb vo vx vy vs vu ∧ Kp No w5 w5.drew) := Hid_mk ⟨H5.out.no (Kp.refl No w5).drew, (Kp.refl No w5).drew⟩
  clear hkn hsl hsm
  go_wp2
  refine wp_region_held_drew (S := (fun W => (convert 28 9 vs).run Try.prog W = .ok (.string ⟨(sealed bs).toArray⟩) W ∧ (convert 28 9 vx).run Try.prog W = .ok (.string ⟨xs.toArray⟩) W ∧
    (convert 28 9 vy).run Try.prog W = .ok (.string ⟨xs.toArray⟩) W ∧ (convert 28 9 vu).run Try.prog W = .ok (.string ⟨bs.toArray⟩) W ∧
    (convert 28 9 vb).run Try.prog W = .ok (.string ⟨bs.toArray⟩) W ∧ (convert 28 9 vo).run Try.prog W = .ok (.string ⟨bs.toArray⟩) W ∧
    Hid (Six W bs xs vb vo vx vy vs vu ∧ Kp No w5 W))) (by kernel_rfl) (mkS H0.out.1 H0.out.2) (fun hHeld => ?_)
  refine wpAnyH_ready (rs := [0]) (by kernel_rfl) (by simp) ?_
  refine AllReadyH.cons (o := { dst := some 31, op := Go.Op.call { callee := Go.Callee.value (Go.Operand.func 26), args := #[], argTypes := #[] }, type := 4, pos := "law.go:256", after := #[], guard := none }) rfl (fun K hK => ?_) AllReadyH.nil
  go_simp
  (with_reducible refine (HKn.out _ H0).mono ?_)
  rintro e w6 ⟨rfl, h6⟩
  have hS6 := mkS h6.out.1 h6.out.2
  refine hK.out _ _ hS6 (fun hHeld => ?_)
  clear hK K
  try simp only [Act.put, List.setIfInBounds_toArray, List.set_cons_zero, List.set_cons_succ]
  refine wpAnyH_take (i := 1) (oi := { dst := some 32, op := Go.Op.move (Go.Operand.tmp 31), type := 4, pos := "law.go:256", after := #[{ on := 0, ground := Go.Ground.data }, { on := 0, ground := Go.Ground.chain }], guard := none }) (v := ?_) rfl (by kernel_rfl) (by kernel_rfl) (by kernel_rfl) (fun _ _ _ h => h) (Or.inl ⟨by rfl, ?_⟩) (by assumption) ?_
  rotate_left 1
  · intro w hSw; (try dsimp only at hSw); go_simp; all_goals (with_reducible rfl)
  try simp only [Act.put, List.setIfInBounds_toArray, List.set_cons_zero, List.set_cons_succ]
  refine wpAnyH_take (i := 2) (oi := { dst := some 33, op := Go.Op.move (Go.Operand.tmp 3), type := 28, pos := "law.go:256", after := #[{ on := 1, ground := Go.Ground.guard }], guard := some (1, true) }) (v := ?_) rfl (by kernel_rfl) (by kernel_rfl) (by kernel_rfl) (fun _ _ _ h => h) (Or.inl ⟨by rfl, ?_⟩) (by assumption) ?_
  rotate_left 1
  · intro w hSw; (try dsimp only at hSw); go_simp; all_goals (with_reducible rfl)
  try simp only [Act.put, List.setIfInBounds_toArray, List.set_cons_zero, List.set_cons_succ]
  refine wpAnyH_ready (rs := [3]) (by kernel_rfl) (by simp) ?_
  refine AllReadyH.cons (o := { dst := some 34, op := Go.Op.call { callee := Go.Callee.value (Go.Operand.func 46), args := #[Go.Operand.tmp 33], argTypes := #[28] }, type := 4, pos := "law.go:256", after := #[{ on := 2, ground := Go.Ground.data }, { on := 1, ground := Go.Ground.chain }, { on := 1, ground := Go.Ground.guard }], guard := some (1, true) }) rfl (fun K hK => ?_) AllReadyH.nil
  go_simp
  (with_reducible refine (HSm.out _ h6).mono ?_)
  rintro e w' ⟨rfl, rfl⟩
  refine hK.out _ _ hS6 (fun hHeld => ?_)
  clear hK K
  try simp only [Act.put, List.setIfInBounds_toArray, List.set_cons_zero, List.set_cons_succ]
  refine wpAnyH_take (i := 4) (oi := { dst := some 35, op := Go.Op.pick (Go.Operand.tmp 32) (Go.Operand.tmp 34) (Go.Operand.const (Go.Value.bool false)), type := 4, pos := "law.go:256", after := #[{ on := 1, ground := Go.Ground.data }, { on := 3, ground := Go.Ground.data }], guard := none }) (v := ?_) rfl (by kernel_rfl) (by kernel_rfl) (by kernel_rfl) (fun _ _ _ h => h) (Or.inl ⟨by rfl, ?_⟩) (by assumption) ?_
  rotate_left 1
  · intro w hSw; (try dsimp only at hSw); go_simp; all_goals (with_reducible rfl)
  try simp only [Act.put, List.setIfInBounds_toArray, List.set_cons_zero, List.set_cons_succ]
  refine wpAnyH_take (i := 5) (oi := { dst := some 36, op := Go.Op.move (Go.Operand.tmp 35), type := 4, pos := "law.go:256", after := #[{ on := 4, ground := Go.Ground.data }, { on := 3, ground := Go.Ground.chain }], guard := none }) (v := ?_) rfl (by kernel_rfl) (by kernel_rfl) (by kernel_rfl) (fun _ _ _ h => h) (Or.inl ⟨by rfl, ?_⟩) (by assumption) ?_
  rotate_left 1
  · intro w hSw; (try dsimp only at hSw); go_simp; all_goals (with_reducible rfl)
  try simp only [Act.put, List.setIfInBounds_toArray, List.set_cons_zero, List.set_cons_succ]
  refine wpAnyH_take (i := 6) (oi := { dst := some 37, op := Go.Op.move (Go.Operand.tmp 8), type := 28, pos := "law.go:256", after := #[{ on := 5, ground := Go.Ground.guard }], guard := some (5, true) }) (v := ?_) rfl (by kernel_rfl) (by kernel_rfl) (by kernel_rfl) (fun _ _ _ h => h) (Or.inl ⟨by rfl, ?_⟩) (by assumption) ?_
  rotate_left 1
  · intro w hSw; (try dsimp only at hSw); go_simp; all_goals (with_reducible rfl)
  try simp only [Act.put, List.setIfInBounds_toArray, List.set_cons_zero, List.set_cons_succ]
  refine wpAnyH_take (i := 7) (oi := { dst := some 38, op := Go.Op.convert 28 9 (Go.Operand.tmp 37), type := 9, pos := "law.go:256", after := #[{ on := 6, ground := Go.Ground.data }, { on := 5, ground := Go.Ground.guard }], guard := some (5, true) }) (v := ?_) rfl (by kernel_rfl) (by kernel_rfl) (by kernel_rfl) (fun _ _ _ h => h) (Or.inl ⟨by rfl, ?_⟩) (by assumption) ?_
  rotate_left 1
  · intro w hSw; (try dsimp only at hSw); go_simp; all_goals (with_reducible rfl)
  try simp only [Act.put, List.setIfInBounds_toArray, List.set_cons_zero, List.set_cons_succ]
  refine wpAnyH_take (i := 8) (oi := { dst := some 39, op := Go.Op.move (Go.Operand.tmp 0), type := 28, pos := "law.go:256", after := #[{ on := 5, ground := Go.Ground.guard }], guard := some (5, true) }) (v := ?_) rfl (by kernel_rfl) (by kernel_rfl) (by kernel_rfl) (fun _ _ _ h => h) (Or.inl ⟨by rfl, ?_⟩) (by assumption) ?_
  rotate_left 1
  · intro w hSw; (try dsimp only at hSw); go_simp; all_goals (with_reducible rfl)
  try simp only [Act.put, List.setIfInBounds_toArray, List.set_cons_zero, List.set_cons_succ]
  refine wpAnyH_ready (rs := [9]) (by kernel_rfl) (by simp) ?_
  refine AllReadyH.cons (o := { dst := some 40, op := Go.Op.call { callee := Go.Callee.value (Go.Operand.func 47), args := #[Go.Operand.tmp 39], argTypes := #[28] }, type := 28, pos := "law.go:256", after := #[{ on := 8, ground := Go.Ground.data }, { on := 5, ground := Go.Ground.chain }, { on := 5, ground := Go.Ground.guard }], guard := some (5, true) }) rfl (fun K hK => ?_) AllReadyH.nil
  go_simp
  (with_reducible refine (HSl.out _ h6).mono ?_)
  rintro e w7 ⟨v7, rfl, hcv7, h7⟩
  have hS7 := mkS h7.out.1 h7.out.2
  refine hK.out _ _ hS7 (fun hHeld => ?_)
  clear hK K
  try simp only [Act.put, List.setIfInBounds_toArray, List.set_cons_zero, List.set_cons_succ]
  refine wpAnyH_imp (S' := (fun W => (convert 28 9 vs).run Try.prog W = .ok (.string ⟨(sealed bs).toArray⟩) W ∧ (convert 28 9 vx).run Try.prog W = .ok (.string ⟨xs.toArray⟩) W ∧
    (convert 28 9 vy).run Try.prog W = .ok (.string ⟨xs.toArray⟩) W ∧ (convert 28 9 vu).run Try.prog W = .ok (.string ⟨bs.toArray⟩) W ∧
    (convert 28 9 vb).run Try.prog W = .ok (.string ⟨bs.toArray⟩) W ∧ (convert 28 9 vo).run Try.prog W = .ok (.string ⟨bs.toArray⟩) W ∧
    Hid (Six W bs xs vb vo vx vy vs vu ∧ Kp No w5 W) ∧ (convert 28 9 v7).run Try.prog W = .ok (.string ⟨(sealed bs).toArray⟩) W)) (fun _ h => ⟨h.1, h.2.1, h.2.2.1, h.2.2.2.1, h.2.2.2.2.1, h.2.2.2.2.2.1, h.2.2.2.2.2.2.1⟩) _ _ _ _ ?_
  have hS8 := And.intro hS7.1 (And.intro hS7.2.1 (And.intro hS7.2.2.1 (And.intro hS7.2.2.2.1 (And.intro hS7.2.2.2.2.1 (And.intro hS7.2.2.2.2.2.1 (And.intro hS7.2.2.2.2.2.2 hcv7))))))
  clear hS6 hHeld hS7 hcv7 HKn HSm HSl
  refine wpAnyH_take (i := 10) (oi := { dst := some 41, op := Go.Op.convert 28 9 (Go.Operand.tmp 40), type := 9, pos := "law.go:256", after := #[{ on := 9, ground := Go.Ground.data }, { on := 5, ground := Go.Ground.guard }], guard := some (5, true) }) (v := ?_) rfl (by kernel_rfl) (by kernel_rfl) (by kernel_rfl) (fun _ _ _ h => h) (Or.inl ⟨by rfl, ?_⟩) (by assumption) ?_
  rotate_left 1
  · intro w hSw; (try dsimp only at hSw); go_simp; all_goals (with_reducible rfl)
  try simp only [Act.put, List.setIfInBounds_toArray, List.set_cons_zero, List.set_cons_succ]
  refine wpAnyH_take (i := 11) (oi := { dst := some 42, op := Go.Op.binOp Go.BinOp.eql 9 (Go.Operand.tmp 38) (Go.Operand.tmp 41) 9, type := 4, pos := "law.go:256", after := #[{ on := 7, ground := Go.Ground.data }, { on := 10, ground := Go.Ground.data }, { on := 5, ground := Go.Ground.guard }], guard := some (5, true) }) (v := ?_) rfl (by kernel_rfl) (by kernel_rfl) (by kernel_rfl) (fun _ _ _ h => h) (Or.inl ⟨by rfl, ?_⟩) (by assumption) ?_
  rotate_left 1
  · intro w hSw; (try dsimp only at hSw); go_simp; all_goals (with_reducible rfl)
  try simp only [Act.put, List.setIfInBounds_toArray, List.set_cons_zero, List.set_cons_succ]
  refine wpAnyH_take (i := 12) (oi := { dst := some 43, op := Go.Op.pick (Go.Operand.tmp 36) (Go.Operand.tmp 42) (Go.Operand.const (Go.Value.bool false)), type := 4, pos := "law.go:256", after := #[{ on := 5, ground := Go.Ground.data }, { on := 11, ground := Go.Ground.data }], guard := none }) (v := ?_) rfl (by kernel_rfl) (by kernel_rfl) (by kernel_rfl) (fun _ _ _ h => h) (Or.inl ⟨by rfl, ?_⟩) (by assumption) ?_
  rotate_left 1
  · intro w hSw; (try dsimp only at hSw); go_simp; all_goals (with_reducible rfl)
  try simp only [Act.put, List.setIfInBounds_toArray, List.set_cons_zero, List.set_cons_succ]
  refine wpAnyH_take (i := 13) (oi := { dst := some 44, op := Go.Op.move (Go.Operand.tmp 43), type := 4, pos := "law.go:256", after := #[{ on := 12, ground := Go.Ground.data }, { on := 9, ground := Go.Ground.chain }], guard := none }) (v := ?_) rfl (by kernel_rfl) (by kernel_rfl) (by kernel_rfl) (fun _ _ _ h => h) (Or.inl ⟨by rfl, ?_⟩) (by assumption) ?_
  rotate_left 1
  · intro w hSw; (try dsimp only at hSw); go_simp; all_goals (with_reducible rfl)
  try simp only [Act.put, List.setIfInBounds_toArray, List.set_cons_zero, List.set_cons_succ]
  refine wpAnyH_take (i := 14) (oi := { dst := some 45, op := Go.Op.move (Go.Operand.tmp 4), type := 28, pos := "law.go:256", after := #[{ on := 13, ground := Go.Ground.guard }], guard := some (13, true) }) (v := ?_) rfl (by kernel_rfl) (by kernel_rfl) (by kernel_rfl) (fun _ _ _ h => h) (Or.inl ⟨by rfl, ?_⟩) (by assumption) ?_
  rotate_left 1
  · intro w hSw; (try dsimp only at hSw); go_simp; all_goals (with_reducible rfl)
  try simp only [Act.put, List.setIfInBounds_toArray, List.set_cons_zero, List.set_cons_succ]
  refine wpAnyH_take (i := 15) (oi := { dst := some 46, op := Go.Op.convert 28 9 (Go.Operand.tmp 45), type := 9, pos := "law.go:256", after := #[{ on := 14, ground := Go.Ground.data }, { on := 13, ground := Go.Ground.guard }], guard := some (13, true) }) (v := ?_) rfl (by kernel_rfl) (by kernel_rfl) (by kernel_rfl) (fun _ _ _ h => h) (Or.inl ⟨by rfl, ?_⟩) (by assumption) ?_
  rotate_left 1
  · intro w hSw; (try dsimp only at hSw); go_simp; all_goals (with_reducible rfl)
  try simp only [Act.put, List.setIfInBounds_toArray, List.set_cons_zero, List.set_cons_succ]
  refine wpAnyH_take (i := 16) (oi := { dst := some 47, op := Go.Op.move (Go.Operand.tmp 6), type := 28, pos := "law.go:256", after := #[{ on := 13, ground := Go.Ground.guard }], guard := some (13, true) }) (v := ?_) rfl (by kernel_rfl) (by kernel_rfl) (by kernel_rfl) (fun _ _ _ h => h) (Or.inl ⟨by rfl, ?_⟩) (by assumption) ?_
  rotate_left 1
  · intro w hSw; (try dsimp only at hSw); go_simp; all_goals (with_reducible rfl)
  try simp only [Act.put, List.setIfInBounds_toArray, List.set_cons_zero, List.set_cons_succ]
  refine wpAnyH_take (i := 17) (oi := { dst := some 48, op := Go.Op.convert 28 9 (Go.Operand.tmp 47), type := 9, pos := "law.go:256", after := #[{ on := 16, ground := Go.Ground.data }, { on := 13, ground := Go.Ground.guard }], guard := some (13, true) }) (v := ?_) rfl (by kernel_rfl) (by kernel_rfl) (by kernel_rfl) (fun _ _ _ h => h) (Or.inl ⟨by rfl, ?_⟩) (by assumption) ?_
  rotate_left 1
  · intro w hSw; (try dsimp only at hSw); go_simp; all_goals (with_reducible rfl)
  try simp only [Act.put, List.setIfInBounds_toArray, List.set_cons_zero, List.set_cons_succ]
  refine wpAnyH_take (i := 18) (oi := { dst := some 49, op := Go.Op.binOp Go.BinOp.eql 9 (Go.Operand.tmp 46) (Go.Operand.tmp 48) 9, type := 4, pos := "law.go:256", after := #[{ on := 15, ground := Go.Ground.data }, { on := 17, ground := Go.Ground.data }, { on := 13, ground := Go.Ground.guard }], guard := some (13, true) }) (v := ?_) rfl (by kernel_rfl) (by kernel_rfl) (by kernel_rfl) (fun _ _ _ h => h) (Or.inl ⟨by rfl, ?_⟩) (by assumption) ?_
  rotate_left 1
  · intro w hSw; (try dsimp only at hSw); go_simp; all_goals (with_reducible rfl)
  try simp only [Act.put, List.setIfInBounds_toArray, List.set_cons_zero, List.set_cons_succ]
  refine wpAnyH_take (i := 19) (oi := { dst := some 50, op := Go.Op.pick (Go.Operand.tmp 44) (Go.Operand.tmp 49) (Go.Operand.const (Go.Value.bool false)), type := 4, pos := "law.go:256", after := #[{ on := 13, ground := Go.Ground.data }, { on := 18, ground := Go.Ground.data }], guard := none }) (v := ?_) rfl (by kernel_rfl) (by kernel_rfl) (by kernel_rfl) (fun _ _ _ h => h) (Or.inl ⟨by rfl, ?_⟩) (by assumption) ?_
  rotate_left 1
  · intro w hSw; (try dsimp only at hSw); go_simp; all_goals (with_reducible rfl)
  try simp only [Act.put, List.setIfInBounds_toArray, List.set_cons_zero, List.set_cons_succ]
  refine wpAnyH_take (i := 20) (oi := { dst := some 51, op := Go.Op.move (Go.Operand.tmp 50), type := 4, pos := "law.go:256", after := #[{ on := 19, ground := Go.Ground.data }, { on := 13, ground := Go.Ground.chain }], guard := none }) (v := ?_) rfl (by kernel_rfl) (by kernel_rfl) (by kernel_rfl) (fun _ _ _ h => h) (Or.inl ⟨by rfl, ?_⟩) (by assumption) ?_
  rotate_left 1
  · intro w hSw; (try dsimp only at hSw); go_simp; all_goals (with_reducible rfl)
  try simp only [Act.put, List.setIfInBounds_toArray, List.set_cons_zero, List.set_cons_succ]
  refine wpAnyH_take (i := 21) (oi := { dst := some 52, op := Go.Op.move (Go.Operand.tmp 5), type := 23, pos := "law.go:256", after := #[{ on := 20, ground := Go.Ground.guard }], guard := some (20, true) }) (v := ?_) rfl (by kernel_rfl) (by kernel_rfl) (by kernel_rfl) (fun _ _ _ h => h) (Or.inl ⟨by rfl, ?_⟩) (by assumption) ?_
  rotate_left 1
  · intro w hSw; (try dsimp only at hSw); go_simp; all_goals (with_reducible rfl)
  try simp only [Act.put, List.setIfInBounds_toArray, List.set_cons_zero, List.set_cons_succ]
  refine wpAnyH_take (i := 22) (oi := { dst := some 53, op := Go.Op.move (Go.Operand.tmp 7), type := 23, pos := "law.go:256", after := #[{ on := 20, ground := Go.Ground.guard }], guard := some (20, true) }) (v := ?_) rfl (by kernel_rfl) (by kernel_rfl) (by kernel_rfl) (fun _ _ _ h => h) (Or.inl ⟨by rfl, ?_⟩) (by assumption) ?_
  rotate_left 1
  · intro w hSw; (try dsimp only at hSw); go_simp; all_goals (with_reducible rfl)
  try simp only [Act.put, List.setIfInBounds_toArray, List.set_cons_zero, List.set_cons_succ]
  refine wpAnyH_take (i := 23) (oi := { dst := some 54, op := Go.Op.binOp Go.BinOp.eql 23 (Go.Operand.tmp 52) (Go.Operand.tmp 53) 23, type := 4, pos := "law.go:256", after := #[{ on := 21, ground := Go.Ground.data }, { on := 22, ground := Go.Ground.data }, { on := 20, ground := Go.Ground.guard }], guard := some (20, true) }) (v := ?_) rfl (by kernel_rfl) (by kernel_rfl) (by kernel_rfl) (fun _ _ _ h => h) (Or.inl ⟨by rfl, ?_⟩) (by assumption) ?_
  rotate_left 1
  · intro w hSw; (try dsimp only at hSw); go_simp; all_goals (with_reducible rfl)
  try simp only [Act.put, List.setIfInBounds_toArray, List.set_cons_zero, List.set_cons_succ]
  refine wpAnyH_take (i := 24) (oi := { dst := some 55, op := Go.Op.pick (Go.Operand.tmp 51) (Go.Operand.tmp 54) (Go.Operand.const (Go.Value.bool false)), type := 4, pos := "law.go:256", after := #[{ on := 20, ground := Go.Ground.data }, { on := 23, ground := Go.Ground.data }], guard := none }) (v := ?_) rfl (by kernel_rfl) (by kernel_rfl) (by kernel_rfl) (fun _ _ _ h => h) (Or.inl ⟨by rfl, ?_⟩) (by assumption) ?_
  rotate_left 1
  · intro w hSw; (try dsimp only at hSw); go_simp; all_goals (with_reducible rfl)
  try simp only [Act.put, List.setIfInBounds_toArray, List.set_cons_zero, List.set_cons_succ]
  refine wpAnyH_take (i := 25) (oi := { dst := some 56, op := Go.Op.move (Go.Operand.tmp 55), type := 4, pos := "law.go:256", after := #[{ on := 24, ground := Go.Ground.data }, { on := 20, ground := Go.Ground.chain }], guard := none }) (v := ?_) rfl (by kernel_rfl) (by kernel_rfl) (by kernel_rfl) (fun _ _ _ h => h) (Or.inl ⟨by rfl, ?_⟩) (by assumption) ?_
  rotate_left 1
  · intro w hSw; (try dsimp only at hSw); go_simp; all_goals (with_reducible rfl)
  try simp only [Act.put, List.setIfInBounds_toArray, List.set_cons_zero, List.set_cons_succ]
  refine wpAnyH_take (i := 26) (oi := { dst := some 57, op := Go.Op.move (Go.Operand.tmp 9), type := 28, pos := "law.go:256", after := #[{ on := 25, ground := Go.Ground.guard }], guard := some (25, true) }) (v := ?_) rfl (by kernel_rfl) (by kernel_rfl) (by kernel_rfl) (fun _ _ _ h => h) (Or.inl ⟨by rfl, ?_⟩) (by assumption) ?_
  rotate_left 1
  · intro w hSw; (try dsimp only at hSw); go_simp; all_goals (with_reducible rfl)
  try simp only [Act.put, List.setIfInBounds_toArray, List.set_cons_zero, List.set_cons_succ]
  refine wpAnyH_take (i := 27) (oi := { dst := some 58, op := Go.Op.convert 28 9 (Go.Operand.tmp 57), type := 9, pos := "law.go:256", after := #[{ on := 26, ground := Go.Ground.data }, { on := 25, ground := Go.Ground.guard }], guard := some (25, true) }) (v := ?_) rfl (by kernel_rfl) (by kernel_rfl) (by kernel_rfl) (fun _ _ _ h => h) (Or.inl ⟨by rfl, ?_⟩) (by assumption) ?_
  rotate_left 1
  · intro w hSw; (try dsimp only at hSw); go_simp; all_goals (with_reducible rfl)
  try simp only [Act.put, List.setIfInBounds_toArray, List.set_cons_zero, List.set_cons_succ]
  refine wpAnyH_take (i := 28) (oi := { dst := some 59, op := Go.Op.move (Go.Operand.tmp 0), type := 28, pos := "law.go:256", after := #[{ on := 25, ground := Go.Ground.guard }], guard := some (25, true) }) (v := ?_) rfl (by kernel_rfl) (by kernel_rfl) (by kernel_rfl) (fun _ _ _ h => h) (Or.inl ⟨by rfl, ?_⟩) (by assumption) ?_
  rotate_left 1
  · intro w hSw; (try dsimp only at hSw); go_simp; all_goals (with_reducible rfl)
  try simp only [Act.put, List.setIfInBounds_toArray, List.set_cons_zero, List.set_cons_succ]
  refine wpAnyH_take (i := 29) (oi := { dst := some 60, op := Go.Op.convert 28 9 (Go.Operand.tmp 59), type := 9, pos := "law.go:256", after := #[{ on := 28, ground := Go.Ground.data }, { on := 25, ground := Go.Ground.guard }], guard := some (25, true) }) (v := ?_) rfl (by kernel_rfl) (by kernel_rfl) (by kernel_rfl) (fun _ _ _ h => h) (Or.inl ⟨by rfl, ?_⟩) (by assumption) ?_
  rotate_left 1
  · intro w hSw; (try dsimp only at hSw); go_simp; all_goals (with_reducible rfl)
  try simp only [Act.put, List.setIfInBounds_toArray, List.set_cons_zero, List.set_cons_succ]
  refine wpAnyH_take (i := 30) (oi := { dst := some 61, op := Go.Op.binOp Go.BinOp.eql 9 (Go.Operand.tmp 58) (Go.Operand.tmp 60) 9, type := 4, pos := "law.go:256", after := #[{ on := 27, ground := Go.Ground.data }, { on := 29, ground := Go.Ground.data }, { on := 25, ground := Go.Ground.guard }], guard := some (25, true) }) (v := ?_) rfl (by kernel_rfl) (by kernel_rfl) (by kernel_rfl) (fun _ _ _ h => h) (Or.inl ⟨by rfl, ?_⟩) (by assumption) ?_
  rotate_left 1
  · intro w hSw; (try dsimp only at hSw); go_simp; all_goals (with_reducible rfl)
  try simp only [Act.put, List.setIfInBounds_toArray, List.set_cons_zero, List.set_cons_succ]
  refine wpAnyH_take (i := 31) (oi := { dst := some 62, op := Go.Op.pick (Go.Operand.tmp 56) (Go.Operand.tmp 61) (Go.Operand.const (Go.Value.bool false)), type := 4, pos := "law.go:256", after := #[{ on := 25, ground := Go.Ground.data }, { on := 30, ground := Go.Ground.data }], guard := none }) (v := ?_) rfl (by kernel_rfl) (by kernel_rfl) (by kernel_rfl) (fun _ _ _ h => h) (Or.inl ⟨by rfl, ?_⟩) (by assumption) ?_
  rotate_left 1
  · intro w hSw; (try dsimp only at hSw); go_simp; all_goals (with_reducible rfl)
  try simp only [Act.put, List.setIfInBounds_toArray, List.set_cons_zero, List.set_cons_succ]
  refine wpAnyH_take (i := 32) (oi := { dst := some 63, op := Go.Op.move (Go.Operand.tmp 62), type := 4, pos := "law.go:256", after := #[{ on := 31, ground := Go.Ground.data }, { on := 25, ground := Go.Ground.chain }], guard := none }) (v := ?_) rfl (by kernel_rfl) (by kernel_rfl) (by kernel_rfl) (fun _ _ _ h => h) (Or.inl ⟨by rfl, ?_⟩) (by assumption) ?_
  rotate_left 1
  · intro w hSw; (try dsimp only at hSw); go_simp; all_goals (with_reducible rfl)
  try simp only [Act.put, List.setIfInBounds_toArray, List.set_cons_zero, List.set_cons_succ]
  refine wpAnyH_take (i := 33) (oi := { dst := some 64, op := Go.Op.move (Go.Operand.tmp 10), type := 23, pos := "law.go:256", after := #[{ on := 32, ground := Go.Ground.guard }], guard := some (32, true) }) (v := ?_) rfl (by kernel_rfl) (by kernel_rfl) (by kernel_rfl) (fun _ _ _ h => h) (Or.inl ⟨by rfl, ?_⟩) (by assumption) ?_
  rotate_left 1
  · intro w hSw; (try dsimp only at hSw); go_simp; all_goals (with_reducible rfl)
  try simp only [Act.put, List.setIfInBounds_toArray, List.set_cons_zero, List.set_cons_succ]
  refine wpAnyH_take (i := 34) (oi := { dst := some 65, op := Go.Op.binOp Go.BinOp.eql 23 (Go.Operand.tmp 64) (Go.Operand.const (Go.Value.int Go.IntKind.i64 0)) 23, type := 4, pos := "law.go:256", after := #[{ on := 33, ground := Go.Ground.data }, { on := 32, ground := Go.Ground.guard }], guard := some (32, true) }) (v := ?_) rfl (by kernel_rfl) (by kernel_rfl) (by kernel_rfl) (fun _ _ _ h => h) (Or.inl ⟨by rfl, ?_⟩) (by assumption) ?_
  rotate_left 1
  · intro w hSw; (try dsimp only at hSw); go_simp; all_goals (with_reducible rfl)
  try simp only [Act.put, List.setIfInBounds_toArray, List.set_cons_zero, List.set_cons_succ]
  refine wpAnyH_take (i := 35) (oi := { dst := some 66, op := Go.Op.pick (Go.Operand.tmp 63) (Go.Operand.tmp 65) (Go.Operand.const (Go.Value.bool false)), type := 4, pos := "law.go:256", after := #[{ on := 32, ground := Go.Ground.data }, { on := 34, ground := Go.Ground.data }], guard := none }) (v := ?_) rfl (by kernel_rfl) (by kernel_rfl) (by kernel_rfl) (fun _ _ _ h => h) (Or.inl ⟨by rfl, ?_⟩) (by assumption) ?_
  rotate_left 1
  · intro w hSw; (try dsimp only at hSw); go_simp; all_goals (with_reducible rfl)
  try simp only [Act.put, List.setIfInBounds_toArray, List.set_cons_zero, List.set_cons_succ]
  refine wpAnyH_take (i := 36) (oi := { dst := some 67, op := Go.Op.move (Go.Operand.tmp 66), type := 4, pos := "law.go:256", after := #[{ on := 35, ground := Go.Ground.data }, { on := 32, ground := Go.Ground.chain }], guard := none }) (v := ?_) rfl (by kernel_rfl) (by kernel_rfl) (by kernel_rfl) (fun _ _ _ h => h) (Or.inl ⟨by rfl, ?_⟩) (by assumption) ?_
  rotate_left 1
  · intro w hSw; (try dsimp only at hSw); go_simp; all_goals (with_reducible rfl)
  try simp only [Act.put, List.setIfInBounds_toArray, List.set_cons_zero, List.set_cons_succ]
  refine wpAnyH_take (i := 37) (oi := { dst := some 68, op := Go.Op.move (Go.Operand.tmp 3), type := 28, pos := "law.go:256", after := #[{ on := 36, ground := Go.Ground.guard }], guard := some (36, true) }) (v := ?_) rfl (by kernel_rfl) (by kernel_rfl) (by kernel_rfl) (fun _ _ _ h => h) (Or.inl ⟨by rfl, ?_⟩) (by assumption) ?_
  rotate_left 1
  · intro w hSw; (try dsimp only at hSw); go_simp; all_goals (with_reducible rfl)
  try simp only [Act.put, List.setIfInBounds_toArray, List.set_cons_zero, List.set_cons_succ]
  refine wpAnyH_take (i := 38) (oi := { dst := some 69, op := Go.Op.convert 28 9 (Go.Operand.tmp 68), type := 9, pos := "law.go:256", after := #[{ on := 37, ground := Go.Ground.data }, { on := 36, ground := Go.Ground.guard }], guard := some (36, true) }) (v := ?_) rfl (by kernel_rfl) (by kernel_rfl) (by kernel_rfl) (fun _ _ _ h => h) (Or.inl ⟨by rfl, ?_⟩) (by assumption) ?_
  rotate_left 1
  · intro w hSw; (try dsimp only at hSw); go_simp; all_goals (with_reducible rfl)
  try simp only [Act.put, List.setIfInBounds_toArray, List.set_cons_zero, List.set_cons_succ]
  refine wpAnyH_take (i := 39) (oi := { dst := some 70, op := Go.Op.move (Go.Operand.tmp 0), type := 28, pos := "law.go:256", after := #[{ on := 36, ground := Go.Ground.guard }], guard := some (36, true) }) (v := ?_) rfl (by kernel_rfl) (by kernel_rfl) (by kernel_rfl) (fun _ _ _ h => h) (Or.inl ⟨by rfl, ?_⟩) (by assumption) ?_
  rotate_left 1
  · intro w hSw; (try dsimp only at hSw); go_simp; all_goals (with_reducible rfl)
  try simp only [Act.put, List.setIfInBounds_toArray, List.set_cons_zero, List.set_cons_succ]
  refine wpAnyH_take (i := 40) (oi := { dst := some 71, op := Go.Op.convert 28 9 (Go.Operand.tmp 70), type := 9, pos := "law.go:256", after := #[{ on := 39, ground := Go.Ground.data }, { on := 36, ground := Go.Ground.guard }], guard := some (36, true) }) (v := ?_) rfl (by kernel_rfl) (by kernel_rfl) (by kernel_rfl) (fun _ _ _ h => h) (Or.inl ⟨by rfl, ?_⟩) (by assumption) ?_
  rotate_left 1
  · intro w hSw; (try dsimp only at hSw); go_simp; all_goals (with_reducible rfl)
  try simp only [Act.put, List.setIfInBounds_toArray, List.set_cons_zero, List.set_cons_succ]
  refine wpAnyH_take (i := 41) (oi := { dst := some 72, op := Go.Op.binOp Go.BinOp.eql 9 (Go.Operand.tmp 69) (Go.Operand.tmp 71) 9, type := 4, pos := "law.go:256", after := #[{ on := 38, ground := Go.Ground.data }, { on := 40, ground := Go.Ground.data }, { on := 36, ground := Go.Ground.guard }], guard := some (36, true) }) (v := ?_) rfl (by kernel_rfl) (by kernel_rfl) (by kernel_rfl) (fun _ _ _ h => h) (Or.inl ⟨by rfl, ?_⟩) (by assumption) ?_
  rotate_left 1
  · intro w hSw; (try dsimp only at hSw); go_simp; all_goals (with_reducible rfl)
  try simp only [Act.put, List.setIfInBounds_toArray, List.set_cons_zero, List.set_cons_succ]
  refine wpAnyH_take (i := 42) (oi := { dst := some 73, op := Go.Op.pick (Go.Operand.tmp 67) (Go.Operand.tmp 72) (Go.Operand.const (Go.Value.bool false)), type := 4, pos := "law.go:256", after := #[{ on := 36, ground := Go.Ground.data }, { on := 41, ground := Go.Ground.data }], guard := none }) (v := ?_) rfl (by kernel_rfl) (by kernel_rfl) (by kernel_rfl) (fun _ _ _ h => h) (Or.inl ⟨by rfl, ?_⟩) (by assumption) ?_
  rotate_left 1
  · intro w hSw; (try dsimp only at hSw); go_simp; all_goals (with_reducible rfl)
  try simp only [Act.put, List.setIfInBounds_toArray, List.set_cons_zero, List.set_cons_succ]
  refine wpAnyH_take (i := 43) (oi := { dst := some 2, op := Go.Op.assign (Go.Operand.tmp 73), type := 4, pos := "law.go:256", after := #[{ on := 42, ground := Go.Ground.data }, { on := 36, ground := Go.Ground.chain }, { on := 0, ground := Go.Ground.phase }, { on := 1, ground := Go.Ground.phase }, { on := 2, ground := Go.Ground.phase }, { on := 3, ground := Go.Ground.phase }, { on := 4, ground := Go.Ground.phase }, { on := 5, ground := Go.Ground.phase }, { on := 6, ground := Go.Ground.phase }, { on := 7, ground := Go.Ground.phase }, { on := 8, ground := Go.Ground.phase }, { on := 9, ground := Go.Ground.phase }, { on := 10, ground := Go.Ground.phase }, { on := 11, ground := Go.Ground.phase }, { on := 12, ground := Go.Ground.phase }, { on := 13, ground := Go.Ground.phase }, { on := 14, ground := Go.Ground.phase }, { on := 15, ground := Go.Ground.phase }, { on := 16, ground := Go.Ground.phase }, { on := 17, ground := Go.Ground.phase }, { on := 18, ground := Go.Ground.phase }, { on := 19, ground := Go.Ground.phase }, { on := 20, ground := Go.Ground.phase }, { on := 21, ground := Go.Ground.phase }, { on := 22, ground := Go.Ground.phase }, { on := 23, ground := Go.Ground.phase }, { on := 24, ground := Go.Ground.phase }, { on := 25, ground := Go.Ground.phase }, { on := 26, ground := Go.Ground.phase }, { on := 27, ground := Go.Ground.phase }, { on := 28, ground := Go.Ground.phase }, { on := 29, ground := Go.Ground.phase }, { on := 30, ground := Go.Ground.phase }, { on := 31, ground := Go.Ground.phase }, { on := 32, ground := Go.Ground.phase }, { on := 33, ground := Go.Ground.phase }, { on := 34, ground := Go.Ground.phase }, { on := 35, ground := Go.Ground.phase }, { on := 36, ground := Go.Ground.phase }, { on := 37, ground := Go.Ground.phase }, { on := 38, ground := Go.Ground.phase }, { on := 39, ground := Go.Ground.phase }, { on := 40, ground := Go.Ground.phase }, { on := 41, ground := Go.Ground.phase }, { on := 42, ground := Go.Ground.phase }], guard := none }) (v := ?_) rfl (by kernel_rfl) (by kernel_rfl) (by kernel_rfl) (fun _ _ _ h => h) (Or.inl ⟨by rfl, ?_⟩) (by assumption) ?_
  rotate_left 1
  · intro w hSw; (try dsimp only at hSw); go_simp; all_goals (with_reducible rfl)
  try simp only [Act.put, List.setIfInBounds_toArray, List.set_cons_zero, List.set_cons_succ]
  refine wpAnyH_done (by kernel_rfl) ?_ _
  go_wp2
  go_ret
  exact ⟨rfl, HK5.out.trans' (h7.out.2.trans' (by exact ⟨rfl, rfl, rfl, Nat.le_refl _, fun _ _ _ => rfl⟩))⟩

end Go.Proofs.Ytaghpjlodlbmjaa.sums
