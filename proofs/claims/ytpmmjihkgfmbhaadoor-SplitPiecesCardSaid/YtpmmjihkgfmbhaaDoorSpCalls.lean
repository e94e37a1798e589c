/- The project's Splitter: end, add, New, Feed, Held. -/
import Derived.Test.YtpmmjihkgfmbhaaDoorSpMem
namespace Go.Proofs.YtpmmjihkgfmbhaaDoor.spl
open Go.RowKit Go.Maps Go.Proofs.YtpmmjihkgfmbhaaDoor.sum Go.Proofs.YtpmmjihkgfmbhaaDoor.kept Go.Proofs.YtpmmjihkgfmbhaaDoor.app Go.Proofs.YtpmmjihkgfmbhaaDoor.writer Go.Proofs.YtpmmjihkgfmbhaaDoor.clone Go.Proofs.YtpmmjihkgfmbhaaDoor.known Go.Proofs.YtpmmjihkgfmbhaaDoor.unseal Go.Proofs.YtpmmjihkgfmbhaaDoor.snp
set_option linter.unusedVariables false

set_option maxRecDepth 100000 in
set_option maxHeartbeats 4000000 in
theorem end_any (w : World) (base p : Nat) (ρ : Nat → Bool) (m : Nat) (s : SpS) (h : PSp w base p ρ m s) : Calls Tryd.prog 33 #[.pointer (some ⟨p, 0, none⟩)] w (SpPost PSp w base p ρ m (endS s) (.string (tx s.held))) := by
  obtain ⟨vr, va, h, rfl⟩ := h
  have H := Hid_mk h
  have c1 := h.c1
  have c2 := h.c2
  have c3 := h.c3
  have f1 := h.warm 1
  have f2 := h.warm 2
  have f3 := h.warm 3
  have hcv := conv_tx h.held.rd
  obtain ⟨ah, ch, rfl, g1, g2, -⟩ := h.held.any
  have hz := h.held.take 0 (Nat.zero_le _)
  simp only [List.take_zero] at hz
  have HZ := Hid_mk hz
  clear h hz
  go_enter Tryd.func33, Tryd.ntmps33
  go_wp2
  go_ret
  have hob : (Value.slice ah 0 ch).ownBlock = (Value.slice ah s.held.length ch).ownBlock := by cases ah <;> rfl
  have h1 := ((H.out.put1 (Kp.refl _ _) HZ.out (.inl hob)).set2 false).set3 false
  refine ⟨rfl, _, ⟨_, _, h1, rfl⟩, ?_⟩
  have k1 : Kp (fun k => ownS p (.slice ah s.held.length ch) va k = true) w ((w.setCell ⟨p, 1, none⟩ (.slice ah 0 ch)).setCell ⟨p, 2, none⟩ (.bool false)) :=
    ((Kp.refl _ w).setCell (p := ⟨p, 1, none⟩) (fun _ => ownS_iff.2 (.inl rfl)) _).setCell (p := ⟨p, 2, none⟩) (fun _ => ownS_iff.2 (.inl rfl)) _
  exact fr_set k1 3 _ H.out.lt (.inl hob) (.inl rfl)

set_option maxRecDepth 100000 in
set_option maxHeartbeats 4000000 in
theorem add_any (w : World) (base p : Nat) (ρ : Nat → Bool) (m : Nat) (s : SpS) (b : UInt8) (h : PSp w base p ρ m s) (hok : OkS m s) (hm : m ≤ 1000000) : Calls Tryd.prog 45 #[.pointer (some ⟨p, 0, none⟩), .int .u8 (b.toNat : Int)] w (SpPost PSp w base p ρ m (putS m s b) (.tuple #[])) := by
  obtain ⟨vr, va, h, rfl⟩ := h
  obtain ⟨w0, hw0⟩ : ∃ w0, w.drew = w0 := ⟨_, rfl⟩
  have kd : Kp No w w0 := hw0 ▸ (Kp.refl No w).drew
  have HW := Hid_mk hw0
  have h' := h.no kd
  have H := Hid_mk h'
  have HKd := Hid_mk kd
  have HLt := Hid_mk h.lt
  have c0 := h.c0
  have c1 := h.c1
  have d1 := h'.c1
  have d2 := h'.c2
  have f1 := h'.warm 1
  have f2 := h'.warm 2
  obtain ⟨ah, ch, rfl, g1, g2, -⟩ := h.held.any
  unfold OkS at hok
  have hsz : w.heap.size = w0.heap.size := by rw [← hw0]; rfl
  have HSz := Hid_mk hsz
  clear hw0 kd hsz
  by_cases hl : s.held.length < m
  · have hli : ¬ (s.held.length : Int) = (m : Int) := by omega
    obtain ⟨hs, hhs⟩ : ∃ hs, s.held ++ [b] = hs := ⟨_, rfl⟩
    have e1 : putS m s b = { s with held := hs } := by rw [← hhs]; exact if_pos hl
    rw [e1]
    have HHs := Hid_mk hhs
    have hHd : Wi (w0.alloc (.cells #[.int .u8 (b.toNat : Int)] 5)) base (.slice ah s.held.length ch) s.held := h'.held.no ((Kp.refl No w0).alloc _)
    have HHd := Hid_mk hHd
    have HRoom := Hid_mk h'.room
    have ca := ((Kp.refl No w0).alloc (.cells #[.int .u8 (b.toNat : Int)] 5)).cell' d1 id
    have HL : Hid (s.held.length + 1 ≤ 140737488355328) := Hid_mk (by omega)
    clear e1 hl h h' hok hhs hHd
    go_enter Tryd.func45, Tryd.ntmps45
    go_wp2_with fail
    go_region_held3 (fun W => W.cell? ⟨p, 0, none⟩ = some (.int .i64 (m : Int)) ∧ W.cell? ⟨p, 1, none⟩ = some (.slice ah s.held.length ch)) (first | (dsimp only; exact ⟨c0, c1⟩) | go_keep) (fail)
    rw [HW.out]
    clear c0 c1
    go_wp2_with (at_builtin; (refine wpList_append_wi _ rfl _ _ rfl base (.slice ah s.held.length ch) s.held rfl HHd.out _ [b] rfl (bs_one w0 b) HL.out (Nat.le_trans HRoom.out (by simp)) ?_))
    intro v2 w2 happ
    obtain ⟨a1, a2, a3⟩ := happ
    rw [HHs.out] at a1
    have k2 : Kp (fun k => (Value.slice ah s.held.length ch).ownBlock = some k) w0 w2 := ((Kp.refl _ w0).alloc _).trans' a2
    have hlt := H.out.lt
    have hnp : ¬ ((Value.slice ah s.held.length ch).ownBlock = some p) := H.out.ar
    have a3' : v2.ownBlock = (Value.slice ah s.held.length ch).ownBlock ∨ ∀ g, v2.ownBlock = some g → w0.heap.size ≤ g := a3.imp id fun e g e2 => by rw [e] at e2; cases e2; simp
    have e1 := k2.cell' d1 hnp
    have e2 := (k2.frozen (p := ⟨p, 1, none⟩) hlt hnp).trans f1
    have HP := Hid_mk (H.out.put1 k2 a1 a3')
    have HF : Hid (FrS (ownS p (.slice ah s.held.length ch) va) w (ownS p v2 va) (w2.setCell ⟨p, 1, none⟩ v2)) := Hid_mk (fr_set ((HKd.out.to).trans' (kp_r k2)) 1 v2 HLt.out (by rw [HSz.out]; exact a3') (.inl rfl))
    obtain ⟨x2, y2, rfl, -, -, -⟩ := a1.any
    clear a2 a3 a3' k2 d1 d2 f1 f2 hlt hnp ca a1
    go_wp2
    go_end0
    exact ⟨rfl, _, ⟨_, _, HP.out, rfl⟩, HF.out⟩
  · have hli : (s.held.length : Int) = (m : Int) := by omega
    have e1 : putS m s b = { s with over := true } := if_neg hl
    rw [e1]
    have HF : Hid (FrS (ownS p (.slice ah s.held.length ch) va) w (ownS p (.slice ah s.held.length ch) va) (w0.setCell ⟨p, 2, none⟩ (.bool true))) := Hid_mk (fr_set HKd.out.to 2 _ HLt.out (.inl rfl) (.inl rfl))
    clear e1 hl h h' hok
    go_enter Tryd.func45, Tryd.ntmps45
    go_wp2_with fail
    go_region_held3 (fun W => W.cell? ⟨p, 0, none⟩ = some (.int .i64 (m : Int)) ∧ W.cell? ⟨p, 1, none⟩ = some (.slice ah s.held.length ch)) (first | (dsimp only; exact ⟨c0, c1⟩) | go_keep) (fail)
    rw [HW.out]
    clear c0 c1
    go_wp2
    go_end0
    exact ⟨rfl, _, ⟨_, _, H.out.set2 true, rfl⟩, HF.out⟩

set_option maxRecDepth 100000 in
set_option maxHeartbeats 4000000 in
theorem spnew_ok (w : World) (m : Nat) (h1 : 1 ≤ m) (h2 : m ≤ 200) : Calls Tryd.prog 7 #[.int .i64 (m : Int)] w fun e w' => ∃ p ρ, e = .returned (.tuple #[.pointer (some ⟨p, 0, none⟩), .int .i64 0]) ∧ PSp w' w.heap.size p ρ m zeroS ∧ Kp No w w' := by
  have i1 : ¬ (m : Int) < 1 := by omega
  have i2 : ¬ (200 : Int) < (m : Int) := by omega
  clear h1 h2
  go_enter Tryd.func7, Tryd.ntmps7
  go_wp2
  go_ret2
  refine ⟨w.heap.size, rfl, ⟨_, .slice none 0 0, .slice none 0 0, ?_, rfl⟩, (Kp.refl _ _).alloc _⟩
  exact ⟨by simp, by simp, by simp [zeroS], by simp [zeroS], by simp, fun o => by simp, Wi.nil _ _, Wi.nil _ _, Nat.le_refl _, by simp [Value.ownBlock], by simp [Value.ownBlock], fun g e => by simp [Value.ownBlock] at e⟩

set_option maxRecDepth 100000 in
set_option maxHeartbeats 4000000 in
theorem spnew_no (w : World) (i : Int) (h : i < 1 ∨ 200 < i) : Calls Tryd.prog 7 #[.int .i64 i] w fun e w' => e = .returned (.tuple #[.pointer none, .int .i64 1]) ∧ w' = w := by
  by_cases h1 : i < 1
  · clear h
    go_enter Tryd.func7, Tryd.ntmps7
    go_wp2
    go_ret2
    exact ⟨rfl, rfl⟩
  · have h2 : 200 < i := by omega
    clear h
    go_enter Tryd.func7, Tryd.ntmps7
    go_wp2
    go_ret2
    exact ⟨rfl, rfl⟩

set_option maxRecDepth 100000 in
set_option maxHeartbeats 4000000 in
theorem held_any (w : World) (base p : Nat) (ρ : Nat → Bool) (m : Nat) (s : SpS) (h : PSp w base p ρ m s) : Calls Tryd.prog 20 #[.pointer (some ⟨p, 0, none⟩)] w fun e w' => e = .returned (.int .i64 (s.held.length : Int)) ∧ w' = w := by
  obtain ⟨vr, va, h, rfl⟩ := h
  have c1 := h.c1
  obtain ⟨ah, ch, rfl, g1, g2, -⟩ := h.held.any
  clear h
  go_enter Tryd.func20, Tryd.ntmps20
  go_wp2
  go_ret
  exact ⟨rfl, rfl⟩

set_option maxRecDepth 100000 in
set_option maxHeartbeats 4000000 in
theorem feed_any (w : World) (base p : Nat) (ρ : Nat → Bool) (m : Nat) (s : SpS) (v : Value) (bs : List UInt8) (h : PSp w base p ρ m s) (hb : Bs w v bs) (hl : s.rest.length + bs.length ≤ 140737488355328) :
    Calls Tryd.prog 10 #[.pointer (some ⟨p, 0, none⟩), v] w (SpPost PSp w base p ρ m (feedS s bs) (.tuple #[])) := by
  obtain ⟨vr, va, h, rfl⟩ := h
  have H := Hid_mk h
  have HB := Hid_mk hb
  have c4 := h.c4
  have f4 := h.warm 4
  have HR := Hid_mk h.rest
  have HRoom := Hid_mk h.room
  have HL := Hid_mk hl
  obtain ⟨hs, hhs⟩ : ∃ hs, s.rest ++ bs = hs := ⟨_, rfl⟩
  have e1 : feedS s bs = { s with rest := hs } := by rw [← hhs]; rfl
  rw [e1]
  have HHs := Hid_mk hhs
  obtain ⟨aa, ca, rfl, -, -, -⟩ := h.rest.any
  obtain ⟨ab, cb, rfl, -⟩ := id hb
  clear h hb hl hhs e1
  go_enter Tryd.func10, Tryd.ntmps10
  go_wp2_with (at_builtin; (refine wpList_append_wi _ rfl _ _ rfl base (.slice aa s.rest.length ca) s.rest rfl HR.out _ bs rfl HB.out HL.out HRoom.out ?_))
  intro v2 w2 happ
  obtain ⟨a1, a2, a3⟩ := happ
  rw [HHs.out] at a1
  have hnp : ¬ ((Value.slice aa s.rest.length ca).ownBlock = some p) := H.out.aa
  have a3' : v2.ownBlock = (Value.slice aa s.rest.length ca).ownBlock ∨ ∀ g, v2.ownBlock = some g → w.heap.size ≤ g := a3.imp id fun e g e2 => by rw [e] at e2; cases e2; exact Nat.le_refl _
  have e1 := a2.cell' c4 hnp
  have e2 := (a2.frozen (p := ⟨p, 4, none⟩) H.out.lt hnp).trans f4
  have HP := Hid_mk (H.out.put4 a2 a1 a3')
  have HF : Hid (FrS (ownS p vr (.slice aa s.rest.length ca)) w (ownS p vr v2) (w2.setCell ⟨p, 4, none⟩ v2)) := Hid_mk (fr_set (kp_a a2) 4 v2 H.out.lt (.inl rfl) a3')
  obtain ⟨x2, y2, rfl, -, -, -⟩ := a1.any
  clear a2 a3 a3' hnp a1 c4 f4
  go_wp2
  go_end0
  exact ⟨rfl, _, ⟨_, _, HP.out, rfl⟩, HF.out⟩

end Go.Proofs.YtpmmjihkgfmbhaaDoor.spl
