/- FrameKnown: the law's walk. -/
import Derived.Test.YtbhhmbbldbgdnaaFrameKnown3
namespace Go.Proofs.Ytbhhmbbldbgdnaa.frm
open Go.RowKit Go.Proofs.Ytbhhmbbldbgdnaa.sum Go.Proofs.Ytbhhmbbldbgdnaa.kept Go.Proofs.Ytbhhmbbldbgdnaa.app Go.Proofs.Ytbhhmbbldbgdnaa.writer Go.Proofs.Ytbhhmbbldbgdnaa.clone Go.Proofs.Ytbhhmbbldbgdnaa.known Go.Proofs.Ytbhhmbbldbgdnaa.fl Go.Proofs.Ytbhhmbbldbgdnaa.seal Go.Proofs.Ytbhhmbbldbgdnaa.unseal Go.Proofs.Ytbhhmbbldbgdnaa.lst
set_option linter.unusedVariables false

/-- so many bytes of 0, as made by the call -/
theorem make_zeros (w : World) (n : Nat) (N : Int) (hN : N = (n : Int)) (hn : n ≤ 1000000000) :
    ∃ w', (Instr.makeSlice 30 (.int .i64 N) (.int .i64 N)).run Try.prog w = .ok (.slice (some ⟨w.heap.size, 0, none⟩) n n) w' ∧ (∃ zs : List UInt8, zs.length = n ∧ Bs w' (.slice (some ⟨w.heap.size, 0, none⟩) n n) zs) ∧ Kp No w w' := by
  subst hN
  obtain ⟨i0, hi, hz0, hz1, hz2⟩ := info_parts info5
  obtain ⟨w', hr, ho, hg⟩ := run_make_full (P := Try.prog) w w.heap.size 30 5 i0 (.int .u8 0) 1 Try.underlying30 hi hz0 hz1 .i64 .i64 n (by rw [hz2]; omega) (by unfold maxLen; omega) (Nat.le_refl _)
  refine ⟨w', hr, ⟨List.replicate n 0, List.length_replicate, ?_⟩, (Kp.refl No w).grown hg fun k hk e => by cases e⟩
  have hl : (List.replicate n (0 : UInt8)).length = n := List.length_replicate
  have := owns_bs (w := w') (base := w.heap.size) (v := .slice (some ⟨w.heap.size, 0, none⟩) n n) (bs := List.replicate n 0) (by
    rw [hl]
    have e : (madeCells (Value.int .u8 0).cells (n * 1)).toList = (List.replicate n (0 : UInt8)).map B := by
      apply List.ext_getElem
      · simp [madeCells]
      · intro i h1 h2
        simp [madeCells, Value.cells, B, Nat.mod_one]
    rw [← e]; exact ho)
  exact this

set_option maxRecDepth 100000 in
set_option maxHeartbeats 4000000 in
theorem walk (w : World) : Calls Try.prog 7 #[] w fun e w' => e = .returned (.bool true) ∧ Kp No w w' := by
  go_enter Try.func7, Try.ntmps7
  go_wp2_with fail
  with_reducible refine (known_any w).mono ?_
  rintro e w1 ⟨rfl, hk1⟩
  have K1 := Hid_mk hk1
  clear hk1
  go_wp2_with fail
  obtain ⟨w2, hr2, ⟨zs, hzl, hb2⟩, hk2⟩ := make_zeros w1 4194305 4194305 rfl (by omega)
  have HF := Hid_mk (frame_any w2 _ zs hb2)
  rw [framed_none (by rw [hzl]; omega)] at HF
  have K2 := Hid_mk (K1.out.trans' hk2)
  clear hb2 hk2 hzl
  rw [hr2]
  go_wp2_with fail
  with_reducible refine HF.out.mono ?_
  rintro e w3 ⟨v3, rfl, ho3, hk3⟩
  have K3 := Hid_mk (K2.out.trans' hk3)
  obtain ⟨a3, c3, rfl, -⟩ := owns_bs ho3
  obtain ⟨w4, hr4, ⟨ys, hyl, hb4⟩, hk4⟩ := make_zeros w3 70000 70000 rfl (by omega)
  have HF4 := Hid_mk (frame_any w4 _ ys hb4)
  have HL := Hid_mk (framed_len (bs := ys) (by rw [hyl]; omega))
  rw [hyl] at HL
  have K4 := Hid_mk (K3.out.trans' hk4)
  clear hb4 hk4 hyl ho3 hk3 hr2
  go_wp2_with fail
  with_reducible refine HF4.out.mono ?_
  rintro e w5 ⟨v5, rfl, ho5, hk5⟩
  obtain ⟨a5, c5, rfl, -⟩ := owns_bs ho5
  rw [HL.out]
  have K5 := Hid_mk (K4.out.trans' hk5)
  clear ho5 hk5 hr4
  go_wp2
  go_ret
  exact ⟨rfl, K5.out⟩

end Go.Proofs.Ytbhhmbbldbgdnaa.frm
