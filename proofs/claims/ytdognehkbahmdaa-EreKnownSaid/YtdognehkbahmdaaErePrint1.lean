/- Package ere: Print of a tree that is First alone. -/
import Derived.Test.YtdognehkbahmdaaEreQuote
import Derived.Test.YtdognehkbahmdaaEreCount2
namespace Go.Proofs.Ytdognehkbahmdaa.ere
open Go.RowKit Go.Proofs.Ytdognehkbahmdaa.sum Go.Proofs.Ytdognehkbahmdaa.kept Go.Proofs.Ytdognehkbahmdaa.pop Go.Proofs.Ytdognehkbahmdaa.cls Go.Proofs.Ytdognehkbahmdaa.tre Go.Proofs.Ytdognehkbahmdaa.str
set_option linter.unusedVariables false

set_option maxRecDepth 100000 in
theorem copy_fresh (b : Nat) (w : World) (bs : List Value) (h : Lib.BuilderAt 68 5 b b (.pointer none) bs w) :
    Calls Try.prog 47 #[.pointer (some ⟨b, 0, none⟩)] w fun e w' => e = .returned (.tuple #[]) ∧ w' = w.setCell ⟨b, 0, none⟩ (.pointer (some ⟨b, 0, none⟩)) := by
  obtain ⟨j, hj, hjs⟩ := Option.map_eq_some_iff.1 (show (Try.prog.info? 68).map (fun i => i.size) = some 2 by kernel_rfl)
  have hlies : liesAt Try.prog Try.prog.depth 68 (2 / Try.prog.cellsOf 68) 0 68 1 = true := by kernel_rfl
  have h0 := h.cell0
  have hsh := h.shape
  have hfz := h.frozen0
  clear h
  go_enter Try.func47, Try.ntmps47
  go_wp2
  rw [Lib.run_to_unsafe w ⟨b, 0, none⟩ Try.underlying66 Try.underlying109 hj (by rw [hjs]; decide) hsh (Nat.zero_lt_succ 1)]
  simp only [Result.andThen]
  rw [Oper.upon_value]
  go_wp2
  rw [run_callFunc_extern Try.func65 (by kernel_rfl) (by kernel_rfl) (by kernel_rfl) (e := Extern.AbiNoEscape.same) (by kernel_rfl)]
  rw [Lib.run_noEscape]
  simp only [Result.andThen]
  rw [Oper.upon_value]
  go_wp2
  rw [Lib.run_from_unsafe w ⟨b, 0, none⟩ Try.underlying109 Try.underlying66 hj hsh hlies]
  simp only [Result.andThen]
  rw [Oper.upon_value]
  go_wp2
  go_end0
  exact ⟨rfl, rfl⟩

set_option maxRecDepth 100000 in
set_option maxHeartbeats 1000000 in
theorem wbyte_new (b : Nat) (bs : List Value) (c : Int) (w0 : World) (h0 : Lib.BuilderAt 68 5 b b (.pointer none) bs w0) (hlen : bs.length ≤ 1000000000000) :
    Calls Try.prog 49 #[.pointer (some ⟨b, 0, none⟩), .int .u8 c] w0 fun e w' => e = .returned .nilIface ∧ Bd b (bs ++ [.int .u8 c]) w' ∧ Kp (fun k => b ≤ k) w0 w' := by
  obtain ⟨i0, hi, hz0, hz1, hz2⟩ := info_parts infoU8
  have hcc0 := copy_fresh b w0 bs h0
  obtain ⟨w, hw⟩ : ∃ w, w0.setCell ⟨b, 0, none⟩ (.pointer (some ⟨b, 0, none⟩)) = w := ⟨_, rfl⟩
  have hcc : Calls Try.prog 47 #[.pointer (some ⟨b, 0, none⟩)] w0 fun e w' => e = .returned (.tuple #[]) ∧ w' = w := by rw [← hw]; exact hcc0
  have h : Bd b bs w := by rw [← hw]; exact h0.used _
  have hk0 : Kp (fun k => b ≤ k) w0 w := by rw [← hw]; exact (Kp.refl (fun k => b ≤ k) w0).setCell (p := ⟨b, 0, none⟩) (fun _ => Nat.le_refl _) _
  have hlt := h.lt
  have HCc := Hid_mk hcc
  obtain ⟨hB, v, hbk, hown, hne⟩ := h
  have c1 : w.cell? ⟨b, 1, none⟩ = some v := by rw [Lib.cell_of_heap hbk]; rfl
  have hown1 : (w.alloc (.cells #[.int .u8 c] 5)).ownsRow b 5 1 v bs.length bs := hown.alloc _
  obtain ⟨v', w2, hr, ho, hg, -, hloc⟩ := run_append_own_at (P := Try.prog) (w.alloc (.cells #[.int .u8 c] 5)) b 36 36 5 i0 (.int .u8 0) 1 1 Try.underlying36 hi hz0 hz1 hz2 rfl (by decide) v bs.length bs hown1 ⟨w.heap.size, 0, none⟩ 1 1 [.int .u8 c] rfl
    (fun j u hj => by
      match j, hj with
      | 0, hj => simp at hj; subst hj; simp [Addr.add]) (fun u hu => by simp at hu; subst hu; rfl) (by unfold maxLen; omega) (by omega) (by simp; omega)
  have hb2 : w2.heap[b]? = some (.cells #[.pointer (some ⟨b, 0, none⟩), v] 68 (0, 0)) := by
    rw [hg.block b (by simp; omega) (fun e => hne e.symm), Lib.alloc_old w _ b hlt]
    exact hbk
  have d1 : w2.cell? ⟨b, 1, none⟩ = some v := by rw [Lib.cell_of_heap hb2]; rfl
  have f1 : w2.frozen? ⟨b, 1, none⟩ = false := Lib.frozen_of_heap hb2 1
  have hfin : Bd b (bs ++ [.int .u8 c]) (w2.setCell ⟨b, 1, none⟩ v') := Lib.BuilderAt.put (Nat.le_refl _) hb2 (bs' := bs ++ [.int .u8 c]) (by simpa using ho) (by decide)
  have hkf : Kp (fun k => b ≤ k) w (w2.setCell ⟨b, 1, none⟩ v') := ((((Kp.refl (fun k => b ≤ k) w).alloc _).grown hg fun k _ e => (hown.lt k e).1).setCell (p := ⟨b, 1, none⟩) (fun _ => Nat.le_refl _) _)
  have HF := Hid_mk hfin
  have HKf := Hid_mk (hk0.trans' hkf)
  obtain ⟨g, cap, rfl⟩ : ∃ g cap, v' = .slice (some ⟨g, 0, none⟩) (bs.length + 1) cap := by
    rcases ho.2 with ⟨_, h0⟩ | ⟨g, cap, cur, hv, _⟩
    · omega
    · exact ⟨g, cap, hv⟩
  have hr2 := hr
  clear hcc hcc0 h0 hw hk0 hown hown1 ho hg hloc hfin hkf hb2 hbk hne hB
  go_enter Try.func49, Try.ntmps49
  go_wp2_with fail
  with_reducible refine HCc.out.mono ?_
  rintro e w1 ⟨rfl, rfl⟩
  go_wp2_with (at_builtin; (refine wpList_append_run rfl _ _ _ _ rfl hr2 ?_))
  go_wp2
  go_ret
  exact ⟨rfl, HF.out, HKf.out⟩


theorem fresh_bd (w : World) : Lib.BuilderAt 68 5 w.heap.size w.heap.size (.pointer none) [] (w.alloc (.cells #[.pointer none, .slice none 0 0] 68)) :=
  ⟨Nat.le_refl _, .slice none 0 0, heap_alloc_new w _, World.ownsRow_nil _ _ _ _, fun e => by cases e⟩

set_option maxRecDepth 100000 in
set_option maxHeartbeats 1000000 in
theorem write_first (b : Nat) (w : World) (h0 : Lib.BuilderAt 68 5 b b (.pointer none) [] w) :
    Calls Try.prog 34 #[.pointer (some ⟨b, 0, none⟩), .agg #[.int .i64 7, .int .u64 0, .int .u64 0, .int .u64 0, .int .u64 0, .slice none 0 0]] w fun e w' => e = .returned (.tuple #[]) ∧ Bd b [.int .u8 94] w' ∧ Kp (fun k => b ≤ k) w w' := by
  obtain ⟨W1, hW1⟩ : ∃ W1, w.alloc (.cells #[.int .i64 7, .int .u64 0, .int .u64 0, .int .u64 0, .int .u64 0, .slice none 0 0] 27) = W1 := ⟨_, rfl⟩
  have hk1 : Kp No w W1 := by rw [← hW1]; exact (Kp.refl No w).alloc _
  have h1 : Lib.BuilderAt 68 5 b b (.pointer none) [] W1 := by
    obtain ⟨hB, v, hbk, hown, hne⟩ := h0
    exact ⟨hB, v, by rw [hk1.block b (Array.getElem?_eq_some_iff.1 hbk).1 id]; exact hbk, owns_kept hown hk1 fun _ _ => id, hne⟩
  have hr := RAt.new w (.int .i64 7) (.int .u64 0) (.int .u64 0) (.int .u64 0) (.int .u64 0) (.slice none 0 0) 27
  rw [hW1] at hr
  obtain ⟨r0, -, -, -, -, -, -⟩ := hr
  have HWb := Hid_mk (wbyte_new b [] 94 W1 h1 (by simp))
  have HW1 := Hid_mk hW1
  have HK1 := Hid_mk hk1
  clear h0 h1 hW1 hk1
  go_enter Try.func34, Try.ntmps34
  go_upto_region 1 with fail
  rw [HW1.out]
  clear HW1
  go_wp2_with fail
  with_reducible refine HWb.out.mono ?_
  rintro e w2 ⟨rfl, hb2, hk2⟩
  have HB2 := Hid_mk hb2
  have HK2 := Hid_mk (HK1.out.to.trans' hk2)
  clear hb2 hk2 HWb r0
  go_wp2
  go_end0
  exact ⟨rfl, HB2.out, HK2.out⟩

theorem first_right : rightS (leafT 7) = true := by kernel_rfl

set_option maxRecDepth 100000 in
set_option maxHeartbeats 1000000 in
theorem print_first (w : World) : Calls Try.prog 15 #[.agg #[.int .i64 7, .int .u64 0, .int .u64 0, .int .u64 0, .int .u64 0, .slice none 0 0]] w fun e w' => e = .returned (.string ⟨#[94]⟩) ∧ Kp No w w' := by
  obtain ⟨W1, hW1⟩ : ∃ W1, w.alloc (.cells #[.int .i64 7, .int .u64 0, .int .u64 0, .int .u64 0, .int .u64 0, .slice none 0 0] 27) = W1 := ⟨_, rfl⟩
  have hk1 : Kp No w W1 := by rw [← hW1]; exact (Kp.refl No w).alloc _
  have hr := RAt.new w (.int .i64 7) (.int .u64 0) (.int .u64 0) (.int .u64 0) (.int .u64 0) (.slice none 0 0) 27
  rw [hW1] at hr
  have hrt := pright_any W1 _ (leafT 7) (leaf_val (fun _ => True) W1 7 nul 0 (by decide) none)
  rw [first_right] at hrt
  unfold cellsR at hrt
  simp only [wd_nul, Int.natCast_zero] at hrt
  have HRt := Hid_mk hrt
  have HR := Hid_mk hr
  have HW1 := Hid_mk hW1
  have HK1 := Hid_mk hk1
  obtain ⟨r0, r1, r2, r3, r4, r5, rw'⟩ := hr
  clear hW1 hk1 hrt
  go_enter Try.func15, Try.ntmps15
  go_upto_region 1 with fail
  rw [HW1.out]
  clear HW1
  go_wp2_with fail
  with_reducible refine HRt.out.mono ?_
  rintro e W2 ⟨rfl, hk2⟩
  have HR2 := Hid_mk (HR.out.kept hk2 id)
  have HK2 := Hid_mk (HK1.out.trans' hk2)
  clear hk2 r0 r1 r2 r3 r4 r5 rw' HRt
  go_upto_region 4 with fail
  obtain ⟨b, hb⟩ : ∃ b, W2.heap.size = b := ⟨_, rfl⟩
  rw [hb]
  refine wp_name (fun W => Kp No W2 W ∧ Lib.BuilderAt 68 5 b b (.pointer none) [] W) ⟨(Kp.refl No W2).alloc _, by rw [← hb]; exact fresh_bd W2⟩ ?_
  rintro W3 ⟨hk3, hb3⟩
  have HB := Hid_mk hb
  have HK3 := Hid_mk (HK2.out.trans' hk3)
  obtain ⟨r0, r1, r2, r3, r4, r5, rw'⟩ := HR2.out.kept hk3 id
  have HWr := Hid_mk (write_first b W3 hb3)
  clear hk3 hb hb3
  go_wp2_with fail
  with_reducible refine HWr.out.mono ?_
  rintro e w4 ⟨rfl, hb4, hk4⟩
  have hst := Try.Builder_String_any b b [94] w4 (.inr hb4) (by have := hb4.lt; omega)
  have HSt := Hid_mk hst
  have HK4 := Hid_mk hk4
  have HK34 : Hid (Kp No w w4) := Hid_mk (HK3.out.trans hk4 fun i hi h => by have h : b ≤ i := h; have h2 := HB.out; have h3 := HK2.out.size; omega)
  clear hst hb4 hk4 r0 r1 r2 r3 r4 r5 rw' HWr
  go_wp2_with fail
  with_reducible refine HSt.out.mono ?_
  rintro e w5 ⟨rfl, hbl⟩
  have HKf : Hid (Kp No w w5) := Hid_mk (HK34.out.trans (kp_below hbl) fun i hi h => by have h : b ≤ i := h; have h2 := HB.out; have h3 := HK2.out.size; omega)
  clear hbl HSt
  go_wp2
  go_ret
  exact ⟨rfl, HKf.out⟩

end Go.Proofs.Ytdognehkbahmdaa.ere
