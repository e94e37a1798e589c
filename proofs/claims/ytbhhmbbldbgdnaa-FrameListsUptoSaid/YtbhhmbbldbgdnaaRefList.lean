/- The reference's List. -/
import Derived.Test.YtbhhmbbldbgdnaaRefFrame
import Derived.Test.YtbhhmbbldbgdnaaList
namespace Go.Proofs.Ytbhhmbbldbgdnaa.ref
open Go.RowKit Go.Proofs.Ytbhhmbbldbgdnaa.sum Go.Proofs.Ytbhhmbbldbgdnaa.kept Go.Proofs.Ytbhhmbbldbgdnaa.app Go.Proofs.Ytbhhmbbldbgdnaa.writer Go.Proofs.Ytbhhmbbldbgdnaa.clone Go.Proofs.Ytbhhmbbldbgdnaa.known Go.Proofs.Ytbhhmbbldbgdnaa.seal Go.Proofs.Ytbhhmbbldbgdnaa.unseal Go.Proofs.Ytbhhmbbldbgdnaa.turnedPlain Go.Proofs.Ytbhhmbbldbgdnaa.frm Go.Proofs.Ytbhhmbbldbgdnaa.lst
set_option linter.unusedVariables false

theorem slice_mid {w : World} {b o len cap : Nat} {bs : List UInt8} (h : Bs w (.slice (some ⟨b, o, none⟩) len cap) bs) (k n : Nat) (hk : k + 10 + n ≤ bs.length) (X Y : Int) (hX : X = ((k + 4 : Nat) : Int)) (hY : Y = ((k + 10 + n : Nat) : Int)) :
    (∀ W, (Instr.sliceAt 30 (.slice (some ⟨b, o, none⟩) len cap) (some (.int .i64 X)) (some (.int .i64 Y)) none).run Try.prog W = .ok (.slice (some ⟨b, o + (k + 4), none⟩) (n + 6) (cap - (k + 4))) W) ∧
      ∀ w', Kp No w w' → Bs w' (.slice (some ⟨b, o + (k + 4), none⟩) (n + 6) (cap - (k + 4))) (((bs.drop k).drop 4).take (n + 6)) := by
  have H := h
  obtain ⟨a, c, e, h1, h2, h3⟩ := h
  simp only [Value.slice.injEq] at e
  obtain ⟨rfl, rfl, rfl⟩ := e
  subst hX hY
  refine ⟨fun W => ?_, fun w' hk' => ?_⟩
  · obtain ⟨i0, hi, hz0, hz1, hz2⟩ := info_parts info5
    have hu : Try.prog.underlying 30 = some (.slice (Try.prog.elem 30)) := by kernel_rfl
    have he : Try.prog.elem 30 = 5 := by kernel_rfl
    rw [run_sliceAt_slice W _ _ _ _ _ hu, run_slice_lh W _ _ _ _ hu .i64 .i64 ((k + 4 : Nat) : Int) ((k + 10 + n : Nat) : Int) (by omega) (by omega) (by omega)]
    have e1 : k + 10 + n - (k + 4) = n + 6 := by omega
    simp only [Int.toNat_natCast, sliced, e1, if_neg (show ¬ cap = k + 4 by omega)]
    simp [he, sizeOf, typeInfo, hi, hz1, Result.andThen, addr_add]
  · refine bs_no ?_ hk'
    have h5 := bs_drop H (k + 4) (by omega) (some ⟨b, o + (k + 4), none⟩) (fun _ => rfl)
    have h6 := bs_take h5 (n + 6) (by omega)
    rw [List.drop_drop]
    exact h6

/-- what the reference asks of what stands at a place is what package frame asks -/
theorem firstP_ref {t : List UInt8} (h4 : 4 ≤ t.length) (h1 : num4 t ≤ 4194304) (h2 : num4 t + 10 ≤ t.length) :
    firstP t = if sealed (((t.drop 4).take (num4 t + 6)).take (num4 t)) = (t.drop 4).take (num4 t + 6) then some (((t.drop 4).take (num4 t + 6)).take (num4 t)) else none := by
  have hl : ((t.drop 4).take (num4 t + 6)).length = num4 t + 6 := by rw [List.length_take, List.length_drop]; omega
  have hs := seal_iff ((t.drop 4).take (num4 t + 6)) (by omega)
  rw [hl, show num4 t + 6 - 6 = num4 t by omega] at hs
  unfold firstP
  by_cases hc : pl.sum (((t.drop 4).take (num4 t + 6)).take (num4 t)) = said (((t.drop 4).take (num4 t + 6)).drop (num4 t))
  · rw [if_pos ⟨h4, h1, h2, hc⟩, if_pos (hs.2 hc)]
  · rw [if_neg (fun h => hc h.2.2.2), if_neg (fun h => hc (hs.1 h))]

set_option maxRecDepth 100000 in
set_option maxHeartbeats 8000000 in
theorem list_any (w : World) (v : Value) (bs : List UInt8) (h : Bs w v bs) (hbl : bs.length ≤ 1000000000000) :
    Calls Try.prog 27 #[v] w (ListPost w (listP bs)) := by
  have H := Hid_mk h
  obtain ⟨a, cap, rfl, hlc, hm, hcell⟩ := h
  have HCell := Hid_mk hcell
  unfold maxLen at hm
  clear hcell
  go_enter Try.func27, Try.ntmps27
  go_wp2
  go_loopw [4, 5] (fun v i wr => ListRel w bs v i wr) (fun _ i _ => bs.length - (intOf i).toNat)
  case atStart => exact ⟨0, [], rfl, Lo.nil _ _, At.start _, Nat.le_refl _, Kp.refl _ _⟩
  case round =>
    obtain ⟨k, qs, rfl, hlo, hat, hql, hkp⟩ := hrel
    have hkb := hat.1
    have HLo := Hid_mk hlo
    have HAt := Hid_mk hat
    have HKp := Hid_mk hkp
    have hws := hkp.size
    have hki : (k : Int) ≤ (bs.length : Int) := by omega
    clear hlo hat hkp
    by_cases h4 : k + 4 ≤ bs.length
    · have h4i : (4 : Int) ≤ (bs.length : Int) - (k : Int) := by omega
      obtain ⟨b, o, rfl, hcell⟩ := HCell.out (by intro e; rw [e] at h4; simp at h4)
      have c0 := HKp.out.cell' (hcell k (by omega)) id
      have c1 := HKp.out.cell' (hcell (k + 1) (by omega)) id
      have c2 := HKp.out.cell' (hcell (k + 2) (by omega)) id
      have c3 := HKp.out.cell' (hcell (k + 3) (by omega)) id
      have hnum : num4 (bs.drop k) = (bs.getD k 0).toNat + 256 * (bs.getD (k + 1) 0).toNat + 65536 * (bs.getD (k + 2) 0).toNat + 16777216 * (bs.getD (k + 3) 0).toNat := by
        unfold num4 num3
        simp [List.getD]
      unfold B at c0 c1 c2 c3
      obtain ⟨n, hn⟩ : ∃ n, num4 (bs.drop k) = n := ⟨_, rfl⟩
      have HN := Hid_mk hn
      rw [hn] at hnum
      have x0 : (bs.getD k 0).toNat < 256 := UInt8.toNat_lt _
      have x1 : (bs.getD (k + 1) 0).toNat < 256 := UInt8.toNat_lt _
      have x2 : (bs.getD (k + 2) 0).toNat < 256 := UInt8.toNat_lt _
      have x3 : (bs.getD (k + 3) 0).toNat < 256 := UInt8.toNat_lt _
      generalize (bs.getD k 0).toNat = p at *
      generalize (bs.getD (k + 1) 0).toNat = q at *
      generalize (bs.getD (k + 2) 0).toNat = r at *
      generalize (bs.getD (k + 3) 0).toNat = s at *
      have l0 : (k : Int) < (bs.length : Int) := by omega
      have l1 : (k : Int) + 1 < (bs.length : Int) := by omega
      have l2 : (k : Int) + 2 < (bs.length : Int) := by omega
      have l3 : (k : Int) + 3 < (bs.length : Int) := by omega
      have z0 : (0 : Int) ≤ (k : Int) := Int.natCast_nonneg _
      have z1 : (0 : Int) ≤ (k : Int) + 1 := by omega
      have z2 : (0 : Int) ≤ (k : Int) + 2 := by omega
      have z3 : (0 : Int) ≤ (k : Int) + 3 := by omega
      have t1 : ((k : Int) + 1).toNat = k + 1 := by omega
      have t2 : ((k : Int) + 2).toNat = k + 2 := by omega
      have t3 : ((k : Int) + 3).toNat = k + 3 := by omega
      have w1 : IntKind.i64.wrap ((k : Int) + 1) = (k : Int) + 1 := IntWalk.i64_in _ (by omega)
      have w2 : IntKind.i64.wrap ((k : Int) + 2) = (k : Int) + 2 := IntWalk.i64_in _ (by omega)
      have w3 : IntKind.i64.wrap ((k : Int) + 3) = (k : Int) + 3 := IntWalk.i64_in _ (by omega)
      have HNum := Hid_mk hnum
      have HSum := Hid_mk (show (p : Int) + (q : Int) * 256 + (r : Int) * 65536 + (s : Int) * 16777216 = (n : Int) by omega)
      clear hnum hn hcell
      by_cases hbig : n ≤ 4194304 ∧ k + 10 + n ≤ bs.length
      · obtain ⟨hbig, hlen⟩ := hbig
        have hbigi : ¬ (4194304 : Int) < (n : Int) := by omega
        have hleni : ¬ (bs.length : Int) - (k : Int) - 10 < (n : Int) := by omega
        have hmid := slice_mid H.out k n hlen ((k : Int) + 4) ((k : Int) + 10 + (n : Int)) (by omega) (by omega)
        have hsl := hmid.1
        have hun := fun W (hk : Kp No w W) => unseal_long W b (o + (k + 4)) n (cap - (k + 4)) _ (hmid.2 W hk) (by omega)
        have hfp := firstP_ref (t := bs.drop k) (by rw [List.length_drop]; omega) (by rw [HN.out]; exact hbig) (by rw [HN.out, List.length_drop]; omega)
        rw [HN.out] at hfp
        obtain ⟨xs, hxs⟩ : ∃ xs, ((bs.drop k).drop 4).take (n + 6) = xs := ⟨_, rfl⟩
        have hxl : xs.length = n + 6 := by rw [← hxs, List.length_take, List.length_drop, List.length_drop]; omega
        have hyl : (xs.take n).length = n := by rw [List.length_take, hxl]; omega
        rw [hxs] at hun hfp
        have HYl := Hid_mk hyl
        clear hmid hxs hxl hyl
        by_cases hs : sealed (xs.take n) = xs
        · rw [if_pos hs] at hfp
          simp only [if_pos hs] at hun
          have HUn := Hid_mk hun
          have hnext := HAt.out.next hfp
          rw [HYl.out] at hnext
          have HNx := Hid_mk hnext
          clear hs hun hfp hnext
          generalize xs.take n = ys at *
          go_wp2
          go_quiet (fail)
          rw [HSum.out]
          clear w1 w2 w3 t1 t2 t3 c0 c1 c2 c3
          go_wp2_with fail
          have hkq := HKp.out.drewN nq
          have HKq := Hid_mk hkq
          have HLq := Hid_mk (HLo.out.no ((Kp.refl No wr).drewN nq))
          with_reducible refine (HUn.out _ hkq).mono ?_
          clear hkq
          rintro e w5 ⟨hk5, v5, rfl, ho5⟩
          have HL5 := Hid_mk (HLq.out.no hk5)
          have HK5 := Hid_mk (HKq.out.trans' hk5)
          have hz5 := HK5.out.size
          have ho5' := owns_base ho5 (show w.heap.size ≤ _ from HKq.out.size)
          obtain ⟨a9, c9, rfl⟩ : ∃ a c, v5 = .slice a ys.length c := by
            rcases owns_any ho5 with ⟨rfl, hz⟩ | ⟨g, cap, rfl, -⟩
            · exact ⟨none, 0, by rw [hz]⟩
            · exact ⟨_, _, rfl⟩
          have HO5 := Hid_mk ho5'
          rw [HYl.out]
          clear hk5 ho5 ho5'
          go_wp2_with (at_builtin; (refine wpList_push _ rfl _ _ rfl w.heap.size _ qs rfl (HL5.out.no ((Kp.refl No w5).alloc _)) ?b1 _ ys (owns_kept (HYl.out ▸ HO5.out) ((Kp.refl No w5).alloc _) (fun _ _ => id)) w5.heap.size 1 rfl (heap_alloc_new w5 _) ?b2 ?_))
          case b1 => simp; omega
          case b2 => omega
          rintro v2 w6 ⟨hp1, hp2, hp3, g9, cc9, rfl⟩
          have hrel : ListRel w bs (.slice (some ⟨g9, 0, none⟩) (qs.length + 1) cc9) (.int .i64 ((k + (n + 10) : Nat) : Int)) w6 := ⟨_, _, rfl, hp1, by simpa [Els.texts] using HNx.out, by simp; omega, (HK5.out.alloc _).trans hp2 fun i hi e => by have := (HLo.out.row.lt i e.symm).1; omega⟩
          have HRel := Hid_mk hrel
          clear hrel hp1 hp2 hp3
          go_wp2
          have e9 : (k : Int) + 10 + (n : Int) = ((k + (n + 10) : Nat) : Int) := by omega
          rw [e9]
          go_roundw
          case rel => exact HRel.out
          case measure => simp [intOf]; omega
        · rw [if_neg hs] at hfp
          simp only [if_neg hs] at hun
          have HUn := Hid_mk hun
          have HDone := Hid_mk (HAt.out.done hfp)
          clear hun hs hfp
          go_wp2
          go_quiet (fail)
          rw [HSum.out]
          clear w1 w2 w3 t1 t2 t3 c0 c1 c2 c3
          go_wp2_with fail
          have hkq := HKp.out.drewN nq
          have HKq := Hid_mk hkq
          have HLq := Hid_mk (HLo.out.no ((Kp.refl No wr).drewN nq))
          with_reducible refine (HUn.out _ hkq).mono ?_
          clear hkq
          rintro e w5 ⟨hk5, rfl⟩
          have hfin : ListPost w (listP bs) (.returned (.tuple #[_, .int .i64 k])) w5 := ⟨_, qs, by rw [HDone.out], HLq.out.no hk5, by rw [HDone.out], HKq.out.trans' hk5⟩
          have HFin := Hid_mk hfin
          clear hk5 hfin
          go_wp2
          go_ret2
          exact HFin.out
      · have hfp : firstP (bs.drop k) = none := by
          unfold firstP
          rw [if_neg]
          rintro ⟨-, h1, h2, -⟩
          rw [HN.out] at h1 h2
          rw [List.length_drop] at h2
          omega
        have HDone := Hid_mk (HAt.out.done hfp)
        clear hfp
        by_cases hb2 : n ≤ 4194304
        all_goals first
          | (have hbigi : ¬ (4194304 : Int) < (n : Int) := by omega
             have hleni : (bs.length : Int) - (k : Int) - 10 < (n : Int) := by omega
             clear hb2 hbig)
          | (have hbigi : (4194304 : Int) < (n : Int) := by omega
             clear hb2 hbig)
        all_goals
          go_wp2
          go_quiet (fail)
          rw [HSum.out]
          clear w1 w2 w3 t1 t2 t3 c0 c1 c2 c3
          have hfin : ListPost w (listP bs) (.returned (.tuple #[_, .int .i64 k])) (wr.drewN nq) := ⟨_, qs, by rw [HDone.out], HLo.out.no ((Kp.refl No wr).drewN nq), by rw [HDone.out], HKp.out.drewN nq⟩
          have HFin := Hid_mk hfin
          clear hfin
          go_wp2
          go_ret2
          exact HFin.out
    · have h4i : ¬ (4 : Int) ≤ (bs.length : Int) - (k : Int) := by omega
      have hfp : firstP (bs.drop k) = none := by unfold firstP; rw [if_neg (by rw [List.length_drop]; omega)]
      have hfin : ListPost w (listP bs) (.returned (.tuple #[_, .int .i64 k])) wr := ⟨_, qs, by rw [HAt.out.done hfp], HLo.out, by rw [HAt.out.done hfp], HKp.out⟩
      have HFin := Hid_mk hfin
      clear hfin hfp
      go_wp2
      go_ret2
      exact HFin.out

end Go.Proofs.Ytbhhmbbldbgdnaa.ref
