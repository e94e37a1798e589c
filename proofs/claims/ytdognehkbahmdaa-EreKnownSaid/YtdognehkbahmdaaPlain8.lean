/- The reference's Plain: a set of words as 256 bools. -/
import Derived.Test.YtdognehkbahmdaaBig
import Derived.Deep.CutRange
namespace Go.Proofs.Ytdognehkbahmdaa.cls
open Go.RowKit Go.Proofs.Ytdognehkbahmdaa.sum Go.Proofs.Ytdognehkbahmdaa.kept Go.Proofs.Ytdognehkbahmdaa.pop
set_option linter.unusedVariables false

theorem results_cell1 {fn : Func} {p : Tmp} {ty : TypeId} (h : fn.results = #[.cell p ty]) (tmps : Array Value) (P : Program) (w : World) :
    (results fn tmps).run P w = ((asAddr (tmps.getD p undef)).run P w).andThen fun a w₁ => (loadVar ty a).run P w₁ := by
  simp only [results, h]
  simp [Sem.run_bind, Result.andThen]
def PnRel (w : World) (q : Nat) (f : Nat → Bool) (i : Value) (wr : World) : Prop :=
  ∃ k : Nat, k ≤ 256 ∧ i = .int .i64 (k : Int) ∧ BgAt wr q (upTo f k) ∧ Kp (fun b => b = q) w wr
theorem cells_sv (w : World) (f : Nat → Bool) : SetAt (w.alloc (.cells #[.int .u64 (wd f 0 64 : Nat), .int .u64 (wd f 64 64 : Nat), .int .u64 (wd f 128 64 : Nat), .int .u64 (wd f 192 64 : Nat)] 24)) w.heap.size f := SetAt.made w f

set_option maxRecDepth 100000 in
theorem plain_any (w : World) (f : Nat → Bool) :
    Calls Try.prog 58 #[sv f] w fun e w' => e = .returned (bv f) ∧ Kp No w w' := by
  obtain ⟨W0, hW0⟩ : ∃ W0, ((w.alloc (.cells #[.int .u64 (wd f 0 64 : Nat), .int .u64 (wd f 64 64 : Nat), .int .u64 (wd f 128 64 : Nat), .int .u64 (wd f 192 64 : Nat)] 24)).alloc (.cells (Array.replicate 256 (.bool false)) 64)).alloc (.cells (Array.replicate 256 (.bool false)) 64) = W0 := ⟨_, rfl⟩
  have HK0 : Hid (Kp No w W0) := Hid_mk (by rw [← hW0]; exact (((Kp.refl No w).alloc _).alloc _).alloc _)
  have HS0 : Hid (SetAt W0 w.heap.size f) := Hid_mk (by rw [← hW0]; exact (SetAt.made w f).no (((Kp.refl No _).alloc _).alloc _))
  have HZ1 : Hid (BgAt W0 (w.heap.size + 1) nul) := Hid_mk (by
    rw [← hW0]
    have := (BgAt.zero (w.alloc (.cells #[.int .u64 (wd f 0 64 : Nat), .int .u64 (wd f 64 64 : Nat), .int .u64 (wd f 128 64 : Nat), .int .u64 (wd f 192 64 : Nat)] 24)) 64).no ((Kp.refl No _).alloc (.cells (Array.replicate 256 (.bool false)) 64))
    simpa using this)
  have HZ2 : Hid (BgAt W0 (w.heap.size + 1 + 1) nul) := Hid_mk (by
    rw [← hW0]
    have := BgAt.zero ((w.alloc (.cells #[.int .u64 (wd f 0 64 : Nat), .int .u64 (wd f 64 64 : Nat), .int .u64 (wd f 128 64 : Nat), .int .u64 (wd f 192 64 : Nat)] 24)).alloc (.cells (Array.replicate 256 (.bool false)) 64)) 64
    simpa using this)
  have HW0 := Hid_mk hW0
  have zv := zero36.1
  generalize Array.replicate 256 (Value.bool false) = Z at zv HW0
  clear hW0
  rw [svd f]
  go_enter Try.func58, Try.ntmps58
  go_wp2
  rw [HW0.out]
  clear HW0
  obtain ⟨q, hq⟩ : ∃ q, w.heap.size = q := ⟨_, rfl⟩
  rw [hq] at HS0 HZ1 HZ2
  go_loopw [4] (fun i wr => PnRel W0 (q + 1 + 1) f i wr) (fun i _ => 256 - (intOf i).toNat)
  case atStart => exact ⟨0, by omega, rfl, HZ2.out.congr fun x _ => by simp [nul, upTo], Kp.refl _ _⟩
  case round =>
    obtain ⟨k, hk, rfl, hs, hkp⟩ := hrel
    have HS := Hid_mk hs
    have HKp := Hid_mk hkp
    have hk0 : (0 : Int) ≤ (k : Int) := Int.natCast_nonneg _
    by_cases hlt : k < 256
    · have hki : (k : Int) < 256 := by omega
      have hwi : IntKind.i64.wrap ((k : Int) + 1) = (k : Int) + 1 := IntWalk.i64_in _ (by omega)
      obtain ⟨p, hp⟩ : ∃ p, k / 64 = p := ⟨_, rfl⟩
      obtain ⟨r, hr⟩ : ∃ r, k % 64 = r := ⟨_, rfl⟩
      have hp4 : p < 4 := by omega
      have hr64 : r < 64 := by omega
      have hpi : (k : Int).tdiv 64 = (p : Int) := by rw [Int.tdiv_eq_ediv_of_nonneg hk0]; omega
      have hri : (k : Int).tmod 64 = (r : Int) := by rw [Int.tmod_eq_emod_of_nonneg hk0]; omega
      have hwp : IntKind.i64.wrap (p : Int) = (p : Int) := IntWalk.i64_in _ (by omega)
      have hwr : IntKind.u64.wrap (r : Int) = (r : Int) := wrap_u64_in r (by omega)
      have hr0 : (0 : Int) ≤ (r : Int) := Int.natCast_nonneg _
      have hp0 : (0 : Int) ≤ (p : Int) := Int.natCast_nonneg _
      have hpi4 : (p : Int) < 4 := by omega
      have hcs := (HS0.out.kept hkp (by omega)).cell p hp4
      have hfb := has_wd f (64 * p) r hr64
      rw [show 64 * p + r = k from by omega] at hfb
      have hx := wd_le f (64 * p)
      generalize wd f (64 * p) 64 = x at hcs hfb hx
      have hv : (((x : Int) / 2 ^ r).tmod 2 == 1) = f k := by
        have e0 : (x : Int) / 2 ^ r = ((x / 2 ^ r : Nat) : Int) := by push_cast; rfl
        have e1 : ((x : Int) / 2 ^ r).tmod 2 = ((x / 2 ^ r % 2 : Nat) : Int) := by rw [e0, Int.tmod_eq_emod_of_nonneg (Int.natCast_nonneg _)]; push_cast; rfl
        rw [e1, hfb]
        cases f k <;> rfl
      have hcq := hs.cell k hlt
      have hwm := hs.warm k
      have hg : upTo f (k + 1) k = f k := by simp [upTo]
      have HST := Hid_mk (hs.set (g := upTo f (k + 1)) k hlt fun x hx h => by
        unfold upTo
        rw [Bool.eq_iff_iff]
        simp only [Bool.and_eq_true, decide_eq_true_eq]
        constructor <;> intro ⟨a, b⟩ <;> exact ⟨by omega, b⟩)
      rw [hg] at HST
      clear hs hkp hp hr hfb hx hg
      go_wp2
      go_roundw
      case rel => exact ⟨k + 1, by omega, by push_cast; rfl, HST.out, HKp.out.setCell (p := ⟨q + 1 + 1, k, none⟩) (fun _ => rfl) _⟩
      case measure => simp only [intOf]; omega
    · obtain rfl : k = 256 := by omega
      have h1 := hs.congr (upTo_all f)
      have h2 := HZ1.out.kept hkp (by omega)
      have hres := h2.puts f
      have hkr := kp_setCells (w0 := w) (S := No) (q := q + 1) (fun h => by omega) (bc f) 0 (HK0.out.trans hkp fun i hi e => by omega)
      have H1 := Hid_mk h1.range
      have H2 := Hid_mk (show wr.there (q + 1) 0 (bc f).toArray.size by rw [List.size_toArray, bc_len]; exact h2.there)
      have HRes := Hid_mk hres
      have HKr := Hid_mk hkr
      clear hs hkp HS HKp h1 h2 hres hkr HZ1 HZ2 HS0 HK0
      subst hq
      go_upto_region 6 with fail
      refine wp_region_lit ?_
      refine wpList_load_mid rfl _ _ rfl (w.heap.size + 1 + 1) 0 rfl (bc f) _ H1.out Try.underlying64 rfl (info_bc f) ?_
      simp only [Act.put, List.setIfInBounds_toArray, List.set_cons_zero, List.set_cons_succ]
      refine wpList_store_mid rfl _ _ _ rfl (w.heap.size + 1) 0 (bc f).toArray rfl rfl H2.out (info_bca f) (all_oneCell_toArray (bc_one f)) ?_
      simp only [Act.put, List.setIfInBounds_toArray, List.set_cons_zero, List.set_cons_succ]
      go_wp2
      (try simp only [Exit.inBlock, Exit.then])
      refine bodyPost_ret (v := bv f) ?_ rfl ⟨rfl, HKr.out⟩
      rw [results_cell1 rfl]
      have hld := run_loadVar_mid (P := Try.prog) _ (w.heap.size + 1) 0 64 (bc f) _ HRes.out.range Try.underlying64 rfl (info_bc f)
      simp [asAddr, Result.andThen, hld]

end Go.Proofs.Ytdognehkbahmdaa.cls
