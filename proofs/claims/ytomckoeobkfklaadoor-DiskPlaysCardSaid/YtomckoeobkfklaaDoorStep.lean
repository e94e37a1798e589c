/- The law's step: both answer the same, and stand alike again. -/
import Derived.Test.YtomckoeobkfklaaDoorPair
import Derived.Test.YtomckoeobkfklaaDoorStepRow
namespace Go.Proofs.YtomckoeobkfklaaDoor.plays
open Go.RowKit Go.Maps Go.Proofs.YtomckoeobkfklaaDoor.sum Go.Proofs.YtomckoeobkfklaaDoor.kept Go.Proofs.YtomckoeobkfklaaDoor.app Go.Proofs.YtomckoeobkfklaaDoor.writer Go.Proofs.YtomckoeobkfklaaDoor.clone Go.Proofs.YtomckoeobkfklaaDoor.known Go.Proofs.YtomckoeobkfklaaDoor.fs Go.Proofs.YtomckoeobkfklaaDoor.fsDo Go.Proofs.YtomckoeobkfklaaDoor.unseal Go.Proofs.YtomckoeobkfklaaDoor.dsk Go.Proofs.YtomckoeobkfklaaDoor.r2 Go.Proofs.YtomckoeobkfklaaDoor.pair Go.Proofs.YtomckoeobkfklaaDoor.turned
set_option linter.unusedVariables false

/-- the four names of the law -/
def nmB : Nat → ByteArray
  | 0 => ⟨#[97]⟩
  | 1 => ⟨#[98]⟩
  | 2 => ⟨#[115, 48, 48, 48, 48, 48, 48, 48, 48, 48, 48, 48, 48, 48, 48, 49]⟩
  | _ => ⟨#[115, 110, 97, 112]⟩
theorem nmB_le (K : Nat) : (nmB K).size ≤ maxLen := by
  match K with
  | 0 => decide
  | 1 => decide
  | 2 => decide
  | (k + 3) => show (4 : Nat) ≤ _; decide

/-- the law's copy of a step -/
structure Bx (w : World) (b : Nat) (what a c : Int) (n to : ByteArray) (x : Value) (near : Bool) : Prop where
  k0 : w.cell? ⟨b, 0, none⟩ = some (.int .i64 what)
  k1 : w.cell? ⟨b, 1, none⟩ = some (.int .i64 a)
  k2 : w.cell? ⟨b, 2, none⟩ = some (.int .i64 c)
  k3 : w.cell? ⟨b, 3, none⟩ = some (.string n)
  k4 : w.cell? ⟨b, 4, none⟩ = some (.string to)
  k5 : w.cell? ⟨b, 5, none⟩ = some x
  k6 : w.cell? ⟨b, 6, none⟩ = some (.bool near)
theorem Bx.kept {S : Nat → Prop} {w w' : World} {b : Nat} {what a c : Int} {n to : ByteArray} {x : Value} {near : Bool} (h : Bx w b what a c n to x near) (hk : Kp S w w') (hb : ¬ S b) : Bx w' b what a c n to x near :=
  ⟨hk.cell' h.k0 hb, hk.cell' h.k1 hb, hk.cell' h.k2 hb, hk.cell' h.k3 hb, hk.cell' h.k4 hb, hk.cell' h.k5 hb, hk.cell' h.k6 hb⟩

/-- the law's own bytes, written over -/
def OwnRel (w1 : World) (v : Value) (L : Nat) (i : Value) (wr : World) : Prop :=
  ∃ (k : Nat) (ys : List UInt8), k ≤ L ∧ i = .int .i64 k ∧ ys.length = L ∧ Bs wr v ys ∧ Kp (fun k => v.ownBlock = some k) w1 wr ∧ ∀ g, v.ownBlock = some g → ∀ j, wr.frozen? ⟨g, j, none⟩ = false
theorem owns_warm {w : World} {base : Nat} {e : TypeId} {size : Nat} {v : Value} {n : Nat} {xs : List Value} (h : w.ownsRow base e size v n xs) : ∀ g, v.ownBlock = some g → ∀ j, w.frozen? ⟨g, j, none⟩ = false := by
  intro g hg j
  rcases h.2 with ⟨rfl, _⟩ | ⟨g', cap, cur, rfl, _, hb, _⟩
  · cases hg
  · simp [Value.ownBlock] at hg
    subst hg
    simp [World.frozen?, hb]

/-- what a step leaves -/
def StepPost (w : World) (base p r M : Nat) (e : Ending) (w' : World) : Prop := e = .returned (.bool true) ∧ Kp (fun k => base ≤ k) w w' ∧ ∃ ρ d, Both w' base p ρ d r M

set_option maxRecDepth 100000 in
set_option maxHeartbeats 8000000 in
theorem step_any (w : World) (base p r M : Nat) (ρ : Nat → Role) (d : DSt) (h : Both w base p ρ d r M) (hM : M ≤ 900) (hbr : base ≤ r) (what sa sb : Int) (n to : ByteArray) (sx : Value) (bs : List UInt8) (near : Bool)
    (hb : Bs w sx bs) (hlow : bs ≠ [] → ∀ x o m c, sx = .slice (some ⟨x, o, none⟩) m c → x < base) (hbl : bs.length ≤ 140737488355328) (hn : n.size ≤ maxLen) (hto : to.size ≤ maxLen) (hnm : ∀ K, K < 4 → w.cell? ⟨0, K, none⟩ = some (.string (nmB K))) :
    Calls Tryd.prog 6 #[.pointer (some ⟨p, 0, none⟩), .pointer (some ⟨r, 0, none⟩), .agg #[.int .i64 what, .int .i64 sa, .int .i64 sb, .string n, .string to, sx, .bool near]] w (StepPost w base p r (M + 1)) := by
  have hrlt := h.lt
  have hbx : ρ w.heap.size = .other := h.dk.hi (Nat.le_refl _)
  have HPk := fun n m hm hm2 => Hid_mk (pick_any n m hm hm2)
  obtain ⟨sxa, sxc, rfl, -⟩ := id hb
  have H := Hid_mk h
  have HBs := Hid_mk hb
  have HLo := Hid_mk hlow
  have HM := Hid_mk hM
  -- behind the copy, the names of it chosen or not
  obtain ⟨W0, hW0⟩ : ∃ W0, w.alloc (.cells #[.int .i64 what, .int .i64 sa, .int .i64 sb, .string n, .string to, .slice sxa bs.length sxc, .bool near] 36) = W0 := ⟨_, rfl⟩
  have kW0 : Kp No w W0 := by rw [← hW0]; exact (Kp.refl No w).alloc _
  have B0 : Bx W0 w.heap.size what sa sb n to (.slice sxa bs.length sxc) near := by rw [← hW0]; constructor <;> simp
  have F0 : ∀ o, W0.frozen? ⟨w.heap.size, o, none⟩ = false := fun o => by rw [← hW0]; simp
  have HB0 := Hid_mk B0
  clear h hb hlow
  cases near with
  | true =>
    have e0 := Int.emod_nonneg sa (show (4 : Int) ≠ 0 by omega)
    have e1 := Int.emod_lt_of_pos sa (show (0 : Int) < 4 by omega)
    have e2 := Int.emod_nonneg sb (show (4 : Int) ≠ 0 by omega)
    have e3 := Int.emod_lt_of_pos sb (show (0 : Int) < 4 by omega)
    obtain ⟨K, hK⟩ : ∃ K : Nat, sa % 4 = (K : Int) := ⟨(sa % 4).toNat, by omega⟩
    obtain ⟨L, hL⟩ : ∃ L : Nat, sb % 4 = (L : Int) := ⟨(sb % 4).toNat, by omega⟩
    have hK4 : K < 4 := by omega
    have hL4 : L < 4 := by omega
    have hKi : (K : Int) < 4 := by omega
    have hLi : (L : Int) < 4 := by omega
    have hK0 : (0 : Int) ≤ (K : Int) := by omega
    have hL0 : (0 : Int) ≤ (L : Int) := by omega
    have P1 := Hid_mk (pick_any sa 4 (by omega) (by omega))
    have P2 := Hid_mk (pick_any sb 4 (by omega) (by omega))
    rw [hK] at P1
    rw [hL] at P2
    have g1 := kW0.cell' (hnm K hK4) id
    have g2 : (W0.setCell ⟨w.heap.size, 3, none⟩ (.string (nmB K))).cell? ⟨0, L, none⟩ = some (.string (nmB L)) := cell_off (kW0.cell' (hnm L hL4) id) (by omega)
    have q1 := B0.k1
    have q6 := B0.k6
    have q3 := B0.k3
    have f3 := F0 3
    have q2 : (W0.setCell ⟨w.heap.size, 3, none⟩ (.string (nmB K))).cell? ⟨w.heap.size, 2, none⟩ = some (.int .i64 sb) := other_cell B0.k2 (by omega)
    have q4 : (W0.setCell ⟨w.heap.size, 3, none⟩ (.string (nmB K))).cell? ⟨w.heap.size, 4, none⟩ = some (.string to) := other_cell B0.k4 (by omega)
    have f4 : (W0.setCell ⟨w.heap.size, 3, none⟩ (.string (nmB K))).frozen? ⟨w.heap.size, 4, none⟩ = false := by rw [World.frozen?_setCell]; exact F0 4
    clear hnm hK hL e0 e1 e2 e3
    obtain ⟨W, hW⟩ : ∃ W, (W0.setCell ⟨w.heap.size, 3, none⟩ (.string (nmB K))).setCell ⟨w.heap.size, 4, none⟩ (.string (nmB L)) = W := ⟨_, rfl⟩
    have kW : Kp No w W := by rw [← hW]; exact (kW0.setCell (fun h => absurd h (Nat.lt_irrefl _)) _).setCell (fun h => absurd h (Nat.lt_irrefl _)) _
    have BW : Bx W w.heap.size what sa sb (nmB K) (nmB L) (.slice sxa bs.length sxc) true := by
      rw [← hW]
      exact ⟨other_cell (other_cell B0.k0 (by omega)) (by omega), other_cell (other_cell B0.k1 (by omega)) (by omega), other_cell (other_cell B0.k2 (by omega)) (by omega), other_cell (World.cell?_setCell_same W0 _ _ B0.k3) (by omega), World.cell?_setCell_same _ _ _ q4, other_cell (other_cell B0.k5 (by omega)) (by omega), other_cell (other_cell B0.k6 (by omega)) (by omega)⟩
    have q0 : W.cell? ⟨w.heap.size, 0, none⟩ = some (.int .i64 what) := BW.k0
    go_enter Tryd.func6, Tryd.ntmps6
    go_wp2_with fail
    with_reducible refine (P1.out _).mono ?_
    rintro e w' ⟨rfl, rfl⟩
    go_wp2_with fail
    with_reducible refine (P2.out _).mono ?_
    rintro e w' ⟨rfl, rfl⟩
    go_wp2_with fail
    try rw [hW]
    clear q0 q1 q2 q3 q4 q6 f3 f4 g1 g2 P1 P2 hK4 hL4 hKi hLi hK0 hL0 hW kW0 B0 F0 HB0 hn hto hW0
    have hn := nmB_le K
    have hto := nmB_le L
    generalize nmB K = n at *
    generalize nmB L = to at *
    obtain ⟨m, hm⟩ : ∃ m : Nat, what % 13 = (m : Int) := ⟨(what % 13).toNat, by have := Int.emod_nonneg what (show (13 : Int) ≠ 0 by omega); omega⟩
    have hm13 : m < 13 := by have := Int.emod_lt_of_pos what (show (0 : Int) < 13 by omega); omega
    have P3 := pick_any what 13 (by omega) (by omega) W
    rw [hm] at P3
    with_reducible refine P3.mono ?_
    rintro e w' ⟨rfl, rfl⟩
    clear P3 hm
    have HKW := Hid_mk kW
    have HBW := Hid_mk BW
    have HBo := Hid_mk (H.out.no kW)
    have hbW : w.heap.size < W.heap.size := World.block_lt_of_cell? W ⟨w.heap.size, 0, none⟩ BW.k0
    clear kW BW
    obtain ⟨b, hbE⟩ : ∃ b, w.heap.size = b := ⟨_, rfl⟩
    rw [hbE] at HBW hbW hrlt hbx ⊢
    have HbE := Hid_mk hbE
    clear hbE
    have k1 := HBW.out.k1
    have k2 := HBW.out.k2
    have k3 := HBW.out.k3
    have k4 := HBW.out.k4
    have k5 := HBW.out.k5
    have k6 := HBW.out.k6
    have hcase : m = 5 ∨ m = 6 ∨ m = 7 ∨ m = 8 ∨ m = 9 ∨ m = 10 ∨ m = 11 ∨ m = 12 ∨ m < 5 := by omega
    rcases hcase with rfl | rfl | rfl | rfl | rfl | rfl | rfl | rfl | hm5
    · have HRd := Hid_mk (HBo.out.read (by have := HM.out; omega) n hn)
      go_wp2_with fail
      with_reducible refine HRd.out.mono ?_
      rintro e w' ⟨vr, br, rfl, hvr, -, hbr2, rfl⟩
      obtain ⟨ar, cr, rfl, -⟩ := id hvr
      clear hvr
      have PS := Hid_mk (pick_any sb ((br.length : Int) + 2) (by omega) (by omega))
      go_wp2_with fail
      with_reducible refine (PS.out _).mono ?_
      rintro e w' ⟨rfl, rfl⟩
      obtain ⟨sz, hsz⟩ : ∃ sz, sb % ((br.length : Int) + 2) = sz := ⟨_, rfl⟩
      rw [hsz]
      clear hsz PS HRd
      obtain ⟨cd, hcd⟩ : ∃ c, (trR d n sz).1 = c := ⟨_, rfl⟩
      have HC1 : Hid (∀ V, Kp No W V → Calls Tryd.prog 16 #[.pointer (some ⟨p, 0, none⟩), .string n, .int .i64 sz] V fun e w1 => e = .returned (.int .i64 cd) ∧ Kp (fun k => base ≤ k ∧ k ≠ r ∧ ρ k ≠ .other) V w1 ∧ Hid (Mid V base p ρ d ((trR d n sz).2) r w1)) :=
        Hid_mk fun V hV => (HBo.out.no hV).call (hcd ▸ ptrunc_any (HBo.out.no hV).dk HBo.out.ok.1 (by have := HM.out; omega) n sz hn)
      have HC2 : Hid (∀ V w1, Hid (Mid V base p ρ d ((trR d n sz).2) r w1) → Calls Tryd.prog 17 #[.pointer (some ⟨r, 0, none⟩), .string n, .int .i64 sz] w1 fun e w2 => e = .returned (.int .i64 cd) ∧ Kp (fun k => base ≤ k) V w2 ∧ Kp (fun k => k = r) w1 w2 ∧ Hid (∃ ρ2, Both w2 base p ρ2 ((trR d n sz).2) r (M + 1))) :=
        Hid_mk fun V w1 hmid => hmid.out.call hbr (trR_ok HBo.out.ok (by have := HM.out; omega) n sz hn) fun ρ1 x vs vn vw ls ln ps h3 h4 h5 _ => hcd ▸ reftrunc_any w1 ρ1 r d x vs vn vw ls ln ps M h3 h4 HBo.out.ok.1 (by have := HM.out; omega) h5 n sz hn
      clear hcd
      go_wp2
      go_region_held3 (fun V => V.cell? ⟨b, 3, none⟩ = some (.string n))
        (first
          | go_keep
          | (dsimp only; exact k3)
          | (dsimp only; exact u3)
          | (dsimp only; exact v3)
          | assumption)
        (first
          | (go_at_call 16; (with_reducible refine (HC1.out _ (Kp.drew (Kp.refl No W))).mono ?_); rintro e w1 ⟨rfl, hk1, hM1⟩; have u3 := hk1.cell' k3 (fun h => h.2.2 hbx))
          | (go_at_call 17; (with_reducible refine (HC2.out _ _ hM1).mono ?_); rintro e w2 ⟨rfl, hk2, hk2r, hB2⟩; have v3 := hk2r.cell' u3 (fun h => by have h' : b = r := h; omega)))
      go_wp2
      go_ret
      obtain ⟨ρ2, hB3⟩ := hB2.out
      exact ⟨rfl, HKW.out.to.trans' (((Kp.refl _ W).drew).trans' hk2), ρ2, _, hB3⟩
    · obtain ⟨cd, hcd⟩ : ∃ c, (reR d n to).1 = c := ⟨_, rfl⟩
      have HC1 : Hid (∀ V, Kp No W V → Calls Tryd.prog 18 #[.pointer (some ⟨p, 0, none⟩), .string n, .string to] V fun e w1 => e = .returned (.int .i64 cd) ∧ Kp (fun k => base ≤ k ∧ k ≠ r ∧ ρ k ≠ .other) V w1 ∧ Hid (Mid V base p ρ d ((reR d n to).2) r w1)) :=
        Hid_mk fun V hV => (HBo.out.no hV).call (hcd ▸ prename_any (HBo.out.no hV).dk HBo.out.ok.1 (by have := HM.out; omega) n to hn hto)
      have HC2 : Hid (∀ V w1, Hid (Mid V base p ρ d ((reR d n to).2) r w1) → Calls Tryd.prog 19 #[.pointer (some ⟨r, 0, none⟩), .string n, .string to] w1 fun e w2 => e = .returned (.int .i64 cd) ∧ Kp (fun k => base ≤ k) V w2 ∧ Kp (fun k => k = r) w1 w2 ∧ Hid (∃ ρ2, Both w2 base p ρ2 ((reR d n to).2) r (M + 1))) :=
        Hid_mk fun V w1 hmid => hmid.out.call hbr (reR_ok HBo.out.ok n to hn) fun ρ1 x vs vn vw ls ln ps h3 h4 h5 _ => hcd ▸ refrename_any w1 ρ1 r d x vs vn vw ls ln ps M h3 h4 HBo.out.ok.1 (by have := HM.out; omega) h5 n to hn hto
      clear hcd
      go_wp2
      go_region_held3 (fun V => V.cell? ⟨b, 3, none⟩ = some (.string n) ∧ V.cell? ⟨b, 4, none⟩ = some (.string to))
        (first
          | go_keep
          | (dsimp only; exact ⟨k3, k4⟩)
          | (dsimp only; exact ⟨u3, u4⟩)
          | (dsimp only; exact ⟨v3, v4⟩)
          | assumption)
        (first
          | (go_at_call 18; (with_reducible refine (HC1.out _ (Kp.drew (Kp.refl No W))).mono ?_); rintro e w1 ⟨rfl, hk1, hM1⟩; have u3 := hk1.cell' k3 (fun h => h.2.2 hbx); have u4 := hk1.cell' k4 (fun h => h.2.2 hbx))
          | (go_at_call 19; (with_reducible refine (HC2.out _ _ hM1).mono ?_); rintro e w2 ⟨rfl, hk2, hk2r, hB2⟩; have v3 := hk2r.cell' u3 (fun h => by have h' : b = r := h; omega); have v4 := hk2r.cell' u4 (fun h => by have h' : b = r := h; omega)))
      go_wp2
      go_ret
      obtain ⟨ρ2, hB3⟩ := hB2.out
      exact ⟨rfl, HKW.out.to.trans' (((Kp.refl _ W).drew).trans' hk2), ρ2, _, hB3⟩
    · obtain ⟨cd, hcd⟩ : ∃ c, (rmR d n).1 = c := ⟨_, rfl⟩
      have HC1 : Hid (∀ V, Kp No W V → Calls Tryd.prog 11 #[.pointer (some ⟨p, 0, none⟩), .string n] V fun e w1 => e = .returned (.int .i64 cd) ∧ Kp (fun k => base ≤ k ∧ k ≠ r ∧ ρ k ≠ .other) V w1 ∧ Hid (Mid V base p ρ d ((rmR d n).2) r w1)) :=
        Hid_mk fun V hV => (HBo.out.no hV).call (hcd ▸ premove_any (HBo.out.no hV).dk HBo.out.ok.1 (by have := HM.out; omega) n hn)
      have HC2 : Hid (∀ V w1, Hid (Mid V base p ρ d ((rmR d n).2) r w1) → Calls Tryd.prog 20 #[.pointer (some ⟨r, 0, none⟩), .string n] w1 fun e w2 => e = .returned (.int .i64 cd) ∧ Kp (fun k => base ≤ k) V w2 ∧ Kp (fun k => k = r) w1 w2 ∧ Hid (∃ ρ2, Both w2 base p ρ2 ((rmR d n).2) r (M + 1))) :=
        Hid_mk fun V w1 hmid => hmid.out.call hbr (rmR_ok HBo.out.ok n hn) fun ρ1 x vs vn vw ls ln ps h3 h4 h5 _ => hcd ▸ refremove_any w1 ρ1 r d x vs vn vw ls ln ps M h3 h4 HBo.out.ok.1 (by have := HM.out; omega) h5 n hn
      clear hcd
      go_wp2
      go_region_held3 (fun V => V.cell? ⟨b, 3, none⟩ = some (.string n))
        (first
          | go_keep
          | (dsimp only; exact k3)
          | (dsimp only; exact u3)
          | (dsimp only; exact v3)
          | assumption)
        (first
          | (go_at_call 11; (with_reducible refine (HC1.out _ (Kp.drew (Kp.refl No W))).mono ?_); rintro e w1 ⟨rfl, hk1, hM1⟩; have u3 := hk1.cell' k3 (fun h => h.2.2 hbx))
          | (go_at_call 20; (with_reducible refine (HC2.out _ _ hM1).mono ?_); rintro e w2 ⟨rfl, hk2, hk2r, hB2⟩; have v3 := hk2r.cell' u3 (fun h => by have h' : b = r := h; omega)))
      go_wp2
      go_ret
      obtain ⟨ρ2, hB3⟩ := hB2.out
      exact ⟨rfl, HKW.out.to.trans' (((Kp.refl _ W).drew).trans' hk2), ρ2, _, hB3⟩
    · obtain ⟨cd, hcd⟩ : ∃ c, (syR d).1 = c := ⟨_, rfl⟩
      have HC1 : Hid (∀ V, Kp No W V → Calls Tryd.prog 10 #[.pointer (some ⟨p, 0, none⟩)] V fun e w1 => e = .returned (.int .i64 cd) ∧ Kp (fun k => base ≤ k ∧ k ≠ r ∧ ρ k ≠ .other) V w1 ∧ Hid (Mid V base p ρ d ((syR d).2) r w1)) :=
        Hid_mk fun V hV => (HBo.out.no hV).call (hcd ▸ psync_any (HBo.out.no hV).dk HBo.out.ok.1 (by have := HM.out; omega))
      have HC2 : Hid (∀ V w1, Hid (Mid V base p ρ d ((syR d).2) r w1) → Calls Tryd.prog 21 #[.pointer (some ⟨r, 0, none⟩)] w1 fun e w2 => e = .returned (.int .i64 cd) ∧ Kp (fun k => base ≤ k) V w2 ∧ Kp (fun k => k = r) w1 w2 ∧ Hid (∃ ρ2, Both w2 base p ρ2 ((syR d).2) r (M + 1))) :=
        Hid_mk fun V w1 hmid => hmid.out.call hbr (syR_ok HBo.out.ok) fun ρ1 x vs vn vw ls ln ps h3 h4 h5 _ => hcd ▸ refsync_any w1 ρ1 r d x vs vn vw ls ln ps M h3 h4 HBo.out.ok.1 (by have := HM.out; omega) h5
      clear hcd
      go_wp2_with (first
          | (go_at_call 10; with_reducible refine (HC1.out _ (Kp.refl No W)).mono ?_; rintro e w1 ⟨rfl, hk1, hM1⟩)
          | (go_at_call 21; with_reducible refine (HC2.out _ _ hM1).mono ?_; rintro e w2 ⟨rfl, hk2, hk2r, hB2⟩))
      go_ret
      obtain ⟨ρ2, hB3⟩ := hB2.out
      exact ⟨rfl, HKW.out.to.trans' hk2, ρ2, _, hB3⟩
    · obtain ⟨cd, hcd⟩ : ∃ c, (syR d).1 = c := ⟨_, rfl⟩
      have HC1 : Hid (∀ V, Kp No W V → Calls Tryd.prog 10 #[.pointer (some ⟨p, 0, none⟩)] V fun e w1 => e = .returned (.int .i64 cd) ∧ Kp (fun k => base ≤ k ∧ k ≠ r ∧ ρ k ≠ .other) V w1 ∧ Hid (Mid V base p ρ d ((syR d).2) r w1)) :=
        Hid_mk fun V hV => (HBo.out.no hV).call (hcd ▸ psync_any (HBo.out.no hV).dk HBo.out.ok.1 (by have := HM.out; omega))
      have HC2 : Hid (∀ V w1, Hid (Mid V base p ρ d ((syR d).2) r w1) → Calls Tryd.prog 21 #[.pointer (some ⟨r, 0, none⟩)] w1 fun e w2 => e = .returned (.int .i64 cd) ∧ Kp (fun k => base ≤ k) V w2 ∧ Kp (fun k => k = r) w1 w2 ∧ Hid (∃ ρ2, Both w2 base p ρ2 ((syR d).2) r (M + 1))) :=
        Hid_mk fun V w1 hmid => hmid.out.call hbr (syR_ok HBo.out.ok) fun ρ1 x vs vn vw ls ln ps h3 h4 h5 _ => hcd ▸ refsync_any w1 ρ1 r d x vs vn vw ls ln ps M h3 h4 HBo.out.ok.1 (by have := HM.out; omega) h5
      clear hcd
      go_wp2_with (first
          | (go_at_call 10; with_reducible refine (HC1.out _ (Kp.refl No W)).mono ?_; rintro e w1 ⟨rfl, hk1, hM1⟩)
          | (go_at_call 21; with_reducible refine (HC2.out _ _ hM1).mono ?_; rintro e w2 ⟨rfl, hk2, hk2r, hB2⟩))
      go_ret
      obtain ⟨ρ2, hB3⟩ := hB2.out
      exact ⟨rfl, HKW.out.to.trans' hk2, ρ2, _, hB3⟩
    · obtain ⟨cd, hcd⟩ : ∃ c, (crashK d sa : Int) = c := ⟨_, rfl⟩
      have HC1 : Hid (∀ V, Kp No W V → Calls Tryd.prog 12 #[.pointer (some ⟨p, 0, none⟩), .int .i64 sa, .int .i64 sb] V fun e w1 => e = .returned (.int .i64 cd) ∧ Kp (fun k => base ≤ k ∧ k ≠ r ∧ ρ k ≠ .other) V w1 ∧ Hid (Mid V base p ρ d (crashD d sa sb) r w1)) :=
        Hid_mk fun V hV => (HBo.out.no hV).call (hcd ▸ crash_any V base p M ρ d sa sb (HBo.out.no hV).dk HBo.out.ok.1 (by have := HM.out; omega))
      have HC2 : Hid (∀ V w1, Hid (Mid V base p ρ d (crashD d sa sb) r w1) → Calls Tryd.prog 22 #[.pointer (some ⟨r, 0, none⟩), .int .i64 sa, .int .i64 sb] w1 fun e w2 => e = .returned (.int .i64 cd) ∧ Kp (fun k => base ≤ k) V w2 ∧ Kp (fun k => k = r) w1 w2 ∧ Hid (∃ ρ2, Both w2 base p ρ2 (crashD d sa sb) r (M + 1))) :=
        Hid_mk fun V w1 hmid => hmid.out.call hbr (crR_ok HBo.out.ok (by have := HM.out; omega) sa sb) fun ρ1 x vs vn vw ls ln ps h3 h4 h5 _ => hcd ▸ refcrash_any w1 ρ1 r d x vs vn vw ls ln ps M h3 h4 HBo.out.ok.1 (by have := HM.out; omega) h5 sa sb
      clear hcd
      go_wp2
      go_region_held3 (fun V => V.cell? ⟨b, 1, none⟩ = some (.int .i64 sa) ∧ V.cell? ⟨b, 2, none⟩ = some (.int .i64 sb))
        (first
          | go_keep
          | (dsimp only; exact ⟨k1, k2⟩)
          | (dsimp only; exact ⟨u1, u2⟩)
          | (dsimp only; exact ⟨v1, v2⟩)
          | assumption)
        (first
          | (go_at_call 12; (with_reducible refine (HC1.out _ (Kp.drew (Kp.refl No W))).mono ?_); rintro e w1 ⟨rfl, hk1, hM1⟩; have u1 := hk1.cell' k1 (fun h => h.2.2 hbx); have u2 := hk1.cell' k2 (fun h => h.2.2 hbx))
          | (go_at_call 22; (with_reducible refine (HC2.out _ _ hM1).mono ?_); rintro e w2 ⟨rfl, hk2, hk2r, hB2⟩; have v1 := hk2r.cell' u1 (fun h => by have h' : b = r := h; omega); have v2 := hk2r.cell' u2 (fun h => by have h' : b = r := h; omega)))
      go_wp2
      go_ret
      obtain ⟨ρ2, hB3⟩ := hB2.out
      exact ⟨rfl, HKW.out.to.trans' (((Kp.refl _ W).drew).trans' hk2), ρ2, _, hB3⟩
    · have e0 := Int.emod_nonneg sa (show (20 : Int) ≠ 0 by omega)
      have e1 := Int.emod_lt_of_pos sa (show (0 : Int) < 20 by omega)
      have PS := Hid_mk (pick_any sa 20 (by omega) (by omega))
      obtain ⟨q, hq⟩ : ∃ q, sa % 20 = q := ⟨_, rfl⟩
      rw [hq] at e0 e1 PS
      clear hq
      have hwr : IntKind.i64.wrap (q - 3) = q - 3 := wrapU _ (by omega)
      have HC1 : Hid (Calls Tryd.prog 23 #[.pointer (some ⟨p, 0, none⟩), .int .i64 (q - 3)] W fun e w1 => e = .returned (.tuple #[]) ∧ Kp (fun k => base ≤ k ∧ k ≠ r ∧ ρ k ≠ .other) W w1 ∧ Hid (Mid W base p ρ d { d with fuse := max (q - 3) (-1) } r w1)) :=
        Hid_mk (HBo.out.call (pfuse_any HBo.out.dk (q - 3)))
      have HC2 : Hid (∀ w1, Hid (Mid W base p ρ d { d with fuse := max (q - 3) (-1) } r w1) → Calls Tryd.prog 24 #[.pointer (some ⟨r, 0, none⟩), .int .i64 (q - 3)] w1 fun e w2 => e = .returned (.tuple #[]) ∧ Kp (fun k => base ≤ k) W w2 ∧ Kp (fun k => k = r) w1 w2 ∧ Hid (∃ ρ2, Both w2 base p ρ2 { d with fuse := max (q - 3) (-1) } r (M + 1))) :=
        Hid_mk fun w1 hmid => hmid.out.call hbr (fuR_ok HBo.out.ok (q - 3) (by omega)) fun ρ1 x vs vn vw ls ln ps h3 h4 h5 _ => reffu_any w1 ρ1 r d x vs vn vw ls ln ps h3 h4 (q - 3) (by omega)
      go_wp2_with (first
          | (go_at_call 14; with_reducible refine (PS.out _).mono ?_; rintro e w' ⟨rfl, rfl⟩)
          | (go_at_call 23; with_reducible refine HC1.out.mono ?_; rintro e w1 ⟨rfl, hk1, hM1⟩)
          | (go_at_call 24; with_reducible refine (HC2.out _ hM1).mono ?_; rintro e w2 ⟨rfl, hk2, hk2r, hB2⟩))
      go_ret
      obtain ⟨ρ2, hB3⟩ := hB2.out
      exact ⟨rfl, HKW.out.to.trans' hk2, ρ2, _, hB3⟩
    · have e0 := Int.emod_nonneg sa (show (200 : Int) ≠ 0 by omega)
      have e1 := Int.emod_lt_of_pos sa (show (0 : Int) < 200 by omega)
      have PS := Hid_mk (pick_any sa 200 (by omega) (by omega))
      obtain ⟨q, hq⟩ : ∃ q, sa % 200 = q := ⟨_, rfl⟩
      rw [hq] at e0 e1 PS
      clear hq
      go_wp2_with fail
      with_reducible refine (PS.out _).mono ?_
      rintro e w' ⟨rfl, rfl⟩
      by_cases hrb : roomB q = true
      · have hr1 : 0 ≤ q ∧ q ≤ 8388608 := by simpa [roomB] using hrb
        have hr2 : ¬ q < 0 := by omega
        have hr3 : ¬ q > 8388608 := by omega
        have HC1 : Hid (Calls Tryd.prog 25 #[.pointer (some ⟨p, 0, none⟩), .int .i64 q] W fun e w1 => e = .returned (.int .i64 0) ∧ Kp (fun k => base ≤ k ∧ k ≠ r ∧ ρ k ≠ .other) W w1 ∧ Hid (Mid W base p ρ d { d with room := q } r w1)) :=
          Hid_mk (HBo.out.call (proom_any HBo.out.dk q hrb))
        have HOk := Hid_mk (roR_ok HBo.out.ok q hrb)
        clear hrb
        go_wp2_with fail
        with_reducible refine HC1.out.mono ?_
        rintro e w1 ⟨rfl, hk1, hM1⟩
        obtain ⟨⟨u, g0⟩, f0, hk2, hB2⟩ := hM1.out.room hbr HOk.out
        have HK2 := Hid_mk hk2
        clear hk2
        go_wp2
        go_ret
        obtain ⟨ρ2, hB3⟩ := hB2.out
        exact ⟨rfl, HKW.out.to.trans' HK2.out, ρ2, _, hB3⟩
      · have hrb2 : roomB q = false := by simpa using hrb
        have HC1 := Hid_mk (room_no W base p q hrb2)
        have hr1 : ¬ (0 ≤ q ∧ q ≤ 8388608) := by simpa [roomB] using hrb
        clear hrb hrb2
        by_cases hr2 : q < 0
        · go_wp2_with fail
          with_reducible refine HC1.out.mono ?_
          rintro e w1 ⟨rfl, rfl⟩
          go_wp2
          go_ret
          exact ⟨rfl, HKW.out.to, ρ, d, HBo.out.mono (by omega)⟩
        · have hr3 : 8388608 < q := by omega
          go_wp2_with fail
          with_reducible refine HC1.out.mono ?_
          rintro e w1 ⟨rfl, rfl⟩
          go_wp2
          go_ret
          exact ⟨rfl, HKW.out.to, ρ, d, HBo.out.mono (by omega)⟩
    · have x5 : ¬ (m : Int) = 5 := by omega
      have x6 : ¬ (m : Int) = 6 := by omega
      have x7 : ¬ (m : Int) = 7 := by omega
      have x8 : ¬ (m : Int) = 8 := by omega
      have x9 : ¬ (m : Int) = 9 := by omega
      have x10 : ¬ (m : Int) = 10 := by omega
      have x11 : ¬ (m : Int) = 11 := by omega
      have x12 : ¬ (m : Int) = 12 := by omega
      have HBsW := Hid_mk (bs_no HBs.out HKW.out)
      have hbaseW : base < W.heap.size := by omega
      clear hm5 hm13
      go_wp2_with (at_builtin; (refine wpList_append_bs _ rfl _ _ rfl W.heap.size _ [] rfl (World.ownsRow_made W #[] 0 (Nat.le_refl _) (by decide) rfl) _ bs rfl (bs_no HBsW.out ((Kp.refl No W).alloc _)) (show ([] : List UInt8).length + _ ≤ _ by simp; omega) (by simp) ?_))
      rintro v2 W2 happ
      obtain ⟨g2, cap2, rfl, ho2⟩ := app_new happ
      have kk2 : Kp No W W2 := ((Kp.refl No W).alloc _).grown happ.2.1 (fun i hi e => by simp [Value.ownBlock] at e; omega)
      have hg2 := World.ownsRow.lt ho2 g2 rfl
      have hg2b : ρ g2 = .other := HBo.out.dk.hi hg2.1
      have u3 := kk2.cell' k3 id
      have u5 := kk2.cell' k5 id
      have HWarm := Hid_mk (owns_warm ho2 g2 rfl)
      have hown := owns_bs ho2
      have hcap2 : bs.length ≤ cap2 ∧ cap2 ≤ maxLen := by
        obtain ⟨_, _, e, h1, h2, -⟩ := id hown
        simp only [Value.slice.injEq] at e
        obtain ⟨-, -, rfl⟩ := e
        exact ⟨h1, h2⟩
      have HOwn := Hid_mk hown
      have HSx := Hid_mk (bs_no HBsW.out kk2)
      have HK2 := Hid_mk kk2
      have hWz := kk2.size
      have co0 := conv_bs (bs_no HOwn.out ((Kp.refl No W2).drew))
      have cs0 := conv_bs (bs_no HSx.out ((Kp.refl No W2).drew))
      obtain ⟨cd, hcd⟩ : ∃ c, (appR d n bs).1 = c := ⟨_, rfl⟩
      have HC1 : Hid (∀ V, Kp No W2 V → Calls Tryd.prog 9 #[.pointer (some ⟨p, 0, none⟩), .string n, .slice (some ⟨g2, 0, none⟩) bs.length cap2] V fun e w1 => e = .returned (.int .i64 cd) ∧ Kp (fun k => base ≤ k ∧ k ≠ r ∧ ρ k ≠ .other) V w1 ∧ Hid (MidA base p d (appR d n bs).2 r g2 w1)) :=
        Hid_mk fun V hV => made_call (HBo.out.made (HK2.out.trans' hV) hg2.1 (Nat.lt_of_lt_of_le hg2.2 hV.size)) (Nat.lt_of_lt_of_le hg2.2 hV.size) (hcd ▸ papp_any (HBo.out.dk.no (HK2.out.trans' hV)) HBo.out.ok.1 (by have := HM.out; omega) n _ bs hn (bs_no HOwn.out hV) (fun _ x o k c e => by cases e; exact hg2b) hbl)
      have HC2 : Hid (∀ w1, Hid (MidA base p d (appR d n bs).2 r g2 w1) → Bs w1 (.slice sxa bs.length sxc) bs → Calls Tryd.prog 26 #[.pointer (some ⟨r, 0, none⟩), .string n, .slice sxa bs.length sxc] w1 fun e w2 => e = .returned (.int .i64 cd) ∧ Kp (fun k => k = r) w1 w2 ∧ Hid (MidA base p (appR d n bs).2 (appR d n bs).2 r g2 w2)) :=
        Hid_mk fun w1 hmid hbx1 => hmid.out.call fun ρ1 x vs vn vw ls ln ps h3 h4 h5 h6 => hcd ▸ refappend_any w1 ρ1 r d x vs vn vw ls ln ps M h3 h4 HBo.out.ok.1 (by have := HM.out; omega) h5 n _ bs hn hbx1 (fun hne y o k c e => ⟨h6 y (HLo.out hne y o k c e) (by have := HLo.out hne y o k c e; have := hg2.1; omega), by have := HLo.out hne y o k c e; omega, bs_lt hbx1 hne e⟩) hbl
      have HOkA := Hid_mk (appR_ok HBo.out.ok n bs)
      obtain ⟨dA, hdA⟩ : ∃ dA, (appR d n bs).2 = dA := ⟨_, rfl⟩
      rw [hdA] at HC1 HC2 HOkA
      clear hcd hdA happ ho2 kk2 hown k1 k2 k3 k4 k5 k6
      go_wp2
      go_region_held3 (fun V => V.cell? ⟨b, 3, none⟩ = some (.string n) ∧ V.cell? ⟨b, 5, none⟩ = some (.slice sxa bs.length sxc) ∧ (convert 34 9 (.slice (some ⟨g2, 0, none⟩) bs.length cap2)).run Tryd.prog V = .ok (.string ⟨bs.toArray⟩) V ∧ (convert 34 9 (.slice sxa bs.length sxc)).run Tryd.prog V = .ok (.string ⟨bs.toArray⟩) V)
        (first
          | go_keep
          | (dsimp only; exact ⟨u3, u5, co0, cs0⟩)
          | (dsimp only; exact ⟨v3, v5, co1, cs1⟩)
          | (dsimp only; exact ⟨y3, y5, hco, hcs⟩)
          | assumption)
        (first
          | (go_at_call 9; (with_reducible refine (HC1.out _ (Kp.drew (Kp.refl No W2))).mono ?_); rintro e w1 ⟨rfl, hk1, hM1⟩; have hk1' := Kp.trans' (Kp.drew (Kp.refl (fun k => base ≤ k ∧ k ≠ r ∧ ρ k ≠ .other) W2)) hk1; have v3 := hk1'.cell' u3 (fun h => h.2.2 hbx); have v5 := hk1'.cell' u5 (fun h => h.2.2 hbx); have hs1 := bs_keptE HSx.out hk1' (fun hne y o k c e h => by have h' := HLo.out hne y o k c e; have h'' := h.1; omega); have ho1 := bs_keptE HOwn.out hk1' (fun hne y o k c e h => by cases e; exact h.2.2 hg2b); have hf1 := fun j => (hk1'.frozen (p := ⟨g2, j, none⟩) hg2.2 (fun h => h.2.2 hg2b)).trans (HWarm.out j); have co1 := conv_bs ho1; have cs1 := conv_bs hs1; have HS1 := Hid_mk hs1; have HO1 := Hid_mk ho1; have HF1 := Hid_mk hf1; have HK1 := Hid_mk hk1'; clear hs1 ho1 hf1 hk1 hk1')
          | (go_at_call 26; (with_reducible refine (HC2.out _ hM1 HS1.out).mono ?_); rintro e w2 ⟨rfl, hk2r, hM2⟩; have y3 := hk2r.cell' v3 (fun h => by have h' : b = r := h; omega); have y5 := hk2r.cell' v5 (fun h => by have h' : b = r := h; omega); have hs2 := bs_keptE HS1.out hk2r (fun hne y o k c e h => by have h' := HLo.out hne y o k c e; omega); have ho2 := bs_keptE HO1.out hk2r (fun hne y o k c e h => by cases e; have h' := hg2.1; omega); have hcs := conv_bs hs2; have hco := conv_bs ho2; have hz1 := HK1.out.size; have hf2 := fun j => (hk2r.frozen (p := ⟨g2, j, none⟩) (by have h' := hg2.2; simp only; omega) (fun h => by have h' : g2 = r := h; have h'' := hg2.1; omega)).trans (HF1.out j); have HO2 := Hid_mk ho2; have HF2 := Hid_mk hf2; have HK2r := Hid_mk hk2r; clear hs2 ho2 hf2 hk2r))
      have hstart : OwnRel w2 (.slice (some ⟨g2, 0, none⟩) bs.length cap2) bs.length (.int .i64 ((0 : Nat) : Int)) w2 := ⟨0, bs, Nat.zero_le _, rfl, rfl, HO2.out, Kp.refl _ _, fun g hg j => by simp [Value.ownBlock] at hg; subst hg; exact HF2.out j⟩
      have HStart := Hid_mk hstart
      obtain ⟨L, hL⟩ : ∃ L, bs.length = L := ⟨_, rfl⟩
      have HL := Hid_mk hL
      have hL2 : L ≤ cap2 ∧ cap2 ≤ maxLen := hL ▸ hcap2
      unfold maxLen at hL2
      rw [hL] at HStart ⊢
      clear hstart hL hcs hco co0 cs0 co1 cs1 u3 u5 v3 v5 y3 y5 hcap2
      go_wp2
      go_loopw [15] (fun i wq => OwnRel w2 (.slice (some ⟨g2, 0, none⟩) L cap2) L i wq) (fun i _ => L - (intOf i).toNat)
      case atStart => exact HStart.out
      case round =>
        obtain ⟨j, ys, hj, rfl, hyl, hyb, hyk, hyf⟩ := hrel
        have HYb := Hid_mk hyb
        have HYk := Hid_mk hyk
        have HYl := Hid_mk hyl
        have HYf := Hid_mk hyf
        clear hyb hyk hyl hyf
        by_cases hjl : j < L
        · have hset := turned.bs_set HYb.out j hjl 238
          rw [Nat.zero_add] at hset
          have hcell : _ := HYb.out
          obtain ⟨_, _, e, _, _, h3⟩ := hcell
          simp only [Value.slice.injEq] at e
          obtain ⟨b', o', e2, hc⟩ := h3 (by intro e; have := HYl.out; rw [e] at this; simp at this; omega)
          rw [← e.1] at e2
          cases e2
          have hcj := hc j (by rw [HYl.out]; exact hjl)
          rw [Nat.zero_add] at hcj
          unfold B at hcj
          have hwj := HYf.out g2 rfl j
          have hji : (j : Int) < (L : Int) := by omega
          have hji0 : (0 : Int) ≤ (j : Int) := Int.natCast_nonneg _
          have hrel : OwnRel w2 (.slice (some ⟨g2, 0, none⟩) L cap2) L (.int .i64 ((j + 1 : Nat) : Int)) _ := ⟨j + 1, ys.set j 238, hjl, rfl, by rw [List.length_set]; exact HYl.out, hset, HYk.out.setCell (p := ⟨g2, j, none⟩) (fun _ => rfl) _, fun g' hg' i' => by rw [World.frozen?_setCell]; exact HYf.out g' hg' i'⟩
          have HRel := Hid_mk hrel
          clear hrel hset hc h3 e
          go_wp2
          go_roundw
          case rel => exact HRel.out
          case measure => simp [intOf]; omega
        · have hji : ¬ (j : Int) < (L : Int) := by omega
          clear hjl
          go_wp2
          go_ret
          have hyk : Kp (fun k => k = g2) w2 _ := HYk.out.mono fun k _ e => by simp [Value.ownBlock] at e; exact e.symm
          obtain ⟨ρ2, hB3⟩ := (hM2.out.set hyk).both HOkA.out
          exact ⟨rfl, ((((HKW.out.trans' HK2.out).to).trans' (HK1.out.mono fun k _ h => h.1)).trans' (HK2r.out.mono fun k _ h => by rw [h]; exact hbr)).trans' (hyk.mono fun k _ h => by rw [h]; have h' := hg2.1; omega), ρ2, dA, hB3⟩

  | false =>
    have q0 := B0.k0
    have q6 := B0.k6
    go_enter Tryd.func6, Tryd.ntmps6
    go_wp2_with fail
    have kW := kW0
    have BW := B0
    clear q0 q6 kW0 B0 F0 HB0 hW0 hnm
    generalize W0 = W at *
    obtain ⟨m, hm⟩ : ∃ m : Nat, what % 13 = (m : Int) := ⟨(what % 13).toNat, by have := Int.emod_nonneg what (show (13 : Int) ≠ 0 by omega); omega⟩
    have hm13 : m < 13 := by have := Int.emod_lt_of_pos what (show (0 : Int) < 13 by omega); omega
    have P3 := pick_any what 13 (by omega) (by omega) W
    rw [hm] at P3
    with_reducible refine P3.mono ?_
    rintro e w' ⟨rfl, rfl⟩
    clear P3 hm
    have HKW := Hid_mk kW
    have HBW := Hid_mk BW
    have HBo := Hid_mk (H.out.no kW)
    have hbW : w.heap.size < W.heap.size := World.block_lt_of_cell? W ⟨w.heap.size, 0, none⟩ BW.k0
    clear kW BW
    obtain ⟨b, hbE⟩ : ∃ b, w.heap.size = b := ⟨_, rfl⟩
    rw [hbE] at HBW hbW hrlt hbx ⊢
    have HbE := Hid_mk hbE
    clear hbE
    have k1 := HBW.out.k1
    have k2 := HBW.out.k2
    have k3 := HBW.out.k3
    have k4 := HBW.out.k4
    have k5 := HBW.out.k5
    have k6 := HBW.out.k6
    have hcase : m = 5 ∨ m = 6 ∨ m = 7 ∨ m = 8 ∨ m = 9 ∨ m = 10 ∨ m = 11 ∨ m = 12 ∨ m < 5 := by omega
    rcases hcase with rfl | rfl | rfl | rfl | rfl | rfl | rfl | rfl | hm5
    · obtain ⟨cd, hcd⟩ : ∃ c, (trR d n sb).1 = c := ⟨_, rfl⟩
      have HC1 : Hid (∀ V, Kp No W V → Calls Tryd.prog 16 #[.pointer (some ⟨p, 0, none⟩), .string n, .int .i64 sb] V fun e w1 => e = .returned (.int .i64 cd) ∧ Kp (fun k => base ≤ k ∧ k ≠ r ∧ ρ k ≠ .other) V w1 ∧ Hid (Mid V base p ρ d ((trR d n sb).2) r w1)) :=
        Hid_mk fun V hV => (HBo.out.no hV).call (hcd ▸ ptrunc_any (HBo.out.no hV).dk HBo.out.ok.1 (by have := HM.out; omega) n sb hn)
      have HC2 : Hid (∀ V w1, Hid (Mid V base p ρ d ((trR d n sb).2) r w1) → Calls Tryd.prog 17 #[.pointer (some ⟨r, 0, none⟩), .string n, .int .i64 sb] w1 fun e w2 => e = .returned (.int .i64 cd) ∧ Kp (fun k => base ≤ k) V w2 ∧ Kp (fun k => k = r) w1 w2 ∧ Hid (∃ ρ2, Both w2 base p ρ2 ((trR d n sb).2) r (M + 1))) :=
        Hid_mk fun V w1 hmid => hmid.out.call hbr (trR_ok HBo.out.ok (by have := HM.out; omega) n sb hn) fun ρ1 x vs vn vw ls ln ps h3 h4 h5 _ => hcd ▸ reftrunc_any w1 ρ1 r d x vs vn vw ls ln ps M h3 h4 HBo.out.ok.1 (by have := HM.out; omega) h5 n sb hn
      clear hcd
      go_wp2
      go_region_held3 (fun V => V.cell? ⟨b, 3, none⟩ = some (.string n))
        (first
          | go_keep
          | (dsimp only; exact k3)
          | (dsimp only; exact u3)
          | (dsimp only; exact v3)
          | assumption)
        (first
          | (go_at_call 16; (with_reducible refine (HC1.out _ (Kp.drew (Kp.refl No W))).mono ?_); rintro e w1 ⟨rfl, hk1, hM1⟩; have u3 := hk1.cell' k3 (fun h => h.2.2 hbx))
          | (go_at_call 17; (with_reducible refine (HC2.out _ _ hM1).mono ?_); rintro e w2 ⟨rfl, hk2, hk2r, hB2⟩; have v3 := hk2r.cell' u3 (fun h => by have h' : b = r := h; omega)))
      go_wp2
      go_ret
      obtain ⟨ρ2, hB3⟩ := hB2.out
      exact ⟨rfl, HKW.out.to.trans' (((Kp.refl _ W).drew).trans' hk2), ρ2, _, hB3⟩
    · obtain ⟨cd, hcd⟩ : ∃ c, (reR d n to).1 = c := ⟨_, rfl⟩
      have HC1 : Hid (∀ V, Kp No W V → Calls Tryd.prog 18 #[.pointer (some ⟨p, 0, none⟩), .string n, .string to] V fun e w1 => e = .returned (.int .i64 cd) ∧ Kp (fun k => base ≤ k ∧ k ≠ r ∧ ρ k ≠ .other) V w1 ∧ Hid (Mid V base p ρ d ((reR d n to).2) r w1)) :=
        Hid_mk fun V hV => (HBo.out.no hV).call (hcd ▸ prename_any (HBo.out.no hV).dk HBo.out.ok.1 (by have := HM.out; omega) n to hn hto)
      have HC2 : Hid (∀ V w1, Hid (Mid V base p ρ d ((reR d n to).2) r w1) → Calls Tryd.prog 19 #[.pointer (some ⟨r, 0, none⟩), .string n, .string to] w1 fun e w2 => e = .returned (.int .i64 cd) ∧ Kp (fun k => base ≤ k) V w2 ∧ Kp (fun k => k = r) w1 w2 ∧ Hid (∃ ρ2, Both w2 base p ρ2 ((reR d n to).2) r (M + 1))) :=
        Hid_mk fun V w1 hmid => hmid.out.call hbr (reR_ok HBo.out.ok n to hn) fun ρ1 x vs vn vw ls ln ps h3 h4 h5 _ => hcd ▸ refrename_any w1 ρ1 r d x vs vn vw ls ln ps M h3 h4 HBo.out.ok.1 (by have := HM.out; omega) h5 n to hn hto
      clear hcd
      go_wp2
      go_region_held3 (fun V => V.cell? ⟨b, 3, none⟩ = some (.string n) ∧ V.cell? ⟨b, 4, none⟩ = some (.string to))
        (first
          | go_keep
          | (dsimp only; exact ⟨k3, k4⟩)
          | (dsimp only; exact ⟨u3, u4⟩)
          | (dsimp only; exact ⟨v3, v4⟩)
          | assumption)
        (first
          | (go_at_call 18; (with_reducible refine (HC1.out _ (Kp.drew (Kp.refl No W))).mono ?_); rintro e w1 ⟨rfl, hk1, hM1⟩; have u3 := hk1.cell' k3 (fun h => h.2.2 hbx); have u4 := hk1.cell' k4 (fun h => h.2.2 hbx))
          | (go_at_call 19; (with_reducible refine (HC2.out _ _ hM1).mono ?_); rintro e w2 ⟨rfl, hk2, hk2r, hB2⟩; have v3 := hk2r.cell' u3 (fun h => by have h' : b = r := h; omega); have v4 := hk2r.cell' u4 (fun h => by have h' : b = r := h; omega)))
      go_wp2
      go_ret
      obtain ⟨ρ2, hB3⟩ := hB2.out
      exact ⟨rfl, HKW.out.to.trans' (((Kp.refl _ W).drew).trans' hk2), ρ2, _, hB3⟩
    · obtain ⟨cd, hcd⟩ : ∃ c, (rmR d n).1 = c := ⟨_, rfl⟩
      have HC1 : Hid (∀ V, Kp No W V → Calls Tryd.prog 11 #[.pointer (some ⟨p, 0, none⟩), .string n] V fun e w1 => e = .returned (.int .i64 cd) ∧ Kp (fun k => base ≤ k ∧ k ≠ r ∧ ρ k ≠ .other) V w1 ∧ Hid (Mid V base p ρ d ((rmR d n).2) r w1)) :=
        Hid_mk fun V hV => (HBo.out.no hV).call (hcd ▸ premove_any (HBo.out.no hV).dk HBo.out.ok.1 (by have := HM.out; omega) n hn)
      have HC2 : Hid (∀ V w1, Hid (Mid V base p ρ d ((rmR d n).2) r w1) → Calls Tryd.prog 20 #[.pointer (some ⟨r, 0, none⟩), .string n] w1 fun e w2 => e = .returned (.int .i64 cd) ∧ Kp (fun k => base ≤ k) V w2 ∧ Kp (fun k => k = r) w1 w2 ∧ Hid (∃ ρ2, Both w2 base p ρ2 ((rmR d n).2) r (M + 1))) :=
        Hid_mk fun V w1 hmid => hmid.out.call hbr (rmR_ok HBo.out.ok n hn) fun ρ1 x vs vn vw ls ln ps h3 h4 h5 _ => hcd ▸ refremove_any w1 ρ1 r d x vs vn vw ls ln ps M h3 h4 HBo.out.ok.1 (by have := HM.out; omega) h5 n hn
      clear hcd
      go_wp2
      go_region_held3 (fun V => V.cell? ⟨b, 3, none⟩ = some (.string n))
        (first
          | go_keep
          | (dsimp only; exact k3)
          | (dsimp only; exact u3)
          | (dsimp only; exact v3)
          | assumption)
        (first
          | (go_at_call 11; (with_reducible refine (HC1.out _ (Kp.drew (Kp.refl No W))).mono ?_); rintro e w1 ⟨rfl, hk1, hM1⟩; have u3 := hk1.cell' k3 (fun h => h.2.2 hbx))
          | (go_at_call 20; (with_reducible refine (HC2.out _ _ hM1).mono ?_); rintro e w2 ⟨rfl, hk2, hk2r, hB2⟩; have v3 := hk2r.cell' u3 (fun h => by have h' : b = r := h; omega)))
      go_wp2
      go_ret
      obtain ⟨ρ2, hB3⟩ := hB2.out
      exact ⟨rfl, HKW.out.to.trans' (((Kp.refl _ W).drew).trans' hk2), ρ2, _, hB3⟩
    · obtain ⟨cd, hcd⟩ : ∃ c, (syR d).1 = c := ⟨_, rfl⟩
      have HC1 : Hid (∀ V, Kp No W V → Calls Tryd.prog 10 #[.pointer (some ⟨p, 0, none⟩)] V fun e w1 => e = .returned (.int .i64 cd) ∧ Kp (fun k => base ≤ k ∧ k ≠ r ∧ ρ k ≠ .other) V w1 ∧ Hid (Mid V base p ρ d ((syR d).2) r w1)) :=
        Hid_mk fun V hV => (HBo.out.no hV).call (hcd ▸ psync_any (HBo.out.no hV).dk HBo.out.ok.1 (by have := HM.out; omega))
      have HC2 : Hid (∀ V w1, Hid (Mid V base p ρ d ((syR d).2) r w1) → Calls Tryd.prog 21 #[.pointer (some ⟨r, 0, none⟩)] w1 fun e w2 => e = .returned (.int .i64 cd) ∧ Kp (fun k => base ≤ k) V w2 ∧ Kp (fun k => k = r) w1 w2 ∧ Hid (∃ ρ2, Both w2 base p ρ2 ((syR d).2) r (M + 1))) :=
        Hid_mk fun V w1 hmid => hmid.out.call hbr (syR_ok HBo.out.ok) fun ρ1 x vs vn vw ls ln ps h3 h4 h5 _ => hcd ▸ refsync_any w1 ρ1 r d x vs vn vw ls ln ps M h3 h4 HBo.out.ok.1 (by have := HM.out; omega) h5
      clear hcd
      go_wp2_with (first
          | (go_at_call 10; with_reducible refine (HC1.out _ (Kp.refl No W)).mono ?_; rintro e w1 ⟨rfl, hk1, hM1⟩)
          | (go_at_call 21; with_reducible refine (HC2.out _ _ hM1).mono ?_; rintro e w2 ⟨rfl, hk2, hk2r, hB2⟩))
      go_ret
      obtain ⟨ρ2, hB3⟩ := hB2.out
      exact ⟨rfl, HKW.out.to.trans' hk2, ρ2, _, hB3⟩
    · obtain ⟨cd, hcd⟩ : ∃ c, (syR d).1 = c := ⟨_, rfl⟩
      have HC1 : Hid (∀ V, Kp No W V → Calls Tryd.prog 10 #[.pointer (some ⟨p, 0, none⟩)] V fun e w1 => e = .returned (.int .i64 cd) ∧ Kp (fun k => base ≤ k ∧ k ≠ r ∧ ρ k ≠ .other) V w1 ∧ Hid (Mid V base p ρ d ((syR d).2) r w1)) :=
        Hid_mk fun V hV => (HBo.out.no hV).call (hcd ▸ psync_any (HBo.out.no hV).dk HBo.out.ok.1 (by have := HM.out; omega))
      have HC2 : Hid (∀ V w1, Hid (Mid V base p ρ d ((syR d).2) r w1) → Calls Tryd.prog 21 #[.pointer (some ⟨r, 0, none⟩)] w1 fun e w2 => e = .returned (.int .i64 cd) ∧ Kp (fun k => base ≤ k) V w2 ∧ Kp (fun k => k = r) w1 w2 ∧ Hid (∃ ρ2, Both w2 base p ρ2 ((syR d).2) r (M + 1))) :=
        Hid_mk fun V w1 hmid => hmid.out.call hbr (syR_ok HBo.out.ok) fun ρ1 x vs vn vw ls ln ps h3 h4 h5 _ => hcd ▸ refsync_any w1 ρ1 r d x vs vn vw ls ln ps M h3 h4 HBo.out.ok.1 (by have := HM.out; omega) h5
      clear hcd
      go_wp2_with (first
          | (go_at_call 10; with_reducible refine (HC1.out _ (Kp.refl No W)).mono ?_; rintro e w1 ⟨rfl, hk1, hM1⟩)
          | (go_at_call 21; with_reducible refine (HC2.out _ _ hM1).mono ?_; rintro e w2 ⟨rfl, hk2, hk2r, hB2⟩))
      go_ret
      obtain ⟨ρ2, hB3⟩ := hB2.out
      exact ⟨rfl, HKW.out.to.trans' hk2, ρ2, _, hB3⟩
    · obtain ⟨cd, hcd⟩ : ∃ c, (crashK d sa : Int) = c := ⟨_, rfl⟩
      have HC1 : Hid (∀ V, Kp No W V → Calls Tryd.prog 12 #[.pointer (some ⟨p, 0, none⟩), .int .i64 sa, .int .i64 sb] V fun e w1 => e = .returned (.int .i64 cd) ∧ Kp (fun k => base ≤ k ∧ k ≠ r ∧ ρ k ≠ .other) V w1 ∧ Hid (Mid V base p ρ d (crashD d sa sb) r w1)) :=
        Hid_mk fun V hV => (HBo.out.no hV).call (hcd ▸ crash_any V base p M ρ d sa sb (HBo.out.no hV).dk HBo.out.ok.1 (by have := HM.out; omega))
      have HC2 : Hid (∀ V w1, Hid (Mid V base p ρ d (crashD d sa sb) r w1) → Calls Tryd.prog 22 #[.pointer (some ⟨r, 0, none⟩), .int .i64 sa, .int .i64 sb] w1 fun e w2 => e = .returned (.int .i64 cd) ∧ Kp (fun k => base ≤ k) V w2 ∧ Kp (fun k => k = r) w1 w2 ∧ Hid (∃ ρ2, Both w2 base p ρ2 (crashD d sa sb) r (M + 1))) :=
        Hid_mk fun V w1 hmid => hmid.out.call hbr (crR_ok HBo.out.ok (by have := HM.out; omega) sa sb) fun ρ1 x vs vn vw ls ln ps h3 h4 h5 _ => hcd ▸ refcrash_any w1 ρ1 r d x vs vn vw ls ln ps M h3 h4 HBo.out.ok.1 (by have := HM.out; omega) h5 sa sb
      clear hcd
      go_wp2
      go_region_held3 (fun V => V.cell? ⟨b, 1, none⟩ = some (.int .i64 sa) ∧ V.cell? ⟨b, 2, none⟩ = some (.int .i64 sb))
        (first
          | go_keep
          | (dsimp only; exact ⟨k1, k2⟩)
          | (dsimp only; exact ⟨u1, u2⟩)
          | (dsimp only; exact ⟨v1, v2⟩)
          | assumption)
        (first
          | (go_at_call 12; (with_reducible refine (HC1.out _ (Kp.drew (Kp.refl No W))).mono ?_); rintro e w1 ⟨rfl, hk1, hM1⟩; have u1 := hk1.cell' k1 (fun h => h.2.2 hbx); have u2 := hk1.cell' k2 (fun h => h.2.2 hbx))
          | (go_at_call 22; (with_reducible refine (HC2.out _ _ hM1).mono ?_); rintro e w2 ⟨rfl, hk2, hk2r, hB2⟩; have v1 := hk2r.cell' u1 (fun h => by have h' : b = r := h; omega); have v2 := hk2r.cell' u2 (fun h => by have h' : b = r := h; omega)))
      go_wp2
      go_ret
      obtain ⟨ρ2, hB3⟩ := hB2.out
      exact ⟨rfl, HKW.out.to.trans' (((Kp.refl _ W).drew).trans' hk2), ρ2, _, hB3⟩
    · have e0 := Int.emod_nonneg sa (show (20 : Int) ≠ 0 by omega)
      have e1 := Int.emod_lt_of_pos sa (show (0 : Int) < 20 by omega)
      have PS := Hid_mk (pick_any sa 20 (by omega) (by omega))
      obtain ⟨q, hq⟩ : ∃ q, sa % 20 = q := ⟨_, rfl⟩
      rw [hq] at e0 e1 PS
      clear hq
      have hwr : IntKind.i64.wrap (q - 3) = q - 3 := wrapU _ (by omega)
      have HC1 : Hid (Calls Tryd.prog 23 #[.pointer (some ⟨p, 0, none⟩), .int .i64 (q - 3)] W fun e w1 => e = .returned (.tuple #[]) ∧ Kp (fun k => base ≤ k ∧ k ≠ r ∧ ρ k ≠ .other) W w1 ∧ Hid (Mid W base p ρ d { d with fuse := max (q - 3) (-1) } r w1)) :=
        Hid_mk (HBo.out.call (pfuse_any HBo.out.dk (q - 3)))
      have HC2 : Hid (∀ w1, Hid (Mid W base p ρ d { d with fuse := max (q - 3) (-1) } r w1) → Calls Tryd.prog 24 #[.pointer (some ⟨r, 0, none⟩), .int .i64 (q - 3)] w1 fun e w2 => e = .returned (.tuple #[]) ∧ Kp (fun k => base ≤ k) W w2 ∧ Kp (fun k => k = r) w1 w2 ∧ Hid (∃ ρ2, Both w2 base p ρ2 { d with fuse := max (q - 3) (-1) } r (M + 1))) :=
        Hid_mk fun w1 hmid => hmid.out.call hbr (fuR_ok HBo.out.ok (q - 3) (by omega)) fun ρ1 x vs vn vw ls ln ps h3 h4 h5 _ => reffu_any w1 ρ1 r d x vs vn vw ls ln ps h3 h4 (q - 3) (by omega)
      go_wp2_with (first
          | (go_at_call 14; with_reducible refine (PS.out _).mono ?_; rintro e w' ⟨rfl, rfl⟩)
          | (go_at_call 23; with_reducible refine HC1.out.mono ?_; rintro e w1 ⟨rfl, hk1, hM1⟩)
          | (go_at_call 24; with_reducible refine (HC2.out _ hM1).mono ?_; rintro e w2 ⟨rfl, hk2, hk2r, hB2⟩))
      go_ret
      obtain ⟨ρ2, hB3⟩ := hB2.out
      exact ⟨rfl, HKW.out.to.trans' hk2, ρ2, _, hB3⟩
    · by_cases hrb : roomB sa = true
      · have hr1 : 0 ≤ sa ∧ sa ≤ 8388608 := by simpa [roomB] using hrb
        have hr2 : ¬ sa < 0 := by omega
        have hr3 : ¬ sa > 8388608 := by omega
        have HC1 : Hid (Calls Tryd.prog 25 #[.pointer (some ⟨p, 0, none⟩), .int .i64 sa] W fun e w1 => e = .returned (.int .i64 0) ∧ Kp (fun k => base ≤ k ∧ k ≠ r ∧ ρ k ≠ .other) W w1 ∧ Hid (Mid W base p ρ d { d with room := sa } r w1)) :=
          Hid_mk (HBo.out.call (proom_any HBo.out.dk sa hrb))
        have HOk := Hid_mk (roR_ok HBo.out.ok sa hrb)
        clear hrb
        go_wp2_with fail
        with_reducible refine HC1.out.mono ?_
        rintro e w1 ⟨rfl, hk1, hM1⟩
        obtain ⟨⟨u, g0⟩, f0, hk2, hB2⟩ := hM1.out.room hbr HOk.out
        have HK2 := Hid_mk hk2
        clear hk2
        go_wp2
        go_ret
        obtain ⟨ρ2, hB3⟩ := hB2.out
        exact ⟨rfl, HKW.out.to.trans' HK2.out, ρ2, _, hB3⟩
      · have hrb2 : roomB sa = false := by simpa using hrb
        have HC1 := Hid_mk (room_no W base p sa hrb2)
        have hr1 : ¬ (0 ≤ sa ∧ sa ≤ 8388608) := by simpa [roomB] using hrb
        clear hrb hrb2
        by_cases hr2 : sa < 0
        · go_wp2_with fail
          with_reducible refine HC1.out.mono ?_
          rintro e w1 ⟨rfl, rfl⟩
          go_wp2
          go_ret
          exact ⟨rfl, HKW.out.to, ρ, d, HBo.out.mono (by omega)⟩
        · have hr3 : 8388608 < sa := by omega
          go_wp2_with fail
          with_reducible refine HC1.out.mono ?_
          rintro e w1 ⟨rfl, rfl⟩
          go_wp2
          go_ret
          exact ⟨rfl, HKW.out.to, ρ, d, HBo.out.mono (by omega)⟩
    · have x5 : ¬ (m : Int) = 5 := by omega
      have x6 : ¬ (m : Int) = 6 := by omega
      have x7 : ¬ (m : Int) = 7 := by omega
      have x8 : ¬ (m : Int) = 8 := by omega
      have x9 : ¬ (m : Int) = 9 := by omega
      have x10 : ¬ (m : Int) = 10 := by omega
      have x11 : ¬ (m : Int) = 11 := by omega
      have x12 : ¬ (m : Int) = 12 := by omega
      have HBsW := Hid_mk (bs_no HBs.out HKW.out)
      have hbaseW : base < W.heap.size := by omega
      clear hm5 hm13
      go_wp2_with (at_builtin; (refine wpList_append_bs _ rfl _ _ rfl W.heap.size _ [] rfl (World.ownsRow_made W #[] 0 (Nat.le_refl _) (by decide) rfl) _ bs rfl (bs_no HBsW.out ((Kp.refl No W).alloc _)) (show ([] : List UInt8).length + _ ≤ _ by simp; omega) (by simp) ?_))
      rintro v2 W2 happ
      obtain ⟨g2, cap2, rfl, ho2⟩ := app_new happ
      have kk2 : Kp No W W2 := ((Kp.refl No W).alloc _).grown happ.2.1 (fun i hi e => by simp [Value.ownBlock] at e; omega)
      have hg2 := World.ownsRow.lt ho2 g2 rfl
      have hg2b : ρ g2 = .other := HBo.out.dk.hi hg2.1
      have u3 := kk2.cell' k3 id
      have u5 := kk2.cell' k5 id
      have HWarm := Hid_mk (owns_warm ho2 g2 rfl)
      have hown := owns_bs ho2
      have hcap2 : bs.length ≤ cap2 ∧ cap2 ≤ maxLen := by
        obtain ⟨_, _, e, h1, h2, -⟩ := id hown
        simp only [Value.slice.injEq] at e
        obtain ⟨-, -, rfl⟩ := e
        exact ⟨h1, h2⟩
      have HOwn := Hid_mk hown
      have HSx := Hid_mk (bs_no HBsW.out kk2)
      have HK2 := Hid_mk kk2
      have hWz := kk2.size
      have co0 := conv_bs (bs_no HOwn.out ((Kp.refl No W2).drew))
      have cs0 := conv_bs (bs_no HSx.out ((Kp.refl No W2).drew))
      obtain ⟨cd, hcd⟩ : ∃ c, (appR d n bs).1 = c := ⟨_, rfl⟩
      have HC1 : Hid (∀ V, Kp No W2 V → Calls Tryd.prog 9 #[.pointer (some ⟨p, 0, none⟩), .string n, .slice (some ⟨g2, 0, none⟩) bs.length cap2] V fun e w1 => e = .returned (.int .i64 cd) ∧ Kp (fun k => base ≤ k ∧ k ≠ r ∧ ρ k ≠ .other) V w1 ∧ Hid (MidA base p d (appR d n bs).2 r g2 w1)) :=
        Hid_mk fun V hV => made_call (HBo.out.made (HK2.out.trans' hV) hg2.1 (Nat.lt_of_lt_of_le hg2.2 hV.size)) (Nat.lt_of_lt_of_le hg2.2 hV.size) (hcd ▸ papp_any (HBo.out.dk.no (HK2.out.trans' hV)) HBo.out.ok.1 (by have := HM.out; omega) n _ bs hn (bs_no HOwn.out hV) (fun _ x o k c e => by cases e; exact hg2b) hbl)
      have HC2 : Hid (∀ w1, Hid (MidA base p d (appR d n bs).2 r g2 w1) → Bs w1 (.slice sxa bs.length sxc) bs → Calls Tryd.prog 26 #[.pointer (some ⟨r, 0, none⟩), .string n, .slice sxa bs.length sxc] w1 fun e w2 => e = .returned (.int .i64 cd) ∧ Kp (fun k => k = r) w1 w2 ∧ Hid (MidA base p (appR d n bs).2 (appR d n bs).2 r g2 w2)) :=
        Hid_mk fun w1 hmid hbx1 => hmid.out.call fun ρ1 x vs vn vw ls ln ps h3 h4 h5 h6 => hcd ▸ refappend_any w1 ρ1 r d x vs vn vw ls ln ps M h3 h4 HBo.out.ok.1 (by have := HM.out; omega) h5 n _ bs hn hbx1 (fun hne y o k c e => ⟨h6 y (HLo.out hne y o k c e) (by have := HLo.out hne y o k c e; have := hg2.1; omega), by have := HLo.out hne y o k c e; omega, bs_lt hbx1 hne e⟩) hbl
      have HOkA := Hid_mk (appR_ok HBo.out.ok n bs)
      obtain ⟨dA, hdA⟩ : ∃ dA, (appR d n bs).2 = dA := ⟨_, rfl⟩
      rw [hdA] at HC1 HC2 HOkA
      clear hcd hdA happ ho2 kk2 hown k1 k2 k3 k4 k5 k6
      go_wp2
      go_region_held3 (fun V => V.cell? ⟨b, 3, none⟩ = some (.string n) ∧ V.cell? ⟨b, 5, none⟩ = some (.slice sxa bs.length sxc) ∧ (convert 34 9 (.slice (some ⟨g2, 0, none⟩) bs.length cap2)).run Tryd.prog V = .ok (.string ⟨bs.toArray⟩) V ∧ (convert 34 9 (.slice sxa bs.length sxc)).run Tryd.prog V = .ok (.string ⟨bs.toArray⟩) V)
        (first
          | go_keep
          | (dsimp only; exact ⟨u3, u5, co0, cs0⟩)
          | (dsimp only; exact ⟨v3, v5, co1, cs1⟩)
          | (dsimp only; exact ⟨y3, y5, hco, hcs⟩)
          | assumption)
        (first
          | (go_at_call 9; (with_reducible refine (HC1.out _ (Kp.drew (Kp.refl No W2))).mono ?_); rintro e w1 ⟨rfl, hk1, hM1⟩; have hk1' := Kp.trans' (Kp.drew (Kp.refl (fun k => base ≤ k ∧ k ≠ r ∧ ρ k ≠ .other) W2)) hk1; have v3 := hk1'.cell' u3 (fun h => h.2.2 hbx); have v5 := hk1'.cell' u5 (fun h => h.2.2 hbx); have hs1 := bs_keptE HSx.out hk1' (fun hne y o k c e h => by have h' := HLo.out hne y o k c e; have h'' := h.1; omega); have ho1 := bs_keptE HOwn.out hk1' (fun hne y o k c e h => by cases e; exact h.2.2 hg2b); have hf1 := fun j => (hk1'.frozen (p := ⟨g2, j, none⟩) hg2.2 (fun h => h.2.2 hg2b)).trans (HWarm.out j); have co1 := conv_bs ho1; have cs1 := conv_bs hs1; have HS1 := Hid_mk hs1; have HO1 := Hid_mk ho1; have HF1 := Hid_mk hf1; have HK1 := Hid_mk hk1'; clear hs1 ho1 hf1 hk1 hk1')
          | (go_at_call 26; (with_reducible refine (HC2.out _ hM1 HS1.out).mono ?_); rintro e w2 ⟨rfl, hk2r, hM2⟩; have y3 := hk2r.cell' v3 (fun h => by have h' : b = r := h; omega); have y5 := hk2r.cell' v5 (fun h => by have h' : b = r := h; omega); have hs2 := bs_keptE HS1.out hk2r (fun hne y o k c e h => by have h' := HLo.out hne y o k c e; omega); have ho2 := bs_keptE HO1.out hk2r (fun hne y o k c e h => by cases e; have h' := hg2.1; omega); have hcs := conv_bs hs2; have hco := conv_bs ho2; have hz1 := HK1.out.size; have hf2 := fun j => (hk2r.frozen (p := ⟨g2, j, none⟩) (by have h' := hg2.2; simp only; omega) (fun h => by have h' : g2 = r := h; have h'' := hg2.1; omega)).trans (HF1.out j); have HO2 := Hid_mk ho2; have HF2 := Hid_mk hf2; have HK2r := Hid_mk hk2r; clear hs2 ho2 hf2 hk2r))
      have hstart : OwnRel w2 (.slice (some ⟨g2, 0, none⟩) bs.length cap2) bs.length (.int .i64 ((0 : Nat) : Int)) w2 := ⟨0, bs, Nat.zero_le _, rfl, rfl, HO2.out, Kp.refl _ _, fun g hg j => by simp [Value.ownBlock] at hg; subst hg; exact HF2.out j⟩
      have HStart := Hid_mk hstart
      obtain ⟨L, hL⟩ : ∃ L, bs.length = L := ⟨_, rfl⟩
      have HL := Hid_mk hL
      have hL2 : L ≤ cap2 ∧ cap2 ≤ maxLen := hL ▸ hcap2
      unfold maxLen at hL2
      rw [hL] at HStart ⊢
      clear hstart hL hcs hco co0 cs0 co1 cs1 u3 u5 v3 v5 y3 y5 hcap2
      go_wp2
      go_loopw [15] (fun i wq => OwnRel w2 (.slice (some ⟨g2, 0, none⟩) L cap2) L i wq) (fun i _ => L - (intOf i).toNat)
      case atStart => exact HStart.out
      case round =>
        obtain ⟨j, ys, hj, rfl, hyl, hyb, hyk, hyf⟩ := hrel
        have HYb := Hid_mk hyb
        have HYk := Hid_mk hyk
        have HYl := Hid_mk hyl
        have HYf := Hid_mk hyf
        clear hyb hyk hyl hyf
        by_cases hjl : j < L
        · have hset := turned.bs_set HYb.out j hjl 238
          rw [Nat.zero_add] at hset
          have hcell : _ := HYb.out
          obtain ⟨_, _, e, _, _, h3⟩ := hcell
          simp only [Value.slice.injEq] at e
          obtain ⟨b', o', e2, hc⟩ := h3 (by intro e; have := HYl.out; rw [e] at this; simp at this; omega)
          rw [← e.1] at e2
          cases e2
          have hcj := hc j (by rw [HYl.out]; exact hjl)
          rw [Nat.zero_add] at hcj
          unfold B at hcj
          have hwj := HYf.out g2 rfl j
          have hji : (j : Int) < (L : Int) := by omega
          have hji0 : (0 : Int) ≤ (j : Int) := Int.natCast_nonneg _
          have hrel : OwnRel w2 (.slice (some ⟨g2, 0, none⟩) L cap2) L (.int .i64 ((j + 1 : Nat) : Int)) _ := ⟨j + 1, ys.set j 238, hjl, rfl, by rw [List.length_set]; exact HYl.out, hset, HYk.out.setCell (p := ⟨g2, j, none⟩) (fun _ => rfl) _, fun g' hg' i' => by rw [World.frozen?_setCell]; exact HYf.out g' hg' i'⟩
          have HRel := Hid_mk hrel
          clear hrel hset hc h3 e
          go_wp2
          go_roundw
          case rel => exact HRel.out
          case measure => simp [intOf]; omega
        · have hji : ¬ (j : Int) < (L : Int) := by omega
          clear hjl
          go_wp2
          go_ret
          have hyk : Kp (fun k => k = g2) w2 _ := HYk.out.mono fun k _ e => by simp [Value.ownBlock] at e; exact e.symm
          obtain ⟨ρ2, hB3⟩ := (hM2.out.set hyk).both HOkA.out
          exact ⟨rfl, ((((HKW.out.trans' HK2.out).to).trans' (HK1.out.mono fun k _ h => h.1)).trans' (HK2r.out.mono fun k _ h => by rw [h]; exact hbr)).trans' (hyk.mono fun k _ h => by rw [h]; have h' := hg2.1; omega), ρ2, dA, hB3⟩


end Go.Proofs.YtomckoeobkfklaaDoor.plays
