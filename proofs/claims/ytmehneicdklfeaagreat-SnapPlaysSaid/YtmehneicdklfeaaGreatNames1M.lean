/- The project's Names of both disks' state. tailracehand.Harms: what happens to both disks between two steps. SnapPlays: the law's walk. -/
import Derived.Test.YtmehneicdklfeaaGreatSnapOpenM
import Derived.Test.YtmehneicdklfeaaGreatIterM
import Derived.Test.YtmehneicdklfeaaGreatR2CrashWalkM
import Derived.Test.YtmehneicdklfeaaGreatFsUsedM
import Derived.Test.YtmehneicdklfeaaGreatBaseM

namespace Go.Proofs.YtmehneicdklfeaaGreat.pair
open Go.RowKit Go.Maps Go.Sort Go.Proofs.YtmehneicdklfeaaGreat.sum Go.Proofs.YtmehneicdklfeaaGreat.kept Go.Proofs.YtmehneicdklfeaaGreat.app Go.Proofs.YtmehneicdklfeaaGreat.writer Go.Proofs.YtmehneicdklfeaaGreat.clone Go.Proofs.YtmehneicdklfeaaGreat.known Go.Proofs.YtmehneicdklfeaaGreat.fs Go.Proofs.YtmehneicdklfeaaGreat.fsDo Go.Proofs.YtmehneicdklfeaaGreat.unseal Go.Proofs.YtmehneicdklfeaaGreat.dsk Go.Proofs.YtmehneicdklfeaaGreat.r2 Go.Proofs.YtmehneicdklfeaaGreat.pair
set_option linter.unusedVariables false

section
variable {w : World} {base p r M : Nat} {ρ : Nat → Role} {d : DSt}
theorem Both.names1 (h : Both w base p ρ d r M) (hM : M ≤ 1000) (hd : d.down = false) :
    Calls Tryz.prog 37 #[.pointer (some ⟨p, 0, none⟩)] w fun e w' => ∃ v, e = .returned v ∧ SRow w' w.heap.size v (nmsOf d) ∧ Kp No w w' := by
  have hf := h.few hM
  refine (names_up w base p ρ d h.dk hd (by omega)).mono ?_
  rintro e w' ⟨v, he, ho, hk⟩
  refine ⟨v, he, ?_, hk⟩
  unfold SRow
  rw [nms_len]
  have e2 : (nmsOf d).map Value.string = (namesOf d.now).map encStr := by
    unfold nmsOf
    rw [List.map_map]
    rfl
  rw [e2]
  exact ho
end

end Go.Proofs.YtmehneicdklfeaaGreat.pair

namespace Go.Proofs.YtmehneicdklfeaaGreat.plays
open Go.RowKit Go.Maps Go.Proofs.YtmehneicdklfeaaGreat.sum Go.Proofs.YtmehneicdklfeaaGreat.kept Go.Proofs.YtmehneicdklfeaaGreat.app Go.Proofs.YtmehneicdklfeaaGreat.writer Go.Proofs.YtmehneicdklfeaaGreat.clone Go.Proofs.YtmehneicdklfeaaGreat.fs Go.Proofs.YtmehneicdklfeaaGreat.fsDo Go.Proofs.YtmehneicdklfeaaGreat.unseal Go.Proofs.YtmehneicdklfeaaGreat.dsk Go.Proofs.YtmehneicdklfeaaGreat.r2 Go.Proofs.YtmehneicdklfeaaGreat.pair Go.Proofs.YtmehneicdklfeaaGreat.turned
set_option linter.unusedVariables false

/-- the state behind a harm -/
def harmD (d : DSt) (what a b : Int) : DSt :=
  if what % 9 = 6 then { d with fuse := max (a % 9) (-1) }
  else if what % 9 = 7 then crashD d a b
  else if what % 9 = 8 then { d with room := a % 2000 } else d

def HarmPost (w : World) (base p r M : Nat) (d' : DSt) (e : Ending) (w' : World) : Prop := e = .returned (.tuple #[]) ∧ Kp (fun k => base ≤ k) w w' ∧ Hid (∃ ρ, Both w' base p ρ d' r M)

set_option maxRecDepth 100000 in
set_option maxHeartbeats 4000000 in
theorem harms_any (w : World) (base p r M : Nat) (ρ : Nat → Role) (d : DSt) (h : Both w base p ρ d r M) (hM : M ≤ 900) (hbr : base ≤ r) (what sa sb : Int) :
    Calls Tryz.prog 7 #[.pointer (some ⟨p, 0, none⟩), .pointer (some ⟨r, 0, none⟩), .agg #[.int .i64 what, .int .i64 sa, .int .i64 sb]] w (HarmPost w base p r (M + 1) (harmD d what sa sb)) := by
  have HBo := Hid_mk h
  have HM := Hid_mk hM
  clear h
  obtain ⟨D, hD⟩ : ∃ D, D = harmD d what sa sb := ⟨_, rfl⟩
  rw [← hD]
  unfold harmD at hD
  obtain ⟨m, hm⟩ : ∃ m : Nat, what % 9 = (m : Int) := ⟨(what % 9).toNat, by have := Int.emod_nonneg what (show (9 : Int) ≠ 0 by omega); omega⟩
  have hm9 : m < 9 := by have := Int.emod_lt_of_pos what (show (0 : Int) < 9 by omega); omega
  have P1 := Hid_mk (pick_any what 9 (by omega) (by omega))
  rw [hm] at P1 hD
  have hcase : m = 6 ∨ m = 7 ∨ m = 8 ∨ m < 6 := by omega
  have hbx : ρ w.heap.size = .other := HBo.out.dk.hi (Nat.le_refl _)
  have hrlt := HBo.out.lt
  obtain ⟨W, hW⟩ : ∃ W, w.alloc (.cells #[.int .i64 what, .int .i64 sa, .int .i64 sb] 31) = W := ⟨_, rfl⟩
  have kW : Kp No w W := by rw [← hW]; exact (Kp.refl No w).alloc _
  have k0 : W.cell? ⟨w.heap.size, 0, none⟩ = some (.int .i64 what) := by rw [← hW]; simp
  have k1 : W.cell? ⟨w.heap.size, 1, none⟩ = some (.int .i64 sa) := by rw [← hW]; simp
  have k2 : W.cell? ⟨w.heap.size, 2, none⟩ = some (.int .i64 sb) := by rw [← hW]; simp
  have HKW := Hid_mk kW
  have HBo := Hid_mk (HBo.out.no kW)
  obtain ⟨b, hb⟩ : ∃ b, w.heap.size = b := ⟨_, rfl⟩
  rw [hb] at k0 k1 k2 hbx hrlt
  have hnb : ¬ (fun k => base ≤ k ∧ k ≠ r ∧ ρ k ≠ .other) b := fun h => h.2.2 hbx
  have HD0 := Hid_mk hD
  clear hD
  go_enter Tryz.func7, Tryz.ntmps7
  go_wp2_with fail
  try rw [hW]
  try rw [hb]
  clear hW kW
  with_reducible refine (P1.out _).mono ?_
  rintro e w' ⟨rfl, rfl⟩
  clear P1 hm
  rcases hcase with rfl | rfl | rfl | hm5
  · have e0 := Int.emod_nonneg sa (show (9 : Int) ≠ 0 by omega)
    have e1 := Int.emod_lt_of_pos sa (show (0 : Int) < 9 by omega)
    have PS := Hid_mk (pick_any sa 9 (by omega) (by omega))
    obtain ⟨q, hq⟩ : ∃ q, sa % 9 = q := ⟨_, rfl⟩
    have hD := HD0.out
    rw [hq] at e0 e1 PS hD
    have HD : Hid (D = { d with fuse := max q (-1) }) := Hid_mk (by rw [hD]; exact if_pos (by decide))
    clear hq hD HD0
    have HC1 : Hid (Calls Tryz.prog 20 #[.pointer (some ⟨p, 0, none⟩), .int .i64 q] W fun e w1 => e = .returned (.tuple #[]) ∧ Kp (fun k => base ≤ k ∧ k ≠ r ∧ ρ k ≠ .other) W w1 ∧ Hid (Mid W base p ρ d { d with fuse := max q (-1) } r w1)) :=
      Hid_mk (HBo.out.call (pfuse_any HBo.out.dk q))
    have HC2 : Hid (∀ w1, Hid (Mid W base p ρ d { d with fuse := max q (-1) } r w1) → Calls Tryz.prog 22 #[.pointer (some ⟨r, 0, none⟩), .int .i64 q] w1 fun e w2 => e = .returned (.tuple #[]) ∧ Kp (fun k => base ≤ k) W w2 ∧ Kp (fun k => k = r) w1 w2 ∧ Hid (∃ ρ2, Both w2 base p ρ2 { d with fuse := max q (-1) } r (M + 1))) :=
      Hid_mk fun w1 hmid => hmid.out.call hbr (fuR_ok HBo.out.ok q (by omega)) fun ρ1 x vs vn vw ls ln ps h3 h4 h5 _ => reffu_any w1 ρ1 r d x vs vn vw ls ln ps h3 h4 q (by omega)
    go_wp2_with (first
        | (go_at_call 8; with_reducible refine (PS.out _).mono ?_; rintro e w' ⟨rfl, rfl⟩)
        | (go_at_call 20; with_reducible refine HC1.out.mono ?_; rintro e w1 ⟨rfl, hk1, hM1⟩; have u1 := hk1.cell' k1 hnb)
        | (go_at_call 22; with_reducible refine (HC2.out _ hM1).mono ?_; rintro e w2 ⟨rfl, hk2, hk2r, hB2⟩))
    go_end0
    exact ⟨rfl, HKW.out.to.trans' hk2, by rw [HD.out]; exact hB2⟩
  · have HD : Hid (D = crashD d sa sb) := Hid_mk (by rw [HD0.out, if_neg (by decide)]; exact if_pos (by decide))
    clear HD0
    obtain ⟨cd, hcd⟩ : ∃ c, (crashK d sa : Int) = c := ⟨_, rfl⟩
    have HC1 : Hid (Calls Tryz.prog 21 #[.pointer (some ⟨p, 0, none⟩), .int .i64 sa, .int .i64 sb] W fun e w1 => e = .returned (.int .i64 cd) ∧ Kp (fun k => base ≤ k ∧ k ≠ r ∧ ρ k ≠ .other) W w1 ∧ Hid (Mid W base p ρ d (crashD d sa sb) r w1)) :=
      Hid_mk (HBo.out.call (hcd ▸ crash_any W base p M ρ d sa sb HBo.out.dk HBo.out.ok.1 (by have := HM.out; omega)))
    have HC2 : Hid (∀ w1, Hid (Mid W base p ρ d (crashD d sa sb) r w1) → Calls Tryz.prog 23 #[.pointer (some ⟨r, 0, none⟩), .int .i64 sa, .int .i64 sb] w1 fun e w2 => e = .returned (.int .i64 cd) ∧ Kp (fun k => base ≤ k) W w2 ∧ Kp (fun k => k = r) w1 w2 ∧ Hid (∃ ρ2, Both w2 base p ρ2 (crashD d sa sb) r (M + 1))) :=
      Hid_mk fun w1 hmid => hmid.out.call hbr (crR_ok HBo.out.ok (by have := HM.out; omega) sa sb) fun ρ1 x vs vn vw ls ln ps h3 h4 h5 _ => hcd ▸ refcrash_any w1 ρ1 r d x vs vn vw ls ln ps M h3 h4 HBo.out.ok.1 (by have := HM.out; omega) h5 sa sb
    clear hcd
    go_wp2_with (first
        | (go_at_call 21; with_reducible refine HC1.out.mono ?_; rintro e w1 ⟨rfl, hk1, hM1⟩; have u1 := hk1.cell' k1 hnb; have u2 := hk1.cell' k2 hnb)
        | (go_at_call 23; with_reducible refine (HC2.out _ hM1).mono ?_; rintro e w2 ⟨rfl, hk2, hk2r, hB2⟩))
    go_end0
    exact ⟨rfl, HKW.out.to.trans' hk2, by rw [HD.out]; exact hB2⟩
  · have e0 := Int.emod_nonneg sa (show (2000 : Int) ≠ 0 by omega)
    have e1 := Int.emod_lt_of_pos sa (show (0 : Int) < 2000 by omega)
    have PS := Hid_mk (pick_any sa 2000 (by omega) (by omega))
    obtain ⟨q, hq⟩ : ∃ q, sa % 2000 = q := ⟨_, rfl⟩
    have hD := HD0.out
    rw [hq] at e0 e1 PS hD
    have HD : Hid (D = { d with room := q }) := Hid_mk (by rw [hD, if_neg (by decide), if_neg (by decide)]; exact if_pos (by decide))
    clear hq hD HD0
    have hrb : roomB q = true := by unfold roomB; simp; omega
    have HC1 : Hid (Calls Tryz.prog 24 #[.pointer (some ⟨p, 0, none⟩), .int .i64 q] W fun e w1 => e = .returned (.int .i64 0) ∧ Kp (fun k => base ≤ k ∧ k ≠ r ∧ ρ k ≠ .other) W w1 ∧ Hid (Mid W base p ρ d { d with room := q } r w1)) :=
      Hid_mk (HBo.out.call (proom_any HBo.out.dk q hrb))
    have HOk := Hid_mk (roR_ok HBo.out.ok q hrb)
    clear hrb
    go_wp2_with (first
        | (go_at_call 8; with_reducible refine (PS.out _).mono ?_; rintro e w' ⟨rfl, rfl⟩)
        | (go_at_call 24; with_reducible refine HC1.out.mono ?_; rintro e w1 ⟨rfl, hk1, hM1⟩; obtain ⟨⟨u, g0⟩, f0, hk2, hB2⟩ := hM1.out.room hbr HOk.out; have HK2 := Hid_mk hk2; clear hk2))
    go_end0
    exact ⟨rfl, HKW.out.to.trans' HK2.out, by rw [HD.out]; exact hB2⟩
  · have hD2 : D = d := by rw [HD0.out, if_neg (by omega), if_neg (by omega), if_neg (by omega)]
    have HF : Hid (HarmPost w base p r (M + 1) D (.returned (.tuple #[])) W) := Hid_mk ⟨rfl, HKW.out.to, by rw [hD2]; exact Hid_mk ⟨ρ, HBo.out.mono (by omega)⟩⟩
    have g6 : ¬ (m : Int) = 6 := by omega
    have g7 : ¬ (m : Int) = 7 := by omega
    have g8 : ¬ (m : Int) = 8 := by omega
    clear hD2 HD0
    go_wp2
    go_end0
    exact HF.out

end Go.Proofs.YtmehneicdklfeaaGreat.plays

namespace Go.Proofs.YtmehneicdklfeaaGreat.snp
open Go.RowKit Go.Maps Go.Proofs.YtmehneicdklfeaaGreat.sum Go.Proofs.YtmehneicdklfeaaGreat.kept Go.Proofs.YtmehneicdklfeaaGreat.app Go.Proofs.YtmehneicdklfeaaGreat.writer Go.Proofs.YtmehneicdklfeaaGreat.clone Go.Proofs.YtmehneicdklfeaaGreat.known Go.Proofs.YtmehneicdklfeaaGreat.fs Go.Proofs.YtmehneicdklfeaaGreat.fsDo Go.Proofs.YtmehneicdklfeaaGreat.unseal Go.Proofs.YtmehneicdklfeaaGreat.dsk Go.Proofs.YtmehneicdklfeaaGreat.r2 Go.Proofs.YtmehneicdklfeaaGreat.pair Go.Proofs.YtmehneicdklfeaaGreat.frm Go.Proofs.YtmehneicdklfeaaGreat.stepRow Go.Proofs.YtmehneicdklfeaaGreat.plays
set_option linter.unusedVariables false

/-- the law's own bytes, written over -/
def OvRel (w1 : World) (v : Value) (L : Nat) (i : Value) (wr : World) : Prop :=
  ∃ (k : Nat) (ys : List UInt8), k ≤ L ∧ i = .int .i64 k ∧ ys.length = L ∧ Bs wr v ys ∧ Kp (fun k => v.ownBlock = some k) w1 wr ∧ ∀ g, v.ownBlock = some g → ∀ j, wr.frozen? ⟨g, j, none⟩ = false
theorem ov_warm {w : World} {base : Nat} {e : TypeId} {size : Nat} {v : Value} {n : Nat} {xs : List Value} (h : w.ownsRow base e size v n xs) : ∀ g, v.ownBlock = some g → ∀ j, w.frozen? ⟨g, j, none⟩ = false := by
  intro g hg j
  rcases h.2 with ⟨rfl, _⟩ | ⟨g', cap, cur, rfl, _, hb, _⟩
  · simp [Value.ownBlock] at hg
  · simp [Value.ownBlock] at hg
    subst hg
    unfold World.frozen?
    simp [hb]

def PyRel (n base p r : Nat) (w : World) (i : Value) (wr : World) : Prop := ∃ (k : Nat) (ρ : Nat → Role) (d : DSt), i = .int .i64 (k : Int) ∧ k ≤ n ∧ k ≤ 80 ∧ Both wr base p ρ d r (1 + 6 * k) ∧ Kp No w wr

set_option maxRecDepth 100000 in
set_option maxHeartbeats 8000000 in
theorem snapPlays_any (w : World) (v : Value) (l : List SR6) (h : Sts6 w v l) :
    Calls Tryz.prog 3 #[v] w fun e w' => e = .returned (.bool true) ∧ Kp No w w' := by
  obtain ⟨⟨a, cap, rfl, h1, h2, h3⟩, h4⟩ := h
  have H3 := Hid_mk h3
  have H4 := Hid_mk h4
  have HP := Hid_mk (pair_any w 8388608 (by omega) (by omega) (.slice none 0 0) [] (Fl.nil _) (by decide) (fun q hq => by cases hq) (fun q hq => by cases hq))
  clear h3 h4
  go_enter Tryz.func3, Tryz.ntmps3
  go_wp2_with fail
  with_reducible refine HP.out.mono ?_
  intro e w1 hpost
  obtain ⟨p, r, he, hbr, hk1, hB1⟩ : ∃ p r, e = .returned (.tuple #[.pointer (some ⟨p, 0, none⟩), .pointer (some ⟨r, 0, none⟩), .bool true]) ∧ w.heap.size ≤ r ∧ Kp No w w1 ∧ Hid (∃ ρ, Both w1 w.heap.size p ρ (pairD 8388608 []) r 1) := hpost
  subst he
  obtain ⟨ρ1, hB1⟩ := hB1.out
  have HB1 := Hid_mk hB1
  have HK1 := Hid_mk hk1
  clear hB1 hk1 HP
  go_wp2_with fail
  with_reducible refine (known_any save_any open_any w1).mono ?_
  rintro e w2 ⟨rfl, hk2⟩
  have HB2 := Hid_mk (HB1.out.no hk2)
  have HK2 := Hid_mk (HK1.out.trans' hk2)
  clear hk2 HB1 HK1
  go_wp2
  go_loopw [6] (fun i wr => PyRel l.length w.heap.size p r w i wr) (fun i _ => l.length - (intOf i).toNat)
  case atStart => exact ⟨0, ρ1, _, rfl, Nat.zero_le _, Nat.zero_le _, HB2.out, HK2.out⟩
  case round =>
    obtain ⟨k, ρ, d, rfl, hk, hk80, hbo, hkp⟩ := hrel
    have HBo := Hid_mk hbo
    have HKp := Hid_mk hkp
    clear hbo hkp
    have hk0 : (0 : Int) ≤ (k : Int) := Int.natCast_nonneg _
    by_cases hlt : k < l.length ∧ k < 80
    · obtain ⟨hlt, hl2⟩ := hlt
      have hki : (k : Int) < (l.length : Int) := by omega
      have hk2 : (k : Int) < 80 := by omega
      obtain ⟨b, o, rfl, hc⟩ := H3.out (by intro e; rw [e] at hlt; simp at hlt)
      have hck := hc k hlt
      obtain ⟨hsb, hsl⟩ := H4.out _ (List.getElem_mem hlt)
      obtain ⟨s, hs⟩ : ∃ s, l[k] = s := ⟨_, rfl⟩
      rw [hs] at hck hsb hsl
      obtain ⟨what, x, bs, hm, ha, hb⟩ := s
      simp only at hck hsb hsl
      unfold reachBytes at hsl
      obtain ⟨q0, q1, q2, q3, q4⟩ := hck
      have hblt : b < w.heap.size := World.block_lt_of_cell? w _ q0
      have Q0 := Hid_mk q0
      have Q1 := Hid_mk q1
      have q2 := HKp.out.cell' q2 id
      have q3 := HKp.out.cell' q3 id
      have q4 := HKp.out.cell' q4 id
      obtain ⟨ax, capx, rfl, r1, r2, -⟩ := id hsb
      unfold maxLen at r2
      have HSb := Hid_mk hsb
      have HLo := Hid_mk (show bs ≠ [] → ∀ y o m c, (Value.slice ax bs.length capx) = .slice (some ⟨y, o, none⟩) m c → y < w.heap.size from fun hne y o m c e => bs_lt hsb hne e)
      have HLt := Hid_mk hlt
      have HHa := Hid_mk (harms_any wr w.heap.size p r (1 + 6 * k) ρ d HBo.out (by omega) hbr hm ha hb)
      have HPk := Hid_mk fun W => turned.pick_any what 6 (by omega) (by omega) W
      clear hc hsb hs hlt q0 q1 H3 H4 HB2 HK2
      go_wp2_with fail
      with_reducible refine HHa.out.mono ?_
      intro e w3 hpost
      obtain ⟨he, hk3, hB3⟩ : e = .returned (.tuple #[]) ∧ Kp (fun k => w.heap.size ≤ k) wr w3 ∧ Hid (∃ ρ, Both w3 w.heap.size p ρ (harmD d hm ha hb) r (1 + 6 * k + 1)) := hpost
      subst he
      obtain ⟨ρ3, hB3⟩ := hB3.out
      obtain ⟨d3, hd3⟩ : ∃ d3, harmD d hm ha hb = d3 := ⟨_, rfl⟩
      rw [hd3] at hB3
      have HB3 := Hid_mk hB3
      have HK3 : Hid (Kp No w w3) := Hid_mk (HKp.out.trans hk3 fun i hi e => by omega)
      have q0 := HK3.out.cell' Q0.out id
      have q1 := HK3.out.cell' Q1.out id
      clear hd3 hB3 hk3 HHa HBo HKp q2 q3 q4
      go_wp2_with fail
      with_reducible refine (HPk.out _).mono ?_
      rintro e w' ⟨rfl, rfl⟩
      have he0 := Int.emod_nonneg what (show (6 : Int) ≠ 0 by omega)
      obtain ⟨m, hm6⟩ : ∃ m, what % 6 = m := ⟨_, rfl⟩
      rw [hm6] at he0 ⊢
      clear hm6 HPk
      by_cases h4 : 4 ≤ m
      · obtain ⟨an, hAn⟩ : ∃ an, opnA d3 = an := ⟨_, rfl⟩
        obtain ⟨d5, hd5⟩ : ∃ d5, (opnD d3).2 = d5 := ⟨_, rfl⟩
        have hO1 := Both.opn1 open_any HB3.out (by omega)
        have hO2 := fun w4 (hM : Mid w3 w.heap.size p ρ3 d3 (opnD d3).2 r w4) => Mid.opn2 hM hbr HB3.out.ok (by omega)
        rw [hAn, hd5] at hO1 hO2
        obtain ⟨en, L⟩ := an
        obtain ⟨X, hX⟩ : ∃ X, L.getD [] = X := ⟨_, rfl⟩
        simp only [hX] at hO1 hO2
        obtain ⟨Bh, hBh⟩ : ∃ Bh, L.isSome = Bh := ⟨_, rfl⟩
        rw [hBh] at hO1
        simp only [hBh] at hO2
        have HO1 := Hid_mk hO1
        have HO2 := Hid_mk hO2
        clear hAn hd5 hX hBh hO1 hO2 q0 q1
        go_wp2_with fail
        with_reducible refine HO1.out.mono ?_
        rintro e w4 ⟨va, rfl, hba, hva, hk4, hM4⟩
        have HBa := Hid_mk hba
        have HVa := Hid_mk hva
        have HC2 := Hid_mk (HO2.out w4 hM4.out)
        clear hba hva hk4 hM4 HO1 HO2
        go_wp2_with fail
        with_reducible refine HC2.out.mono ?_
        rintro e w5 ⟨vb, rfl, hbb, hk5, hk45, hB5⟩
        obtain ⟨ρ5, hB5⟩ := hB5.out
        have HB5 := Hid_mk hB5
        have HK5 : Hid (Kp No w w5) := Hid_mk (HK3.out.trans hk5 fun i hi e => by omega)
        have hba5 := bs_keptE HBa.out hk45 (fun hne x o m c e h => HVa.out hne x o m c e h)
        have hca := conv_tx hba5
        have hcb := conv_tx hbb
        obtain ⟨aa, na, ea, -⟩ := id hba5
        obtain ⟨ab, nb, eb, -⟩ := id hbb
        have ea2 : va = .slice aa X.length na := ea
        have eb2 : vb = .slice ab X.length nb := eb
        clear ea eb hba5 hbb hk5 hk45 hB5 HC2
        subst ea2 eb2
        have HSd := Hid_mk (samedisk_any w5 w.heap.size p r _ ρ5 d5 HB5.out (by omega) (fun hd => HB5.out.names1 (by omega) hd))
        go_wp2_with fail
        with_reducible refine HSd.out.mono ?_
        rintro e w6 ⟨rfl, hk6⟩
        have hrel : PyRel l.length w.heap.size p r w (.int .i64 ((k : Int) + 1)) w6 := ⟨k + 1, ρ5, d5, by push_cast; rfl, HLt.out, by omega, (HB5.out.no hk6).mono (by omega), HK5.out.trans' hk6⟩
        have HRel := Hid_mk hrel
        clear hrel hk6 hca hcb
        go_wp2
        go_roundw
        case rel => exact HRel.out
        case measure => have := HLt.out; simp only [intOf]; omega
      · have HBs3 := Hid_mk (bs_no HSb.out HK3.out)
        have q1a : (w3.alloc (.cells #[] 5)).cell? ⟨b, o + k * 5 + 1, none⟩ = some (.slice ax bs.length capx) := ((Kp.refl No w3).alloc _).cell' q1 id
        go_wp2_with (at_builtin; (refine wpList_append_bs _ rfl _ _ rfl w3.heap.size _ [] rfl (World.ownsRow_made w3 #[] 0 (Nat.le_refl _) (by decide) rfl) _ bs rfl (bs_no HBs3.out ((Kp.refl No w3).alloc _)) (show ([] : List UInt8).length + _ ≤ _ by simp; omega) (by simp) ?_))
        rintro v4 w4 happ
        obtain ⟨g2, cap2, rfl, ho2⟩ := app_new happ
        have kk2 : Kp No w3 w4 := ((Kp.refl No w3).alloc _).grown happ.2.1 (fun i hi e => by simp [Value.ownBlock] at e; omega)
        have hg2 := World.ownsRow.lt ho2 g2 rfl
        have hg2b : ρ3 g2 = .other := HB3.out.dk.hi hg2.1
        have hw3 : w.heap.size ≤ w3.heap.size := HK3.out.size
        have hrlt : r < w3.heap.size := HB3.out.lt
        have u1 := kk2.cell' q1 id
        have HWarm := Hid_mk (ov_warm ho2 g2 rfl)
        have hown := owns_bs ho2
        have hcap2 : bs.length ≤ cap2 ∧ cap2 ≤ maxLen := by
          obtain ⟨_, _, e, h1, h2, -⟩ := id hown
          simp only [Value.slice.injEq] at e
          obtain ⟨-, -, rfl⟩ := e
          exact ⟨h1, h2⟩
        have HOwn := Hid_mk hown
        have HSx := Hid_mk (bs_no HBs3.out kk2)
        have HK4 := Hid_mk kk2
        have co0 := conv_tx (bs_no HOwn.out ((Kp.refl No w4).drew))
        have cs0 := conv_tx (bs_no HSx.out ((Kp.refl No w4).drew))
        obtain ⟨cd, hcd⟩ : ∃ c, (savD d3 bs).1 = c := ⟨_, rfl⟩
        have HC1 : Hid (∀ V, Kp No w4 V → Calls Tryz.prog 11 #[.pointer (some ⟨p, 0, none⟩), .slice (some ⟨g2, 0, none⟩) bs.length cap2] V fun e w1 => e = .returned (.int .i64 cd) ∧ Kp (fun k => w.heap.size ≤ k ∧ k ≠ r ∧ ρ3 k ≠ .other) V w1 ∧ Hid (MidA w.heap.size p d3 (savD d3 bs).2 r g2 w1)) :=
          Hid_mk fun V hV => made_call (HB3.out.made (HK4.out.trans' hV) hg2.1 (Nat.lt_of_lt_of_le hg2.2 hV.size)) (Nat.lt_of_lt_of_le hg2.2 hV.size) (hcd ▸ save_any V w.heap.size p _ ρ3 d3 _ bs (HB3.out.dk.no (HK4.out.trans' hV)) HB3.out.ok (by omega) (bs_no HOwn.out hV) (fun _ x o k c e => by cases e; exact hg2b) (by omega))
        have HC2 : Hid (∀ w1, Hid (MidA w.heap.size p d3 (savD d3 bs).2 r g2 w1) → Bs w1 (.slice ax bs.length capx) bs → Calls Tryz.prog 12 #[.pointer (some ⟨r, 0, none⟩), .slice ax bs.length capx] w1 fun e w2 => e = .returned (.int .i64 cd) ∧ Kp (fun k => k = r) w1 w2 ∧ Hid (MidA w.heap.size p (savD d3 bs).2 (savD d3 bs).2 r g2 w2)) :=
          Hid_mk fun w1 hmid hbx1 => hmid.out.call fun ρ1 x vs vn vw ls ln ps h3 h4 h5 h6 => hcd ▸ refsave_post w1 ρ1 r _ d3 ⟨x, vs, vn, vw, ls, ln, ps, h3, h4⟩ HB3.out.ok (by omega) h5 _ bs hbx1 (fun hne y o k c e => ⟨h6 y (HLo.out hne y o k c e) (by have := HLo.out hne y o k c e; have := hg2.1; omega), by have := HLo.out hne y o k c e; omega, bs_lt hbx1 hne e⟩)
        have HOkA := Hid_mk (savD_ok HB3.out.ok bs)
        obtain ⟨dA, hdA⟩ : ∃ dA, (savD d3 bs).2 = dA := ⟨_, rfl⟩
        rw [hdA] at HC1 HC2 HOkA
        clear hcd hdA happ ho2 kk2 hown q0 q1 q1a
        go_wp2_with fail
        go_region_held3 (fun V => V.cell? ⟨b, o + k * 5 + 1, none⟩ = some (.slice ax bs.length capx) ∧ (convert 29 9 (.slice (some ⟨g2, 0, none⟩) bs.length cap2)).run Tryz.prog V = .ok (.string (tx bs)) V ∧ (convert 29 9 (.slice ax bs.length capx)).run Tryz.prog V = .ok (.string (tx bs)) V)
          (first
            | go_keep
            | (dsimp only; exact ⟨u1, co0, cs0⟩)
            | (dsimp only; exact ⟨v1, co1, cs1⟩)
            | (dsimp only; exact ⟨y1, hco, hcs⟩)
            | assumption)
          (first
            | (go_at_call 11; (with_reducible refine (HC1.out _ (Kp.drew (Kp.refl No w4))).mono ?_); rintro e w5 ⟨rfl, hk1, hM1⟩; have hk1' := Kp.trans' (Kp.drew (Kp.refl (fun k => w.heap.size ≤ k ∧ k ≠ r ∧ ρ3 k ≠ .other) w4)) hk1; have v1 := hk1'.cell' u1 (fun h => Nat.not_le_of_lt hblt h.1); have hs1 := bs_keptE HSx.out hk1' (fun hne y o k c e h => by have h' := HLo.out hne y o k c e; have h'' := h.1; omega); have ho1 := bs_keptE HOwn.out hk1' (fun hne y o k c e h => by cases e; exact h.2.2 hg2b); have hf1 := fun j => (hk1'.frozen (p := ⟨g2, j, none⟩) hg2.2 (fun h => h.2.2 hg2b)).trans (HWarm.out j); have co1 := conv_tx ho1; have cs1 := conv_tx hs1; have HS1 := Hid_mk hs1; have HO1 := Hid_mk ho1; have HF1 := Hid_mk hf1; have HK5 := Hid_mk hk1'; clear hs1 ho1 hf1 hk1 hk1')
            | (go_at_call 12; (with_reducible refine (HC2.out _ hM1 HS1.out).mono ?_); rintro e w6 ⟨rfl, hk2r, hM2⟩; have y1 := hk2r.cell' v1 (fun h => by have h' : b = r := h; omega); have hs2 := bs_keptE HS1.out hk2r (fun hne y o k c e h => by have h' := HLo.out hne y o k c e; omega); have ho2 := bs_keptE HO1.out hk2r (fun hne y o k c e h => by cases e; have h' := hg2.1; omega); have hcs := conv_tx hs2; have hco := conv_tx ho2; have hz1 := HK5.out.size; have hf2 := fun j => (hk2r.frozen (p := ⟨g2, j, none⟩) (by have h' := hg2.2; simp only; omega) (fun h => by have h' : g2 = r := h; have h'' := hg2.1; omega)).trans (HF1.out j); have HO2 := Hid_mk ho2; have HF2 := Hid_mk hf2; have HK2r := Hid_mk hk2r; clear hs2 ho2 hf2 hk2r))
        have HM2 := Hid_mk hM2
        have hstart : OvRel w6 (.slice (some ⟨g2, 0, none⟩) bs.length cap2) bs.length (.int .i64 ((0 : Nat) : Int)) w6 := ⟨0, bs, Nat.zero_le _, rfl, rfl, HO2.out, Kp.refl _ _, fun g hg j => by simp [Value.ownBlock] at hg; subst hg; exact HF2.out j⟩
        have HStart := Hid_mk hstart
        obtain ⟨L, hL⟩ : ∃ L, bs.length = L := ⟨_, rfl⟩
        have hL2 : L ≤ cap2 ∧ cap2 ≤ maxLen := hL ▸ hcap2
        unfold maxLen at hL2
        rw [hL] at HStart ⊢
        clear hstart hcs hco co0 cs0 co1 cs1 u1 v1 y1 hcap2 hM1 hM2 HC1 HC2
        go_wp2
        go_hide hQ
        go_loopw [15] (fun i wq => OvRel w6 (.slice (some ⟨g2, 0, none⟩) L cap2) L i wq) (fun i _ => L - (intOf i).toNat)
        case atStart => exact HStart.out
        case round =>
          obtain ⟨j, ys, hj, rfl, hyl, hyb, hyk, hyf⟩ := hrel
          have HYb := Hid_mk hyb
          have HYk := Hid_mk hyk
          have HYl := Hid_mk hyl
          have HYf := Hid_mk hyf
          clear hyb hyk hyl hyf
          by_cases hjl : j < L
          · have hset := turned.bs_set HYb.out j hjl 238
            rw [Nat.zero_add] at hset
            have hcell : _ := HYb.out
            obtain ⟨_, _, e, _, _, h3⟩ := hcell
            simp only [Value.slice.injEq] at e
            obtain ⟨b', o', e2, hc⟩ := h3 (by intro e; have := HYl.out; rw [e] at this; simp at this; omega)
            rw [← e.1] at e2
            cases e2
            have hcj := hc j (by rw [HYl.out]; exact hjl)
            rw [Nat.zero_add] at hcj
            unfold B at hcj
            have hwj := HYf.out g2 rfl j
            have hji : (j : Int) < (L : Int) := by omega
            have hji0 : (0 : Int) ≤ (j : Int) := Int.natCast_nonneg _
            have hrel : OvRel w6 (.slice (some ⟨g2, 0, none⟩) L cap2) L (.int .i64 ((j + 1 : Nat) : Int)) _ := ⟨j + 1, ys.set j 238, hjl, rfl, by rw [List.length_set]; exact HYl.out, hset, HYk.out.setCell (p := ⟨g2, j, none⟩) (fun _ => rfl) _, fun g' hg' i' => by rw [World.frozen?_setCell]; exact HYf.out g' hg' i'⟩
            have HRel := Hid_mk hrel
            clear hrel hset hc h3 e
            go_wp2
            go_roundw
            case rel => exact HRel.out
            case measure => simp [intOf]; omega
          · have hji : ¬ (j : Int) < (L : Int) := by omega
            clear hjl
            have hyk : Kp (fun k => k = g2) w6 wr := HYk.out.mono fun k _ e => by simp [Value.ownBlock] at e; exact e.symm
            obtain ⟨ρ7, hB7⟩ := (HM2.out.out.set hyk).both HOkA.out
            have HB7 := Hid_mk hB7
            have HK7 : Hid (Kp No w wr) := Hid_mk ((((HK3.out.trans' HK4.out).trans HK5.out fun i hi e => by have h' := e.1; omega).trans HK2r.out fun i hi e => by omega).trans hyk fun i hi e => by have h' := hg2.1; omega)
            have HSd := Hid_mk (samedisk_any wr w.heap.size p r _ ρ7 dA HB7.out (by omega) (fun hd => HB7.out.names1 (by omega) hd))
            clear hyk hB7 HYb HYk HYl HYf
            go_wp2
            subst hQ
            go_wp2_with fail
            with_reducible refine HSd.out.mono ?_
            rintro e w8 ⟨rfl, hk8⟩
            have hrel : PyRel l.length w.heap.size p r w (.int .i64 ((k : Int) + 1)) w8 := ⟨k + 1, ρ7, dA, by push_cast; rfl, HLt.out, by omega, (HB7.out.no hk8).mono (by omega), HK7.out.trans' hk8⟩
            have HRel := Hid_mk hrel
            clear hrel hk8
            go_wp2
            go_roundw
            case rel => exact HRel.out
            case measure => have := HLt.out; simp only [intOf]; omega
    · by_cases hl : k < l.length
      · have hki : (k : Int) < (l.length : Int) := by omega
        have hk2 : ¬ (k : Int) < 80 := by omega
        have HKf := HKp
        clear hl hlt
        go_wp2
        go_ret
        exact ⟨rfl, HKf.out⟩
      · have hki : ¬ (k : Int) < (l.length : Int) := by omega
        have HKf := HKp
        clear hl hlt
        go_wp2
        go_ret
        exact ⟨rfl, HKf.out⟩

end Go.Proofs.YtmehneicdklfeaaGreat.snp
