/- DiskRooms: the law's walk. -/
import Derived.Test.YtbhhmbbldbgdnaaDoorDiskFull
import Derived.Test.YtbhhmbbldbgdnaaDoorDiskKnown2
import Derived.Test.YtbhhmbbldbgdnaaDoorStepRow
namespace Go.Proofs.YtbhhmbbldbgdnaaDoor.dsk
open Go.RowKit Go.Maps Go.Proofs.YtbhhmbbldbgdnaaDoor.sum Go.Proofs.YtbhhmbbldbgdnaaDoor.kept Go.Proofs.YtbhhmbbldbgdnaaDoor.app Go.Proofs.YtbhhmbbldbgdnaaDoor.writer Go.Proofs.YtbhhmbbldbgdnaaDoor.clone Go.Proofs.YtbhhmbbldbgdnaaDoor.unseal Go.Proofs.YtbhhmbbldbgdnaaDoor.fs Go.Proofs.YtbhhmbbldbgdnaaDoor.fsMem Go.Proofs.YtbhhmbbldbgdnaaDoor.fsDo Go.Proofs.YtbhhmbbldbgdnaaDoor.fsUsed Go.Proofs.YtbhhmbbldbgdnaaDoor.turned Go.Proofs.YtbhhmbbldbgdnaaDoor.stepRow
set_option linter.unusedVariables false

theorem dk_lo {w : World} {base p : Nat} {ρ : Nat → Role} {d : DSt} (h : Dk w base p ρ d) {k : Nat} (hk : k < base) : ρ k = .other := by
  obtain ⟨s, n, vp, ps, h⟩ := h
  exact Classical.byContradiction fun e => by have := h.low k e; omega

/-- the four names of the law -/
def nmB : Nat → ByteArray
  | 0 => ⟨#[97]⟩
  | 1 => ⟨#[98]⟩
  | 2 => ⟨#[115, 48, 48, 48, 48, 48, 48, 48, 48, 48, 48, 48, 48, 48, 48, 49]⟩
  | _ => ⟨#[115, 110, 97, 112]⟩
def four : List Name := [nm (nmB 0), nm (nmB 1), nm (nmB 2), nm (nmB 3)]
theorem nmB_four {K : Nat} (h : K < 4) : nm (nmB K) ∈ four := by
  match K, h with
  | 0, _ => simp [four]
  | 1, _ => simp [four]
  | 2, _ => simp [four]
  | 3, _ => simp [four]
theorem nmB_ok {K : Nat} (h : K < 4) : nameB (nmB K) = true ∧ (nmB K).size ≤ maxLen := by
  match K, h with
  | 0, _ => exact ⟨by decide, by decide⟩
  | 1, _ => exact ⟨by decide, by decide⟩
  | 2, _ => exact ⟨by decide, by decide⟩
  | 3, _ => exact ⟨by decide, by decide⟩

theorem nodup_sub {α : Type} : ∀ {l m : List α}, l.Nodup → (∀ x ∈ l, x ∈ m) → l.length ≤ m.length
  | [], m, _, _ => Nat.zero_le _
  | a :: r, m, h, hs => by
    obtain ⟨h1, h2⟩ := List.nodup_cons.1 h
    have ha := hs a (by simp)
    obtain ⟨m1, m2, rfl⟩ := List.append_of_mem ha
    have := nodup_sub (l := r) (m := m1 ++ m2) h2 fun x hx => by
      have hx2 := hs x (by simp [hx])
      simp only [List.mem_append, List.mem_cons] at hx2 ⊢
      rcases hx2 with hx2 | rfl | hx2
      · exact .inl hx2
      · exact absurd hx h1
      · exact .inr hx2
    simp only [List.length_append, List.length_cons] at this ⊢
    omega

theorem few_files {es : Files} (h : Rising es) (hs : ∀ e ∈ es, e.1 ∈ four) : es.length ≤ 4 := by
  have h1 : (es.map (·.1)).Nodup := by
    unfold List.Nodup
    rw [List.pairwise_map]
    exact h.apart
  have := nodup_sub (m := four) h1 fun x hx => by
    obtain ⟨e, he, rfl⟩ := List.mem_map.1 hx
    exact hs e he
  simpa [four] using this

/-- a disk of room R, nothing synced -/
def rmD (R : Nat) (cs : List Change) : DSt := ⟨(R : Int), -1, false, [], cs⟩
theorem rmD_free (R : Nat) (cs : List Change) : stopB (rmD R cs) = false ∧ stopD (rmD R cs) = rmD R cs := ⟨rfl, rfl⟩
theorem rmD_new (R : Nat) : newD (R : Int) = rmD R [] := rfl
theorem rmD_snoc (R : Nat) (cs : List Change) (c : Change) : ({ rmD R cs with cs := (rmD R cs).cs ++ [c] } : DSt) = rmD R (cs ++ [c]) := rfl
theorem rmD_now (R : Nat) (cs : List Change) (c : Change) : (rmD R (cs ++ [c])).now = doit (rmD R cs).now c := all_snoc [] cs c

theorem four_app {es : Files} (hs : ∀ e ∈ es, e.1 ∈ four) {n : ByteArray} (hn : nm n ∈ four) (bs : List UInt8) : ∀ e ∈ doit es (appC n bs), e.1 ∈ four := by
  intro e he
  have he2 : e ∈ put es (nm n) (old es (nm n) ++ bs) := he
  rcases mem_put.1 he2 with rfl | ⟨h, -⟩
  · exact hn
  · exact hs e h
theorem four_rem {es : Files} (hs : ∀ e ∈ es, e.1 ∈ four) (n : ByteArray) : ∀ e ∈ doit es (remC n), e.1 ∈ four := by
  intro e he
  have he2 : e ∈ fs.drop es (nm n) := he
  exact hs e (mem_drop.1 he2).1
theorem used_app {es : Files} (h : Rising es) (n : ByteArray) (bs : List UInt8) : used (doit es (appC n bs)) = used es + bs.length := by
  have h1 : doit es (appC n bs) = put es (nm n) (old es (nm n) ++ bs) := rfl
  have h2 := used_put h (nm n) (old es (nm n) ++ bs)
  rw [h1]
  unfold old at h2 ⊢
  rw [List.length_append] at h2
  omega
theorem used_rem {es : Files} (h : Rising es) (n : ByteArray) : used (doit es (remC n)) ≤ used es := by
  have h1 : doit es (remC n) = fs.drop es (nm n) := rfl
  have h2 := used_drop h (nm n)
  rw [h1]
  omega

structure RmOk (M R : Nat) (cs : List Change) : Prop where
  ok : DOk M (rmD R cs)
  four : ∀ e ∈ (rmD R cs).now, e.1 ∈ four
  room : used (rmD R cs).now ≤ R

theorem RmOk.rise {M R : Nat} {cs : List Change} (h : RmOk M R cs) : Rising (rmD R cs).now := rising_all h.ok.rising _
theorem RmOk.new (R : Nat) (hR : R ≤ 400) : RmOk 0 R [] := ⟨new_ok (R : Int) (by omega) (by omega), (fun e he => by cases he), Nat.zero_le _⟩
theorem RmOk.mono {M N R : Nat} {cs : List Change} (h : RmOk M R cs) (hm : M ≤ N) : RmOk N R cs := ⟨h.ok.mono hm, h.four, h.room⟩
theorem RmOk.app {M R : Nat} {cs : List Change} (h : RmOk M R cs) (hR : R ≤ 400) {K : Nat} (hK : K < 4) {bs : List UInt8} (hf : used (rmD R cs).now + bs.length ≤ R) : RmOk (M + 1) R (cs ++ [appC (nmB K) bs]) := by
  refine ⟨?_, ?_, ?_⟩
  · have := append_ok (bs := bs) h.ok (nmB_ok hK).1 (by omega)
    rw [(rmD_free R cs).2, rmD_snoc] at this
    exact this
  · rw [rmD_now]; exact four_app h.four (nmB_four hK) bs
  · rw [rmD_now, used_app h.rise]; exact hf
theorem RmOk.rem {M R : Nat} {cs : List Change} (h : RmOk M R cs) {K : Nat} (hK : K < 4) : RmOk (M + 1) R (cs ++ [remC (nmB K)]) := by
  refine ⟨?_, ?_, ?_⟩
  · have := remove_ok h.ok (nmB_ok hK).2
    rw [(rmD_free R cs).2, rmD_snoc] at this
    exact this
  · rw [rmD_now]; exact four_rem h.four _
  · rw [rmD_now]; exact Nat.le_trans (used_rem h.rise _) h.room

def RmRel (w : World) (base p R : Nat) (n : Nat) (i : Value) (wr : World) : Prop :=
  ∃ (k : Nat) (cs : List Change) (ρ : Nat → Role), k ≤ n ∧ k ≤ 100 ∧ i = .int .i64 k ∧ Dk wr base p ρ (rmD R cs) ∧ RmOk (2 * k) R cs ∧ Kp No w wr

set_option maxRecDepth 100000 in
set_option maxHeartbeats 16000000 in
theorem rooms_any (w : World) (room : Int) (v : Value) (l : List SR) (h : Sts w v l) (hn : ∀ K, K < 4 → w.cell? ⟨0, K, none⟩ = some (.string (nmB K))) :
    Calls Tryd.prog 4 #[.int .i64 room, v] w fun e w' => e = .returned (.bool true) ∧ Kp No w w' := by
  obtain ⟨⟨a, cap, rfl, hc1, hc2, hcells⟩, hbs⟩ := h
  unfold maxLen at hc2
  obtain ⟨R, hR⟩ : ∃ R : Nat, room % 400 = R := ⟨(room % 400).toNat, by have := Int.emod_nonneg room (show (400 : Int) ≠ 0 by omega); omega⟩
  have hR4 : R < 400 := by have := Int.emod_lt_of_pos room (show (0 : Int) < 400 by omega); omega
  have hp := fun w => turned.pick_any room 400 (by omega) (by omega) w
  rw [hR] at hp
  have HP := Hid_mk hp
  have HCells := Hid_mk hcells
  have HBs := Hid_mk hbs
  have HNm := Hid_mk hn
  clear hp hR hcells hbs hn
  go_enter Tryd.func4, Tryd.ntmps4
  go_wp2_with fail
  with_reducible refine (HP.out _).mono ?_
  rintro e w' ⟨rfl, rfl⟩
  go_wp2_with fail
  with_reducible refine (new_any w (R : Int) (by omega) (by omega)).mono ?_
  rintro e w2 ⟨p, ρ2, rfl, h2, hk2, hp2⟩
  rw [rmD_new] at h2
  have D2' := Hid_mk h2
  have K2' := Hid_mk hk2
  clear h2 hk2
  go_wp2_with fail
  with_reducible refine (known_any _).mono ?_
  rintro e w3 ⟨rfl, hkn⟩
  have D3 := Hid_mk (D2'.out.no hkn)
  have K3 := Hid_mk (K2'.out.trans' hkn)
  clear hkn D2' K2'
  go_wp2
  go_loopw [7] (fun i wr => RmRel w w.heap.size p R l.length i wr) (fun i _ => l.length - (intOf i).toNat)
  case atStart => exact ⟨0, [], ρ2, Nat.zero_le _, Nat.zero_le _, rfl, D3.out, RmOk.new R (by omega), K3.out⟩
  case round =>
    obtain ⟨k, cs, ρ, hk, hk100, rfl, hd, hok, hkp⟩ := hrel
    have HD := Hid_mk hd
    have HOk := Hid_mk hok
    have HKp := Hid_mk hkp
    clear hd hok hkp
    by_cases hlt : k < l.length ∧ k < 100
    · obtain ⟨hlt, hlt2⟩ := hlt
      obtain ⟨b, o, rfl, hcell⟩ := HCells.out (by intro e; rw [e] at hlt; simp at hlt)
      have hcl := hcell k hlt
      have hbs := HBs.out l[k] (List.getElem_mem hlt)
      generalize l[k] = s at *
      obtain ⟨sw, sa, sb, sname, sto, x, bs, snear⟩ := s
      simp only at hcl hbs
      obtain ⟨-, ca, cb, -, -, cx, -⟩ := hcl
      obtain ⟨hbx, hbl⟩ := hbs
      unfold reachBytes at hbl
      have hbw := World.block_lt_of_cell? w _ ca
      simp only at hbw
      obtain ⟨K, hK⟩ : ∃ K : Nat, sa % 4 = K := ⟨(sa % 4).toNat, by have := Int.emod_nonneg sa (show (4 : Int) ≠ 0 by omega); omega⟩
      have hK4 : K < 4 := by have := Int.emod_lt_of_pos sa (show (0 : Int) < 4 by omega); omega
      have hp := fun w => turned.pick_any sa 4 (by omega) (by omega) w
      rw [hK] at hp
      have HPa := Hid_mk hp
      have hu := HOk.out.room
      have HU := Hid_mk (fun W (hk : Kp No wr W) => used_disk W w.heap.size p ρ (rmD R cs) (HD.out.no hk) rfl (by omega))
      have HPe := Hid_mk (fun W (hk : Kp No wr W) => pending_any W w.heap.size p ρ (rmD R cs) (HD.out.no hk))
      obtain ⟨U, hU⟩ : ∃ U, used (rmD R cs).now = U := ⟨_, rfl⟩
      rw [hU] at hu HU
      have HUe := Hid_mk hU
      have hki : (k : Int) < (l.length : Int) := by omega
      have hki0 : (0 : Int) ≤ (k : Int) := Int.natCast_nonneg _
      have hk100i : (k : Int) < 100 := by omega
      have hbk := hbx
      obtain ⟨ax, capx, rfl, -⟩ := id hbx
      have HBx := Hid_mk hbx
      have HCa := Hid_mk ca
      have HCb := Hid_mk cb
      have HCx := Hid_mk cx
      clear hp hK hU hcell hbk hbx ca cb cx
      have hU' := HU.out wr (Kp.refl _ _)
      go_wp2_with fail
      with_reducible refine hU'.mono ?_
      clear hU'
      rintro e w4 ⟨rfl, hk4⟩
      have K4 := Hid_mk hk4
      have hP4 := HPe.out w4 hk4
      clear hk4
      go_wp2_with fail
      with_reducible refine hP4.mono ?_
      clear hP4
      rintro e w' ⟨rfl, rfl⟩
      have KW4 := Hid_mk (HKp.out.trans' K4.out)
      have D4 := Hid_mk (HD.out.no K4.out)
      have hvo : bs ≠ [] → ∀ x o m c, (Value.slice ax bs.length capx) = .slice (some ⟨x, o, none⟩) m c → ρ x = .other := fun hne x o m c e => by
        obtain ⟨a', cap', e', h1, h2, h3⟩ := HBx.out
        obtain ⟨b', o', e2, hc⟩ := h3 hne
        simp only [Value.slice.injEq] at e e'
        rw [e.1] at e'
        rw [e2] at e'
        obtain ⟨e3, -⟩ := e'
        injection e3 with e3
        injection e3 with e3
        subst e3
        exact dk_lo HD.out (World.block_lt_of_cell? w _ (hc 0 (List.length_pos_iff.2 hne)))
      have HVo := Hid_mk hvo
      have cnm := KW4.out.cell' (HNm.out K hK4) id
      have ca4 := KW4.out.cell' HCa.out id
      have cx4 := KW4.out.cell' HCx.out id
      have hn0 : (0 : Nat) < w.heap.size := World.block_lt_of_cell? w _ (HNm.out K hK4)
      have hkeep : ∀ (ρ' : Nat → Role) (W W' : World) (hk : Kp No w4 W) (hf : Fr ρ W ρ' W'), W'.cell? ⟨b, o + k * 7 + 1, none⟩ = some (.int .i64 sa) ∧ W'.cell? ⟨b, o + k * 7 + 5, none⟩ = some (.slice ax bs.length capx) ∧ W'.cell? ⟨0, K, none⟩ = some (.string (nmB K)) := fun ρ' W W' hk hf =>
        ⟨hf.1.cell' (hk.cell' ca4 id) fun e => e (dk_lo HD.out hbw), hf.1.cell' (hk.cell' cx4 id) fun e => e (dk_lo HD.out hbw), hf.1.cell' (hk.cell' cnm id) fun e => e (dk_lo HD.out hn0)⟩
      have HKeep := Hid_mk hkeep
      have hKi : (K : Int) < 4 := by omega
      have hKi0 : (0 : Int) ≤ (K : Int) := Int.natCast_nonneg _
      clear hvo hkeep
      by_cases hfit : U + bs.length ≤ R
      · have hA := fun W (hk : Kp No w4 W) => append_anyE W w.heap.size p (2 * k) ρ (rmD R cs) (nmB K) (.slice ax bs.length capx) bs (D4.out.no hk) HOk.out.ok (by omega) rfl (nmB_ok hK4).1 (bs_no HBx.out (KW4.out.trans' hk)) HVo.out (by rw [HUe.out]; show _ ≤ (R : Int); omega) (by have := few_files HOk.out.rise HOk.out.four; omega)
        have HA := Hid_mk hA
        have HOk2 := Hid_mk (HOk.out.app (by omega) hK4 (bs := bs) (by rw [HUe.out]; exact hfit))
        clear hA
        go_wp2
        go_region_held3 (fun W => W.cell? ⟨b, o + k * 7 + 1, none⟩ = some (.int .i64 sa) ∧ W.cell? ⟨b, o + k * 7 + 5, none⟩ = some (.slice ax bs.length capx) ∧ W.cell? ⟨0, K, none⟩ = some (.string (nmB K)))
          (first
            | (dsimp only; exact hS9)
            | go_keep)
          (first
            | (go_at_call 9; (with_reducible refine (HPa.out _).mono ?_); rintro e w' ⟨rfl, rfl⟩)
            | (go_at_call 12; (with_reducible refine (HA.out _ ((Kp.refl No w4).drew)).mono ?_); rintro e w5 ⟨rfl, ρ5, h5, f5⟩; have hS9 := HKeep.out ρ5 _ _ ((Kp.refl No w4).drew) f5))
        obtain ⟨csT, hcs2⟩ : ∃ cs2, cs ++ [appC (nmB K) bs] = cs2 := ⟨_, rfl⟩
        have D5 := Hid_mk (show Dk w5 w.heap.size p ρ5 (rmD R csT) from hcs2 ▸ h5)
        rw [hcs2] at HOk2
        have K5 := Hid_mk ((D4.out.no ((Kp.refl No w4).drew)).out (Nat.le_refl _) KW4.out.drew f5)
        have cx5 := hS9.2.1
        have hu2 := HOk2.out.room
        have hU5 := used_disk w5 w.heap.size p ρ5 (rmD R csT) D5.out rfl (by omega)
        obtain ⟨U2, hU2⟩ : ∃ U2, used (rmD R csT).now = U2 := ⟨_, rfl⟩
        rw [hU2] at hu2 hU5
        have HU5 := Hid_mk hU5
        have hf1 : (U : Int) + (bs.length : Int) ≤ (R : Int) := by omega
        have hf2 : ¬ (R : Int) < (U2 : Int) := by omega
        clear h5 f5 hS9 cnm ca4 cx4 hcs2 hU5 hU2
        go_wp2_with fail
        with_reducible refine HU5.out.mono ?_
        rintro e WT ⟨rfl, hk6⟩
        have DT := Hid_mk (D5.out.no hk6)
        have KT := Hid_mk (K5.out.trans' hk6)
        have HOkT := Hid_mk HOk2.out
        obtain ⟨ρT, hρT⟩ : ∃ ρT, ρT = ρ5 := ⟨_, rfl⟩
        subst hρT
        clear hk6 cx5 HU5
        have cbT := KT.out.cell' HCb.out id
        obtain ⟨K2, hK2⟩ : ∃ K : Nat, sb % 4 = K := ⟨(sb % 4).toNat, by have := Int.emod_nonneg sb (show (4 : Int) ≠ 0 by omega); omega⟩
        have hK24 : K2 < 4 := by have := Int.emod_lt_of_pos sb (show (0 : Int) < 4 by omega); omega
        have hpb := fun w => turned.pick_any sb 4 (by omega) (by omega) w
        rw [hK2] at hpb
        have HPb := Hid_mk hpb
        have cnT := KT.out.cell' (HNm.out K2 hK24) id
        have hK2i : (K2 : Int) < 4 := by omega
        have hK2i0 : (0 : Int) ≤ (K2 : Int) := Int.natCast_nonneg _
        clear hpb hK2
        by_cases hb5 : (sb.tmod 5 == 0) = true
        · have hrem : ∃ csN, RmOk (2 * (k + 1)) R csN ∧ ∃ res, Calls Tryd.prog 13 #[.pointer (some ⟨p, 0, none⟩), .string (nmB K2)] WT (StPost w.heap.size p ρT (rmD R csN) WT res) := by
            by_cases hget : (fs.get (rmD R csT).now (nm (nmB K2))).isSome = true
            · exact ⟨_, (HOkT.out.rem hK24).mono (by omega), _, remove_any WT w.heap.size p _ ρT (rmD R csT) (nmB K2) DT.out HOkT.out.ok (by omega) rfl (nmB_ok hK24).2 hget⟩
            · exact ⟨csT, HOkT.out.mono (by omega), _, remove_none WT w.heap.size p _ ρT (rmD R csT) (nmB K2) DT.out HOkT.out.ok rfl (nmB_ok hK24).2 (by simpa using hget)⟩
          obtain ⟨csN, hokN, res, hrem⟩ := hrem
          have HRem := Hid_mk hrem
          have HOkN := Hid_mk hokN
          clear hrem hokN
          go_wp2_with fail
          with_reducible refine (HPb.out _).mono ?_
          rintro e w' ⟨rfl, rfl⟩
          go_wp2_with fail
          with_reducible refine HRem.out.mono ?_
          rintro e wN ⟨rfl, ρN, hN, fN⟩
          have HRel := Hid_mk (show RmRel w w.heap.size p R l.length (.int .i64 ((k + 1 : Nat) : Int)) wN from ⟨k + 1, csN, ρN, hlt, hlt2, rfl, hN, HOkN.out, DT.out.out (Nat.le_refl _) KT.out fN⟩)
          clear hN fN
          go_wp2
          go_roundw
          case rel => exact HRel.out
          case measure => simp [intOf]; omega
        · have hb5' : (sb.tmod 5 == 0) = false := by simpa using hb5
          have HRel := Hid_mk (show RmRel w w.heap.size p R l.length (.int .i64 ((k + 1 : Nat) : Int)) WT from ⟨k + 1, csT, ρT, hlt, hlt2, rfl, DT.out, HOkT.out.mono (by omega), KT.out⟩)
          clear hb5
          go_wp2
          go_roundw
          case rel => exact HRel.out
          case measure => simp [intOf]; omega
      · have hA := fun W (hk : Kp No w4 W) => append_full W w.heap.size p (2 * k) ρ (rmD R cs) (nmB K) (.slice ax bs.length capx) bs (D4.out.no hk) HOk.out.ok (by omega) rfl (nmB_ok hK4).1 (bs_no HBx.out (KW4.out.trans' hk)) HVo.out (by rw [HUe.out]; show (R : Int) < _; omega) (by omega)
        have HA := Hid_mk hA
        clear hA
        go_wp2
        go_region_held3 (fun W => W.cell? ⟨b, o + k * 7 + 1, none⟩ = some (.int .i64 sa) ∧ W.cell? ⟨b, o + k * 7 + 5, none⟩ = some (.slice ax bs.length capx) ∧ W.cell? ⟨0, K, none⟩ = some (.string (nmB K)))
          (first
            | (dsimp only; exact hS9)
            | go_keep)
          (first
            | (go_at_call 9; (with_reducible refine (HPa.out _).mono ?_); rintro e w' ⟨rfl, rfl⟩)
            | (go_at_call 12; (with_reducible refine (HA.out _ ((Kp.refl No w4).drew)).mono ?_); rintro e w5 ⟨rfl, ρ5, h5, f5⟩; have hS9 := HKeep.out ρ5 _ _ ((Kp.refl No w4).drew) f5))
        have D5 := Hid_mk (show Dk w5 w.heap.size p ρ5 (rmD R cs) from h5)
        have K5 := Hid_mk ((D4.out.no ((Kp.refl No w4).drew)).out (Nat.le_refl _) KW4.out.drew f5)
        have cx5 := hS9.2.1
        have HU5 := Hid_mk (show ∀ W, Kp No w5 W → Calls Tryd.prog 10 #[.pointer (some ⟨p, 0, none⟩)] W fun e w' => e = .returned (.int .i64 (U : Int)) ∧ Kp No W w' from fun W hk => by
          have := used_disk W w.heap.size p ρ5 (rmD R cs) (D5.out.no hk) rfl (by rw [HUe.out]; omega)
          rwa [HUe.out] at this)
        have HPe5 := Hid_mk (fun W (hk : Kp No w5 W) => pending_any W w.heap.size p ρ5 (rmD R cs) (D5.out.no hk))
        have hf1 : ¬ (U : Int) + (bs.length : Int) ≤ (R : Int) := by omega
        have hf2 : ¬ (R : Int) < (U : Int) := by omega
        clear h5 f5 hS9 cnm ca4 cx4
        go_wp2_with fail
        with_reducible refine (HU5.out _ (Kp.refl _ _)).mono ?_
        rintro e w6 ⟨rfl, hk6⟩
        have HK6 := Hid_mk hk6
        have hP6 := HPe5.out w6 hk6
        clear hk6 cx5
        go_wp2_with fail
        with_reducible refine hP6.mono ?_
        clear hP6
        rintro e w' ⟨rfl, rfl⟩
        go_wp2_with fail
        with_reducible refine (HU5.out _ HK6.out).mono ?_
        rintro e WT ⟨rfl, hk7⟩
        have DT := Hid_mk (D5.out.no (HK6.out.trans' hk7))
        have KT := Hid_mk (K5.out.trans' (HK6.out.trans' hk7))
        obtain ⟨csT, hcsT⟩ : ∃ csT, csT = cs := ⟨_, rfl⟩
        have HOkT := Hid_mk (show RmOk (2 * k + 1) R csT from hcsT ▸ HOk.out.mono (by omega))
        rw [← hcsT] at DT
        obtain ⟨ρT, hρT⟩ : ∃ ρT, ρT = ρ5 := ⟨_, rfl⟩
        subst hρT
        clear hk7 HU5 HPe5 HK6 hcsT
        have cbT := KT.out.cell' HCb.out id
        obtain ⟨K2, hK2⟩ : ∃ K : Nat, sb % 4 = K := ⟨(sb % 4).toNat, by have := Int.emod_nonneg sb (show (4 : Int) ≠ 0 by omega); omega⟩
        have hK24 : K2 < 4 := by have := Int.emod_lt_of_pos sb (show (0 : Int) < 4 by omega); omega
        have hpb := fun w => turned.pick_any sb 4 (by omega) (by omega) w
        rw [hK2] at hpb
        have HPb := Hid_mk hpb
        have cnT := KT.out.cell' (HNm.out K2 hK24) id
        have hK2i : (K2 : Int) < 4 := by omega
        have hK2i0 : (0 : Int) ≤ (K2 : Int) := Int.natCast_nonneg _
        clear hpb hK2
        by_cases hb5 : (sb.tmod 5 == 0) = true
        · have hrem : ∃ csN, RmOk (2 * (k + 1)) R csN ∧ ∃ res, Calls Tryd.prog 13 #[.pointer (some ⟨p, 0, none⟩), .string (nmB K2)] WT (StPost w.heap.size p ρT (rmD R csN) WT res) := by
            by_cases hget : (fs.get (rmD R csT).now (nm (nmB K2))).isSome = true
            · exact ⟨_, (HOkT.out.rem hK24).mono (by omega), _, remove_any WT w.heap.size p _ ρT (rmD R csT) (nmB K2) DT.out HOkT.out.ok (by omega) rfl (nmB_ok hK24).2 hget⟩
            · exact ⟨csT, HOkT.out.mono (by omega), _, remove_none WT w.heap.size p _ ρT (rmD R csT) (nmB K2) DT.out HOkT.out.ok rfl (nmB_ok hK24).2 (by simpa using hget)⟩
          obtain ⟨csN, hokN, res, hrem⟩ := hrem
          have HRem := Hid_mk hrem
          have HOkN := Hid_mk hokN
          clear hrem hokN
          go_wp2_with fail
          with_reducible refine (HPb.out _).mono ?_
          rintro e w' ⟨rfl, rfl⟩
          go_wp2_with fail
          with_reducible refine HRem.out.mono ?_
          rintro e wN ⟨rfl, ρN, hN, fN⟩
          have HRel := Hid_mk (show RmRel w w.heap.size p R l.length (.int .i64 ((k + 1 : Nat) : Int)) wN from ⟨k + 1, csN, ρN, hlt, hlt2, rfl, hN, HOkN.out, DT.out.out (Nat.le_refl _) KT.out fN⟩)
          clear hN fN
          go_wp2
          go_roundw
          case rel => exact HRel.out
          case measure => simp [intOf]; omega
        · have hb5' : (sb.tmod 5 == 0) = false := by simpa using hb5
          have HRel := Hid_mk (show RmRel w w.heap.size p R l.length (.int .i64 ((k + 1 : Nat) : Int)) WT from ⟨k + 1, csT, ρT, hlt, hlt2, rfl, DT.out, HOkT.out.mono (by omega), KT.out⟩)
          clear hb5
          go_wp2
          go_roundw
          case rel => exact HRel.out
          case measure => simp [intOf]; omega
    · have hcase : (¬ (k : Int) < (l.length : Int)) ∨ ((k : Int) < (l.length : Int) ∧ ¬ (k : Int) < 100) := by omega
      clear hlt
      rcases hcase with hki | ⟨hki, hki2⟩
      all_goals
        go_wp2
        go_ret
        exact ⟨rfl, HKp.out⟩

end Go.Proofs.YtbhhmbbldbgdnaaDoor.dsk
