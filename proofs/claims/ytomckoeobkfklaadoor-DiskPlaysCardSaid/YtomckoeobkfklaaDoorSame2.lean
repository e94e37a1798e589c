/- The law's same: both disks tell the same. -/
import Derived.Test.YtomckoeobkfklaaDoorPair
import Derived.Test.YtomckoeobkfklaaDoorDiskNames
import Derived.Test.YtomckoeobkfklaaDoorNamesUp
namespace Go.Proofs.YtomckoeobkfklaaDoor.pair
open Go.RowKit Go.Maps Go.Sort Go.Proofs.YtomckoeobkfklaaDoor.sum Go.Proofs.YtomckoeobkfklaaDoor.kept Go.Proofs.YtomckoeobkfklaaDoor.app Go.Proofs.YtomckoeobkfklaaDoor.writer Go.Proofs.YtomckoeobkfklaaDoor.clone Go.Proofs.YtomckoeobkfklaaDoor.known Go.Proofs.YtomckoeobkfklaaDoor.fs Go.Proofs.YtomckoeobkfklaaDoor.fsDo Go.Proofs.YtomckoeobkfklaaDoor.unseal Go.Proofs.YtomckoeobkfklaaDoor.dsk Go.Proofs.YtomckoeobkfklaaDoor.r2 Go.Proofs.YtomckoeobkfklaaDoor.pair Go.Proofs.YtomckoeobkfklaaDoor.turned
set_option linter.unusedVariables false

/-- the names of a disk's files, as texts -/
def nmsOf (d : DSt) : List ByteArray := (namesOf d.now).map fun n => ⟨n.toArray⟩
theorem nms_len (d : DSt) : (nmsOf d).length = d.now.length := by unfold nmsOf namesOf; rw [List.length_map, List.length_map]

section
variable {w : World} {base p r M : Nat} {ρ : Nat → Role} {d : DSt}

theorem Both.few (h : Both w base p ρ d r M) (hM : M ≤ 1000) : d.now.length ≤ 1000 ∧ used d.now ≤ 10000000000 := by
  obtain ⟨h1, h2, x, vs, vn, vw, ls, ln, ps, h3, h4⟩ := h
  obtain ⟨b1, b2, b3, -⟩ := h4.bounds h2.1 hM
  rw [← h4.now, files_len]
  exact ⟨b2, b3⟩

theorem Both.names1 (h : Both w base p ρ d r M) (hM : M ≤ 1000) (hd : d.down = false) :
    Calls Tryd.prog 27 #[.pointer (some ⟨p, 0, none⟩)] w fun e w' => ∃ v, e = .returned v ∧ SRow w' w.heap.size v (nmsOf d) ∧ Kp No w w' := by
  have hf := h.few hM
  refine (names_up w base p ρ d h.dk hd (by omega)).mono ?_
  rintro e w' ⟨v, he, ho, hk⟩
  refine ⟨v, he, ?_, hk⟩
  unfold SRow
  rw [nms_len]
  have e2 : (nmsOf d).map Value.string = (namesOf d.now).map encStr := by
    unfold nmsOf
    rw [List.map_map]
    rfl
  rw [e2]
  exact ho
theorem Both.names2 (h : Both w base p ρ d r M) (hM : M ≤ 1000) :
    Calls Tryd.prog 28 #[.pointer (some ⟨r, 0, none⟩)] w fun e w' => ∃ v, e = .returned v ∧ SRow w' w.heap.size v (if d.down = true then [] else nmsOf d) ∧ Kp No w w' := by
  obtain ⟨h1, h2, x, vs, vn, vw, ls, ln, ps, h3, h4⟩ := h
  obtain ⟨b1, b2, b3, -⟩ := h4.bounds h2.1 hM
  have e : nmsOf d = ln.map (·.1) := by
    unfold nmsOf
    rw [← h4.now]
    unfold namesOf files
    rw [List.map_map, List.map_map]
    exact List.map_congr_left fun q _ => rfl
  rw [e, h4.down]
  exact refnames_any w r x vs vn vw ln h3.at_ h3.fn (by omega)
theorem Both.used1 (h : Both w base p ρ d r M) (hM : M ≤ 1000) :
    Calls Tryd.prog 29 #[.pointer (some ⟨p, 0, none⟩)] w fun e w' => e = .returned (.int .i64 (if d.down = true then 0 else (used d.now : Int))) ∧ Kp No w w' := by
  have hf := h.few hM
  cases hd : d.down with
  | true => exact (used_down w base p ρ d h.dk hd).mono fun e w' ⟨he, hw⟩ => ⟨he, hw ▸ Kp.refl _ _⟩
  | false => exact used_disk w base p ρ d h.dk hd (by omega)
theorem Both.used2 (h : Both w base p ρ d r M) (hM : M ≤ 1000) :
    Calls Tryd.prog 30 #[.pointer (some ⟨r, 0, none⟩)] w fun e w' => e = .returned (.int .i64 (if d.down = true then 0 else (used d.now : Int))) ∧ w = w' := by
  obtain ⟨h1, h2, x, vs, vn, vw, ls, ln, ps, h3, h4⟩ := h
  obtain ⟨b1, b2, b3, -⟩ := h4.bounds h2.1 hM
  have := refused_any w r x vs vn vw ln h3.at_ h3.fn (by omega) (by omega)
  rw [h4.now, ← h4.down] at this
  exact this
theorem Both.pend (h : Both w base p ρ d r M) :
    Calls Tryd.prog 31 #[.pointer (some ⟨p, 0, none⟩)] w fun e w' => e = .returned (.int .i64 (d.cs.length : Int)) ∧ w = w' := pending_any w base p ρ d h.dk
theorem Both.down (h : Both w base p ρ d r M) :
    Calls Tryd.prog 32 #[.pointer (some ⟨p, 0, none⟩)] w fun e w' => e = .returned (.bool d.down) ∧ w = w' := down_any w base p ρ d h.dk
/-- the reference's cells that the law reads itself -/
theorem Both.cells (h : Both w base p ρ d r M) : ∃ a c, w.cell? ⟨r, 3, none⟩ = some (.slice a d.cs.length c) ∧ w.cell? ⟨r, 6, none⟩ = some (.bool d.down) := by
  obtain ⟨h1, h2, x, vs, vn, vw, ls, ln, ps, h3, h4⟩ := h
  have hpl : ps.length = d.cs.length := by rw [← h4.cs, List.length_map]
  have c3 := h3.at_.c3
  have c6 := h3.at_.c6
  rw [← h4.down] at c6
  rcases owns_any h3.fw.1 with ⟨rfl, h0⟩ | ⟨g, cap, rfl, -⟩
  · rw [← hpl, h0]; exact ⟨_, _, c3, c6⟩
  · rw [← hpl]; exact ⟨_, _, c3, c6⟩
theorem Both.read1 (h : Both w base p ρ d r M) (hM : M ≤ 1000) (n : ByteArray) (hn : n.size ≤ maxLen) (hd : d.down = false) :
    Calls Tryd.prog 13 #[.pointer (some ⟨p, 0, none⟩), .string n] w fun e w' => ∃ v, e = .returned (.tuple #[v, .bool (get d.now (nm n)).isSome]) ∧ Bs w' v (old d.now (nm n)) ∧ Kp No w w' := by
  have hf := h.few hM
  obtain ⟨⟨s, nn, vp, ps, hh⟩, -, -⟩ := h
  refine (read_any w base p ρ d d.now s nn vp ps n hh hd hn (by omega)).mono ?_
  rintro e w' ⟨v, he, ho, hk⟩
  exact ⟨v, he, owns_bs ho, hk⟩
theorem Both.nms16 (h : Both w base p ρ d r M) : ∀ s ∈ nmsOf d, s.size ≤ 16 := by
  intro s hs
  unfold nmsOf at hs
  obtain ⟨n, hn, rfl⟩ := List.mem_map.1 hs
  obtain ⟨e, he, rfl⟩ := List.mem_map.1 hn
  have := h.ok.2.now e he
  show e.1.toArray.size ≤ 16
  simpa using this
theorem Both.read2 (h : Both w base p ρ d r M) (hM : M ≤ 1000) (n : ByteArray) (hn : n.size ≤ maxLen) (hd : d.down = false) :
    Calls Tryd.prog 15 #[.pointer (some ⟨r, 0, none⟩), .string n] w fun e w' => ∃ v, e = .returned (.tuple #[v, .bool (fs.get d.now (nm n)).isSome]) ∧ Bs w v (old d.now (nm n)) ∧ w = w' := by
  refine (h.read hM n hn).mono ?_
  rintro e w' ⟨v, bs, he, hb, hbe, -, hw⟩
  rw [hd] at he hbe
  simp only [Bool.not_false, Bool.true_and, Bool.false_eq_true, if_false] at he hbe
  subst hbe
  exact ⟨v, he, hb, hw⟩
theorem Both.none18 (h : Both w base p ρ d r M) {n : ByteArray} (hn : 16 < n.size) : (get d.now (nm n)).isSome = false := by
  cases hg : (fs.get d.now (nm n)).isSome with
  | false => rfl
  | true => have := h.ok.2.has hg; omega
end

theorem srow_cell {w : World} {base g n c : Nat} {l : List ByteArray} (h : SRow w base (.slice (some ⟨g, 0, none⟩) n c) l) (k : Nat) (hk : k < l.length) : w.cell? ⟨g, k, none⟩ = some (.string l[k]) := by
  have h' : w.ownsRow base 9 1 (.slice (some ⟨g, 0, none⟩) n c) l.length (l.map Value.string) := h
  have := h'.cells (g := g) rfl k (.string l[k]) (by simp [hk])
  rw [addr_add, Nat.zero_add] at this
  exact this

end Go.Proofs.YtomckoeobkfklaaDoor.pair
namespace Go.Proofs.YtomckoeobkfklaaDoor.plays
open Go.RowKit Go.Maps Go.Sort Go.Proofs.YtomckoeobkfklaaDoor.sum Go.Proofs.YtomckoeobkfklaaDoor.kept Go.Proofs.YtomckoeobkfklaaDoor.app Go.Proofs.YtomckoeobkfklaaDoor.writer Go.Proofs.YtomckoeobkfklaaDoor.clone Go.Proofs.YtomckoeobkfklaaDoor.known Go.Proofs.YtomckoeobkfklaaDoor.fs Go.Proofs.YtomckoeobkfklaaDoor.fsDo Go.Proofs.YtomckoeobkfklaaDoor.unseal Go.Proofs.YtomckoeobkfklaaDoor.dsk Go.Proofs.YtomckoeobkfklaaDoor.r2 Go.Proofs.YtomckoeobkfklaaDoor.pair Go.Proofs.YtomckoeobkfklaaDoor.turned

def SmRel (n : Nat) (w : World) (i : Value) (wr : World) : Prop := ∃ k : Nat, i = .int .i64 (k : Int) ∧ k ≤ n ∧ Kp No w wr

set_option maxRecDepth 100000 in
set_option maxHeartbeats 4000000 in
theorem same_any (w : World) (base p r M : Nat) (ρ : Nat → Role) (d : DSt) (h : Both w base p ρ d r M) (hM : M ≤ 1000) :
    Calls Tryd.prog 7 #[.pointer (some ⟨p, 0, none⟩), .pointer (some ⟨r, 0, none⟩)] w fun e w' => e = .returned (.bool true) ∧ Kp No w w' := by
  have HM := Hid_mk hM
  have H := Hid_mk h
  have hfew := h.few hM
  have HN2 := Hid_mk fun V (hV : Kp No w V) => (h.no hV).names2 hM
  obtain ⟨U, hU⟩ : ∃ U, (if d.down = true then 0 else (used d.now : Int)) = U := ⟨_, rfl⟩
  have HU1 := Hid_mk fun V (hV : Kp No w V) => hU ▸ (h.no hV).used1 hM
  have HU2 := Hid_mk fun V (hV : Kp No w V) => hU ▸ (h.no hV).used2 hM
  have HPe := Hid_mk fun V (hV : Kp No w V) => (h.no hV).pend
  have HDn := Hid_mk fun V (hV : Kp No w V) => (h.no hV).down
  clear hU hM
  obtain ⟨aw, cw, c3, c6⟩ := h.cells
  have HC3 := Hid_mk c3
  have HC6 := Hid_mk c6
  have HLit := Hid_mk (h.none18 (n := ⟨#[116, 104, 101, 114, 101, 32, 105, 115, 32, 110, 111, 110, 101, 32, 115, 117, 99, 104]⟩) (by decide))
  cases hd : d.down with
  | true =>
    have HN1 := Hid_mk (names_down w base p ρ d h.dk hd)
    have HRd := Hid_mk fun V (hV : Kp No w V) => read_down V base p ρ d ⟨#[116, 104, 101, 114, 101, 32, 105, 115, 32, 110, 111, 110, 101, 32, 115, 117, 99, 104]⟩ (h.dk.no hV) hd
    rw [hd] at HDn HC6 HN2
    clear h c3 c6
    go_enter Tryd.func7, Tryd.ntmps7
    go_wp2_with fail
    with_reducible refine HN1.out.mono ?_
    rintro e w' ⟨rfl, rfl⟩
    go_wp2_with fail
    with_reducible refine (HN2.out _ (Kp.refl _ _)).mono ?_
    rintro e w2 ⟨v2, rfl, hs2, hk2⟩
    simp only [if_true] at hs2
    have c3 := hk2.cell' HC3.out id
    have c6 := hk2.cell' HC6.out id
    have HK2 := Hid_mk hk2
    obtain ⟨a2, k2, rfl⟩ : ∃ a c, v2 = .slice a 0 c := by
      rcases owns_any hs2 with ⟨rfl, -⟩ | ⟨g, cap, rfl, -⟩ <;> exact ⟨_, _, rfl⟩
    clear hs2 hk2
    go_wp2
    go_region_held3 (fun V => V.cell? ⟨r, 3, none⟩ = some (.slice aw d.cs.length cw) ∧ V.cell? ⟨r, 6, none⟩ = some (.bool true))
      (first
        | go_keep
        | (dsimp only; exact ⟨c3, c6⟩)
        | (dsimp only; exact ⟨e3, e6⟩)
        | assumption)
      (first
        | (go_at_call 29; (with_reducible refine (HU1.out _ (HK2.out.drew)).mono ?_); rintro e w3 ⟨rfl, hk3⟩; have hk3' := Kp.trans' HK2.out.drew hk3; have e3 := hk3'.cell' HC3.out id; have e6 := hk3'.cell' HC6.out id; have HK3 := Hid_mk hk3'; clear hk3 hk3')
        | (go_at_call 30; (with_reducible refine (HU2.out _ HK3.out).mono ?_); rintro e w' ⟨rfl, rfl⟩)
        | (go_at_call 31; (with_reducible refine (HPe.out _ HK3.out).mono ?_); rintro e w' ⟨rfl, rfl⟩)
        | (go_at_call 32; (with_reducible refine (HDn.out _ HK3.out).mono ?_); rintro e w' ⟨rfl, rfl⟩))
    have HKE := Hid_mk HK3.out
    clear e3 e6 c3 c6
    go_wp2
    go_loopw [7] (fun i wr => i = .int .i64 0 ∧ Kp No w wr) (fun _ _ => 0)
    case atStart => exact ⟨rfl, HKE.out⟩
    case round =>
      obtain ⟨rfl, hkr⟩ := hrel
      have HKr := Hid_mk hkr
      clear hkr
      go_wp2_with fail
      with_reducible refine (HRd.out _ HKr.out).mono ?_
      rintro e w' ⟨rfl, rfl⟩
      go_wp2
      go_ret
      exact ⟨rfl, HKr.out⟩
  | false =>
    have HN1 := Hid_mk (h.names1 HM.out hd)
    have HR1 := Hid_mk fun V (hV : Kp No w V) n (hn : n.size ≤ maxLen) => (h.no hV).read1 HM.out n hn hd
    have HR2 := Hid_mk fun V (hV : Kp No w V) n (hn : n.size ≤ maxLen) => (h.no hV).read2 HM.out n hn hd
    rw [hd] at HDn HC6 HN2
    have hln := nms_len d
    have hsz : ∀ k (hk : k < (nmsOf d).length), (nmsOf d)[k].size ≤ maxLen := fun k hk => by
      have := H.out.nms16 _ (List.getElem_mem hk)
      unfold maxLen; omega
    have HSz := Hid_mk hsz
    obtain ⟨L, hL⟩ : ∃ L, nmsOf d = L := ⟨_, rfl⟩
    rw [hL] at HN1 HN2 hln HSz
    have hL1 : L.length ≤ 1000 := by omega
    clear h c3 c6 hsz hL hfew
    go_enter Tryd.func7, Tryd.ntmps7
    go_wp2_with fail
    with_reducible refine HN1.out.mono ?_
    rintro e w1 ⟨v1, rfl, hs1, hk1⟩
    have HS1 := Hid_mk hs1
    have HK1 := Hid_mk hk1
    obtain ⟨a1, k1, rfl, hg1⟩ : ∃ a c, v1 = .slice a L.length c ∧ (L ≠ [] → ∃ g, a = some ⟨g, 0, none⟩) := by
      rcases owns_any hs1 with ⟨rfl, h0⟩ | ⟨g, cap, rfl, -⟩
      · exact ⟨_, _, by rw [h0], fun hne => absurd (List.eq_nil_of_length_eq_zero h0) hne⟩
      · exact ⟨_, _, rfl, fun _ => ⟨g, rfl⟩⟩
    have HG1 := Hid_mk hg1
    clear hs1 hk1 hg1
    go_wp2_with fail
    with_reducible refine (HN2.out _ HK1.out).mono ?_
    rintro e w2 ⟨v2, rfl, hs2, hk2⟩
    simp only [Bool.false_eq_true, if_false] at hs2
    have hk2 := HK1.out.trans' hk2
    have HS2 := Hid_mk hs2
    have HS1b : Hid (SRow w2 w.heap.size (.slice a1 L.length k1) L) := Hid_mk (HS1.out.no (by assumption))
    obtain ⟨a2, k2, rfl, hg2⟩ : ∃ a c, v2 = .slice a L.length c ∧ (L ≠ [] → ∃ g, a = some ⟨g, 0, none⟩) := by
      rcases owns_any hs2 with ⟨rfl, h0⟩ | ⟨g, cap, rfl, -⟩
      · exact ⟨_, _, by rw [h0], fun hne => absurd (List.eq_nil_of_length_eq_zero h0) hne⟩
      · exact ⟨_, _, rfl, fun _ => ⟨g, rfl⟩⟩
    have HG2 := Hid_mk hg2
    have c3 := hk2.cell' HC3.out id
    have c6 := hk2.cell' HC6.out id
    have HK2 := Hid_mk hk2
    clear hs2 hk2 hg2
    go_wp2
    go_region_held3 (fun V => V.cell? ⟨r, 3, none⟩ = some (.slice aw d.cs.length cw) ∧ V.cell? ⟨r, 6, none⟩ = some (.bool false))
      (first
        | go_keep
        | (dsimp only; exact ⟨c3, c6⟩)
        | (dsimp only; exact ⟨e3, e6⟩)
        | assumption)
      (first
        | (go_at_call 29; (with_reducible refine (HU1.out _ (HK2.out.drew)).mono ?_); rintro e w3 ⟨rfl, hk3⟩; have hk3' := Kp.trans' HK2.out.drew hk3; have e3 := hk3'.cell' HC3.out id; have e6 := hk3'.cell' HC6.out id; have HK3 := Hid_mk hk3'; have HK23 := Hid_mk (Kp.trans' (Kp.drew (Kp.refl No w2)) hk3); clear hk3 hk3')
        | (go_at_call 30; (with_reducible refine (HU2.out _ HK3.out).mono ?_); rintro e w' ⟨rfl, rfl⟩)
        | (go_at_call 31; (with_reducible refine (HPe.out _ HK3.out).mono ?_); rintro e w' ⟨rfl, rfl⟩)
        | (go_at_call 32; (with_reducible refine (HDn.out _ HK3.out).mono ?_); rintro e w' ⟨rfl, rfl⟩))
    have HKE := Hid_mk HK3.out
    clear e3 e6 c3 c6
    have HS1c : Hid (SRow w3 w.heap.size (.slice a1 L.length k1) L) := Hid_mk (HS1b.out.no HK23.out)
    have HS2c := Hid_mk (HS2.out.no HK23.out)
    clear HKE
    go_wp2
    go_loopw [7] (fun i wr => SmRel L.length w3 i wr) (fun i _ => L.length - (intOf i).toNat)
    case atStart => exact ⟨0, rfl, Nat.zero_le _, Kp.refl _ _⟩
    case round =>
      obtain ⟨k, rfl, hk, hkr⟩ := hrel
      have HKr := Hid_mk hkr
      have HKw := Hid_mk (HK3.out.trans' hkr)
      clear hkr
      by_cases hlt : k < L.length
      · have hki : (k : Int) < (L.length : Int) := by omega
        have hk0 : (0 : Int) ≤ (k : Int) := Int.natCast_nonneg _
        obtain ⟨g1, rfl⟩ := HG1.out (by intro e; rw [e] at hlt; simp at hlt)
        obtain ⟨g2, rfl⟩ := HG2.out (by intro e; rw [e] at hlt; simp at hlt)
        have y1 := srow_cell (HS1c.out.no HKr.out) k hlt
        have y2 := srow_cell (HS2c.out.no HKr.out) k hlt
        have hys := HSz.out k hlt
        obtain ⟨y, hy⟩ : ∃ y, L[k] = y := ⟨_, rfl⟩
        rw [hy] at y1 y2 hys
        have HLt := Hid_mk hlt
        have hr1 := HR1.out _ HKw.out y hys
        have hr2 := fun V (hV : Kp No w V) => HR2.out V hV y hys
        obtain ⟨gb, hgb⟩ : ∃ gb, (fs.get d.now (nm y)).isSome = gb := ⟨_, rfl⟩
        obtain ⟨bs, hbs⟩ : ∃ bs, old d.now (nm y) = bs := ⟨_, rfl⟩
        rw [hgb, hbs] at hr1
        simp only [hgb, hbs] at hr2
        have HA1 := Hid_mk hr1
        have HA2 := Hid_mk hr2
        clear hr1 hr2 hgb hbs hy hlt hys
        go_wp2_with fail
        with_reducible refine HA1.out.mono ?_
        rintro e w4 ⟨v4, rfl, hb4, hk4⟩
        have HK4 := Hid_mk (HKw.out.trans' hk4)
        have HK34 := Hid_mk (HKr.out.trans' hk4)
        have z1 := hk4.cell' y1 id
        have z2 := hk4.cell' y2 id
        have HB4 := Hid_mk hb4
        obtain ⟨a4, c4, rfl, -⟩ := id hb4
        clear hk4 hb4 y1 y2
        go_wp2_with fail
        with_reducible refine (HA2.out _ HK4.out).mono ?_
        rintro e w' ⟨v5, rfl, hb5, rfl⟩
        have hc4 := conv_bs (bs_no HB4.out ((Kp.refl No w4).drew))
        have hc5 := conv_bs (bs_no hb5 ((Kp.refl No w4).drew))
        obtain ⟨a5, c5, rfl, -⟩ := id hb5
        clear hb5
        go_wp2
        go_region_held3 (fun V => V.cell? ⟨g1, k, none⟩ = some (.string y) ∧ V.cell? ⟨g2, k, none⟩ = some (.string y) ∧
            (convert 34 9 (.slice a4 bs.length c4)).run Tryd.prog V = .ok (.string ⟨bs.toArray⟩) V ∧ (convert 34 9 (.slice a5 bs.length c5)).run Tryd.prog V = .ok (.string ⟨bs.toArray⟩) V)
          (first | (dsimp only; exact ⟨z1, z2, hc4, hc5⟩) | go_keep) (fail)
        all_goals
          go_wp2
          go_roundw
          case rel => exact ⟨k + 1, by push_cast; rfl, HLt.out, HK34.out.drew⟩
          case measure => have := HLt.out; simp only [intOf]; omega
      · have hki : ¬ (k : Int) < (L.length : Int) := by omega
        have hrl := HR1.out _ HKw.out ⟨#[116, 104, 101, 114, 101, 32, 105, 115, 32, 110, 111, 110, 101, 32, 115, 117, 99, 104]⟩ (by decide)
        rw [HLit.out] at hrl
        have HRl := Hid_mk hrl
        clear hrl hlt
        go_wp2_with fail
        with_reducible refine HRl.out.mono ?_
        rintro e w4 ⟨v4, rfl, hb4, hk4⟩
        have HK4 := Hid_mk (HKw.out.trans' hk4)
        obtain ⟨a4, c4, rfl, -⟩ := id hb4
        clear hk4 hb4
        go_wp2
        go_ret
        exact ⟨rfl, HK4.out⟩

end Go.Proofs.YtomckoeobkfklaaDoor.plays
