/- DiskPlays: the law's walk. -/
import Derived.Test.YtomckoeobkfklaaDoorStep
import Derived.Test.YtomckoeobkfklaaDoorSame2
import Derived.Test.YtomckoeobkfklaaDoorDiskKnown2
namespace Go.Proofs.YtomckoeobkfklaaDoor.plays
open Go.RowKit Go.Maps Go.Proofs.YtomckoeobkfklaaDoor.sum Go.Proofs.YtomckoeobkfklaaDoor.kept Go.Proofs.YtomckoeobkfklaaDoor.app Go.Proofs.YtomckoeobkfklaaDoor.writer Go.Proofs.YtomckoeobkfklaaDoor.clone Go.Proofs.YtomckoeobkfklaaDoor.known Go.Proofs.YtomckoeobkfklaaDoor.fs Go.Proofs.YtomckoeobkfklaaDoor.fsDo Go.Proofs.YtomckoeobkfklaaDoor.unseal Go.Proofs.YtomckoeobkfklaaDoor.dsk Go.Proofs.YtomckoeobkfklaaDoor.r2 Go.Proofs.YtomckoeobkfklaaDoor.pair Go.Proofs.YtomckoeobkfklaaDoor.turned Go.Proofs.YtomckoeobkfklaaDoor.stepRow
set_option linter.unusedVariables false

/-- both are new -/
theorem both_new {w w2 : World} {base p : Nat} {ρ : Nat → Role} {room : Int} (h : Dk w2 base p ρ (newD room)) (h0 : 0 ≤ room) (h1 : room ≤ 8388608) :
    Both (w2.alloc (.cells #[.int .i64 room, .slice none 0 0, .slice none 0 0, .slice none 0 0, .bool false, .int .i64 0, .bool false] 32)) base p ρ (newD room) w2.heap.size 0 := by
  have hk := (Kp.refl No w2).alloc (.cells #[.int .i64 room, .slice none 0 0, .slice none 0 0, .slice none 0 0, .bool false, .int .i64 0, .bool false] 32)
  refine ⟨h.no hk, ⟨new_ok room h0 h1, (fun e he => by cases he), (fun c hc => by cases hc)⟩, ⟨room, false, 0, false⟩, .slice none 0 0, .slice none 0 0, .slice none 0 0, [], [], [], ?_, ?_⟩
  · exact ⟨⟨by simp, by simp, by simp, by simp, by simp, by simp, by simp, fun o => by simp, by simp⟩, Fl.nil _, Fl.nil _, Wt.nil _, h.hi (Nat.le_refl _), Aw.nil _ _ _ _ _, Aw.nil _ _ _ _ _, Aw.nil _ _ _ _ _, (fun q hq => by cases hq), (fun q hq => by cases hq), (fun q hq => by cases hq)⟩
  · exact ⟨rfl, rfl, rfl, (by show (0 : Int) ≤ 0; omega), (by show (0 : Int) ≤ _; omega), rfl, rfl, rfl⟩

def PlRel (n base p r : Nat) (w : World) (i : Value) (wr : World) : Prop := ∃ (k : Nat) (ρ : Nat → Role) (d : DSt), i = .int .i64 (k : Int) ∧ k ≤ n ∧ k ≤ 200 ∧ Both wr base p ρ d r k ∧ Kp No w wr

set_option maxRecDepth 100000 in
set_option maxHeartbeats 4000000 in
theorem plays_any (w : World) (room : Int) (v : Value) (l : List SR) (h : Sts w v l) (hnm : ∀ s ∈ l, s.name.size ≤ maxLen ∧ s.to.size ≤ maxLen) (hg : ∀ K, K < 4 → w.cell? ⟨0, K, none⟩ = some (.string (nmB K))) :
    Calls Tryd.prog 3 #[.int .i64 room, v] w fun e w' => e = .returned (.bool true) ∧ Kp No w w' := by
  obtain ⟨⟨a, cap, rfl, h1, h2, h3⟩, h4⟩ := h
  have H3 := Hid_mk h3
  have H4 := Hid_mk h4
  have HNm := Hid_mk hnm
  have HG := Hid_mk hg
  clear h3 h4 hnm hg
  cases hrb : roomB room with
  | false =>
    have HN := Hid_mk (new_no w room hrb)
    have HK := Hid_mk (known_any w)
    have hr1 : ¬ (0 ≤ room ∧ room ≤ 8388608) := by
      intro h
      have : roomB room = true := by simp [roomB, h.1, h.2]
      rw [hrb] at this
      cases this
    clear hrb
    by_cases hr2 : room < 0
    · go_enter Tryd.func3, Tryd.ntmps3
      go_wp2_with fail
      with_reducible refine HN.out.mono ?_
      rintro e w' ⟨rfl, rfl⟩
      go_wp2_with fail
      with_reducible refine HK.out.mono ?_
      rintro e w2 ⟨rfl, hk⟩
      have HK2 := Hid_mk hk
      clear hk
      go_wp2
      go_ret
      exact ⟨rfl, HK2.out⟩
    · have hr3 : 8388608 < room := by omega
      go_enter Tryd.func3, Tryd.ntmps3
      go_wp2_with fail
      with_reducible refine HN.out.mono ?_
      rintro e w' ⟨rfl, rfl⟩
      go_wp2_with fail
      with_reducible refine HK.out.mono ?_
      rintro e w2 ⟨rfl, hk⟩
      have HK2 := Hid_mk hk
      clear hk
      go_wp2
      go_ret
      exact ⟨rfl, HK2.out⟩
  | true =>
    have hr : 0 ≤ room ∧ room ≤ 8388608 := by simpa [roomB] using hrb
    obtain ⟨hr0, hr1⟩ := hr
    have hr2 : ¬ room < 0 := by omega
    have hr3 : ¬ 8388608 < room := by omega
    have HN := Hid_mk (new_any w room hr0 hr1)
    clear hrb
    go_enter Tryd.func3, Tryd.ntmps3
    go_wp2_with fail
    with_reducible refine HN.out.mono ?_
    rintro e w1 ⟨p, ρ, rfl, hd1, hk1, hp⟩
    have HD1 := Hid_mk hd1
    have HK1 := Hid_mk hk1
    clear hd1 hk1 HN
    go_wp2_with fail
    with_reducible refine (known_any w1).mono ?_
    rintro e w2 ⟨rfl, hk2⟩
    have hb := both_new (w := w) (HD1.out.no hk2) hr0 hr1
    have HB := Hid_mk hb
    have hk3 := (HK1.out.trans' hk2).alloc (.cells #[.int .i64 room, .slice none 0 0, .slice none 0 0, .slice none 0 0, .bool false, .int .i64 0, .bool false] 32)
    have HK3 := Hid_mk hk3
    have hrw : w.heap.size ≤ w2.heap.size := (HK1.out.trans' hk2).size
    clear hb hk2 hk3
    go_wp2
    go_loopw [8] (fun i wr => PlRel l.length w.heap.size p w2.heap.size w i wr) (fun i _ => l.length - (intOf i).toNat)
    case atStart => exact ⟨0, ρ, newD room, rfl, Nat.zero_le _, Nat.zero_le _, HB.out, HK3.out⟩
    case round =>
      obtain ⟨k, ρk, dk, rfl, hk, hk200, hbk, hkk⟩ := hrel
      have HBk := Hid_mk hbk
      have HKk := Hid_mk hkk
      clear hbk hkk
      have hk0 : (0 : Int) ≤ (k : Int) := Int.natCast_nonneg _
      obtain ⟨rr, hrr⟩ : ∃ rr, w2.heap.size = rr := ⟨_, rfl⟩
      rw [hrr] at HBk hrw ⊢
      by_cases hlt : k < l.length ∧ k < 200
      · obtain ⟨hlt, hl2⟩ := hlt
        have hki : (k : Int) < (l.length : Int) := by omega
        have hk2 : (k : Int) < 200 := by omega
        obtain ⟨b, o, rfl, hc⟩ := H3.out (by intro e; rw [e] at hlt; simp at hlt)
        have hck := hc k hlt
        have hsm : l[k] ∈ l := List.getElem_mem hlt
        obtain ⟨hsb, hsl⟩ := H4.out _ hsm
        have hsn := HNm.out _ hsm
        obtain ⟨s, hs⟩ : ∃ s, l[k] = s := ⟨_, rfl⟩
        rw [hs] at hck hsb hsl hsn
        obtain ⟨what, sa, sb, n, to, sx, bs, near⟩ := s
        simp only at hck hsb hsl hsn
        obtain ⟨q0, q1, q2, q3, q4, q5, q6⟩ := hck
        have q0 := HKk.out.cell' q0 id
        have q1 := HKk.out.cell' q1 id
        have q2 := HKk.out.cell' q2 id
        have q3 := HKk.out.cell' q3 id
        have q4 := HKk.out.cell' q4 id
        have q5 := HKk.out.cell' q5 id
        have q6 := HKk.out.cell' q6 id
        have hr5 : reachBytes = 140737488351232 := rfl
        have hst := step_any wr w.heap.size p rr k ρk dk HBk.out (by omega) hrw what sa sb n to sx bs near (bs_no hsb HKk.out) (fun hne x o m c e => bs_lt hsb hne e) (by omega) hsn.1 hsn.2 (fun K hK => HKk.out.cell' (HG.out K hK) id)
        obtain ⟨ax, cx, rfl, -⟩ := id hsb
        have HSt := Hid_mk hst
        have HLt := Hid_mk hlt
        clear hst hc hsm hsb hsl hsn hs hlt hr5
        go_wp2_with fail
        with_reducible refine HSt.out.mono ?_
        intro e w4 hpost
        obtain ⟨he, hk4, ρ4, d4, hb4⟩ : e = .returned (.bool true) ∧ Kp (fun k => w.heap.size ≤ k) wr w4 ∧ ∃ ρ d, Both w4 w.heap.size p ρ d rr (k + 1) := hpost
        subst he
        have HB4 := Hid_mk hb4
        have HK4 : Hid (Kp No w w4) := Hid_mk (HKk.out.trans hk4 fun i hi e => by omega)
        clear hb4 hk4
        go_wp2_with fail
        with_reducible refine (same_any w4 w.heap.size p rr (k + 1) ρ4 d4 HB4.out (by omega)).mono ?_
        rintro e w5 ⟨rfl, hk5⟩
        have HN5 : Hid (∀ i, i = (.int .i64 ((k : Int) + 1) : Value) → PlRel l.length w.heap.size p rr w i w5) := Hid_mk fun i hi => ⟨k + 1, ρ4, d4, by rw [hi]; push_cast; rfl, HLt.out, by omega, HB4.out.no hk5, HK4.out.trans' hk5⟩
        clear hk5
        go_wp2
        go_roundw
        case rel => exact HN5.out _ rfl
        case measure => have := HLt.out; simp only [intOf]; omega
      · by_cases hl : k < l.length
        · have hki : (k : Int) < (l.length : Int) := by omega
          have hk2 : ¬ (k : Int) < 200 := by omega
          clear hl hlt
          go_wp2
          go_ret
          exact ⟨rfl, HKk.out⟩
        · have hki : ¬ (k : Int) < (l.length : Int) := by omega
          clear hl hlt
          go_wp2
          go_ret
          exact ⟨rfl, HKk.out⟩

end Go.Proofs.YtomckoeobkfklaaDoor.plays
