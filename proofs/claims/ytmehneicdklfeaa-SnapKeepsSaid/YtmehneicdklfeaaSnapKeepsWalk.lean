/- SnapKeeps: the law's walk. -/
import Derived.Test.YtmehneicdklfeaaSnapSaveM
import Derived.Test.YtmehneicdklfeaaBaseM
import Derived.Test.YtmehneicdklfeaaDiskM

namespace Go.Proofs.Ytmehneicdklfeaa.snp
open Go.RowKit Go.Maps Go.Proofs.Ytmehneicdklfeaa.sum Go.Proofs.Ytmehneicdklfeaa.kept Go.Proofs.Ytmehneicdklfeaa.app Go.Proofs.Ytmehneicdklfeaa.writer Go.Proofs.Ytmehneicdklfeaa.clone Go.Proofs.Ytmehneicdklfeaa.known Go.Proofs.Ytmehneicdklfeaa.fs Go.Proofs.Ytmehneicdklfeaa.fsDo Go.Proofs.Ytmehneicdklfeaa.unseal Go.Proofs.Ytmehneicdklfeaa.dsk Go.Proofs.Ytmehneicdklfeaa.r2 Go.Proofs.Ytmehneicdklfeaa.pair Go.Proofs.Ytmehneicdklfeaa.frm Go.Proofs.Ytmehneicdklfeaa.stepRow
set_option linter.unusedVariables false

/-- bytes as a text -/
def tx (l : List UInt8) : ByteArray := ⟨l.toArray⟩
theorem tx_ne {a b : List UInt8} (h : a ≠ b) : ((tx a).toList == (tx b).toList) = false := txt_ne fun e => h (by
  have := congrArg ByteArray.toList e
  simpa [tx, ByteArray.toList_eq] using this)
theorem conv_tx {w : World} {v : Value} {bs : List UInt8} (h : Bs w v bs) : (convert 26 9 v).run Try.prog w = .ok (.string (tx bs)) w := conv_bs h

theorem ok_st (L : Option (List UInt8)) (hL : ∀ x, L = some x → x.length ≤ 300) (f : Int) (h0 : -1 ≤ f) (h1 : f ≤ 1000) : OkN 1 (stS L f) := by
  have hu := used_base L hL
  have hl := len_base L
  refine ⟨⟨?_, ?_, ?_, ?_, (fun c hc => by cases hc), (fun c hc => by cases hc), (by show (0 : Int) ≤ 8388608; decide), (by show (8388608 : Int) ≤ 8388608; decide), h0, by show f ≤ _; omega, (fun c hc => by cases hc)⟩, ?_, (fun c hc => by cases hc)⟩
  · cases L with
    | none => exact .nil
    | some x => exact List.pairwise_singleton _ _
  · show (baseS L).length + 0 ≤ 1; omega
  · show used (baseS L) + 0 ≤ 1 * 8388608; omega
  · trivial
  · intro e he
    cases L with
    | none => cases he
    | some x =>
      have : e = (nm snapN, framed x) := by simpa [stS, baseS] using he
      subst this
      show (nm snapN).length ≤ 16
      decide

theorem dk_lo {w : World} {base p : Nat} {ρ : Nat → Role} {d : DSt} (h : Dk w base p ρ d) {k : Nat} (hk : k < base) : ρ k = .other := by
  obtain ⟨s, n, vp, ps, h⟩ := h
  exact Classical.byContradiction fun e => by have := h.low k e; omega

/-- Crash, as the law goes on behind it -/
theorem crash_to {w w5 : World} {p M : Nat} {ρ : Nat → Role} {d : DSt} (h : Dk w5 w.heap.size p ρ d) (hok : OkN M d) (hM : M ≤ 1000) (hk : Kp No w w5) (a b : Int) :
    ∀ W, Kp No w5 W → Calls Try.prog 11 #[.pointer (some ⟨p, 0, none⟩), .int .i64 a, .int .i64 b] W fun e w' => e = .returned (.int .i64 (crashK d a : Int)) ∧ Hid (OkN (M + 1) (crashD d a b) ∧ (∃ ρ', Dk w' w.heap.size p ρ' (crashD d a b)) ∧ Kp No w w') := fun W hW => by
  refine (crash_any W w.heap.size p M ρ d a b (h.no hW) hok.1 (by omega)).mono ?_
  rintro e w' ⟨he, ρ', h', hf⟩
  exact ⟨he, Hid_mk ⟨crR_ok hok (by omega) a b, ⟨ρ', h'⟩, (h.no hW).out (Nat.le_refl _) (hk.trans' hW) hf⟩⟩

/-- between two rounds -/
def KeRel (n base p : Nat) (w : World) (last has i : Value) (wr : World) : Prop :=
  ∃ (k : Nat) (ρ : Nat → Role) (L : Option (List UInt8)), i = .int .i64 (k : Int) ∧ k ≤ n ∧ last = .string (tx (L.getD [])) ∧ has = .bool L.isSome ∧ (∀ x, L = some x → x.length ≤ 300) ∧ Dk wr base p ρ (stS L (-1)) ∧ Kp No w wr

set_option maxRecDepth 100000 in
set_option maxHeartbeats 8000000 in
theorem snapKeeps_any (w : World) (v : Value) (l : List SR6) (h : Sts6 w v l) :
    Calls Try.prog 4 #[v] w fun e w' => e = .returned (.bool true) ∧ Kp No w w' := by
  obtain ⟨⟨a, cap, rfl, h1, h2, h3⟩, h4⟩ := h
  have H3 := Hid_mk h3
  have H4 := Hid_mk h4
  have HN := Hid_mk (new_any w 8388608 (by omega) (by omega))
  clear h3 h4
  go_enter Try.func4, Try.ntmps4
  go_wp2_with fail
  with_reducible refine HN.out.mono ?_
  rintro e w1 ⟨p, ρ1, rfl, hd1, hk1, hp⟩
  have HD1 : Hid (Dk w1 w.heap.size p ρ1 (stS none (-1))) := Hid_mk hd1
  have HK1 := Hid_mk hk1
  clear HN hd1 hk1
  go_wp2_with fail
  with_reducible refine (known_any save_any open_any w1).mono ?_
  rintro e w2 ⟨rfl, hk2⟩
  have HK2 := Hid_mk (HK1.out.trans' hk2)
  have HD2 := Hid_mk (HD1.out.no hk2)
  clear hk2 HD1 HK1
  go_wp2
  go_loopw [5, 6, 7] (fun last has i wr => KeRel l.length w.heap.size p w last has i wr) (fun _ _ i _ => l.length - (intOf i).toNat)
  case atStart => exact ⟨0, ρ1, none, rfl, Nat.zero_le _, rfl, rfl, (fun x e => by cases e), HD2.out, HK2.out⟩
  case round =>
    obtain ⟨k, ρ, L, rfl, hk, rfl, rfl, hL, hd, hkp⟩ := hrel
    obtain ⟨T, hT⟩ : ∃ T, tx (L.getD []) = T := ⟨_, rfl⟩
    obtain ⟨Bh, hBh⟩ : ∃ Bh, L.isSome = Bh := ⟨_, rfl⟩
    rw [hT, hBh]
    have HT := Hid_mk hT
    have HBh := Hid_mk hBh
    clear hT hBh
    have HD := Hid_mk hd
    have HKp := Hid_mk hkp
    have HL := Hid_mk hL
    clear hd hkp hL
    have hk0 : (0 : Int) ≤ (k : Int) := Int.natCast_nonneg _
    by_cases hlt : k < l.length ∧ k < 40
    · obtain ⟨hlt, hl2⟩ := hlt
      have hki : (k : Int) < (l.length : Int) := by omega
      have hk2 : (k : Int) < 40 := by omega
      obtain ⟨b, o, rfl, hc⟩ := H3.out (by intro e; rw [e] at hlt; simp at hlt)
      have hck := hc k hlt
      obtain ⟨hsb, hsl⟩ := H4.out _ (List.getElem_mem hlt)
      obtain ⟨s, hs⟩ : ∃ s, l[k] = s := ⟨_, rfl⟩
      rw [hs] at hck hsb hsl
      obtain ⟨what, x, bs, hm, ha, hb⟩ := s
      simp only at hck hsb hsl
      obtain ⟨q0, q1, q2, q3, q4⟩ := hck
      have Q2 := Hid_mk q2
      have Q3 := Hid_mk q3
      have Q4 := Hid_mk q4
      have q1 := HKp.out.cell' q1 id
      obtain ⟨ax, capx, rfl, r1, r2, -⟩ := id hsb
      unfold maxLen at r2
      have hbt := bs_take hsb (min bs.length 300) (Nat.min_le_left _ _)
      have HBt := Hid_mk hbt
      have HLt := Hid_mk hlt
      have hl0 : (0 : Int) ≤ (bs.length : Int) := Int.natCast_nonneg _
      have hlc : (bs.length : Int) ≤ (capx : Int) := by omega
      clear hc hsb hs hlt hsl hbt q0 q2 q3 q4
      obtain ⟨bt, hbte⟩ : ∃ bt, bs.take (min bs.length 300) = bt := ⟨_, rfl⟩
      have hbtl : bt.length = min bs.length 300 := by rw [← hbte, List.length_take]; omega
      rw [hbte, ← hbtl] at HBt
      have hmn : (min (bs.length : Int) 300).toNat = bt.length := by omega
      have hbt3 : bt.length ≤ 300 := by omega
      have hmn0 : (0 : Int) ≤ min (bs.length : Int) 300 := by omega
      have hmnc : min (bs.length : Int) 300 ≤ (capx : Int) := by omega
      clear hbte hbtl
      go_wp2_with fail
      go_region_held3 (fun W => W.cell? ⟨b, o + k * 5 + 1, none⟩ = some (.slice ax bs.length capx)) (first | go_keep) (fail)
      obtain ⟨w3, hw3⟩ : ∃ w3, wr.drew = w3 := ⟨_, rfl⟩
      have kd : Kp No wr w3 := hw3 ▸ (Kp.refl No wr).drew
      rw [hw3]
      have HD3 := Hid_mk (HD.out.no kd)
      have HK3 := Hid_mk (HKp.out.trans' kd)
      have q2 := HK3.out.cell' Q2.out id
      have q3 := HK3.out.cell' Q3.out id
      clear kd hw3 hmn hmn0 hmnc q1 HD HKp hlc hl0 H3 H4 HK2 HD2 r1 r2
      by_cases hfu : (hm.tmod 3 == 0) = true
      all_goals first
        | (have HFu := Hid_mk (pfuse_any HD3.out (ha % 6))
           have hp6 := Int.emod_nonneg ha (show (6 : Int) ≠ 0 by omega)
           have hp7 := Int.emod_lt_of_pos ha (show (0 : Int) < 6 by omega)
           obtain ⟨f, hf⟩ : ∃ f : Int, max (ha % 6) (-1) = f := ⟨_, rfl⟩
           have hf0 : -1 ≤ f := by omega
           have hf1 : f ≤ 1000 := by omega
           rw [hf] at HFu
           clear hp6 hp7 hf
           go_wp2_with fail
           (with_reducible refine (turned.pick_any ha 6 (by omega) (by omega) w3).mono ?_)
           rintro e w' ⟨rfl, rfl⟩
           go_wp2_with fail
           (with_reducible refine HFu.out.mono ?_)
           rintro e w4 ⟨rfl, ρ4, h4, f4⟩
           have HK4 := Hid_mk (HD3.out.out (Nat.le_refl _) HK3.out f4)
           have HD4 : Hid (Dk w4 w.heap.size p ρ4 (stS L f)) := Hid_mk h4
           clear h4 f4 HFu HD3 HK3 q2 q3)
        | (obtain ⟨f, hf⟩ : ∃ f : Int, f = -1 := ⟨_, rfl⟩
           have hf0 : -1 ≤ f := by omega
           have hf1 : f ≤ 1000 := by omega
           obtain ⟨w4, hw4⟩ : ∃ w4, w4 = w3 := ⟨_, rfl⟩
           obtain ⟨ρ4, hρ4⟩ : ∃ ρ4, ρ4 = ρ := ⟨_, rfl⟩
           subst hw4 hρ4
           rw [← hf] at HD3
           have HK4 := HK3
           have HD4 := HD3
           clear HD3 HK3 hf)
      all_goals
        have HO4 := Hid_mk (ok_st L HL.out f hf0 hf1)
        have hvo : bt ≠ [] → ∀ x o m c, (Value.slice ax bt.length capx) = .slice (some ⟨x, o, none⟩) m c → ρ4 x = .other := fun hne y o m c e => dk_lo HD4.out (by cases e; exact bs_lt HBt.out hne rfl)
        rcases sav_or L HL.out bt hbt3 f with ⟨f5, hsv⟩ | ⟨S, cs, hsv, hcut⟩
        · have HS := Hid_mk (save_to save_any (.slice ax bt.length capx) bt HD4.out HO4.out (by omega) (bs_no HBt.out HK4.out) hvo (by omega) hsv)
          clear hvo hsv
          go_wp2_with fail
          with_reducible refine HS.out.mono ?_
          rintro e w5 ⟨rfl, H5⟩
          obtain ⟨ok5, ρ5, h5, g5⟩ := H5.out
          have HK5 := Hid_mk (HD4.out.out (Nat.le_refl _) HK4.out g5)
          have HD5 := Hid_mk h5
          have HO5 := Hid_mk ok5
          have hcv := conv_tx (bs_no HBt.out HK5.out)
          have q3 := HK5.out.cell' Q3.out id
          have q4 := HK5.out.cell' Q4.out id
          clear h5 g5 ok5 H5 HS HO4 HD4 HK4
          by_cases hb3 : 0 < hb.tmod 3
          · have HFu := Hid_mk (pfuse_any HD5.out (-1))
            go_wp2_with fail
            with_reducible refine HFu.out.mono ?_
            rintro e w6 ⟨rfl, ρ6, h6, g6⟩
            have hrel : KeRel l.length w.heap.size p w (.string (tx bt)) (.bool true) (.int .i64 ((k : Int) + 1)) w6 := ⟨k + 1, ρ6, some bt, by push_cast; rfl, HLt.out, rfl, rfl, (fun x e => by cases e; exact hbt3), h6, HD5.out.out (Nat.le_refl _) HK5.out g6⟩
            have HRel := Hid_mk hrel
            clear hrel h6 g6 hcv
            go_wp2
            go_roundw
            case rel => exact HRel.out
            case measure => have := HLt.out; simp only [intOf]; omega
          · have HCr := Hid_mk (crash_to HD5.out HO5.out (by omega) HK5.out ha hb)
            go_wp2_with fail
            go_region_held3 (fun W => W.cell? ⟨b, o + k * 5 + 3, none⟩ = some (.int .i64 ha) ∧ W.cell? ⟨b, o + k * 5 + 4, none⟩ = some (.int .i64 hb))
              (first | (dsimp only; exact hS9) | go_keep)
              (first | (go_at_call 11; (with_reducible refine (HCr.out _ ((Kp.refl No w5).drew)).mono ?_); rintro e w6 ⟨rfl, H6⟩; have hS9 := And.intro (H6.out.2.2.cell' Q3.out id) (H6.out.2.2.cell' Q4.out id)))
            obtain ⟨ok6, ⟨ρ6, h6⟩, k6⟩ := H6.out
            have HK6 := Hid_mk k6
            have HD6 := Hid_mk h6
            have HOp := Hid_mk (open_to open_any HD6.out ok6 (by omega) (fun x e => by cases e; exact hbt3) (ok_opn (some bt) f5 ha hb))
            clear h6 k6 H6 hS9 HCr q3 q4
            go_wp2_with fail
            with_reducible refine HOp.out.mono ?_
            rintro e w7 ⟨va, ρ7, rfl, hba, hxa, H7⟩
            obtain ⟨ok7, h7, g7⟩ := H7.out
            have HK7 := Hid_mk (HD6.out.out (Nat.le_refl _) HK6.out g7)
            have HD7 := Hid_mk h7
            have hcb := conv_tx (bs_no HBt.out HK7.out)
            clear ok7 h7 g7 H7 HOp HK6 HD6 hxa
            have hcx : (convert 26 9 va).run Try.prog w7 = .ok (.string (tx bt)) w7 := conv_tx hba
            obtain ⟨aa, na, ea, -⟩ := id hba
            have ea2 : va = .slice aa bt.length na := ea
            clear ea hba
            subst ea2
            have hrel : KeRel l.length w.heap.size p w (.string (tx bt)) (.bool true) (.int .i64 ((k : Int) + 1)) w7 := ⟨k + 1, ρ7, some bt, by push_cast; rfl, HLt.out, rfl, rfl, (fun x e => by cases e; exact hbt3), HD7.out, HK7.out⟩
            have HRel := Hid_mk hrel
            clear hrel
            go_wp2
            go_roundw
            case rel => exact HRel.out
            case measure => have := HLt.out; simp only [intOf]; omega
        · have HS := Hid_mk (save_to save_any (.slice ax bt.length capx) bt HD4.out HO4.out (by omega) (bs_no HBt.out HK4.out) hvo (by omega) hsv)
          clear hvo hsv
          have HCut := Hid_mk hcut
          clear hcut
          go_wp2_with fail
          with_reducible refine HS.out.mono ?_
          rintro e w5 ⟨rfl, H5⟩
          obtain ⟨ok5, ρ5, h5, g5⟩ := H5.out
          have HK5 := Hid_mk (HD4.out.out (Nat.le_refl _) HK4.out g5)
          have q3 := HK5.out.cell' Q3.out id
          have q4 := HK5.out.cell' Q4.out id
          have HCr := Hid_mk (crash_to h5 ok5 (by omega) HK5.out ha hb)
          clear h5 g5 ok5 H5 HS HO4 HD4 HK4
          go_wp2_with fail
          go_region_held3 (fun W => W.cell? ⟨b, o + k * 5 + 3, none⟩ = some (.int .i64 ha) ∧ W.cell? ⟨b, o + k * 5 + 4, none⟩ = some (.int .i64 hb))
            (first | (dsimp only; exact hS9) | go_keep)
            (first | (go_at_call 11; (with_reducible refine (HCr.out _ ((Kp.refl No w5).drew)).mono ?_); rintro e w6 ⟨rfl, H6⟩; have hS9 := And.intro (H6.out.2.2.cell' Q3.out id) (H6.out.2.2.cell' Q4.out id)))
          obtain ⟨ok6, ⟨ρ6, h6⟩, k6⟩ := H6.out
          have HK6 := Hid_mk k6
          have HD6 := Hid_mk h6
          obtain ⟨L', hL', ho6⟩ := cut_opn HCut.out ha hb
          have hL3 : ∀ x, L' = some x → x.length ≤ 300 := by
            rcases hL' with rfl | rfl
            · exact HL.out
            · intro x e; cases e; exact hbt3
          have HOp := Hid_mk (open_to open_any HD6.out ok6 (by omega) hL3 ho6)
          clear ho6
          clear h6 k6 H6 hS9 HCr q3 q4
          go_wp2_with fail
          with_reducible refine HOp.out.mono ?_
          rintro e w7 ⟨va, ρ7, rfl, hba, hxa, H7⟩
          obtain ⟨ok7, h7, g7⟩ := H7.out
          have HK7 := Hid_mk (HD6.out.out (Nat.le_refl _) HK6.out g7)
          have HD7 := Hid_mk h7
          have hcb := conv_tx (bs_no HBt.out HK7.out)
          clear ok7 h7 g7 H7 HOp HK6 HD6 hxa
          have HL' := Hid_mk hL'
          have HL3 := Hid_mk hL3
          clear hL' hL3
          cases L' with
          | none =>
            have hLn : L = none := by
              rcases HL'.out with h | h
              · exact h.symm
              · cases h
            have hT2 : T = tx [] := by rw [← HT.out, hLn]; rfl
            have hB2 : Bh = false := by rw [← HBh.out, hLn]; rfl
            clear hLn HT HBh HL HL' HCut
            subst hT2 hB2
            have hcx : (convert 26 9 va).run Try.prog w7 = .ok (.string (tx [])) w7 := conv_tx hba
            obtain ⟨aa, na, ea, -⟩ := id hba
            have ea2 : va = .slice aa 0 na := ea
            clear ea hba
            subst ea2
            have hrel : KeRel l.length w.heap.size p w (.string (tx [])) (.bool false) (.int .i64 ((k : Int) + 1)) w7 := ⟨k + 1, ρ7, none, by push_cast; rfl, HLt.out, rfl, rfl, HL3.out, HD7.out, HK7.out⟩
            have HRel := Hid_mk hrel
            clear hrel
            go_wp2
            go_roundw
            case rel => exact HRel.out
            case measure => have := HLt.out; simp only [intOf]; omega
          | some y =>
            have hcx : (convert 26 9 va).run Try.prog w7 = .ok (.string (tx y)) w7 := conv_tx hba
            obtain ⟨aa, na, ea, -⟩ := id hba
            have ea2 : va = .slice aa y.length na := ea
            clear ea hba
            subst ea2
            have hrel : KeRel l.length w.heap.size p w (.string (tx y)) (.bool true) (.int .i64 ((k : Int) + 1)) w7 := ⟨k + 1, ρ7, some y, by push_cast; rfl, HLt.out, rfl, rfl, HL3.out, HD7.out, HK7.out⟩
            have HRel := Hid_mk hrel
            clear hrel
            by_cases hy : y = bt
            · subst hy
              clear HT HBh HL HL' HCut HL3
              go_wp2
              go_roundw
              case rel => exact HRel.out
              case measure => have := HLt.out; simp only [intOf]; omega
            · have hLn : L = some y := by
                rcases HL'.out with h | h
                · exact h.symm
                · cases h; exact absurd rfl hy
              have hT2 : T = tx y := by rw [← HT.out, hLn]; rfl
              have hB2 : Bh = true := by rw [← HBh.out, hLn]; rfl
              have hne := tx_ne hy
              clear hLn HT HBh HL HL' HCut HL3 hy
              subst hT2 hB2
              go_wp2
              go_roundw
              case rel => exact HRel.out
              case measure => have := HLt.out; simp only [intOf]; omega
    · by_cases hl : k < l.length
      · have hki : (k : Int) < (l.length : Int) := by omega
        have hk2 : ¬ (k : Int) < 40 := by omega
        have HKf := HKp
        clear hl hlt
        go_wp2
        go_ret
        exact ⟨rfl, HKf.out⟩
      · have hki : ¬ (k : Int) < (l.length : Int) := by omega
        have HKf := HKp
        clear hl hlt
        go_wp2
        go_ret
        exact ⟨rfl, HKf.out⟩

end Go.Proofs.Ytmehneicdklfeaa.snp
