/- The project's Splitter: Rest; what is asked of it holds. -/
import Derived.Test.YtpmmjihkgfmbhaaDoorParas
namespace Go.Proofs.YtpmmjihkgfmbhaaDoor.spl
open Go.RowKit Go.Maps Go.Proofs.YtpmmjihkgfmbhaaDoor.sum Go.Proofs.YtpmmjihkgfmbhaaDoor.kept Go.Proofs.YtpmmjihkgfmbhaaDoor.app Go.Proofs.YtpmmjihkgfmbhaaDoor.writer Go.Proofs.YtpmmjihkgfmbhaaDoor.clone Go.Proofs.YtpmmjihkgfmbhaaDoor.known Go.Proofs.YtpmmjihkgfmbhaaDoor.unseal Go.Proofs.YtpmmjihkgfmbhaaDoor.snp
set_option linter.unusedVariables false

theorem SpPost.is {Sp : SpT} {w w' : World} {base p : Nat} {ρ : Nat → Bool} {m : Nat} {t : SpS} {res : Value} {e : Ending} (h : SpPost Sp w base p ρ m t res e w') : e = .returned res ∧ Hid (∃ ρ', Sp w' base p ρ' m t ∧ FrS ρ w ρ' w') := ⟨h.1, Hid_mk h.2⟩
theorem FrS.post {Sp : SpT} {w w1 w' : World} {base p : Nat} {ρ ρ1 : Nat → Bool} {m : Nat} {t : SpS} {res : Value} {e : Ending} (k : FrS ρ w ρ1 w1) (h : SpPost Sp w1 base p ρ1 m t res e w') : SpPost Sp w base p ρ m t res e w' := by
  obtain ⟨h1, ρ', h2, h3⟩ := h
  exact ⟨h1, ρ', h2, k.trans h3⟩

set_option maxRecDepth 100000 in
set_option maxHeartbeats 4000000 in
theorem sprest_any (w : World) (base p : Nat) (ρ : Nat → Bool) (m : Nat) (s : SpS) (rs : List UInt8) (h : PSp w base p ρ m s) (hok : OkS m s) (hm : m ≤ 200) : Calls Tryd.prog 14 #[.pointer (some ⟨p, 0, none⟩), .string (tx rs)] w (SpPost PSp w base p ρ m (lastS m rs s).2 (ansV (lastS m rs s).1)) := by
  have hn := spnext_any w base p ρ m s rs h hok hm
  obtain ⟨A, hA⟩ : ∃ A, nextS m rs s = A := ⟨_, rfl⟩
  have hL : lastS m rs s = lastF A := by rw [← hA]; rfl
  rw [hL]
  rw [hA] at hn
  clear hL hA h hok
  obtain ⟨a, t⟩ := A
  cases a with
  | some x =>
    have HN := Hid_mk hn
    clear hn
    go_enter Tryd.func14, Tryd.ntmps14
    go_wp2_with fail
    with_reducible refine HN.out.mono ?_
    intro e w1 hpost
    obtain ⟨he, hp⟩ : e = .returned (.tuple #[.string (tx x), .bool true]) ∧ _ := hpost.is
    subst he
    clear hpost HN
    go_wp2
    go_ret2
    exact ⟨rfl, hp.out⟩
  | none =>
    have HN := Hid_mk hn
    clear hn
    go_enter Tryd.func14, Tryd.ntmps14
    go_wp2_with fail
    with_reducible refine HN.out.mono ?_
    intro e w1 hpost
    obtain ⟨he, hp⟩ : e = .returned (.tuple #[.string (tx []), .bool false]) ∧ _ := hpost.is
    subst he
    obtain ⟨ρ1, h1, k1⟩ := hp.out
    have HK := Hid_mk k1
    have HS := Hid_mk h1
    have HE := Hid_mk (end_any w1 base p ρ1 m t h1)
    obtain ⟨vr, va, hh, -⟩ := h1
    have c1 := hh.c1
    have c2 := hh.c2
    obtain ⟨ah, ch, rfl, -, -, -⟩ := hh.held.any
    clear k1 HN hh hp hpost
    by_cases h0 : t.held = []
    · have hl0 : (t.held.length : Int) = 0 := by rw [h0]; rfl
      have hl1 : t.held.length = 0 := by rw [h0]; rfl
      cases ho : t.over with
      | false =>
        rw [ho] at c2
        have HF : Hid (lastF (none, t) = (none, t)) := Hid_mk (if_pos ⟨h0, ho⟩)
        clear h0 ho
        go_wp2
        go_ret2
        rw [HF.out]
        exact ⟨rfl, _, HS.out, HK.out⟩
      | true =>
        rw [ho] at c2
        have HF : Hid (lastF (none, t) = (some t.held, endS t)) := Hid_mk (if_neg (fun h => by rw [ho] at h; cases h.2))
        clear h0 ho
        go_wp2_with fail
        with_reducible refine HE.out.mono ?_
        intro e w2 hpost
        obtain ⟨he, hp⟩ : e = .returned (.string (tx t.held)) ∧ _ := (HK.out.post hpost).is
        subst he
        clear HE hpost
        go_wp2
        go_ret2
        rw [HF.out]
        exact ⟨rfl, hp.out⟩
    · have hlp := List.length_pos_iff.2 h0
      have hl0 : ¬ (t.held.length : Int) = 0 := by omega
      have hl1 : ¬ t.held.length = 0 := by omega
      have HF : Hid (lastF (none, t) = (some t.held, endS t)) := Hid_mk (if_neg (fun h => h0 h.1))
      go_wp2_with fail
      with_reducible refine HE.out.mono ?_
      intro e w2 hpost
      obtain ⟨he, hp⟩ : e = .returned (.string (tx t.held)) ∧ _ := (HK.out.post hpost).is
      subst he
      clear HE hpost
      go_wp2
      go_ret2
      rw [HF.out]
      exact ⟨rfl, hp.out⟩

/-- what is asked of the project's Splitter holds of it -/
theorem splitC : SplitC PSp where
  kept := PSp.kept
  low := PSp.low
  new_ok := spnew_ok
  feed := fun w base p ρ m s v bs h hb _ hl => feed_any w base p ρ m s v bs h hb hl
  next := fun w base p ρ m s rs h hok hm _ _ => spnext_any w base p ρ m s rs h hok hm
  last := fun w base p ρ m s rs h hok hm _ _ => sprest_any w base p ρ m s rs h hok hm

end Go.Proofs.YtpmmjihkgfmbhaaDoor.spl
