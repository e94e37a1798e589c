/- The reference's Unseal: it answers as the project's. -/
import Derived.Test.YtbhhmbbldbgdnaaRefSeal
import Derived.Test.YtbhhmbbldbgdnaaTurnedPlain
import Derived.Test.YtbhhmbbldbgdnaaTurned
namespace Go.Proofs.Ytbhhmbbldbgdnaa.ref
open Go.RowKit Go.Proofs.Ytbhhmbbldbgdnaa.sum Go.Proofs.Ytbhhmbbldbgdnaa.kept Go.Proofs.Ytbhhmbbldbgdnaa.app Go.Proofs.Ytbhhmbbldbgdnaa.writer Go.Proofs.Ytbhhmbbldbgdnaa.clone Go.Proofs.Ytbhhmbbldbgdnaa.known Go.Proofs.Ytbhhmbbldbgdnaa.seal Go.Proofs.Ytbhhmbbldbgdnaa.unseal Go.Proofs.Ytbhhmbbldbgdnaa.turnedPlain
set_option linter.unusedVariables false

/-- what is sealed is just what the project unseals -/
theorem seal_iff (bs : List UInt8) (h : 6 ≤ bs.length) : sealed (bs.take (bs.length - 6)) = bs ↔ pl.sum (bs.take (bs.length - 6)) = said (bs.drop (bs.length - 6)) := by
  have hl : (bs.take (bs.length - 6)).length = bs.length - 6 := by rw [List.length_take]; omega
  constructor
  · intro e
    have := (sealed_ok (bs.take (bs.length - 6))).2.2
    rw [e, hl] at this
    exact this.symm
  · intro e
    have h2 := said_tail _ (pl.sum_lt (bs.take (bs.length - 6)))
    rw [e] at h2
    have h3 := said_inj (tail_len _) (by rw [List.length_drop]; omega) h2
    unfold sealed
    rw [e, h3, List.take_append_drop]

theorem str_ne {xs ys : List UInt8} (h : xs ≠ ys) : (⟨xs.toArray⟩ : ByteArray) ≠ ⟨ys.toArray⟩ := by
  intro e
  injection e with e
  exact h (by simpa using e)

set_option maxRecDepth 100000 in
set_option maxHeartbeats 2000000 in
theorem unseal_short (w : World) (v : Value) (bs : List UInt8) (h : Bs w v bs) (hl : bs.length < 6) :
    Calls Try.prog 43 #[v] w fun e w' => e = .returned (.tuple #[.slice none 0 0, .int .i64 10]) ∧ w = w' := by
  obtain ⟨a, cap, rfl, hlc, hm, hc⟩ := h
  unfold maxLen at hm
  have hlt : (bs.length : Int) - 6 < 0 := by omega
  generalize bs.length = len at *
  clear hc
  go_enter Try.func43, Try.ntmps43
  go_wp2
  go_ret2
  exact ⟨rfl, rfl⟩

set_option maxRecDepth 100000 in
set_option maxHeartbeats 4000000 in
theorem unseal_long (w : World) (b o k cap : Nat) (bs : List UInt8) (h : Bs w (.slice (some ⟨b, o, none⟩) (k + 6) cap) bs) (hm : k + 6 ≤ 140737488355328) :
    Calls Try.prog 43 #[.slice (some ⟨b, o, none⟩) (k + 6) cap] w fun e w' => if sealed (bs.take k) = bs then Unsealed w (bs.take k) e w' else Broken w 13 e w' := by
  have hl : bs.length = k + 6 := by obtain ⟨_, _, e, _⟩ := h; simp only [Value.slice.injEq] at e; exact e.2.1.symm
  have hcap : k + 6 ≤ cap := by obtain ⟨_, _, e, h1, _⟩ := h; simp only [Value.slice.injEq] at e; rw [hl] at h1; rw [e.2.2]; exact h1
  have hx := bs_take h k (by omega)
  have HX := Hid_mk hx
  have H := Hid_mk h
  have hxl : (bs.take k).length = k := by rw [List.length_take]; omega
  have HXL := Hid_mk hxl
  have hcall : ∀ W, Kp No w W → Calls Try.prog 41 #[.slice (some ⟨b, o, none⟩) k cap] W fun e W1 => ∃ v', e = .returned v' ∧ Bs W1 v' (sealed (bs.take k)) ∧ Bs W1 (.slice (some ⟨b, o, none⟩) (k + 6) cap) bs ∧ Kp No w W1 := by
    intro W hW
    refine (ref.seal_any W _ (bs.take k) (bs_no HX.out hW) (by rw [HXL.out]; omega)).mono ?_
    rintro e W1 ⟨v', rfl, ho, hk⟩
    exact ⟨v', rfl, owns_bs ho, bs_no H.out (hW.trans' hk), hW.trans' hk⟩
  have HCall := Hid_mk hcall
  have hconv := conv_bs (bs_no H.out (Kp.refl No w).drew)
  have hneg : ¬ ((k : Int) < 0) := by omega
  clear hcall hx hxl h hl
  by_cases hs : sealed (bs.take k) = bs
  · simp only [hs, if_true]
    rw [hs] at HCall
    have HS := Hid_mk hs
    clear hs
    go_enter Try.func43, Try.ntmps43
    go_wp2
    go_region_with (go_at_call 41; refine (HCall.out _ (by exact ⟨rfl, rfl, rfl, Nat.le_refl _, fun _ _ _ => rfl⟩)).mono ?_; rintro e w6 ⟨v6, rfl, hb6, hb46, hk6⟩; have hcv6 := conv_bs hb6; have hcv46 := conv_bs hb46; have HK6 := Hid_mk hk6; clear hb6 hb46 hk6)
    all_goals
      clear hconv hcv6 hcv46
      go_wp2_with (at_builtin; (refine wpList_append_bs _ rfl _ _ rfl _ _ [] rfl (World.ownsRow_made _ #[] 0 (Nat.le_refl _) (by decide) rfl) _ (bs.take k) rfl (bs_no HX.out ((HK6.out.trans' (by exact ⟨rfl, rfl, rfl, Nat.le_refl _, fun _ _ _ => rfl⟩)).alloc _)) ?c1 ?c2 ?_))
      case c1 => have := HXL.out; simp; omega
      case c2 => simp
      intro v' w7 happ
      have hfin : Unsealed w (bs.take k) (.returned (.tuple #[v', .int .i64 0])) w7 := by
        have hs6 := HK6.out.size
        refine ⟨((HK6.out.trans' (by exact ⟨rfl, rfl, rfl, Nat.le_refl _, fun _ _ _ => rfl⟩)).alloc _).grown happ.2.1 fun i hi e => ?_, v', rfl, ?_⟩
        · simp [Value.ownBlock] at e; omega
        · exact owns_base (by simpa using happ.1) (by simpa using hs6)
      have HF := Hid_mk hfin
      clear happ hfin
      go_wp2
      go_ret2
      exact HF.out
  · simp only [hs, if_false]
    have hne : (sealed (bs.take k) == bs) = false := by simpa using hs
    clear hs
    go_enter Try.func43, Try.ntmps43
    go_wp2
    go_region_with (go_at_call 41; refine (HCall.out _ (by exact ⟨rfl, rfl, rfl, Nat.le_refl _, fun _ _ _ => rfl⟩)).mono ?_; rintro e w6 ⟨v6, rfl, hb6, hb46, hk6⟩; have hcv6 := conv_bs hb6; have hcv46 := conv_bs hb46; have HK6 := Hid_mk hk6; clear hb6 hb46 hk6)
    all_goals
      go_wp2
      go_ret2
      exact ⟨HK6.out.trans' ⟨rfl, rfl, rfl, Nat.le_refl _, fun _ _ _ => rfl⟩, rfl⟩

end Go.Proofs.Ytbhhmbbldbgdnaa.ref
