/- What every statement of chapter 3 asks first: its example. -/
import Derived.Test.YtbhhmbbldbgdnaaList
import Derived.Test.YtbhhmbbldbgdnaaSame
import Derived.Lib.SlBytesConst
namespace Go.Proofs.Ytbhhmbbldbgdnaa.frm
open Go.RowKit Go.Proofs.Ytbhhmbbldbgdnaa.sum Go.Proofs.Ytbhhmbbldbgdnaa.kept Go.Proofs.Ytbhhmbbldbgdnaa.app Go.Proofs.Ytbhhmbbldbgdnaa.writer Go.Proofs.Ytbhhmbbldbgdnaa.clone Go.Proofs.Ytbhhmbbldbgdnaa.known Go.Proofs.Ytbhhmbbldbgdnaa.fl Go.Proofs.Ytbhhmbbldbgdnaa.seal Go.Proofs.Ytbhhmbbldbgdnaa.unseal Go.Proofs.Ytbhhmbbldbgdnaa.lst
set_option linter.unusedVariables false

theorem framed_nil : framed [] = [0, 0, 0, 0, 1, 0, 0, 0, 0, 0] := by decide
theorem list_known : listP ([] ++ framed [97] ++ framed [98, 99] ++ [7]) = ([[97], [98, 99]], 23) := by
  have e : [] ++ framed [97] ++ framed [98, 99] ++ [7] = allF [[97], [98, 99]] ++ [7] := by simp [allF]
  rw [e, listP_all _ (by intro b hb; simp at hb; rcases hb with rfl | rfl <;> simp), listP_none (firstP_short (by simp))]
  have l1 : (framed [97]).length = 11 := framed_len (by simp)
  have l2 : (framed [98, 99]).length = 12 := framed_len (by simp)
  simp [allF, l1, l2]

theorem two {qs : Els} {b c : List UInt8} (h : qs.texts = [b, c]) : ∃ x y, qs = [(x, b), (y, c)] := by
  match qs, h with
  | [(x, b'), (y, c')], h =>
    simp [Els.texts] at h
    obtain ⟨rfl, rfl⟩ := h
    exact ⟨x, y, rfl⟩

set_option maxRecDepth 100000 in
set_option maxHeartbeats 4000000 in
theorem known_any (w : World) : Calls Try.prog 23 #[] w fun e w' => e = .returned (.bool true) ∧ Kp No w w' := by
  have kc := fun (w : World) (C : Array Value) (n c : Nat) => Lib.run_convert_bytes_const (P := Try.prog) w 30 5 C n c Try.underlying30 Try.underlying5
  go_enter Try.func23, Try.ntmps23
  go_wp2_with fail
  have k1 : Kp No w (w.alloc (.cells #[.int .u8 97] 5 (1, 2))) := (Kp.refl _ _).alloc _
  with_reducible refine (frame_any _ (.slice (some ⟨w.heap.size, 0, none⟩) 1 1) [97] (bs_lit w [97] (1, 2) (by decide))).mono ?_
  rintro e w2 ⟨v2, rfl, ho2, hk2⟩
  have K2 := Hid_mk (k1.trans' hk2)
  have O2 := Hid_mk (owns_base ho2 (show w.heap.size ≤ _ by simp))
  clear k1 ho2 hk2
  go_wp2_with fail
  have k2 : Kp No w2 (w2.alloc (.cells #[.int .u8 98, .int .u8 99] 5 (2, 3))) := (Kp.refl _ _).alloc _
  with_reducible refine (frame_any _ (.slice (some ⟨w2.heap.size, 0, none⟩) 2 2) [98, 99] (bs_lit w2 [98, 99] (2, 3) (by decide))).mono ?_
  rintro e w3 ⟨v3, rfl, ho3, hk3⟩
  have hk23 := k2.trans' hk3
  have K3 := Hid_mk (K2.out.trans' hk23)
  have B3 := Hid_mk (owns_bs ho3)
  have O23 := Hid_mk (owns_kept O2.out hk23 fun _ _ => id)
  have hz3 := K3.out.size
  have l1 : (framed [97]).length = 11 := framed_len (by simp)
  have l2 : (framed [98, 99]).length = 12 := framed_len (by simp)
  have L1 := Hid_mk l1
  have L2 := Hid_mk l2
  clear k2 ho3 hk3 hk23 l1 l2
  go_wp2_with (at_builtin; (refine wpList_append_bs _ rfl _ _ rfl w.heap.size _ (framed [97]) rfl O23.out _ (framed [98, 99]) rfl B3.out ?c1 hz3 ?_))
  case c1 => rw [L1.out, L2.out]; omega
  intro v4 w4 happ
  have K4 := Hid_mk (K3.out.grown happ.2.1 fun k hk e => by have := (O23.out.lt k e).1; omega)
  have O4 := Hid_mk happ.1
  have hz4 := K4.out.size
  clear happ
  go_wp2_with (at_builtin; (refine wpList_append_bs _ rfl _ _ rfl w.heap.size _ (framed [97] ++ framed [98, 99]) rfl (O4.out.alloc _) _ [7] rfl (bs_one w4 7) ?d1 ?d2 ?_))
  case d1 => rw [List.length_append, L1.out, L2.out]; simp
  case d2 => simp; omega
  intro v5 w5 happ
  have K5 := Hid_mk ((K4.out.alloc _).grown happ.2.1 fun k hk e => by have := (O4.out.lt k e).1; omega)
  have B5 := Hid_mk (owns_bs happ.1)
  clear happ
  have HLi := Hid_mk (list_any w5 v5 _ B5.out (by rw [List.length_append, List.length_append, L1.out, L2.out]; simp))
  rw [show framed [97] ++ framed [98, 99] ++ [7] = [] ++ framed [97] ++ framed [98, 99] ++ [7] by simp, list_known] at HLi
  obtain ⟨a5, l5, c5, rfl⟩ : ∃ a l c, v5 = .slice a l c := by obtain ⟨a, c, e, -⟩ := B5.out; exact ⟨_, _, _, e⟩
  go_wp2_with fail
  with_reducible refine HLi.out.mono ?_
  rintro e w6 ⟨v6, qs, rfl, hlo6, htx6, hk6⟩
  obtain ⟨x, y, rfl⟩ := two htx6
  have K6 := Hid_mk (K5.out.trans' hk6)
  obtain ⟨⟨a6, c6, rfl, h1, h2, h3⟩, h4⟩ := hlo6.ls
  obtain ⟨b6, o6, rfl, hcell⟩ := h3 (by simp)
  have hc0 := hcell 0 (by simp)
  have hc1 := hcell 1 (by simp)
  simp only [List.getElem_cons_zero, List.getElem_cons_succ] at hc0 hc1
  rw [Nat.add_zero] at hc0
  obtain ⟨ax, cx, hxe, -⟩ := h4 (x, [97]) (by simp)
  obtain ⟨ay, cy, hye, -⟩ := h4 (y, [98, 99]) (by simp)
  simp only at hxe hye
  subst hxe hye
  have hv0 : (convert 30 9 (.slice ax 1 cx)).run Try.prog w6 = .ok (.string ⟨#[97]⟩) w6 := conv_bs (h4 (_, [97]) (by simp))
  have hv1 : (convert 30 9 (.slice ay 2 cy)).run Try.prog w6 = .ok (.string ⟨#[98, 99]⟩) w6 := conv_bs (h4 (_, [98, 99]) (by simp))
  have HLo6 := Hid_mk hlo6
  clear hk6 h3 h4 hcell htx6
  have HN := Hid_mk (frame_any w6 (.slice none 0 0) [] ⟨none, 0, rfl, Nat.le_refl _, Nat.zero_le _, fun h => absurd rfl h⟩)
  rw [framed_nil] at HN
  go_wp2_with fail
  with_reducible refine HN.out.mono ?_
  rintro e w7 ⟨v7, rfl, ho7, hk7⟩
  have hv7 := conv_bs (owns_bs ho7)
  have K7 := Hid_mk (K6.out.trans' hk7)
  clear ho7 hk7
  go_wp2
  go_ret
  exact ⟨rfl, K7.out⟩

end Go.Proofs.Ytbhhmbbldbgdnaa.frm
