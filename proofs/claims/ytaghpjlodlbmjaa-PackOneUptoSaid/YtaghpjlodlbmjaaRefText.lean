/- The reference's Reader: Text. -/
import Derived.Test.YtaghpjlodlbmjaaRefNum
namespace Go.Proofs.Ytaghpjlodlbmjaa.ref
open Go.RowKit Go.Proofs.Ytaghpjlodlbmjaa.sum Go.Proofs.Ytaghpjlodlbmjaa.kept Go.Proofs.Ytaghpjlodlbmjaa.writer Go.Proofs.Ytaghpjlodlbmjaa.clone Go.Proofs.Ytaghpjlodlbmjaa.known Go.Proofs.Ytaghpjlodlbmjaa.unseal Go.Proofs.Ytaghpjlodlbmjaa.number Go.Proofs.Ytaghpjlodlbmjaa.words Go.Proofs.Ytaghpjlodlbmjaa.reader
set_option linter.unusedVariables false

theorem conv_empty (W : World) (a : Option Addr) (c : Nat) : (convert 28 9 (.slice a 0 c)).run Try.prog W = .ok (.string ⟨#[]⟩) W := by
  cases a with
  | none => exact run_convert_bytes_nil W 28 5 Try.underlying28 Try.underlying5 _ _ _ Try.underlying9
  | some ad => exact run_convert_bytes_back W 28 9 5 ad c [] Try.underlying28 Try.underlying5 Try.underlying9 (fun j hj => by simp at hj)

set_option maxRecDepth 100000 in
set_option maxHeartbeats 4000000 in
theorem text_core (w : World) (p : Nat) (v : Value) (bs : List UInt8) (at_ bad : Nat) (mi : Int) (most : Nat) (hm64 : most < 9223372036854775808) (hmx : (mi ≤ 0 ∧ most = 0) ∨ (¬ mi ≤ 0 ∧ mi = (most : Int))) (h : RR w p v bs at_ bad) :
    Calls Try.prog 66 #[.pointer (some ⟨p, 0, none⟩), .int .i64 mi] w (RRPost w p v bs (.string ⟨(rText bs at_ bad most).1.toArray⟩) (rText bs at_ bad most).2.1 (rText bs at_ bad most).2.2) := by
  have c1 := h.c1
  have hle := h.le
  have hshort := h.short
  have H := Hid_mk h
  have HWr := Hid_mk (wrap_u64 (most : Int) (by omega) (by omega))
  have HM := Hid_mk hmx
  clear h hmx
  by_cases hm0 : mi ≤ 0
  all_goals
    go_enter Try.func66, Try.ntmps66
    go_wp2_with fail
  all_goals
    have hnum := num_any w p v bs at_ bad most H.out
    first
      | (rw [show IntKind.u64.wrap mi = ((most : Nat) : Int) by rw [show mi = (most : Int) by have := HM.out; omega]; exact HWr.out])
      | (rw [show ((most : Nat) : Int) = 0 by have := HM.out; omega] at hnum
         try rw [show IntKind.u64.wrap 0 = 0 from wrap_u64 0 (by omega) (by omega)])
    have HNum := Hid_mk hnum
    clear hnum
    refine HNum.out.mono ?_
    clear HWr HM hm0 hm64 HNum
    rintro e w1 ⟨rfl, hR1, hK1⟩
    have HR1 := Hid_mk hR1
    have HK1 := Hid_mk hK1
    have hra := rNum_at bs at_ bad most
    clear hR1 hK1 c1
    generalize hD : rNum bs at_ bad most = D at *
    have HD := Hid_mk hD
    clear hD
    obtain ⟨n, a1, b1⟩ := D
    simp only at HR1
    have c0 := HR1.out.c0
    have c1 := HR1.out.c1
    have c2 := HR1.out.c2
    have f1 := HR1.out.warm 1
    by_cases hb1 : b1 = 0
    · subst hb1
      have hle1 : a1 ≤ bs.length := HR1.out.le
      obtain ⟨a, cap, rfl, hl, hm, hc⟩ := HR1.out.reads
      unfold maxLen at hm
      have i0 : IntKind.i64.wrap ((bs.length : Int) - (a1 : Int)) = (bs.length : Int) - (a1 : Int) := IntWalk.i64_in _ (by omega)
      have i1 : IntKind.u64.wrap ((bs.length : Int) - (a1 : Int)) = (bs.length : Int) - (a1 : Int) := wrap_u64 _ (by omega) (by omega)
      have hlen : (bs.drop a1).length = bs.length - a1 := List.length_drop
      by_cases hgt : bs.length - a1 < n
      · have hr : rText bs at_ bad most = ([], at_, 10) := by
          unfold rText
          rw [HD.out, if_neg (by simp)]
          simp only
          rw [if_pos (by rw [hlen]; exact hgt)]
        have HRes := Hid_mk hr
        have hgi : (bs.length : Int) - (a1 : Int) < (n : Int) := by omega
        clear hr hra hc hlen hgt
        go_wp2
        go_quiet (fail)
        go_wp2_with fail
        refine (fails_any _ p _ bs a1 0 10 at_ (HR1.out.drewN _) hle).mono ?_
        rintro e w3 ⟨rfl, hR3, hk3⟩
        have HFin := Hid_mk (show RRPost w p _ bs (.string ⟨#[]⟩) at_ 10 (.returned (.string ⟨#[]⟩)) w3 from ⟨rfl, hR3, (HK1.out.drewN _).trans' hk3⟩)
        clear hR3 hk3
        go_wp2
        go_ret
        rw [HRes.out]
        exact HFin.out
      · have hr : rText bs at_ bad most = ((bs.drop a1).take n, a1 + n, 0) := by
          unfold rText
          rw [HD.out, if_neg (by simp)]
          simp only
          rw [if_neg (by rw [hlen]; exact hgt)]
        have HRes := Hid_mk hr
        have hgi : ¬ (bs.length : Int) - (a1 : Int) < (n : Int) := by omega
        have ha1 : a1 + n ≤ bs.length := by omega
        have i2 : IntKind.i64.wrap (n : Int) = (n : Int) := IntWalk.i64_in _ (by omega)
        have i3 : IntKind.i64.wrap ((a1 : Int) + (n : Int)) = (a1 : Int) + (n : Int) := IntWalk.i64_in _ (by omega)
        have i4 : IntKind.i64.wrap ((a1 : Int) + (n : Int) - (n : Int)) = (a1 : Int) := by rw [show (a1 : Int) + (n : Int) - (n : Int) = (a1 : Int) by omega]; exact IntWalk.i64_in _ (by omega)
        clear hr hra hlen hgt
        go_wp2
        go_quiet (fail)
        go_wp2
        have HR3 := Hid_mk ((HR1.out.drewN nq).set_at (a1 + n) ha1)
        have HK3 := Hid_mk ((HK1.out.drewN nq).trans' (kp_set _ p 1 (.int .i64 ((a1 : Int) + (n : Int)))))
        obtain ⟨w3, hw3⟩ : ∃ w3, (w1.drewN nq).setCell ⟨p, 1, none⟩ (.int .i64 ((a1 : Int) + (n : Int))) = w3 := ⟨_, rfl⟩
        rw [hw3]
        have HR3' : Hid (RR w3 p (.slice a bs.length cap) bs (a1 + n) 0) := by rw [← hw3]; exact HR3
        have HK3' : Hid (Kp (fun k => k = p) w w3) := by rw [← hw3]; exact HK3
        clear hw3 HR3 HK3 c0 c1 c2 f1
        have c0 := HR3'.out.c0
        have c1 : w3.cell? ⟨p, 1, none⟩ = some (.int .i64 ((a1 : Int) + (n : Int))) := by have := HR3'.out.c1; rwa [Int.natCast_add] at this
        have ce := conv_empty
        have i5 : (a1 : Int) + (n : Int) - (n : Int) = (a1 : Int) := by omega
        by_cases hn0 : n = 0
        · subst hn0
          clear hc
          cases a with
          | none =>
            go_quiet (fail)
            go_wp2
            go_ret
            rw [HRes.out]
            exact ⟨rfl, HR3'.out.drewN _, HK3'.out.drewN _⟩
          | some ad =>
            by_cases hca : cap = a1
            · go_quiet (fail)
              go_wp2
              go_ret
              rw [HRes.out]
              exact ⟨rfl, HR3'.out.drewN _, HK3'.out.drewN _⟩
            · go_quiet (fail)
              go_wp2
              go_ret
              rw [HRes.out]
              exact ⟨rfl, HR3'.out.drewN _, HK3'.out.drewN _⟩
        · obtain ⟨b, o, rfl, hcell⟩ := hc (by intro e; subst e; simp at ha1; omega)
          have hbp : b ≠ p := HR3'.out.apart (by intro e; subst e; simp at ha1; omega) _ _ _ _ rfl
          have hd := bs_drop HR3'.out.reads a1 hle1 (some ⟨b, o + a1, none⟩) (fun _ => rfl)
          have ht := bs_take hd n (by omega)
          have hconv := fun nn => conv_bs (bs_drewN nn ht)
          have hca : ¬ cap = a1 := by omega
          clear hd ht hc hcell ce
          go_quiet (fail)
          go_wp2
          go_ret
          rw [HRes.out]
          exact ⟨rfl, HR3'.out.drewN _, HK3'.out.drewN _⟩
    · have ha : a1 = at_ := hra hb1
      subst ha
      have hr : rText bs a1 bad most = ([], a1, b1) := by
        unfold rText
        rw [HD.out, if_pos hb1]
      have HRes := Hid_mk hr
      have hwz : ((b1 : Int) == 0) = false := by simp; omega
      have hwz2 : ((b1 : Int) != 0) = true := by simp; omega
      clear hr hra hb1
      go_wp2
      go_ret
      rw [HRes.out]
      exact ⟨rfl, HR1.out, HK1.out⟩

theorem text_any (w : World) (p : Nat) (v : Value) (bs : List UInt8) (at_ bad : Nat) (mi : Int) (hm64 : mi < 9223372036854775808) (h : RR w p v bs at_ bad) :
    Calls Try.prog 66 #[.pointer (some ⟨p, 0, none⟩), .int .i64 mi] w (RRPost w p v bs (.string ⟨(rText bs at_ bad mi.toNat).1.toArray⟩) (rText bs at_ bad mi.toNat).2.1 (rText bs at_ bad mi.toNat).2.2) :=
  text_core w p v bs at_ bad mi mi.toNat (by omega) (by omega) h

end Go.Proofs.Ytaghpjlodlbmjaa.ref
