/- The reference's Splitter: Next. The reference's Splitter: Next with a separator. The reference's Splitter: Next and Last, of any separator. A remainder; a byte that is turned. The law's bytes: any bytes as bytes of few kinds. The laws' table of separators, in plain words. tailracehand.Pick; a byte of a slice turned. Rows of texts; the law's strs. Texts of bytes: an index, a piece, a sum, as the walk asks for them. -/
import Derived.Test.YtpfpnlhihnfahaaDoorParasM
import Derived.Test.YtpfpnlhihnfahaaDoorFsPlainM
import Derived.Deep.RegionWith
import Derived.StillTailTactics
import Derived.RegionCalls
import Derived.Test.YtpfpnlhihnfahaaDoorBaseM
import Derived.Laws.DeepStrings4

namespace Go.Proofs.YtpfpnlhihnfahaaDoor.spl
open Go.RowKit Go.Maps Go.Proofs.YtpfpnlhihnfahaaDoor.sum Go.Proofs.YtpfpnlhihnfahaaDoor.kept Go.Proofs.YtpfpnlhihnfahaaDoor.app Go.Proofs.YtpfpnlhihnfahaaDoor.writer Go.Proofs.YtpfpnlhihnfahaaDoor.clone Go.Proofs.YtpfpnlhihnfahaaDoor.known Go.Proofs.YtpfpnlhihnfahaaDoor.unseal Go.Proofs.YtpfpnlhihnfahaaDoor.snp
set_option linter.unusedVariables false

/-- how many bytes have not been looked at -/
def restLen (w : World) (r : Nat) : Nat := match w.cell? ⟨r, 4, none⟩ with
  | some (.slice _ n _) => n
  | _ => 0
def RnRel (T : Nat → Prop) (w : World) (r m : Nat) (rs : List UInt8) (A : Option (List UInt8) × SpS) (wr : World) : Prop := ∃ t, Rs T wr r m t ∧ OkS m t ∧ goS m rs t.rest t = A ∧ Kp (fun k => k = r) w wr

theorem restLen_rs {T : Nat → Prop} {w : World} {r m : Nat} {s : SpS} (h : Rs T w r m s) : restLen w r = s.rest.length := by
  obtain ⟨vh, vr, h⟩ := h
  obtain ⟨a, c, e, -⟩ := h.rest
  unfold restLen
  rw [h.c4, e]
/-- a round goes on -/
theorem rn_on {T : Nat → Prop} {w wr w' : World} {r m : Nat} {rs : List UInt8} {A : Option (List UInt8) × SpS} {t u : SpS} {b : UInt8} {q : List UInt8} (hT : Rs T wr r m t) (hok : OkS m t) (hq : t.rest = b :: q) (hg : goS m rs t.rest t = A) (hk : Kp (fun k => k = r) w w') (hl : lookS m rs { t with rest := q } b = (false, u)) (hu : Rs T w' r m u) :
    RnRel T w r m rs A w' ∧ restLen w' r < restLen wr r := by
  have e1 : u.rest = q := by
    have := lookS_rest m rs { t with rest := q } b
    rw [hl] at this
    exact this
  refine ⟨⟨u, hu, ?_, ?_, hk⟩, ?_⟩
  · have := lookS_ok (m := m) (s := { t with rest := q }) hok rs b
    rw [hl] at this
    exact this
  · rw [hq] at hg
    rw [e1, ← hg]
    show _ = if (lookS m rs { t with rest := q } b).1 = true then _ else _
    rw [hl]
    rfl
  · rw [restLen_rs hu, restLen_rs hT, e1, hq]
    simp

theorem go_nil {m : Nat} {rs : List UInt8} {t : SpS} {A : Option (List UInt8) × SpS} (h : goS m rs t.rest t = A) (hr : t.rest = []) : A = (none, t) := by
  rw [← h, hr]
  show (none, { t with rest := [] }) = _
  rw [← hr]
theorem go_more {m : Nat} {rs : List UInt8} {t : SpS} {A : Option (List UInt8) × SpS} {b : UInt8} {q : List UInt8} (h : goS m rs t.rest t = A) (hr : t.rest = b :: q) :
    A = if (lookS m rs { t with rest := q } b).1 = true then (some (lookS m rs { t with rest := q } b).2.held, endS (lookS m rs { t with rest := q } b).2) else goS m rs q (lookS m rs { t with rest := q } b).2 := by
  rw [← h, hr]
  rfl

set_option maxRecDepth 100000 in
set_option maxHeartbeats 8000000 in
theorem rnext_paras (T : Nat → Prop) (w : World) (r m : Nat) (s : SpS) (h : Rs T w r m s) (hm : m ≤ 1000000) (hok : OkS m s) : Calls Tryd.prog 13 #[.pointer (some ⟨r, 0, none⟩), .string ⟨#[]⟩] w (RsPost T w r m (nextS m [] s).2 (.tuple #[.string (tx ((nextS m [] s).1.getD [])), .bool (nextS m [] s).1.isSome])) := by
  obtain ⟨A, hA⟩ : ∃ A, nextS m [] s = A := ⟨_, rfl⟩
  rw [hA]
  have hA2 : goS m [] s.rest s = A := by rw [← hA]; rfl
  have H := Hid_mk h
  have HOk := Hid_mk hok
  have HA := Hid_mk hA2
  clear h hok hA hA2
  go_enter Tryd.func13, Tryd.ntmps13
  go_wp2
  go_loopw [6] (fun _ wr => RnRel T w r m [] A wr) (fun _ wr => restLen wr r)
  case atStart => exact ⟨s, H.out, HOk.out, HA.out, Kp.refl _ _⟩
  case round =>
    obtain ⟨t, ⟨vh, vr, ht⟩, hot, hgo, hk⟩ := hrel
    have HT := Hid_mk ht
    have HOt := Hid_mk hot
    have HGo := Hid_mk hgo
    have HK := Hid_mk hk
    have c1 := ht.c1
    have c3 := ht.c3
    have c4 := ht.c4
    have f4 := ht.warm 4
    obtain ⟨ah, ch, rfl, g1, g2, -⟩ := id ht.held
    obtain ⟨ar, cr, rfl, g3, g4, g5⟩ := id ht.rest
    unfold maxLen at g2 g4
    clear ht hot hgo hk
    cases hq : t.rest with
    | nil =>
      have e := go_nil HGo.out hq
      subst e
      rw [hq] at c4
      simp only [List.length_nil] at c4
      clear g5
      go_wp2
      go_ret2
      exact ⟨rfl, Hid_mk ⟨_, _, HT.out⟩, HK.out⟩
    | cons b q =>
      obtain ⟨br, or, rfl, hc⟩ := g5 (by rw [hq]; simp)
      have hc0 := hc 0 (by rw [hq]; simp)
      have hbr := HT.out.ar' (by rw [hq]; simp) br or _ _ rfl
      have HBr := Hid_mk (HT.out.ar (by rw [hq]; simp) br or _ _ rfl)
      rw [hq] at c4 hc0 g3
      simp only [List.length_cons, List.getD_cons_zero, Nat.add_zero, B] at c4 hc0 g3
      have hA := go_more HGo.out hq
      have hdr := fun ao hao => bs_drop (HT.out.rest) 1 (by rw [hq]; simp) ao hao
      rw [hq] at hdr
      simp only [List.length_cons, Nat.add_sub_cancel, List.drop_succ_cons, List.drop_zero] at hdr
      have hq0 : (0 : Int) ≤ (q.length : Int) := Int.natCast_nonneg _
      have hcr : (q.length : Int) + 1 ≤ (cr : Int) := by omega
      clear g5 hc
      obtain ⟨vn, hvn⟩ : ∃ vn : Value, vn = if cr = 1 then .slice (some ⟨br, or, none⟩) q.length 0 else .slice (some ⟨br, or + 1, none⟩) q.length (cr - 1) := ⟨_, rfl⟩
      have hV : Bs wr vn q := by
        rw [hvn]
        split
        · next e => subst e; exact hdr _ (fun h => absurd rfl h)
        · exact hdr _ (fun _ => rfl)
      have h5 : RsAt T (wr.setCell ⟨r, 4, none⟩ vn) r m { t with rest := q } (.slice ah t.held.length ch) vn := HT.out.set4 hV (fun _ x o n c e => by
        rw [hvn] at e
        split at e <;> (cases e; exact HBr.out))
      have H5 := Hid_mk h5
      have k5 : Kp (fun k => k = r) w (wr.setCell ⟨r, 4, none⟩ vn) := kp_set (S := fun k => k = r) HK.out rfl 4 vn
      have HK5 := Hid_mk k5
      have HQ := Hid_mk hq
      have HA := Hid_mk hA
      have HTr : Hid (Rs T wr r m t) := Hid_mk ⟨_, _, HT.out⟩
      have f3 := HT.out.warm 3
      clear hdr hA h5 k5 hV hq
      by_cases hb : b = 10
      · subst hb
        cases hw : t.waits with
        | true =>
          rw [hw] at c3
          have e : A = (some t.held, endS { t with rest := q }) := by
            have e1 : lookS m [] { t with rest := q } 10 = (true, { t with rest := q }) := by
              unfold lookS
              simp only [if_true]
              rw [if_pos hw]
            rw [HA.out, e1]
            rfl
          subst e
          have HE := Hid_mk (rends_any T _ r m _ ⟨_, _, H5.out⟩)
          by_cases hck : cr = 1
          all_goals first
            | (rw [if_pos hck] at hvn; obtain rfl : q = [] := List.eq_nil_of_length_eq_zero (by omega); simp only [List.length_nil, Nat.zero_add] at hvn c4)
            | (rw [if_neg hck] at hvn)
          all_goals
            subst hvn
            try subst hck
            go_wp2_with fail
            with_reducible refine HE.out.mono ?_
            intro e w6 hpost
            obtain ⟨he, h6, k6⟩ : e = .returned (.string (tx t.held)) ∧ Hid (Rs T w6 r m _) ∧ Kp (fun k => k = r) _ w6 := hpost
            subst he
            have HK6 := Hid_mk k6
            clear k6 HE HA
            go_wp2
            go_ret2
            exact ⟨rfl, h6, HK5.out.trans' HK6.out⟩
        | false =>
          rw [hw] at c3
          have hl : lookS m [] { t with rest := q } 10 = (false, { t with rest := q, waits := !t.held.isEmpty }) := by
            unfold lookS
            simp only [if_true]
            rw [if_neg (by rw [hw]; simp)]
          by_cases hh : t.held = []
          · have hhi : ¬ (0 : Int) < (t.held.length : Int) := by rw [hh]; simp
            have hu : { t with rest := q, waits := !t.held.isEmpty } = { t with rest := q } := by rw [hh]; simp [hw]
            rw [hu] at hl
            have HLk := Hid_mk hl
            have HU : Hid (Rs T _ r m { t with rest := q }) := Hid_mk ⟨_, _, H5.out⟩
            have HKf := HK5
            clear hl hu HA
            by_cases hck : cr = 1
            all_goals first
              | (rw [if_pos hck] at hvn; obtain rfl : q = [] := List.eq_nil_of_length_eq_zero (by omega); simp only [List.length_nil, Nat.zero_add] at hvn c4)
              | (rw [if_neg hck] at hvn)
            all_goals
              subst hvn
              try subst hck
              go_wp2
              go_roundw
              case rel => exact (rn_on HTr.out HOt.out HQ.out HGo.out HKf.out HLk.out HU.out).1
              case measure => exact (rn_on HTr.out HOt.out HQ.out HGo.out HKf.out HLk.out HU.out).2
          · have hhi : (0 : Int) < (t.held.length : Int) := by
              have := List.length_pos_iff.2 hh
              omega
            have hu : (!t.held.isEmpty) = true := by cases he : t.held with | nil => exact absurd he hh | cons _ _ => rfl
            rw [hu] at hl
            have HLk := Hid_mk hl
            have HU : Hid (Rs T _ r m { t with rest := q, waits := true }) := Hid_mk ⟨_, _, H5.out.set3 true⟩
            have HKf := Hid_mk (kp_set (S := fun k => k = r) HK5.out rfl 3 (.bool true))
            clear hl hu HA
            by_cases hck : cr = 1
            all_goals first
              | (rw [if_pos hck] at hvn; obtain rfl : q = [] := List.eq_nil_of_length_eq_zero (by omega); simp only [List.length_nil, Nat.zero_add] at hvn c4)
              | (rw [if_neg hck] at hvn)
            all_goals
              subst hvn
              try subst hck
              go_wp2
              go_roundw
              case rel => exact (rn_on HTr.out HOt.out HQ.out HGo.out HKf.out HLk.out HU.out).1
              case measure => exact (rn_on HTr.out HOt.out HQ.out HGo.out HKf.out HLk.out HU.out).2
      · have hbn : ¬ b.toNat = 10 := fun e => hb (UInt8.toNat_inj.1 e)
        have hbi : ¬ (b.toNat : Int) = 10 := by omega
        cases hw : t.waits with
        | true =>
          rw [hw] at c3
          have hl : lookS m [] { t with rest := q } b = (false, putS m { putS m { t with rest := q } 10 with waits := false } b) := by
            unfold lookS
            simp only
            rw [if_neg hb]
            unfold wakeS
            rw [if_pos hw]
          have HLk := Hid_mk hl
          have hp1 := rput_any T _ r m _ 10 ⟨_, _, H5.out⟩ hm
          simp only [show ((10 : UInt8).toNat : Int) = 10 from rfl] at hp1
          have HP1 := Hid_mk hp1
          clear hl HA hp1
          by_cases hck : cr = 1
          all_goals first
            | (rw [if_pos hck] at hvn; obtain rfl : q = [] := List.eq_nil_of_length_eq_zero (by omega); simp only [List.length_nil, Nat.zero_add] at hvn c4)
            | (rw [if_neg hck] at hvn)
          all_goals
            subst hvn
            try subst hck
            go_wp2_with fail
            with_reducible refine HP1.out.mono ?_
            intro e w6 hpost
            obtain ⟨he, h6, k6⟩ : e = .returned (.tuple #[]) ∧ Hid (Rs T w6 r m _) ∧ Kp (fun k => k = r) _ w6 := hpost
            subst he
            obtain ⟨vh6, vr6, hh6⟩ := h6.out
            have e3 := hh6.c3
            have f63 := hh6.warm 3
            have HP2 := Hid_mk (rput_any T _ r m _ b ⟨_, _, hh6.set3 false⟩ hm)
            have HK6 := Hid_mk (kp_set (S := fun k => k = r) (HK5.out.trans' k6) rfl 3 (.bool false))
            clear h6 k6 hh6 HP1 c1 c3 c4 f4 f3
            go_wp2_with fail
            with_reducible refine HP2.out.mono ?_
            intro e w8 hpost
            obtain ⟨he, h8, k8⟩ : e = .returned (.tuple #[]) ∧ Hid (Rs T w8 r m _) ∧ Kp (fun k => k = r) _ w8 := hpost
            subst he
            have HU := h8
            have HKf := Hid_mk (HK6.out.trans' k8)
            clear h8 k8 HP2
            go_wp2
            go_roundw
            case rel => exact (rn_on HTr.out HOt.out HQ.out HGo.out HKf.out HLk.out HU.out).1
            case measure => exact (rn_on HTr.out HOt.out HQ.out HGo.out HKf.out HLk.out HU.out).2
        | false =>
          rw [hw] at c3
          have hl : lookS m [] { t with rest := q } b = (false, putS m { t with rest := q, waits := false } b) := by
            unfold lookS
            simp only
            rw [if_neg hb]
            unfold wakeS
            rw [if_neg (by rw [hw]; simp)]
            have : ({ t with rest := q } : SpS) = { t with rest := q, waits := false } := by rw [← hw]
            rw [this]
          have HLk := Hid_mk hl
          have HP2 := Hid_mk (rput_any T _ r m _ b ⟨_, _, H5.out.set3 false⟩ hm)
          have HK6 := Hid_mk (kp_set (S := fun k => k = r) HK5.out rfl 3 (.bool false))
          clear hl HA
          by_cases hck : cr = 1
          all_goals first
            | (rw [if_pos hck] at hvn; obtain rfl : q = [] := List.eq_nil_of_length_eq_zero (by omega); simp only [List.length_nil, Nat.zero_add] at hvn c4)
            | (rw [if_neg hck] at hvn)
          all_goals
            subst hvn
            try subst hck
            go_wp2_with fail
            with_reducible refine HP2.out.mono ?_
            intro e w8 hpost
            obtain ⟨he, h8, k8⟩ : e = .returned (.tuple #[]) ∧ Hid (Rs T w8 r m _) ∧ Kp (fun k => k = r) _ w8 := hpost
            subst he
            have HU := h8
            have HKf := Hid_mk (HK6.out.trans' k8)
            clear h8 k8 HP2
            go_wp2
            go_roundw
            case rel => exact (rn_on HTr.out HOt.out HQ.out HGo.out HKf.out HLk.out HU.out).1
            case measure => exact (rn_on HTr.out HOt.out HQ.out HGo.out HKf.out HLk.out HU.out).2

end Go.Proofs.YtpfpnlhihnfahaaDoor.spl

namespace Go.Proofs.YtpfpnlhihnfahaaDoor.spl
open Go.RowKit Go.Maps Go.Proofs.YtpfpnlhihnfahaaDoor.sum Go.Proofs.YtpfpnlhihnfahaaDoor.kept Go.Proofs.YtpfpnlhihnfahaaDoor.app Go.Proofs.YtpfpnlhihnfahaaDoor.writer Go.Proofs.YtpfpnlhihnfahaaDoor.clone Go.Proofs.YtpfpnlhihnfahaaDoor.known Go.Proofs.YtpfpnlhihnfahaaDoor.unseal Go.Proofs.YtpfpnlhihnfahaaDoor.snp
set_option linter.unusedVariables false

theorem tx_list (l : List UInt8) : (tx l).toList = l := by rw [ByteArray.toList_eq]; rfl
theorem tx_cons_ne (c : UInt8) (cs : List UInt8) : ¬ (tx (c :: cs)).toList = [] := by rw [tx_list]; simp
theorem tx_cons_em (c : UInt8) (cs : List UInt8) : (tx (c :: cs)).toList.isEmpty = false := by rw [tx_list]; rfl
theorem tx_cons_size (c : UInt8) (cs : List UInt8) : (tx (c :: cs)).size = cs.length + 1 := by simp [tx, ByteArray.size]

theorem tx_zero (c : UInt8) (cs : List UInt8) (h : 0 < (tx (c :: cs)).size) : (tx (c :: cs))[0] = c := rfl

set_option maxRecDepth 100000 in
set_option maxHeartbeats 16000000 in
theorem rnext_sep (T : Nat → Prop) (w : World) (r m : Nat) (s : SpS) (c : UInt8) (cs : List UInt8) (h : Rs T w r m s) (hm : m ≤ 1000000) (hok : OkS m s) (hlen : s.rest.length ≤ 140737488355327) : Calls Tryd.prog 13 #[.pointer (some ⟨r, 0, none⟩), .string (tx (c :: cs))] w (RsPost T w r m (nextS m (c :: cs) s).2 (.tuple #[.string (tx ((nextS m (c :: cs) s).1.getD [])), .bool (nextS m (c :: cs) s).1.isSome])) := by
  obtain ⟨A, hA⟩ : ∃ A, nextS m (c :: cs) s = A := ⟨_, rfl⟩
  rw [hA]
  have hA2 : goS m (c :: cs) (readyS (c :: cs) s).rest (readyS (c :: cs) s) = A := by rw [← hA]; rfl
  have hok1 := readyS_ok hok (c :: cs)
  have hx1 := tx_cons_ne c cs
  have hx2 := tx_cons_size c cs
  have hx3 := tx_cons_em c cs
  have HX := Hid_mk (tx_zero c cs)
  obtain ⟨vh0, vr0, hh⟩ := h
  have c3 := hh.c3
  have c40 := hh.c4
  have f30 := hh.warm 3
  have f40 := hh.warm 4
  have HH := Hid_mk hh
  have HR0 := Hid_mk hh.rest
  have hlt0 := hh.lt
  obtain ⟨ar0, cr0, rfl, -, -, -⟩ := id hh.rest
  clear hh hA hok
  cases hw : s.waits
  all_goals
    rw [hw] at c3
  all_goals
    go_enter Tryd.func13, Tryd.ntmps13
  all_goals first
    | (have e1 : readyS (c :: cs) s = s := readyS_dry (fun _ => hw)
       rw [e1] at hA2 hok1
       have HS1 : Hid (Rs T w r m s) := Hid_mk ⟨_, _, HH.out⟩
       have HK1 : Hid (Kp (fun k => k = r) w w) := Hid_mk (Kp.refl _ _)
       have HOk1 := Hid_mk hok1
       have HA1 := Hid_mk hA2
       clear e1 hA2 hok1 c40 f30 f40
       go_wp2)
    | (have e1 : readyS (c :: cs) s = { s with waits := false, rest := 10 :: s.rest } := if_pos ⟨by simp, hw⟩
       obtain ⟨rs1, hrs1⟩ : ∃ rs1, 10 :: s.rest = rs1 := ⟨_, rfl⟩
       rw [e1, hrs1] at hA2 hok1
       have HRs1 := Hid_mk hrs1
       have HOk1 := Hid_mk hok1
       have HA1 := Hid_mk hA2
       obtain ⟨w0, hw0⟩ : ∃ w0, w.setCell ⟨r, 3, none⟩ (.bool false) = w0 := ⟨_, rfl⟩
       have h0 := HH.out.set3 false
       rw [hw0] at h0
       have HR1 := Hid_mk h0.rest
       have H0 := Hid_mk h0
       have d4 := h0.c4
       have g4 := h0.warm 4
       have hlt1 := h0.lt
       have HK0 : Hid (Kp (fun k => k = r) w w0) := Hid_mk (hw0 ▸ kp_set (S := fun k => k = r) (Kp.refl _ w) rfl 3 _)
       have da := ((Kp.refl No w0).alloc (.cells #[.int .u8 10] 5)).cell' d4 id
       have HMade : Hid ((w0.alloc (.cells #[.int .u8 10] 5)).ownsRow w0.heap.size 5 1 (.slice (some ⟨w0.heap.size, 0, none⟩) 1 1) ([10] : List UInt8).length (([10] : List UInt8).map B)) := Hid_mk ⟨rfl, .inr ⟨w0.heap.size, 1, _, rfl, Nat.le_refl _, heap_alloc_new w0 _, Nat.le_refl _, by decide, rfl, rfl⟩⟩
       have hll : ([10] : List UInt8).length + s.rest.length ≤ 140737488355328 := by simp only [List.length_singleton]; omega
       clear e1 hA2 hok1 hrs1 h0 c40 f40
       go_wp2_with (at_builtin; (refine wpList_append_bs _ rfl _ _ rfl w0.heap.size (.slice (some ⟨w0.heap.size, 0, none⟩) 1 1) [10] rfl HMade.out _ s.rest rfl (bs_no HR1.out ((Kp.refl No w0).alloc _)) hll (by simp) ?_))
       intro v1 w1 happ
       have k1 : Kp No w0 w1 := ((Kp.refl No w0).alloc _).grown happ.2.1 fun k hk e => by simp [Value.ownBlock] at e; omega
       have ho1 : w1.ownsRow w0.heap.size 5 1 v1 rs1.length (rs1.map B) := by have := happ.1; rw [← HRs1.out]; simpa using this
       have HO1 := Hid_mk ho1
       have e4 := k1.cell' d4 id
       have e5 := (k1.frozen (p := ⟨r, 4, none⟩) hlt1 id).trans g4
       obtain ⟨a1, c1, rfl, -⟩ := id (owns_bs ho1)
       have HS1 : Hid (Rs T (w1.setCell ⟨r, 4, none⟩ (.slice a1 rs1.length c1)) r m { s with waits := false, rest := rs1 }) := Hid_mk ⟨_, _, (H0.out.no k1).set4 (owns_bs ho1) fun hne x o n c e => by
         rcases owns_any HO1.out with ⟨e3, -⟩ | ⟨g, cp, e3, hg⟩
         · rw [e3] at e; cases e
         · rw [e3] at e; cases e; exact H0.out.up _ hg.1⟩
       have HK1 := Hid_mk (kp_set (S := fun k => k = r) (HK0.out.trans' k1.to) rfl 4 (.slice a1 rs1.length c1))
       clear happ k1 ho1 d4 g4 da hw0 f30
       go_wp2)
  all_goals
    go_loopw [6] (fun _ wr => RnRel T w r m (c :: cs) A wr) (fun _ wr => restLen wr r)
    case atStart => exact ⟨_, HS1.out, HOk1.out, HA1.out, HK1.out⟩
    case round =>
      clear HS1 HOk1 HA1 HK1
      obtain ⟨t, ⟨vh, vr, ht⟩, hot, hgo, hk⟩ := hrel
      have HT := Hid_mk ht
      have HOt := Hid_mk hot
      have HGo := Hid_mk hgo
      have HK := Hid_mk hk
      have c4 := ht.c4
      have f4 := ht.warm 4
      obtain ⟨ar, cr, rfl, g3, g4, g5⟩ := id ht.rest
      unfold maxLen at g4
      clear ht hot hgo hk c3
      cases hq : t.rest with
      | nil =>
        have e := go_nil HGo.out hq
        subst e
        rw [hq] at c4
        simp only [List.length_nil] at c4
        clear g5
        go_wp2
        go_ret2
        exact ⟨rfl, Hid_mk ⟨_, _, HT.out⟩, HK.out⟩
      | cons b q =>
        obtain ⟨br, or, rfl, hc⟩ := g5 (by rw [hq]; simp)
        have hc0 := hc 0 (by rw [hq]; simp)
        have hbr := HT.out.ar' (by rw [hq]; simp) br or _ _ rfl
        have HBr := Hid_mk (HT.out.ar (by rw [hq]; simp) br or _ _ rfl)
        rw [hq] at c4 hc0 g3
        simp only [List.length_cons, List.getD_cons_zero, Nat.add_zero, B] at c4 hc0 g3
        have hA := go_more HGo.out hq
        have hdr := fun ao hao => bs_drop (HT.out.rest) 1 (by rw [hq]; simp) ao hao
        rw [hq] at hdr
        simp only [List.length_cons, Nat.add_sub_cancel, List.drop_succ_cons, List.drop_zero] at hdr
        have hq0 : (0 : Int) ≤ (q.length : Int) := Int.natCast_nonneg _
        have hcr : (q.length : Int) + 1 ≤ (cr : Int) := by omega
        clear g5 hc
        obtain ⟨vn, hvn⟩ : ∃ vn : Value, vn = if cr = 1 then .slice (some ⟨br, or, none⟩) q.length 0 else .slice (some ⟨br, or + 1, none⟩) q.length (cr - 1) := ⟨_, rfl⟩
        have hV : Bs wr vn q := by
          rw [hvn]
          split
          · next e => subst e; exact hdr _ (fun h => absurd rfl h)
          · exact hdr _ (fun _ => rfl)
        have h5 : RsAt T (wr.setCell ⟨r, 4, none⟩ vn) r m { t with rest := q } vh vn := HT.out.set4 hV (fun _ x o n c e => by
          rw [hvn] at e
          split at e <;> (cases e; exact HBr.out))
        have H5 := Hid_mk h5
        have k5 : Kp (fun k => k = r) w (wr.setCell ⟨r, 4, none⟩ vn) := kp_set (S := fun k => k = r) HK.out rfl 4 vn
        have HK5 := Hid_mk k5
        have HQ := Hid_mk hq
        have HA := Hid_mk hA
        have HTr : Hid (Rs T wr r m t) := Hid_mk ⟨_, _, HT.out⟩
        clear hdr hA h5 k5 hV hq
        by_cases hb : b = c
        · have e : A = (some t.held, endS { t with rest := q }) := by
            have e1 : lookS m (c :: cs) { t with rest := q } b = (true, { t with rest := q }) := if_pos hb
            rw [HA.out, e1]
            rfl
          subst e
          have hbe : ((b.toNat : Int) == (((tx (c :: cs))[0]'(by rw [hx2]; omega)).toNat : Int)) = true := by rw [HX.out, hb]; simp
          clear hb
          have HE := Hid_mk (rends_any T _ r m _ ⟨_, _, H5.out⟩)
          by_cases hck : cr = 1
          all_goals first
            | (rw [if_pos hck] at hvn; obtain rfl : q = [] := List.eq_nil_of_length_eq_zero (by omega); simp only [List.length_nil, Nat.zero_add] at hvn c4)
            | (rw [if_neg hck] at hvn)
          all_goals
            subst hvn
            try subst hck
            go_wp2_with fail
            with_reducible refine HE.out.mono ?_
            intro e w6 hpost
            obtain ⟨he, h6, k6⟩ : e = .returned (.string (tx t.held)) ∧ Hid (Rs T w6 r m _) ∧ Kp (fun k => k = r) _ w6 := hpost
            subst he
            have HK6 := Hid_mk k6
            clear k6 HE HA
            go_wp2
            go_ret2
            exact ⟨rfl, h6, HK5.out.trans' HK6.out⟩
        · have hbe : ((b.toNat : Int) == (((tx (c :: cs))[0]'(by rw [hx2]; omega)).toNat : Int)) = false := by
            rw [HX.out]
            simp only [beq_eq_false_iff_ne, ne_eq]
            exact fun e => hb (UInt8.toNat_inj.1 (by omega))
          have hl : lookS m (c :: cs) { t with rest := q } b = (false, putS m { t with rest := q } b) := if_neg hb
          have HLk := Hid_mk hl
          have HP2 := Hid_mk (rput_any T _ r m _ b ⟨_, _, H5.out⟩ hm)
          clear hl HA
          by_cases hck : cr = 1
          all_goals first
            | (rw [if_pos hck] at hvn; obtain rfl : q = [] := List.eq_nil_of_length_eq_zero (by omega); simp only [List.length_nil, Nat.zero_add] at hvn c4)
            | (rw [if_neg hck] at hvn)
          all_goals
            subst hvn
            try subst hck
            go_wp2_with fail
            with_reducible refine HP2.out.mono ?_
            intro e w8 hpost
            obtain ⟨he, h8, k8⟩ : e = .returned (.tuple #[]) ∧ Hid (Rs T w8 r m _) ∧ Kp (fun k => k = r) _ w8 := hpost
            subst he
            have HU := h8
            have HKf := Hid_mk (HK5.out.trans' k8)
            clear h8 k8 HP2
            go_wp2
            go_roundw
            case rel => exact (rn_on HTr.out HOt.out HQ.out HGo.out HKf.out HLk.out HU.out).1
            case measure => exact (rn_on HTr.out HOt.out HQ.out HGo.out HKf.out HLk.out HU.out).2

end Go.Proofs.YtpfpnlhihnfahaaDoor.spl

namespace Go.Proofs.YtpfpnlhihnfahaaDoor.spl
open Go.RowKit Go.Maps Go.Proofs.YtpfpnlhihnfahaaDoor.sum Go.Proofs.YtpfpnlhihnfahaaDoor.kept Go.Proofs.YtpfpnlhihnfahaaDoor.app Go.Proofs.YtpfpnlhihnfahaaDoor.writer Go.Proofs.YtpfpnlhihnfahaaDoor.clone Go.Proofs.YtpfpnlhihnfahaaDoor.known Go.Proofs.YtpfpnlhihnfahaaDoor.unseal Go.Proofs.YtpfpnlhihnfahaaDoor.snp
set_option linter.unusedVariables false

theorem rnext_any (T : Nat → Prop) (w : World) (r m : Nat) (s : SpS) (rs : List UInt8) (h : Rs T w r m s) (hm : m ≤ 1000000) (hok : OkS m s) (hlen : s.rest.length ≤ 140737488355327) : Calls Tryd.prog 13 #[.pointer (some ⟨r, 0, none⟩), .string (tx rs)] w (RsPost T w r m (nextS m rs s).2 (ansV (nextS m rs s).1)) := by
  cases rs with
  | nil => exact rnext_paras T w r m s h hm hok
  | cons c cs => exact rnext_sep T w r m s c cs h hm hok hlen

set_option maxRecDepth 100000 in
set_option maxHeartbeats 4000000 in
theorem rlast_any (T : Nat → Prop) (w : World) (r m : Nat) (s : SpS) (rs : List UInt8) (h : Rs T w r m s) (hm : m ≤ 1000000) (hok : OkS m s) (hlen : s.rest.length ≤ 140737488355327) : Calls Tryd.prog 15 #[.pointer (some ⟨r, 0, none⟩), .string (tx rs)] w (RsPost T w r m (lastS m rs s).2 (ansV (lastS m rs s).1)) := by
  have hn := rnext_any T w r m s rs h hm hok hlen
  obtain ⟨A, hA⟩ : ∃ A, nextS m rs s = A := ⟨_, rfl⟩
  have hL : lastS m rs s = lastF A := by rw [← hA]; rfl
  rw [hL]
  rw [hA] at hn
  clear hL hA h hok hlen
  obtain ⟨a, t⟩ := A
  cases a with
  | some x =>
    have HN := Hid_mk hn
    clear hn
    go_enter Tryd.func15, Tryd.ntmps15
    go_wp2_with fail
    with_reducible refine HN.out.mono ?_
    intro e w1 hpost
    obtain ⟨he, h1, k1⟩ : e = .returned (.tuple #[.string (tx x), .bool true]) ∧ Hid (Rs T w1 r m t) ∧ Kp (fun k => k = r) w w1 := hpost
    subst he
    have HK := Hid_mk k1
    clear k1 HN
    go_wp2
    go_ret2
    exact ⟨rfl, h1, HK.out⟩
  | none =>
    have HN := Hid_mk hn
    clear hn
    go_enter Tryd.func15, Tryd.ntmps15
    go_wp2_with fail
    with_reducible refine HN.out.mono ?_
    intro e w1 hpost
    obtain ⟨he, h1, k1⟩ : e = .returned (.tuple #[.string (tx []), .bool false]) ∧ Hid (Rs T w1 r m t) ∧ Kp (fun k => k = r) w w1 := hpost
    subst he
    have HK := Hid_mk k1
    have HE := Hid_mk (rends_any T w1 r m t h1.out)
    obtain ⟨vh, vr, hh⟩ := h1.out
    have c1 := hh.c1
    have c2 := hh.c2
    obtain ⟨ah, ch, rfl, -, -, -⟩ := id hh.held
    clear k1 HN hh
    by_cases h0 : t.held = []
    · have hl0 : (t.held.length : Int) = 0 := by rw [h0]; rfl
      have hl1 : t.held.length = 0 := by rw [h0]; rfl
      cases ho : t.over with
      | false =>
        rw [ho] at c2
        have HF : Hid (lastF (none, t) = (none, t)) := Hid_mk (if_pos ⟨h0, ho⟩)
        clear h0 ho
        go_wp2
        go_ret2
        rw [HF.out]
        exact ⟨rfl, h1, HK.out⟩
      | true =>
        rw [ho] at c2
        have HF : Hid (lastF (none, t) = (some t.held, endS t)) := Hid_mk (if_neg (fun h => by rw [ho] at h; cases h.2))
        clear h0 ho
        go_wp2_with fail
        with_reducible refine HE.out.mono ?_
        intro e w2 hpost
        obtain ⟨he, h2, k2⟩ : e = .returned (.string (tx t.held)) ∧ Hid (Rs T w2 r m (endS t)) ∧ Kp (fun k => k = r) w1 w2 := hpost
        subst he
        have HK2 := Hid_mk (HK.out.trans' k2)
        clear k2 HE
        go_wp2
        go_ret2
        rw [HF.out]
        exact ⟨rfl, h2, HK2.out⟩
    · have hlp := List.length_pos_iff.2 h0
      have hl0 : ¬ (t.held.length : Int) = 0 := by omega
      have hl1 : ¬ t.held.length = 0 := by omega
      have HF : Hid (lastF (none, t) = (some t.held, endS t)) := Hid_mk (if_neg (fun h => h0 h.1))
      go_wp2_with fail
      with_reducible refine HE.out.mono ?_
      intro e w2 hpost
      obtain ⟨he, h2, k2⟩ : e = .returned (.string (tx t.held)) ∧ Hid (Rs T w2 r m (endS t)) ∧ Kp (fun k => k = r) w1 w2 := hpost
      subst he
      have HK2 := Hid_mk (HK.out.trans' k2)
      clear k2 HE
      go_wp2
      go_ret2
      rw [HF.out]
      exact ⟨rfl, h2, HK2.out⟩

end Go.Proofs.YtpfpnlhihnfahaaDoor.spl

namespace Go.Proofs.YtpfpnlhihnfahaaDoor.turned
open Go.RowKit Go.Proofs.YtpfpnlhihnfahaaDoor.sum Go.Proofs.YtpfpnlhihnfahaaDoor.kept Go.Proofs.YtpfpnlhihnfahaaDoor.app Go.Proofs.YtpfpnlhihnfahaaDoor.writer Go.Proofs.YtpfpnlhihnfahaaDoor.clone Go.Proofs.YtpfpnlhihnfahaaDoor.known Go.Proofs.YtpfpnlhihnfahaaDoor.unseal
set_option linter.unusedVariables false

theorem tmod_pos (n m : Int) (hm : 0 < m) : -m < n.tmod m ∧ n.tmod m < m ∧ (0 ≤ n.tmod m → n.tmod m = n % m) ∧ (n.tmod m < 0 → n.tmod m + m = n % m) := by
  have h1 := Int.tmod_lt_of_pos n hm
  have h2 := Int.tmod_lt_of_pos (-n) hm
  rw [Int.neg_tmod] at h2
  have h3 := Int.tmod_add_mul_tdiv n m
  refine ⟨by omega, h1, ?_, ?_⟩
  · intro h
    have e : n % m = (n.tmod m + m * n.tdiv m) % m := by rw [h3]
    rw [e, Int.add_mul_emod_self_left, Int.emod_eq_of_lt h h1]
  · intro h
    have e : n % m = (n.tmod m + m + m * (n.tdiv m - 1)) % m := by rw [Int.mul_sub]; congr 1; omega
    rw [e, Int.add_mul_emod_self_left, Int.emod_eq_of_lt (by omega) (by omega)]

theorem bs_set {w : World} {b o len cap : Nat} {bs : List UInt8} (h : Bs w (.slice (some ⟨b, o, none⟩) len cap) bs) (k : Nat) (hk : k < len) (y : UInt8) : Bs (w.setCell ⟨b, o + k, none⟩ (B y)) (.slice (some ⟨b, o, none⟩) len cap) (bs.set k y) := by
  obtain ⟨a, c, e, h1, h2, h3⟩ := h
  simp only [Value.slice.injEq] at e
  obtain ⟨rfl, rfl, rfl⟩ := e
  refine ⟨_, cap, by rw [List.length_set], by rw [List.length_set]; exact h1, h2, fun _ => ⟨b, o, rfl, fun i hi => ?_⟩⟩
  rw [List.length_set] at hi
  obtain ⟨b', o', e, hc⟩ := h3 (by intro e; subst e; simp at hk)
  cases e
  by_cases hik : i = k
  · subst hik
    rw [World.cell?_setCell_same w _ _ (hc i hi)]
    simp [List.getD, hi]
  · rw [World.cell?_setCell_other w _ _ _ (by simp <;> omega), hc i hi]
    simp [List.getD, List.getElem?_set, Ne.symm hik]

end Go.Proofs.YtpfpnlhihnfahaaDoor.turned

namespace Go.Proofs.YtpfpnlhihnfahaaDoor.spl
open Go.RowKit Go.Maps Go.Proofs.YtpfpnlhihnfahaaDoor.sum Go.Proofs.YtpfpnlhihnfahaaDoor.kept Go.Proofs.YtpfpnlhihnfahaaDoor.app Go.Proofs.YtpfpnlhihnfahaaDoor.writer Go.Proofs.YtpfpnlhihnfahaaDoor.clone Go.Proofs.YtpfpnlhihnfahaaDoor.unseal Go.Proofs.YtpfpnlhihnfahaaDoor.turned
set_option linter.unusedVariables false

def kinds : List UInt8 := [97, 98, 10, 59, 10, 10, 99]
def kindB (b : UInt8) : UInt8 := kinds.getD (b.toNat % 7) 0
def kindsOf (bs : List UInt8) : List UInt8 := bs.map kindB

theorem makeZ (w : World) (n : Nat) (hn : n ≤ 1000000000) :
    ∃ w', (Instr.makeSlice 30 (.int .i64 (n : Int)) (.int .i64 (n : Int))).run Tryd.prog w = .ok (.slice (some ⟨w.heap.size, 0, none⟩) n n) w' ∧ w'.ownsRow w.heap.size 5 1 (.slice (some ⟨w.heap.size, 0, none⟩) n n) (List.replicate n (0 : UInt8)).length ((List.replicate n (0 : UInt8)).map B) ∧ Kp No w w' := by
  obtain ⟨i0, hi, hz0, hz1, hz2⟩ := info_parts info5
  obtain ⟨w', hr, ho, hg⟩ := run_make_full (P := Tryd.prog) w w.heap.size 30 5 i0 (.int .u8 0) 1 Tryd.underlying30 hi hz0 hz1 .i64 .i64 n (by rw [hz2]; omega) (by unfold maxLen; omega) (Nat.le_refl _)
  refine ⟨w', hr, ?_, (Kp.refl No w).grown hg fun k hk e => by cases e⟩
  rw [List.length_replicate]
  have e : (madeCells (Value.int .u8 0).cells (n * 1)).toList = (List.replicate n (0 : UInt8)).map B := by
    apply List.ext_getElem
    · simp [madeCells]
    · intro i h1 h2
      simp [madeCells, Value.cells, B, Nat.mod_one]
  rw [← e]; exact ho
theorem owns_warmS {w : World} {base : Nat} {e : TypeId} {size : Nat} {g o n c : Nat} {m : Nat} {xs : List Value} (h : w.ownsRow base e size (.slice (some ⟨g, o, none⟩) n c) m xs) (j : Nat) : w.frozen? ⟨g, j, none⟩ = false := by
  rcases h.2 with ⟨e, _⟩ | ⟨g', cap, cur, e, _, hb, _⟩
  · cases e
  · simp only [Value.slice.injEq, Option.some.injEq, Addr.mk.injEq] at e
    obtain ⟨⟨rfl, -⟩, -⟩ := e
    simp [World.frozen?, hb]

/-- behind k bytes -/
def ByRel (w : World) (bs : List UInt8) (i : Value) (wr : World) : Prop :=
  ∃ (k : Nat) (zs : List UInt8), k ≤ bs.length ∧ i = .int .i64 (k : Int) ∧ Bs wr (.slice (some ⟨w.heap.size, 0, none⟩) bs.length bs.length) (kindsOf (bs.take k) ++ zs) ∧ (∀ j, wr.frozen? ⟨w.heap.size, j, none⟩ = false) ∧ Kp No w wr

theorem bs_len {w : World} {a : Option Addr} {n c : Nat} {bs : List UInt8} (h : Bs w (.slice a n c) bs) : bs.length = n := by
  obtain ⟨a2, c2, e, -⟩ := h
  simp only [Value.slice.injEq] at e
  exact e.2.1.symm
theorem set_mid {x : List UInt8} {z y : UInt8} {zs : List UInt8} {k : Nat} (h : x.length = k) : (x ++ z :: zs).set k y = x ++ [y] ++ zs := by
  subst h
  rw [List.set_append_right _ _ (Nat.le_refl _)]
  simp

set_option maxRecDepth 100000 in
set_option maxHeartbeats 4000000 in
theorem bytes_any (w : World) (v : Value) (bs : List UInt8) (hb : Bs w v bs) (hl : bs.length ≤ 1000000000) :
    Calls Tryd.prog 9 #[v] w fun e w' => e = .returned (.slice (some ⟨w.heap.size, 0, none⟩) bs.length bs.length) ∧ Bs w' (.slice (some ⟨w.heap.size, 0, none⟩) bs.length bs.length) (kindsOf bs) ∧ Kp No w w' := by
  have HB := Hid_mk hb
  obtain ⟨a, c, rfl, g1, g2, g3⟩ := id hb
  have hM := makeZ w bs.length hl
  obtain ⟨w1, hrun, hown, hk1⟩ := hM
  have HO := Hid_mk hown
  have HK1 := Hid_mk hk1
  have H3 := Hid_mk g3
  unfold maxLen at g2
  clear hb hown hk1 g3
  go_enter Tryd.func9, Tryd.ntmps9
  go_wp2
  go_loopw [4] (fun i wr => ByRel w bs i wr) (fun i _ => bs.length - (intOf i).toNat)
  case atStart => exact ⟨0, _, Nat.zero_le _, rfl, by have := owns_bs HO.out; simpa [kindsOf] using this, owns_warmS HO.out, HK1.out⟩
  case round =>
    obtain ⟨k, zs, hk, rfl, hbs, hwarm, hkp⟩ := hrel
    have HBs := Hid_mk hbs
    have HW := Hid_mk hwarm
    have HKp := Hid_mk hkp
    have hk0 : (0 : Int) ≤ (k : Int) := Int.natCast_nonneg _
    by_cases hlt : k < bs.length
    · have hki : (k : Int) < (bs.length : Int) := by omega
      have hwi : IntKind.i64.wrap ((k : Int) + 1) = (k : Int) + 1 := IntWalk.i64_in _ (by omega)
      have hkl : (kindsOf (bs.take k)).length = k := by simp [kindsOf]; omega
      have hlen := bs_len hbs
      rw [List.length_append, hkl] at hlen
      obtain ⟨z, zs', rfl⟩ : ∃ z zs', zs = z :: zs' := by
        cases zs with
        | nil => simp at hlen; omega
        | cons z zs' => exact ⟨_, _, rfl⟩
      obtain ⟨b, o, rfl, hc⟩ := H3.out (by intro e; rw [e] at hlt; simp at hlt)
      have hci := hkp.cell' (hc k hlt) id
      obtain ⟨x, hx⟩ : ∃ x, bs.getD k 0 = x := ⟨_, rfl⟩
      rw [hx] at hci
      unfold B at hci
      obtain ⟨a2, c2, e2, -, -, h4⟩ := hbs
      obtain ⟨b2, o2, e3, hcell⟩ := h4 (by simp)
      simp only [Value.slice.injEq] at e2
      rw [← e2.1] at e3
      cases e3
      have hold := hcell k (by rw [List.length_append, hkl]; simp)
      have hfro := hwarm k
      have hset := bs_set HBs.out k hlt (kindB x)
      rw [set_mid hkl] at hset
      have htk : kindsOf (bs.take (k + 1)) = kindsOf (bs.take k) ++ [kindB x] := by
        unfold kindsOf
        rw [take_snoc hlt, List.map_append, hx]
        rfl
      rw [← htk] at hset
      have HSet := Hid_mk hset
      have HLt := Hid_mk hlt
      obtain ⟨r, hr⟩ : ∃ r, x.toNat % 7 = r := ⟨_, rfl⟩
      have hr7 : r < 7 := by omega
      have htm : (x.toNat : Int).tmod 7 = (r : Int) := by
        rw [← hr, Int.tmod_eq_emod_of_nonneg (by omega)]
        omega
      have hkb : kindB x = kinds.getD r 0 := by unfold kindB; rw [hr]
      rw [hkb] at HSet
      simp only [Nat.zero_add] at hold HSet
      clear hwarm hkp hc hx hset htk h4 hcell hkb hlen hkl e2 hlt
      have hcases : r = 0 ∨ r = 1 ∨ r = 2 ∨ r = 3 ∨ r = 4 ∨ r = 5 ∨ r = 6 := by omega
      rcases hcases with rfl | rfl | rfl | rfl | rfl | rfl | rfl
      all_goals
        clear hr7 hr
        go_wp2
        go_roundw
        case rel => exact ⟨k + 1, zs', by have := HLt.out; omega, by push_cast; rfl, HSet.out, fun j => by rw [World.frozen?_setCell]; exact HW.out j, HKp.out.setCell (fun h => absurd h (Nat.lt_irrefl _)) _⟩
        case measure => have := HLt.out; simp only [intOf]; omega
    · have hki : ¬ (k : Int) < (bs.length : Int) := by omega
      have hzs : zs = [] := by
        have hlen := bs_len hbs
        rw [List.length_append] at hlen
        have : (kindsOf (bs.take k)).length = bs.length := by simp [kindsOf]; omega
        exact List.eq_nil_of_length_eq_zero (by omega)
      have hfin : Bs wr (.slice (some ⟨w.heap.size, 0, none⟩) bs.length bs.length) (kindsOf bs) := by
        have := hbs
        rw [hzs, List.append_nil, List.take_of_length_le (by omega)] at this
        exact this
      have HF := Hid_mk hfin
      clear hbs hwarm hkp hzs hfin
      go_wp2
      go_ret
      exact ⟨rfl, HF.out, HKp.out⟩

end Go.Proofs.YtpfpnlhihnfahaaDoor.spl

namespace Go.Proofs.YtpfpnlhihnfahaaDoor.spl
open Go.RowKit Go.Proofs.YtpfpnlhihnfahaaDoor.sum Go.Proofs.YtpfpnlhihnfahaaDoor.kept Go.Proofs.YtpfpnlhihnfahaaDoor.snp
set_option linter.unusedVariables false

def sepL (k : Nat) : List UInt8 := match k with
  | 1 => []
  | 2 => [59]
  | 4 => [59, 120]
  | _ => [10]
theorem sepL_len (k : Nat) : (sepL k).length ≤ 2 := by unfold sepL; split <;> decide
/-- the table -/
def Sq (w : World) : Prop := ∀ K, K < 5 → w.cell? ⟨0, K, none⟩ = some (.string (tx (sepL K)))
theorem Sq.no {w w' : World} (h : Sq w) (hk : Kp No w w') : Sq w' := fun K hK => hk.cell' (h K hK) id

end Go.Proofs.YtpfpnlhihnfahaaDoor.spl

namespace Go.Proofs.YtpfpnlhihnfahaaDoor.turned
open Go.RowKit Go.Proofs.YtpfpnlhihnfahaaDoor.sum Go.Proofs.YtpfpnlhihnfahaaDoor.kept Go.Proofs.YtpfpnlhihnfahaaDoor.app Go.Proofs.YtpfpnlhihnfahaaDoor.writer Go.Proofs.YtpfpnlhihnfahaaDoor.clone Go.Proofs.YtpfpnlhihnfahaaDoor.known Go.Proofs.YtpfpnlhihnfahaaDoor.unseal
set_option linter.unusedVariables false

set_option maxRecDepth 100000 in
set_option maxHeartbeats 1000000 in
theorem pick_any (n m : Int) (hm : 0 < m) (hm2 : m ≤ 1000000000000000) (w : World) :
    Calls Tryd.prog 6 #[.int .i64 n, .int .i64 m] w fun e w' => e = .returned (.int .i64 (n % m)) ∧ w = w' := by
  obtain ⟨h1, h2, h3, h4⟩ := tmod_pos n m hm
  obtain ⟨t, ht⟩ : ∃ t, n.tmod m = t := ⟨_, rfl⟩
  rw [ht] at h1 h2 h3 h4
  have H3 := Hid_mk h3
  have H4 := Hid_mk h4
  clear h3 h4
  have hne : ¬ m = 0 := by omega
  have hne1 : ¬ m = -1 := by omega
  by_cases hneg : t < 0
  · go_enter Tryd.func6, Tryd.ntmps6
    go_wp2
    go_ret
    rw [H4.out hneg]
    exact ⟨rfl, rfl⟩
  · go_enter Tryd.func6, Tryd.ntmps6
    go_wp2
    go_ret
    rw [H3.out (by omega)]
    exact ⟨rfl, rfl⟩

end Go.Proofs.YtpfpnlhihnfahaaDoor.turned

namespace Go.Proofs.YtpfpnlhihnfahaaDoor.spl
open Go.RowKit Go.Maps Go.Proofs.YtpfpnlhihnfahaaDoor.sum Go.Proofs.YtpfpnlhihnfahaaDoor.kept Go.Proofs.YtpfpnlhihnfahaaDoor.app Go.Proofs.YtpfpnlhihnfahaaDoor.writer Go.Proofs.YtpfpnlhihnfahaaDoor.clone Go.Proofs.YtpfpnlhihnfahaaDoor.known Go.Proofs.YtpfpnlhihnfahaaDoor.unseal Go.Proofs.YtpfpnlhihnfahaaDoor.snp
set_option linter.unusedVariables false

theorem infoT : (Tryd.prog.info? 9).map (fun i => (i.zero, i.size, i.bytes)) = some (some (.string ByteArray.empty), 1, 16) := by kernel_rfl

/-- a row of texts of the call's own -/
def TRow (w : World) (base : Nat) (v : Value) (l : List (List UInt8)) : Prop := w.ownsRow base 9 1 v l.length (l.map fun x => Value.string (tx x))
theorem TRow.no {w w' : World} {base : Nat} {v : Value} {l : List (List UInt8)} (h : TRow w base v l) (hk : Kp No w w') : TRow w' base v l := owns_kept h hk fun _ _ => id
theorem TRow.kept {S : Nat → Prop} {w w' : World} {base : Nat} {v : Value} {l : List (List UInt8)} (h : TRow w base v l) (hk : Kp S w w') (hn : ∀ g, v.ownBlock = some g → ¬ S g) : TRow w' base v l := owns_kept h hk hn
theorem TRow.nil (w : World) (base : Nat) : TRow w base (.slice none 0 0) [] := World.ownsRow_nil _ _ _ _

/-- read: a slice of texts -/
def Tr (w : World) (v : Value) (l : List (List UInt8)) : Prop :=
  ∃ a cap, v = .slice a l.length cap ∧ l.length ≤ cap ∧ cap ≤ 9223372036854775807 ∧ (l ≠ [] → ∃ b, a = some ⟨b, 0, none⟩ ∧ ∀ k (h : k < l.length), w.cell? ⟨b, k, none⟩ = some (.string (tx l[k])))
theorem TRow.tr {w : World} {base : Nat} {v : Value} {l : List (List UInt8)} (h : TRow w base v l) : Tr w v l := by
  have h' : w.ownsRow base 9 1 v l.length (l.map fun x => Value.string (tx x)) := h
  rcases h'.2 with ⟨rfl, h0⟩ | ⟨g, cap, cur, rfl, hb, hg, r1, r2, r3, r4⟩
  · have : l = [] := List.eq_nil_of_length_eq_zero h0
    subst this
    exact ⟨none, 0, rfl, Nat.le_refl _, by decide, fun h => absurd rfl h⟩
  · refine ⟨_, cap, rfl, r1, by unfold maxLen at r2; omega, fun _ => ⟨g, rfl, fun k hk => ?_⟩⟩
    have := h'.cells (g := g) rfl k (.string (tx l[k])) (by simp [hk])
    rw [addr_add, Nat.zero_add] at this
    exact this
theorem Tr.no {w w' : World} {v : Value} {l : List (List UInt8)} (h : Tr w v l) (hk : Kp No w w') : Tr w' v l := by
  obtain ⟨a, cap, rfl, h1, h2, h3⟩ := h
  refine ⟨a, cap, rfl, h1, h2, fun hne => ?_⟩
  obtain ⟨b, rfl, hc⟩ := h3 hne
  exact ⟨b, rfl, fun k hk2 => hk.cell' (hc k hk2) id⟩

def SsRel (n : Nat) (w : World) (i : Value) (wr : World) : Prop := ∃ k : Nat, i = .int .i64 (k : Int) ∧ k ≤ n ∧ Kp No w wr

end Go.Proofs.YtpfpnlhihnfahaaDoor.spl

namespace Go.Proofs.YtpfpnlhihnfahaaDoor.spl
open Go.RowKit Go.Maps Go.Proofs.YtpfpnlhihnfahaaDoor.sum Go.Proofs.YtpfpnlhihnfahaaDoor.kept Go.Proofs.YtpfpnlhihnfahaaDoor.app Go.Proofs.YtpfpnlhihnfahaaDoor.writer Go.Proofs.YtpfpnlhihnfahaaDoor.clone Go.Proofs.YtpfpnlhihnfahaaDoor.known Go.Proofs.YtpfpnlhihnfahaaDoor.unseal Go.Proofs.YtpfpnlhihnfahaaDoor.snp
set_option linter.unusedVariables false

theorem tx_size (l : List UInt8) : (tx l).size = l.length := by simp [tx, ByteArray.size]
theorem tx_get (l : List UInt8) (k : Nat) (h : k < (tx l).size) : ((tx l)[k]).toNat = (l.getD k 0).toNat := by
  have hk : k < l.length := by rw [tx_size] at h; exact h
  have e : ((tx l)[k]'h) = l[k] := by
    show l.toArray[k] = l[k]
    simp
  exact (congrArg UInt8.toNat e).trans (by simp [List.getD, hk])
theorem tx_app (a b : List UInt8) : tx a ++ tx b = tx (a ++ b) := by
  apply ByteArray.ext
  simp [tx]
theorem tx_add (a b : List UInt8) (h : a.length + b.length ≤ 1000000000) (W : World) : (Op.stringOp .add (tx a) (tx b)).run Tryd.prog W = .ok (.string (tx (a ++ b))) W := by
  rw [← tx_app]
  refine run_string_add_sum (P := Tryd.prog) (w := W) _ _ ?_
  rw [tx_size, tx_size]
  omega
set_option maxRecDepth 100000 in
theorem tx_piece (l : List UInt8) (i j : Nat) (h1 : i ≤ j) (h2 : j ≤ l.length) (W : World) : (Instr.sliceAt 9 (.string (tx l)) (some (.int .i64 (i : Int))) (some (.int .i64 (j : Int))) none).run Tryd.prog W = .ok (.string (tx ((l.drop i).take (j - i)))) W := by
  have hu : Tryd.prog.underlying 9 = some .string := Tryd.underlying9
  rw [run_sliceAt_string W _ _ _ _ _ hu, run_slice_string_if (P := Tryd.prog) W 9 (tx l) .i64 .i64 (i : Int) (j : Int) hu]
  rw [if_pos ⟨by omega, by rw [tx_size]; omega⟩, if_pos ⟨by omega, by omega⟩]
  congr 2
  apply ByteArray.ext
  simp only [Int.toNat_natCast]
  rw [ByteArray.data_extract]
  apply Array.ext'
  simp [tx, List.take_drop, Nat.min_eq_left h2]
theorem tx_cons (l : List UInt8) (h : l ≠ []) : ¬ (tx l).toList = [] ∧ (tx l).toList.isEmpty = false := by
  have : (tx l).toList = l := by rw [ByteArray.toList_eq]; rfl
  rw [this]
  exact ⟨h, by cases l with | nil => exact absurd rfl h | cons _ _ => rfl⟩
theorem tx_eq_self (l : List UInt8) : ((tx l).toList == (tx l).toList) = true := by simp

end Go.Proofs.YtpfpnlhihnfahaaDoor.spl
