/- Package printf: Format. internal/strconv.ftoa64 of 0 at 'f', no digits behind the point. What the library's variables hold, as the walks read them; FormatFloat and Digits of closed numbers. Chapter 12's known(): closed numbers: all that PfLd says, over Format. Chapter 12's known(): what its conversions tell. Chapter 12's known(). -/
import Derived.Test.YtannbdbhkhmppaaGreatDoorHexM
import Derived.Test.YtannbdbhkhmppaaGreatDoorPfConv
import Derived.Test.YtannbdbhkhmppaaGreatDoorFtoaM
import Derived.Test.YtannbdbhkhmppaaGreatDoorPfNumM
import Derived.Test.YtannbdbhkhmppaaGreatDoorRow0M
import GoSem.PinnedTables

namespace Go.Proofs.YtannbdbhkhmppaaGreatDoor.pf
open Go.RowKit Go.Lib Go.Proofs.YtannbdbhkhmppaaGreatDoor.sum Go.Proofs.YtannbdbhkhmppaaGreatDoor.kept Go.Proofs.YtannbdbhkhmppaaGreatDoor.app Go.Proofs.YtannbdbhkhmppaaGreatDoor.writer Go.Proofs.YtannbdbhkhmppaaGreatDoor.known Go.Proofs.YtannbdbhkhmppaaGreatDoor.str Go.Proofs.YtannbdbhkhmppaaGreatDoor.spl
set_option linter.unusedVariables false

/-- what a format comes to; none: a fault -/
def fmS (cn : List UInt8 → List Ar → Int × List UInt8 × List Ar) (tl : Cv → Ar → Td) : Nat → List UInt8 → List Ar → List UInt8 → Option (List UInt8)
  | 0, _, _, _ => none
  | f + 1, l, ars, bs => if (txS (l.length + 1) l bs).1 = true then
      (match cvS cn (txS (l.length + 1) l bs).2.1 ars with
       | none => none
       | some (c, l2, ars2) => fmS cn tl f l2 ars2.tail (putS (txS (l.length + 1) l bs).2.2 c (tl c (ars2.headD noAr))))
    else some (txS (l.length + 1) l bs).2.2
/-- all that is asked of the way -/
def okS (cn : List UInt8 → List Ar → Int × List UInt8 × List Ar) (Ok : List UInt8 → Prop) (tl : Cv → Ar → Td) (Okt : Cv → Ar → Prop) : Nat → List UInt8 → List Ar → List UInt8 → Prop
  | 0, _, _, _ => False
  | f + 1, l, ars, bs => l.length ≤ 140737488355327 ∧ bs.length ≤ 257 ∧ (txS (l.length + 1) l bs).2.2.length ≤ 257 ∧ ((txS (l.length + 1) l bs).1 = true →
      Ok (fgS (txS (l.length + 1) l bs).2.1 cv0).2 ∧ (lookS (cn (fgS (txS (l.length + 1) l bs).2.1 cv0).2 ars).2.1 = 46 → Ok ((cn (fgS (txS (l.length + 1) l bs).2.1 cv0).2 ars).2.1.drop 1)) ∧
      (match cvS cn (txS (l.length + 1) l bs).2.1 ars with
       | none => True
       | some (c, l2, ars2) => Okt c (ars2.headD noAr) ∧ okS cn Ok tl Okt f l2 ars2.tail (putS (txS (l.length + 1) l bs).2.2 c (tl c (ars2.headD noAr)))))
/-- what tell answers where Okt holds -/
def TlC (tl : Cv → Ar → Td) (Okt : Cv → Ar → Prop) (w : World) : Prop := ∀ c x, Okt c x → (-1000 ≤ c.width ∧ c.width ≤ 1000 ∧ (tl c x).sign.length ≤ 1000000 ∧ (tl c x).body.length ≤ 1000000) ∧ ∀ W, Kp No w W → Calls Tryz.prog 11 #[cvV c, arV x] W (TdPost W (tl c x))
def resS : Option (List UInt8) → List UInt8 × Int
  | none => ([], 46)
  | some o => if 256 < o.length then ([], 43) else (o, 0)
def FmPost (w : World) (R : Option (List UInt8)) (e : Ending) (w' : World) : Prop := e = .returned (.tuple #[.string (st (resS R).1), .int .i64 (resS R).2]) ∧ Kp No w w'
def FmG (w : World) (q : Nat) (cn : List UInt8 → List Ar → Int × List UInt8 × List Ar) (Ok : List UInt8 → Prop) (tl : Cv → Ar → Td) (Okt : Cv → Ar → Prop) (R : Option (List UInt8)) (wr : World) (n : Nat) : Prop :=
  ∃ l A o bs ars, WkAt w wr q l A o bs ∧ ArgsAt w A ars ∧ okS cn Ok tl Okt n l ars bs ∧ fmS cn tl n l ars bs = R

set_option maxRecDepth 100000 in
set_option maxHeartbeats 16000000 in
theorem format_any (w : World) (l : List UInt8) (A : Value) (ars : List Ar) (ha : ArgsAt w A ars) (cn : List UInt8 → List Ar → Int × List UInt8 × List Ar) (Ok : List UInt8 → Prop) (hcn : CntC cn Ok) (tl : Cv → Ar → Td) (Okt : Cv → Ar → Prop) (htl : TlC tl Okt w) (n : Nat) (hok : okS cn Ok tl Okt n l ars []) :
    Calls Tryz.prog 4 #[.string (st l), A] w (FmPost w (fmS cn tl n l ars [])) := by
  obtain ⟨R, hR⟩ : ∃ R, fmS cn tl n l ars [] = R := ⟨_, rfl⟩
  rw [hR]
  have HR := Hid_mk hR
  have HA := Hid_mk ha
  have HCn := Hid_mk hcn
  have HTc := Hid_mk htl
  have HOk := Hid_mk hok
  obtain ⟨a0, c0, hA, -, -, -⟩ := ha
  obtain ⟨q, hq⟩ : ∃ q, w.heap.size = q := ⟨_, rfl⟩
  obtain ⟨W1, hW1, hk1, hz1⟩ := named_alloc w (.cells #[.string (st l), A, .slice none 0 0] 34)
  have hb1 := B3.new w (.string (st l)) A (.slice none 0 0) 34
  rw [hW1, hq] at hb1
  have HW : Hid (WkAt w W1 q l A (.slice none 0 0) []) := Hid_mk ⟨hb1.c0, hb1.c1, hb1.c2, hb1.warm, Nat.le_of_eq hq, World.ownsRow_nil _ _ _ _, by simp [Value.ownBlock], hk1⟩
  subst hA
  have HWn := Hid_mk hW1
  have HQn := Hid_mk hq
  clear hR hcn htl hok hb1 hk1 hz1 hW1 hq
  go_enter Tryz.func4, Tryz.ntmps4
  go_wp2_with fail
  rw [HWn.out, HQn.out]
  clear HWn
  go_loopw [7, 8] (fun t7 t8 wr => ∃ n, FmG w q cn Ok tl Okt R wr n) (fun _ _ wr => @Classical.epsilon Nat ⟨0⟩ fun n => FmG w q cn Ok tl Okt R wr n ∧ ∀ m, FmG w q cn Ok tl Okt R wr m → n ≤ m)
  case atStart => exact ⟨n, _, _, _, _, _, HW.out, HA.out, HOk.out, HR.out⟩
  case round =>
    clear HW HA HOk HR
    have hn := leastN_ok (G := fun n => FmG w q cn Ok tl Okt R wr n) hrel
    clear hrel
    obtain ⟨N, hN⟩ : ∃ N, (@Classical.epsilon Nat ⟨0⟩ fun n => FmG w q cn Ok tl Okt R wr n ∧ ∀ m, FmG w q cn Ok tl Okt R wr m → n ≤ m) = N := ⟨_, rfl⟩
    simp only [hN] at hn ⊢
    have HN := Hid_mk hN
    clear hN
    obtain ⟨l, A, o, bs, ars, hw, hA, hok, hfm⟩ := hn
    cases N with
    | zero => exact hok.elim
    | succ N =>
      obtain ⟨hl, hb, hx2, hyes⟩ := hok
      rw [fmS] at hfm
      have HTx := Hid_mk (text_any hw hb hl)
      obtain ⟨⟨x1, l1, b1⟩, hx⟩ : ∃ x, txS (l.length + 1) l bs = x := ⟨_, rfl⟩
      rw [hx] at HTx hx2 hyes hfm
      simp only at hx2 hyes hfm
      have HB1 := Hid_mk hx2
      have HYes := Hid_mk hyes
      have HFm := Hid_mk hfm
      have HA1 := Hid_mk hA
      unfold TePost at HTx
      simp only at HTx
      clear hw hA hl hb hx2 hyes hfm hx
      go_wp2_with fail
      with_reducible refine HTx.out.mono ?_
      rintro e w1 ⟨rfl, o1, hw1⟩
      clear HTx
      cases x1 with
      | false =>
        have hfm := HFm.out
        rw [if_neg (by simp)] at hfm
        have HRb := Hid_mk hfm
        have HW1 := Hid_mk hw1
        have c2 := hw1.c2
        have HCb := Hid_mk (conv_bs (owns_bs hw1.owns))
        obtain ⟨a3, c3, e3, -⟩ := owns_bs hw1.owns
        subst e3
        have hlb : (b1.length : Int) ≤ 257 := by have := HB1.out; omega
        have hlb0 : (0 : Int) ≤ (b1.length : Int) := Int.natCast_nonneg _
        obtain ⟨L, hL⟩ : ∃ L, b1.length = L := ⟨_, rfl⟩
        have HL := Hid_mk hL
        rw [hL] at c2 HCb hlb hlb0
        clear hw1 hfm hL HYes HFm
        by_cases hbig : (256 : Int) < (L : Int)
        · go_wp2
          go_ret2
          rw [← HRb.out]
          have : 256 < b1.length := by have := HL.out; omega
          exact ⟨by rw [resS, if_pos this]; rfl, HW1.out.kp⟩
        · go_wp2_with fail
          rw [HCb.out]
          go_wp2
          go_ret2
          rw [← HRb.out]
          have : ¬ 256 < b1.length := by have := HL.out; omega
          exact ⟨by rw [resS, if_neg this]; rfl, HW1.out.kp⟩
      | true =>
        obtain ⟨hk1, hk2, hrest⟩ := HYes.out rfl
        have hfm := HFm.out
        rw [if_pos rfl] at hfm
        have HCo := Hid_mk (conv_any hw1 ars HA1.out cn Ok HCn.out hk1 hk2)
        have hold := fun (W : World) (hk : Kp No w1 W) => (hw1.no hk).old (Nat.le_refl _)
        have HOld := Hid_mk (show o1.ownBlock ≠ some q ∧ (∀ g, o1.ownBlock = some g → g < w1.heap.size) ∧ q < w1.heap.size from ⟨hw1.apart, fun g e => (hw1.owns.lt g e).2, hw1.lt⟩)
        unfold CoPost at HCo
        cases hcv : cvS cn l1 ars with
        | none =>
          simp only [hcv] at HCo hfm
          have HRb := Hid_mk hfm
          unfold noCv at HCo
          clear hw1 hk1 hk2 hrest hfm hcv hold HYes HFm
          go_wp2_with fail
          with_reducible refine HCo.out.mono ?_
          rintro e w2 ⟨rfl, hk2⟩
          have HK2 := Hid_mk hk2
          clear hk2
          go_wp2
          go_ret2
          rw [← HRb.out]
          exact ⟨rfl, by first | exact HK2.out.alloc _ | exact HK2.out⟩
        | some y =>
          obtain ⟨c, l2, ars2⟩ := y
          simp only [hcv] at HCo hfm hrest
          obtain ⟨hokt, hok2⟩ := hrest
          have htc := HTc.out c (ars2.headD noAr) hokt
          obtain ⟨hd, hhd⟩ : ∃ hd, ars2.headD noAr = hd := ⟨_, rfl⟩
          rw [hhd] at hok2 hfm htc
          have HHd := Hid_mk hhd
          obtain ⟨td, htd⟩ : ∃ td, tl c hd = td := ⟨_, rfl⟩
          rw [htd] at hok2 hfm htc
          have HOk2 := Hid_mk hok2
          have HFm2 := Hid_mk hfm
          have HBd := Hid_mk htc.1
          have HTl0 := Hid_mk htc.2
          obtain ⟨cl, cp, cbk, cno, cw, cpr, cle⟩ := c
          clear hw1 hk1 hk2 hfm hcv hold HYes HFm hokt hok2 htd htc hhd
          unfold TdPost at HTl0
          simp only [cvV, cvC, tdV] at HCo HTl0
          go_wp2_with fail
          with_reducible refine HCo.out.mono ?_
          rintro e w2 ⟨rfl, A2, hw2, hA2⟩
          have HW2 := Hid_mk hw2
          have HA2 := Hid_mk hA2
          have hold := hw2.old (Nat.le_refl _)
          clear hw2 hA2 HCo
          go_upto_region 6 with fail
          obtain ⟨W3, hW3, hk3, hz3⟩ := named_alloc w2 (.cells #[.bool cl, .bool cp, .bool cbk, .bool cno, .int .i64 cw, .int .i64 cpr, .int .u8 (cle : Int)] 36)
          obtain ⟨Cb, hCb⟩ : ∃ Cb, w2.heap.size = Cb := ⟨_, rfl⟩
          have hcv : CvAt W3 Cb ⟨cl, cp, cbk, cno, cw, cpr, cle⟩ := by rw [← hW3, ← hCb]; exact CvAt.new w2 ⟨cl, cp, cbk, cno, cw, cpr, cle⟩ 36
          rw [hCb] at hold
          try rw [hW3]
          try rw [hCb]
          have HNe := Hid_mk hold
          have HCv := Hid_mk (hcv.no2 (Kp.refl No W3).drew)
          have HW3 := Hid_mk ((HW2.out.no hk3).no (Kp.refl No W3).drew)
          have HNx : Hid (Calls Tryz.prog 12 #[.pointer (some ⟨q, 0, none⟩)] W3.drew fun e w' => e = .returned (arV hd) ∧ ∃ A, WkAt w w' q l2 A o1 b1 ∧ ArgsAt w A ars2.tail ∧ Kp (fun k => k = q) W3.drew w') := Hid_mk (by
            have h := next_any HW3.out ars2 HA2.out
            unfold NxPost at h
            rw [HHd.out] at h
            exact h)
          clear hW3 hk3 hz3 hCb hcv hold HW2
          refine wp_region_held_drew (S := fun W => CvAt W Cb ⟨cl, cp, cbk, cno, cw, cpr, cle⟩) (by kernel_rfl) (HCv.out) (fun hHeld => ?_)
          try dsimp only at hHeld
          refine wpAnyH_take (i := 0) (oi := { dst := some 19, op := Op.load 36 (Operand.tmp 7), type := 36, pos := "printf.go:24", after := #[], guard := none }) (v := ?_) rfl (by kernel_rfl) (by kernel_rfl) (by kernel_rfl) (fun _ _ _ h => h) (Or.inl ⟨by rfl, ?_⟩) (by assumption) ?_
          rotate_left 1
          · intro W hSw; (try dsimp only at hSw); (obtain ⟨d0, d1, d2, d3, d4, d5, d6, d7⟩ := hSw; simp only at d0 d1 d2 d3 d4 d5 d6); go_simp; all_goals (with_reducible rfl)
          try simp only [Act.put, List.setIfInBounds_toArray, List.set_cons_zero, List.set_cons_succ]
          refine wpAnyH_take (i := 1) (oi := { dst := some 20, op := Op.load 36 (Operand.tmp 7), type := 36, pos := "printf.go:24", after := #[], guard := none }) (v := ?_) rfl (by kernel_rfl) (by kernel_rfl) (by kernel_rfl) (fun _ _ _ h => h) (Or.inl ⟨by rfl, ?_⟩) (by assumption) ?_
          rotate_left 1
          · intro W hSw; (try dsimp only at hSw); (obtain ⟨d0, d1, d2, d3, d4, d5, d6, d7⟩ := hSw; simp only at d0 d1 d2 d3 d4 d5 d6); go_simp; all_goals (with_reducible rfl)
          try simp only [Act.put, List.setIfInBounds_toArray, List.set_cons_zero, List.set_cons_succ]
          refine wpAnyH_ready (rs := [2]) (by kernel_rfl) (by simp) ?_
          refine AllReadyH.cons (o := { dst := some 21, op := Op.call { callee := Callee.value (Operand.func 12), args := #[Operand.tmp 6], argTypes := #[34] }, type := 27, pos := "printf.go:24", after := #[], guard := none }) rfl (fun K hK => ?_) AllReadyH.nil
          go_simp
          with_reducible refine HNx.out.mono ?_
          rintro e w4 ⟨rfl, A4, hw4, ha4, hk4⟩
          have HW4 := Hid_mk hw4
          have HA4 := Hid_mk ha4
          have HCv4 := Hid_mk (HCv.out.kept hk4 (fun e => HNe.out.1 e.symm))
          clear hw4 ha4 hk4
          refine hK _ _ (HCv4.out) (fun hHeld => ?_)
          clear hK K
          try dsimp only at hHeld
          try simp only [Act.put, List.setIfInBounds_toArray, List.set_cons_zero, List.set_cons_succ]
          refine wpAnyH_ready (rs := [3]) (by kernel_rfl) (by simp) ?_
          refine AllReadyH.cons (o := { dst := some 22, op := Op.call { callee := Callee.value (Operand.func 11), args := #[Operand.tmp 20, Operand.tmp 21], argTypes := #[36, 27] }, type := 41, pos := "printf.go:24", after := #[{ on := 1, ground := Ground.data }, { on := 2, ground := Ground.data }, { on := 2, ground := Ground.chain }], guard := none }) rfl (fun K hK => ?_) AllReadyH.nil
          go_simp
          with_reducible refine (HTl0.out _ HW4.out.kp).mono ?_
          rintro e w5 ⟨rfl, hk5⟩
          have HW5 := Hid_mk (HW4.out.no hk5)
          have HCv5 := Hid_mk (HCv4.out.no2 hk5)
          have HPu : Hid (Calls Tryz.prog 10 #[.pointer (some ⟨q, 0, none⟩), .agg #[.bool cl, .bool cp, .bool cbk, .bool cno, .int .i64 cw, .int .i64 cpr, .int .u8 (cle : Int)], .agg #[.string (st td.sign), .string (st td.body), .bool td.fills]] w5 (PuPost w q l2 A4 (putS b1 ⟨cl, cp, cbk, cno, cw, cpr, cle⟩ td) w5 o1)) := Hid_mk (put_any HW5.out HB1.out ⟨cl, cp, cbk, cno, cw, cpr, cle⟩ td HBd.out.2.2.1 HBd.out.2.2.2 HBd.out.1 HBd.out.2.1)
          clear hk5
          refine hK _ _ (HCv5.out) (fun hHeld => ?_)
          clear hK K
          try dsimp only at hHeld
          try simp only [Act.put, List.setIfInBounds_toArray, List.set_cons_zero, List.set_cons_succ]
          refine wpAnyH_ready (rs := [4]) (by kernel_rfl) (by simp) ?_
          refine AllReadyH.cons (o := { dst := some 23, op := Op.call { callee := Callee.value (Operand.func 10), args := #[Operand.tmp 6, Operand.tmp 19, Operand.tmp 22], argTypes := #[34, 36, 41] }, type := 0, pos := "printf.go:24", after := #[{ on := 0, ground := Ground.data }, { on := 3, ground := Ground.data }, { on := 3, ground := Ground.chain }], guard := none }) rfl (fun K hK => ?_) AllReadyH.nil
          go_simp
          with_reducible refine HPu.out.mono ?_
          rintro e w6 ⟨rfl, ⟨o6, hw6⟩, hk6⟩
          have HW6 := Hid_mk hw6
          have HCv6 := Hid_mk (HCv5.out.kept hk6 (by rintro (e | e); exact HNe.out.1 e.symm; exact HNe.out.2 e.symm))
          clear hw6 hk6
          refine hK _ _ (HCv6.out) (fun hHeld => ?_)
          clear hK K
          try dsimp only at hHeld
          try simp only [Act.put, List.setIfInBounds_toArray, List.set_cons_zero, List.set_cons_succ]
          refine wpAnyH_done (by kernel_rfl) ?_ _
          go_wp2
          have hnew : FmG w q cn Ok tl Okt R w6 N := ⟨l2, A4, o6, _, ars2.tail, HW6.out, HA4.out, HOk2.out, HFm2.out⟩
          exact ⟨⟨N, hnew⟩, Nat.lt_succ_of_le (leastN_le (G := fun n => FmG w q cn Ok tl Okt R w6 n) hnew)⟩

end Go.Proofs.YtannbdbhkhmppaaGreatDoor.pf

namespace Go.Proofs.YtannbdbhkhmppaaGreatDoor.fmtf
open Go.RowKit Go.Proofs.YtannbdbhkhmppaaGreatDoor.sum Go.Proofs.YtannbdbhkhmppaaGreatDoor.kept Go.Proofs.YtannbdbhkhmppaaGreatDoor.app Go.Proofs.YtannbdbhkhmppaaGreatDoor.writer Go.Proofs.YtannbdbhkhmppaaGreatDoor.known
set_option linter.unusedVariables false
attribute [local go_sem] run_fbits

set_option maxRecDepth 100000 in
set_option maxHeartbeats 4000000 in
theorem efg_zero (base : Nat) (w : World) (v0 : Value) (hd : Dst base w v0 w v0 []) :
    Calls Tryz.prog 86 #[v0, .bool false, .slice none 0 0, .int .i64 0, .int .i64 0, .int .i64 0, .int .u8 102, .bool false] w (EfPost base w v0 [48]) := by
  have HD := Hid_mk hd
  clear hd
  go_enter Tryz.func86, Tryz.ntmps86
  go_wp2_with (at_builtin; (refine wpList_append_bs _ rfl _ _ rfl base _ [] rfl (HD.out.owns.alloc _) _ [48] rfl (bs_one _ 48) ?c1 ?c2 ?_))
  case c1 => simp
  case c2 => have h8 := HD.out.room; simp; omega
  intro v1 w1 happ
  have HD1 := Hid_mk (HD.out.push happ)
  clear happ
  go_wp2
  go_ret
  exact ⟨v1, rfl, HD1.out⟩

set_option maxRecDepth 100000 in
set_option maxHeartbeats 4000000 in
theorem ftoa_zero (base : Nat) (w : World) (v0 : Value) (hd : Dst base w v0 w v0 []) :
    Calls Tryz.prog 68 #[v0, .float .f64 0, .int .u8 102, .int .i64 0] w (EfPost base w v0 [48]) := by
  have HE := Hid_mk fun W (hk : Kp No w W) => efg_zero base W v0 (hd.at hk)
  have HD := Hid_mk hd
  have q1 : bits .and .i64 0 2047 = 0 := by decide +kernel
  have q2 : bits .and .u64 0 4503599627370495 = 0 := by decide +kernel
  clear hd
  go_enter Tryz.func68, Tryz.ntmps68
  go_wp2_with fail
  go_quiet (fail)
  go_wp2_with fail
  with_reducible refine (HE.out _ ((Kp.refl No w).drewN nq)).mono ?_
  rintro e w2 ⟨v2, rfl, hd2⟩
  have HD2 := Hid_mk (hd2.back ((Kp.refl No w).drewN nq) HD.out.room)
  clear hd2
  go_wp2
  go_ret
  exact ⟨v2, rfl, HD2.out⟩

/-- FormatFloat of 0 -/
theorem ff_zero (W : World) : Calls Tryz.prog 32 #[.float .f64 0, .int .u8 102, .int .i64 0, .int .i64 64] W (TxPost W [48]) :=
  ff_any W 0 102 0 [48] (iff_any W 0 102 0 [48] (by omega) (by omega) fun W' v0 hk hd hv => ftoa_zero W.heap.size W' v0 hd)

end Go.Proofs.YtannbdbhkhmppaaGreatDoor.fmtf

namespace Go.Proofs.YtannbdbhkhmppaaGreatDoor.pf
open Go.RowKit Go.Lib Go.Proofs.YtannbdbhkhmppaaGreatDoor.sum Go.Proofs.YtannbdbhkhmppaaGreatDoor.kept Go.Proofs.YtannbdbhkhmppaaGreatDoor.app Go.Proofs.YtannbdbhkhmppaaGreatDoor.writer Go.Proofs.YtannbdbhkhmppaaGreatDoor.known Go.Proofs.YtannbdbhkhmppaaGreatDoor.str Go.Proofs.YtannbdbhkhmppaaGreatDoor.fmtf
set_option linter.unusedVariables false

/-- powers of ten, as laid -/
def T10 (p : Int) : Nat × Nat := Pinned.pow10Rows.getD (p + 348).toNat (0, 0)
/-- what the walks read of the library's variables -/
structure Ld (w : World) : Prop where
  opt : w.cell? ⟨3, 0, none⟩ = some (.bool true)
  tn : ∀ n, n ≤ 18 → Tn w n
  pw : ∀ p, -348 ≤ p → p ≤ 347 → Pw w p (T10 p).1 (T10 p).2 ∧ (T10 p).1 < 18446744073709551616 ∧ (T10 p).2 < 18446744073709551616
  hx : hex.Tz w
  oc : oct.Tz w
theorem Ld.no {w w' : World} (h : Ld w) (hk : Kp No w w') : Ld w' :=
  ⟨hk.cell' h.opt id, fun n hn => (h.tn n hn).no hk, fun p h1 h2 => ⟨(h.pw p h1 h2).1.no hk, (h.pw p h1 h2).2⟩, h.hx.no hk, h.oc.no hk⟩

/-- FormatFloat at 'f' of a closed number -/
theorem ff_closed (W : World) (h : Ld W) (b : Nat) (prec : Int) (d : Nat) (p : Int) (S : List UInt8) (hb : b < 18446744073709551616) (hE : b / 4503599627370496 % 2048 ≠ 2047) (hM : mtN b ≠ 0) (hp1 : 0 ≤ prec) (hp2 : prec ≤ 1000) (hD : dgI b prec ≤ 18) (hx : fxI T10 b prec = ((d : Int), p)) (hd18 : d < 10 ^ 18) (hq1 : -900 ≤ p) (hq2 : p ≤ 900)
    (hS : outF (decide (9223372036854775808 ≤ b)) (dgt d (ndS d)) (if d = 0 then 0 else (ndS d : Int) + p) (if d = 0 then 0 else trimN (dgt d (ndS d)) (ndS d)) prec = S) :
    Calls Tryz.prog 32 #[.float .f64 b, .int .u8 102, .int .i64 prec, .int .i64 64] W (TxPost W S) := by
  refine ff_any W b 102 prec S (iff_any W b 102 prec S (by omega) hp2 fun W' v0 hk hd hv => ?_)
  have := ftoa_fix T10 W.heap.size W' v0 [] b prec hd (fun k e => (hv k e).2) (by simp) (h.no hk).opt (h.no hk).tn (h.no hk).pw hb hE hM hp1 hp2 hD d p hx hd18 hq1 hq2
  rw [List.nil_append, hS] at this
  exact this
/-- Digits of a closed number -/
theorem dg_closed (W : World) (h : Ld W) (b pb : Nat) (d : Nat) (p : Int) (S : List UInt8) (hk : kindB b = 0) (hn : nanB b = false) (hpb : plainB (truncB b) = pb) (hb : pb < 18446744073709551616) (hE : pb / 4503599627370496 % 2048 ≠ 2047) (hM : mtN pb ≠ 0) (hD : dgI pb 0 ≤ 18) (hx : fxI T10 pb 0 = ((d : Int), p)) (hd18 : d < 10 ^ 18) (hq1 : -900 ≤ p) (hq2 : p ≤ 900)
    (hS : outF (decide (9223372036854775808 ≤ pb)) (dgt d (ndS d)) (if d = 0 then 0 else (ndS d : Int) + p) (if d = 0 then 0 else trimN (dgt d (ndS d)) (ndS d)) 0 = S) :
    Calls Tryz.prog 13 #[.float .f64 b] W (TxPost W S) :=
  digits_fin W b S hk hn (by rw [hpb]; exact ff_closed W h pb 0 d p S hb hE hM (by omega) (by omega) hD hx hd18 hq1 hq2 hS)

end Go.Proofs.YtannbdbhkhmppaaGreatDoor.pf

namespace Go.Proofs.YtannbdbhkhmppaaGreatDoor.pf
set_option linter.unusedVariables false

theorem here0 : True := trivial

end Go.Proofs.YtannbdbhkhmppaaGreatDoor.pf

namespace Go.Proofs.YtannbdbhkhmppaaGreatDoor.pf
open Go.RowKit Go.Lib Go.Proofs.YtannbdbhkhmppaaGreatDoor.sum Go.Proofs.YtannbdbhkhmppaaGreatDoor.kept Go.Proofs.YtannbdbhkhmppaaGreatDoor.app Go.Proofs.YtannbdbhkhmppaaGreatDoor.writer Go.Proofs.YtannbdbhkhmppaaGreatDoor.known Go.Proofs.YtannbdbhkhmppaaGreatDoor.str Go.Proofs.YtannbdbhkhmppaaGreatDoor.fmtf
set_option linter.unusedVariables false

def dgK (n : Nat) : List UInt8 := if n = 4619567317775286272 then [55] else if n = 13842939354630062080 then [45, 55] else if n = 4643176031446892544 then [50, 53, 53] else if n = 4620693217682128896 then [56] else [51]
def tlK (c : Cv) (x : Ar) : Td :=
  if c.letter = 99 then ⟨[], if x.num = true then [65] else x.s.take 1, false⟩
  else if c.letter = 115 then ⟨[], cutP c.prec x.s, false⟩
  else if c.letter = 102 then ⟨signS c (FloatKind.f64.format.order x.n 0 == some .lt), [51, 46, 49, 52], true⟩
  else if c.letter = 120 then wholeS c [102, 102] (Lib.hasPrefix (dgK x.n) [45])
  else if c.letter = 111 then wholeS c [49, 48] (Lib.hasPrefix (dgK x.n) [45])
  else wholeS c (Lib.trimPrefix (dgK x.n) [45]) (Lib.hasPrefix (dgK x.n) [45])
def tabK : List (Cv × Ar) := [(⟨false, false, false, false, 5, 2, 102⟩, ⟨4614256650576692846, [], true⟩), (⟨true, false, false, false, 4, -1, 100⟩, ⟨4619567317775286272, [], true⟩), (⟨false, false, false, true, 4, -1, 100⟩, ⟨13842939354630062080, [], true⟩),
  (⟨false, false, false, false, 0, -1, 120⟩, ⟨4643176031446892544, [], true⟩), (⟨false, false, false, false, 0, -1, 111⟩, ⟨4620693217682128896, [], true⟩), (⟨false, false, false, false, 0, -1, 99⟩, ⟨4634274385308418048, [], true⟩), (⟨false, false, false, false, 0, -1, 99⟩, ⟨0, [104, 105], false⟩), (⟨false, false, false, false, 0, -1, 115⟩, ⟨0, [121, 101, 115], false⟩)]
def eqCv (a b : Cv) : Bool := a.left == b.left && a.plus == b.plus && a.blank == b.blank && a.noughts == b.noughts && decide (a.width = b.width) && decide (a.prec = b.prec) && decide (a.letter = b.letter)
def eqAr (a b : Ar) : Bool := decide (a.n = b.n) && a.s == b.s && a.num == b.num
theorem eqCv_eq {a b : Cv} (h : eqCv a b = true) : a = b := by
  obtain ⟨a1, a2, a3, a4, a5, a6, a7⟩ := a
  obtain ⟨b1, b2, b3, b4, b5, b6, b7⟩ := b
  simp only [eqCv, Bool.and_eq_true, beq_iff_eq, decide_eq_true_eq] at h
  obtain ⟨⟨⟨⟨⟨⟨rfl, rfl⟩, rfl⟩, rfl⟩, rfl⟩, rfl⟩, rfl⟩ := h
  rfl
theorem eqAr_eq {a b : Ar} (h : eqAr a b = true) : a = b := by
  obtain ⟨a1, a2, a3⟩ := a
  obtain ⟨b1, b2, b3⟩ := b
  simp only [eqAr, Bool.and_eq_true, beq_iff_eq, decide_eq_true_eq] at h
  obtain ⟨⟨rfl, rfl⟩, rfl⟩ := h
  rfl
def oktB (c : Cv) (x : Ar) : Bool := tabK.any fun p => eqCv p.1 c && eqAr p.2 x
theorem okt_mem {c : Cv} {x : Ar} (h : oktB c x = true) : (c, x) ∈ tabK := by
  unfold oktB at h
  obtain ⟨p, hp, h2⟩ := List.any_eq_true.1 h
  simp only [Bool.and_eq_true] at h2
  obtain ⟨p1, p2⟩ := p
  have e1 := eqCv_eq h2.1
  have e2 := eqAr_eq h2.2
  simp only at e1 e2
  subst e1 e2
  exact hp

/-- the same as okS, to be reckoned -/
def okB (tl : Cv → Ar → Td) : Nat → List UInt8 → List Ar → List UInt8 → Bool
  | 0, _, _, _ => false
  | f + 1, l, ars, bs => decide (l.length ≤ 140737488355327) && decide (bs.length ≤ 257) && decide ((txS (l.length + 1) l bs).2.2.length ≤ 257) && (!(txS (l.length + 1) l bs).1 ||
      (lookS (fgS (txS (l.length + 1) l bs).2.1 cv0).2 != 42 && (lookS (cnD (fgS (txS (l.length + 1) l bs).2.1 cv0).2 ars).2.1 != 46 || lookS ((cnD (fgS (txS (l.length + 1) l bs).2.1 cv0).2 ars).2.1.drop 1) != 42) &&
      (match cvS cnD (txS (l.length + 1) l bs).2.1 ars with
       | none => true
       | some (c, l2, ars2) => oktB c (ars2.headD noAr) && okB tl f l2 ars2.tail (putS (txS (l.length + 1) l bs).2.2 c (tl c (ars2.headD noAr))))))
theorem okB_ok (tl : Cv → Ar → Td) : ∀ (f : Nat) (l : List UInt8) (ars : List Ar) (bs : List UInt8), okB tl f l ars bs = true → okS cnD (fun l => lookS l ≠ 42) tl (fun c x => oktB c x = true) f l ars bs
  | 0, _, _, _, h => by cases h
  | f + 1, l, ars, bs, h => by
    rw [okB] at h
    simp only [Bool.and_eq_true, decide_eq_true_eq, Bool.or_eq_true, Bool.not_eq_true', bne_iff_ne, ne_eq] at h
    obtain ⟨⟨⟨h1, h2⟩, h3⟩, h4⟩ := h
    refine ⟨h1, h2, h3, fun hx => ?_⟩
    rcases h4 with h4 | h4
    · rw [hx] at h4; cases h4
    · obtain ⟨⟨h5, h6⟩, h7⟩ := h4
      refine ⟨h5, fun e => ?_, ?_⟩
      · rcases h6 with h6 | h6
        · exact absurd e h6
        · exact h6
      · cases hc : cvS cnD (txS (l.length + 1) l bs).2.1 ars with
        | none => trivial
        | some y =>
          obtain ⟨c, l2, ars2⟩ := y
          rw [hc] at h7
          simp only [Bool.and_eq_true] at h7
          exact ⟨h7.1, okB_ok tl f _ _ _ h7.2⟩

theorem dg7 (W : World) (h : Ld W) : Calls Tryz.prog 13 #[.float .f64 4619567317775286272] W (TxPost W [55]) :=
  dg_closed W h _ 4619567317775286272 7 0 [55] (by kernel_rfl) (by kernel_rfl) (by kernel_rfl) (by decide) (by decide +kernel) (by decide +kernel) (by decide +kernel) (by kernel_rfl) (by decide) (by decide) (by decide) (by kernel_rfl)
theorem dgm7 (W : World) (h : Ld W) : Calls Tryz.prog 13 #[.float .f64 13842939354630062080] W (TxPost W [45, 55]) :=
  dg_closed W h _ 13842939354630062080 7 0 [45, 55] (by kernel_rfl) (by kernel_rfl) (by kernel_rfl) (by decide) (by decide +kernel) (by decide +kernel) (by decide +kernel) (by kernel_rfl) (by decide) (by decide) (by decide) (by kernel_rfl)
theorem dg255 (W : World) (h : Ld W) : Calls Tryz.prog 13 #[.float .f64 4643176031446892544] W (TxPost W [50, 53, 53]) :=
  dg_closed W h _ 4643176031446892544 255 0 [50, 53, 53] (by kernel_rfl) (by kernel_rfl) (by kernel_rfl) (by decide) (by decide +kernel) (by decide +kernel) (by decide +kernel) (by kernel_rfl) (by decide) (by decide) (by decide) (by kernel_rfl)
theorem dg8 (W : World) (h : Ld W) : Calls Tryz.prog 13 #[.float .f64 4620693217682128896] W (TxPost W [56]) :=
  dg_closed W h _ 4620693217682128896 8 0 [56] (by kernel_rfl) (by kernel_rfl) (by kernel_rfl) (by decide) (by decide +kernel) (by decide +kernel) (by decide +kernel) (by kernel_rfl) (by decide) (by decide) (by decide) (by kernel_rfl)
theorem dgpi (W : World) (h : Ld W) : Calls Tryz.prog 13 #[.float .f64 4614256650576692846] W (TxPost W [51]) :=
  dg_closed W h _ 4613937818241073152 3 0 [51] (by kernel_rfl) (by kernel_rfl) (by kernel_rfl) (by decide) (by decide +kernel) (by decide +kernel) (by decide +kernel) (by kernel_rfl) (by decide) (by decide) (by decide) (by kernel_rfl)
theorem ffpi (W : World) (h : Ld W) : Calls Tryz.prog 32 #[.float .f64 4614256650576692846, .int .u8 102, .int .i64 2, .int .i64 64] W (TxPost W [51, 46, 49, 52]) :=
  ff_closed W h _ 2 314 (-2) _ (by decide) (by decide +kernel) (by decide +kernel) (by decide) (by decide) (by decide +kernel) (by kernel_rfl) (by decide) (by decide) (by decide) (by kernel_rfl)

theorem tlK_ok (w : World) (h : Ld w) : TlC tlK (fun c x => oktB c x = true) w := by
  intro c x hb
  have hm := okt_mem hb
  clear hb
  simp only [tabK, List.mem_cons, Prod.mk.injEq, List.mem_nil_iff, or_false] at hm
  rcases hm with ⟨rfl, rfl⟩ | ⟨rfl, rfl⟩ | ⟨rfl, rfl⟩ | ⟨rfl, rfl⟩ | ⟨rfl, rfl⟩ | ⟨rfl, rfl⟩ | ⟨rfl, rfl⟩ | ⟨rfl, rfl⟩
  · exact ⟨by decide +kernel, fun W hk => tell_f W false false false false 5 2 ⟨4614256650576692846, [], true⟩ [51] (by decide) (fun W' hk' => dgpi W' ((h.no hk).no hk')) (by kernel_rfl) (by decide) (by decide) 4614256650576692846 [51, 46, 49, 52] (by decide) (fun W' => abs_any W' _ _ (by decide +kernel)) (fun W' hk' => ffpi W' ((h.no hk).no hk'))⟩
  · exact ⟨by decide +kernel, fun W hk => tell_d W true false false false 4 (-1) ⟨4619567317775286272, [], true⟩ [55] (by decide) (fun W' hk' => dg7 W' ((h.no hk).no hk')) (by kernel_rfl) (by decide) (by decide)⟩
  · exact ⟨by decide +kernel, fun W hk => tell_d W false false false true 4 (-1) ⟨13842939354630062080, [], true⟩ [45, 55] (by decide) (fun W' hk' => dgm7 W' ((h.no hk).no hk')) (by kernel_rfl) (by decide) (by decide)⟩
  · exact ⟨by decide +kernel, fun W hk => tell_x W false false false false 0 (-1) ⟨4643176031446892544, [], true⟩ [50, 53, 53] (by decide) (fun W' hk' => dg255 W' ((h.no hk).no hk')) (by kernel_rfl) (by decide) (by decide) [102, 102] (by decide) (fun W' hk' => based_yes W' _ 16 _ [102, 102] 255 (by kernel_rfl) (by kernel_rfl) (by kernel_rfl) (by kernel_rfl) (by kernel_rfl) (by have h2 := fuint16 W' 255 (by decide) ((h.no hk).no hk').hx; rw [show hex.hexs 255 = [102, 102] by decide +kernel] at h2; exact h2))⟩
  · exact ⟨by decide +kernel, fun W hk => tell_o W false false false false 0 (-1) ⟨4620693217682128896, [], true⟩ [56] (by decide) (fun W' hk' => dg8 W' ((h.no hk).no hk')) (by kernel_rfl) (by decide) (by decide) [49, 48] (by decide) (fun W' hk' => based_yes W' _ 8 _ [49, 48] 8 (by kernel_rfl) (by kernel_rfl) (by kernel_rfl) (by kernel_rfl) (by kernel_rfl) (by have h2 := fuint8 W' 8 (by decide) ((h.no hk).no hk').oc; rw [show oct.octs 8 = [49, 48] by decide +kernel] at h2; exact h2))⟩
  · exact ⟨by decide +kernel, fun W hk => tell_c W false false false false 0 (-1) ⟨4634274385308418048, [], true⟩ [65] (fun W' => char_num W' _ [] 65 (by kernel_rfl) (by kernel_rfl) (by kernel_rfl) (by decide))⟩
  · exact ⟨by decide +kernel, fun W hk => tell_c W false false false false 0 (-1) ⟨0, [104, 105], false⟩ [104] (fun W' => char_text W' 0 [104, 105] (by decide))⟩
  · exact ⟨by decide +kernel, fun W hk => tell_s W false false false false 0 (-1) ⟨0, [121, 101, 115], false⟩ (by decide) (by decide) (by decide)⟩

def fm1 : List UInt8 := [37, 53, 46, 50, 102, 124, 37, 45, 52, 100, 124, 37, 48, 52, 100]
def as1 : List Ar := [⟨4614256650576692846, [], true⟩, ⟨4619567317775286272, [], true⟩, ⟨13842939354630062080, [], true⟩]
def fm2 : List UInt8 := [37, 120, 32, 37, 111, 32, 37, 99, 37, 99, 32, 37, 115]
def as2 : List Ar := [⟨4643176031446892544, [], true⟩, ⟨4620693217682128896, [], true⟩, ⟨4634274385308418048, [], true⟩, ⟨0, [104, 105], false⟩, ⟨0, [121, 101, 115], false⟩]
theorem fm1_ok : okB tlK 5 fm1 as1 [] = true := by kernel_rfl
theorem fm2_ok : okB tlK 7 fm2 as2 [] = true := by kernel_rfl
theorem fm1_is : fmS cnD tlK 5 fm1 as1 [] = some [32, 51, 46, 49, 52, 124, 55, 32, 32, 32, 124, 45, 48, 48, 55] := by kernel_rfl
theorem fm2_is : fmS cnD tlK 7 fm2 as2 [] = some [102, 102, 32, 49, 48, 32, 65, 104, 32, 121, 101, 115] := by kernel_rfl

end Go.Proofs.YtannbdbhkhmppaaGreatDoor.pf

namespace Go.Proofs.YtannbdbhkhmppaaGreatDoor.pf
open Go.RowKit Go.Lib Go.Proofs.YtannbdbhkhmppaaGreatDoor.sum Go.Proofs.YtannbdbhkhmppaaGreatDoor.kept Go.Proofs.YtannbdbhkhmppaaGreatDoor.app Go.Proofs.YtannbdbhkhmppaaGreatDoor.writer Go.Proofs.YtannbdbhkhmppaaGreatDoor.known Go.Proofs.YtannbdbhkhmppaaGreatDoor.str Go.Proofs.YtannbdbhkhmppaaGreatDoor.fmtf
set_option linter.unusedVariables false
attribute [local go_sem] run_store_float'

set_option maxRecDepth 100000 in
theorem n_any (w : World) (b : Nat) : Calls Tryz.prog 5 #[.float .f64 b] w fun e w' => e = .returned (.agg #[.float .f64 b, .string ⟨#[]⟩, .bool true]) ∧ Kp No w w' := by
  go_enter Tryz.func5, Tryz.ntmps5
  go_wp2
  refine bodyPost_ret (v := .agg #[.float .f64 b, .string ⟨#[]⟩, .bool true]) ?_ rfl ⟨rfl, (Kp.refl No w).alloc _⟩
  simp [results, Tryz.results5, go_sem]

set_option maxRecDepth 100000 in
set_option maxHeartbeats 4000000 in
theorem known12_any (w : World) (h : Ld w) : Calls Tryz.prog 7 #[] w fun e w' => e = .returned (.bool true) ∧ Kp No w w' := by
  have HN := Hid_mk fun W b => n_any W b
  have HL := Hid_mk h
  clear h
  go_enter Tryz.func7, Tryz.ntmps7
  go_wp2_with fail
  with_reducible refine (HN.out _ _).mono ?_
  rintro e w1 ⟨rfl, hk1⟩
  have HK := Hid_mk (hk1)
  clear hk1
  go_wp2_with fail
  with_reducible refine (HN.out _ _).mono ?_
  rintro e w2 ⟨rfl, hk1⟩
  have HK := Hid_mk (HK.out.trans' hk1)
  clear hk1
  go_wp2_with fail
  with_reducible refine (HN.out _ _).mono ?_
  rintro e w3 ⟨rfl, hk1⟩
  have HK := Hid_mk (HK.out.trans' hk1)
  clear hk1
  go_wp2_with fail
  obtain ⟨W4, hW4, hk4, hz4⟩ := named_alloc w3 (.cells #[.float .f64 4614256650576692846, .string ⟨#[]⟩, .bool true, .float .f64 4619567317775286272, .string ⟨#[]⟩, .bool true, .float .f64 13842939354630062080, .string ⟨#[]⟩, .bool true] 27)
  have hargs : ArgsAt W4 (.slice (some ⟨w3.heap.size, 0, none⟩) 3 3) as1 := by
    refine ⟨_, 3, rfl, by decide, by decide, fun k hk => ⟨_, 0, rfl, ?_⟩⟩
    have hk : k < 3 := hk
    rw [← hW4]
    rcases (by omega : k = 0 ∨ k = 1 ∨ k = 2) with rfl | rfl | rfl <;> exact ⟨by rw [World.cell?_alloc_mark]; rfl, by rw [World.cell?_alloc_mark]; rfl, by rw [World.cell?_alloc_mark]; rfl⟩
  rw [hW4]
  have hF := format_any W4 fm1 _ as1 hargs cnD _ cnt_digits tlK _ (tlK_ok W4 (HL.out.no (HK.out.trans' hk4))) 5 (okB_ok tlK 5 fm1 as1 [] fm1_ok)
  rw [fm1_is] at hF
  have HF : Hid (Calls Tryz.prog 4 #[.string ⟨#[37, 53, 46, 50, 102, 124, 37, 45, 52, 100, 124, 37, 48, 52, 100]⟩, .slice (some ⟨w3.heap.size, 0, none⟩) 3 3] W4 fun e w' => e = .returned (.tuple #[.string ⟨#[32, 51, 46, 49, 52, 124, 55, 32, 32, 32, 124, 45, 48, 48, 55]⟩, .int .i64 0]) ∧ Kp No W4 w') := Hid_mk hF
  have HK := Hid_mk (HK.out.trans' hk4)
  clear hF hargs hW4 hk4 hz4
  with_reducible refine HF.out.mono ?_
  rintro e w5 ⟨rfl, hk1⟩
  have HK := Hid_mk (HK.out.trans' hk1)
  clear hk1 HF
  go_wp2_with fail
  with_reducible refine (HN.out _ _).mono ?_
  rintro e w6 ⟨rfl, hk1⟩
  have HK := Hid_mk (HK.out.trans' hk1)
  clear hk1
  go_wp2_with fail
  with_reducible refine (HN.out _ _).mono ?_
  rintro e w7 ⟨rfl, hk1⟩
  have HK := Hid_mk (HK.out.trans' hk1)
  clear hk1
  go_wp2_with fail
  with_reducible refine (HN.out _ _).mono ?_
  rintro e w8 ⟨rfl, hk1⟩
  have HK := Hid_mk (HK.out.trans' hk1)
  clear hk1
  go_wp2_with fail
  obtain ⟨W9, hW9, hk9, hz9⟩ := named_alloc w8 (.cells #[.float .f64 4643176031446892544, .string ⟨#[]⟩, .bool true, .float .f64 4620693217682128896, .string ⟨#[]⟩, .bool true, .float .f64 4634274385308418048, .string ⟨#[]⟩, .bool true, .float .f64 0, .string ⟨#[104, 105]⟩, .bool false, .float .f64 0, .string ⟨#[121, 101, 115]⟩, .bool false] 27)
  have hargs : ArgsAt W9 (.slice (some ⟨w8.heap.size, 0, none⟩) 5 5) as2 := by
    refine ⟨_, 5, rfl, by decide, by decide, fun k hk => ⟨_, 0, rfl, ?_⟩⟩
    have hk : k < 5 := hk
    rw [← hW9]
    rcases (by omega : k = 0 ∨ k = 1 ∨ k = 2 ∨ k = 3 ∨ k = 4) with rfl | rfl | rfl | rfl | rfl <;> exact ⟨by rw [World.cell?_alloc_mark]; rfl, by rw [World.cell?_alloc_mark]; rfl, by rw [World.cell?_alloc_mark]; rfl⟩
  rw [hW9]
  have hF := format_any W9 fm2 _ as2 hargs cnD _ cnt_digits tlK _ (tlK_ok W9 (HL.out.no (HK.out.trans' hk9))) 7 (okB_ok tlK 7 fm2 as2 [] fm2_ok)
  rw [fm2_is] at hF
  have HF : Hid (Calls Tryz.prog 4 #[.string ⟨#[37, 120, 32, 37, 111, 32, 37, 99, 37, 99, 32, 37, 115]⟩, .slice (some ⟨w8.heap.size, 0, none⟩) 5 5] W9 fun e w' => e = .returned (.tuple #[.string ⟨#[102, 102, 32, 49, 48, 32, 65, 104, 32, 121, 101, 115]⟩, .int .i64 0]) ∧ Kp No W9 w') := Hid_mk hF
  have HK := Hid_mk (HK.out.trans' hk9)
  clear hF hargs hW9 hk9 hz9
  with_reducible refine HF.out.mono ?_
  rintro e w10 ⟨rfl, hk1⟩
  have HK := Hid_mk (HK.out.trans' hk1)
  clear hk1 HF
  go_wp2
  go_ret
  exact ⟨rfl, HK.out⟩

end Go.Proofs.YtannbdbhkhmppaaGreatDoor.pf
