/- SplitParas: the law's walk, over what is asked of the project's Splitter. -/
import Derived.Test.YtpmmjihkgfmbhaaSplitAll
import Derived.Test.YtpmmjihkgfmbhaaSplitKnown0
import Derived.Test.YtpmmjihkgfmbhaaBytesOf
import Derived.Test.YtpmmjihkgfmbhaaTxOps
import Derived.StillTailTactics
namespace Go.Proofs.Ytpmmjihkgfmbhaa.spl
open Go.RowKit Go.Maps Go.Proofs.Ytpmmjihkgfmbhaa.sum Go.Proofs.Ytpmmjihkgfmbhaa.kept Go.Proofs.Ytpmmjihkgfmbhaa.app Go.Proofs.Ytpmmjihkgfmbhaa.writer Go.Proofs.Ytpmmjihkgfmbhaa.clone Go.Proofs.Ytpmmjihkgfmbhaa.known Go.Proofs.Ytpmmjihkgfmbhaa.unseal Go.Proofs.Ytpmmjihkgfmbhaa.snp
set_option linter.unusedVariables false

theorem noTwo_at : ∀ (x : List UInt8) (k : Nat), noTwo x = true → k + 1 < x.length → x.getD k 0 = 10 → x.getD (k + 1) 0 ≠ 10
  | [], k, _, h, _ => by simp at h
  | [a], k, _, h, _ => by simp at h
  | a :: b :: r, 0, h, _, e => by
    have h' : (!(a == 10 && b == 10) && noTwo (b :: r)) = true := h
    simp only [Bool.and_eq_true] at h'
    have e' : a = 10 := e
    intro e2
    have e2' : b = 10 := e2
    rw [e', e2'] at h'
    simp at h'
  | a :: b :: r, k + 1, h, hl, e => by
    have h' : (!(a == 10 && b == 10) && noTwo (b :: r)) = true := h
    simp only [Bool.and_eq_true] at h'
    exact noTwo_at (b :: r) k h'.2 (by simpa using hl) e
theorem para_at {x : List UInt8} (h : ParaB x) : 0 < x.length ∧ x.getD 0 0 ≠ 10 ∧ x.getD (x.length - 1) 0 ≠ 10 ∧ ∀ k, k < x.length → x.getD k 0 = 10 → k + 1 < x.length ∧ x.getD (k + 1) 0 ≠ 10 := by
  obtain ⟨h1, h2, h3, h4⟩ := h
  have hp := List.length_pos_iff.2 h1
  have hl : x.getD (x.length - 1) 0 ≠ 10 := by
    intro e
    apply h3
    rw [List.getLast?_eq_getElem?, List.getElem?_eq_getElem (by omega)]
    rw [← e]
    simp [List.getD, show x.length - 1 < x.length by omega]
  refine ⟨hp, ?_, hl, fun k hk e => ?_⟩
  · intro e
    apply h2
    cases x with
    | nil => exact absurd rfl h1
    | cons a r => have : a = 10 := e; rw [this]; rfl
  · have : k + 1 < x.length := by
      rcases Nat.lt_or_ge (k + 1) x.length with h | h
      · exact h
      · have : k = x.length - 1 := by omega
        rw [this] at e
        exact absurd e hl
    exact ⟨this, noTwo_at x k h4 this e⟩
theorem take1_drop {x : List UInt8} {k : Nat} (h : k < x.length) : (x.drop k).take 1 = [x.getD k 0] := by
  rw [List.drop_eq_getElem_cons h]
  show [x[k]] = _
  simp [List.getD, h]
theorem text10_take {x : List UInt8} {k : Nat} (h : k < x.length) : text10 (x.take (k + 1)) = text10 (x.take k) ++ (if x.getD k 0 = 10 then [] else [x.getD k 0]) := by
  rw [take_snoc h, text10_append]
  congr 1
  generalize x.getD k 0 = y
  by_cases e : y = 10
  · rw [if_pos e]; simp [text10, e]
  · rw [if_neg e]; simp [text10, e]
theorem text10_len (x : List UInt8) : (text10 x).length ≤ x.length := List.length_filter_le _ _
theorem take_flat {R : List (List UInt8)} {i : Nat} (h : i < R.length) : (R.take (i + 1)).flatten = (R.take i).flatten ++ R[i] := by
  rw [List.take_succ_eq_append_getElem h, List.flatten_append]
  simp
theorem flat_le {R : List (List UInt8)} {i n : Nat} (h : i < R.length) (hn : (text10 R.flatten).length ≤ n) (k : Nat) : (text10 (R.take i).flatten ++ text10 (R[i].take k)).length ≤ n := by
  have e : R.flatten = (R.take i).flatten ++ (R[i].take k ++ (R[i].drop k ++ (R.drop (i + 1)).flatten)) := by
    rw [← List.append_assoc (R[i].take k), List.take_append_drop, ← List.append_assoc, ← take_flat h, ← List.flatten_append, List.take_append_drop]
  rw [e, text10_append, text10_append] at hn
  simp only [List.length_append] at hn ⊢
  omega

theorem eatS_small {m : Nat} {rs : List UInt8} : ∀ (b : List UInt8) (s : SpS), OkS m s → (∀ x ∈ (eatS m rs b s).1, x.length ≤ m) ∧ OkS m (eatS m rs b s).2
  | [], s, h => ⟨(fun x hx => by cases hx), h⟩
  | b :: r, s, h => by
    have hk := lookS_ok h rs b
    rw [eatS_cons]
    split
    · obtain ⟨g1, g2⟩ := eatS_small r (endS (lookS m rs s b).2) (endS_ok m _)
      refine ⟨fun x hx => ?_, g2⟩
      rcases List.mem_cons.1 hx with rfl | hx
      · exact hk
      · exact g1 x hx
    · exact eatS_small r _ hk
theorem recsS_small {m : Nat} {rs b : List UInt8} : ∀ x ∈ recsS m rs b, x.length ≤ m := by
  obtain ⟨g1, g2⟩ := eatS_small (m := m) (rs := rs) b zeroS (Nat.zero_le _)
  intro x hx
  unfold recsS at hx
  rcases List.mem_append.1 hx with hx | hx
  · exact g1 x hx
  · unfold tailS at hx
    split at hx
    · cases hx
    · rw [List.mem_singleton.1 hx]; exact g2

/-- the records so far -/
def PgRel (w : World) (R : List (List UInt8)) (got iv : Value) (wr : World) : Prop := ∃ k : Nat, k ≤ R.length ∧ iv = .int .i64 (k : Int) ∧ got = .string (tx (text10 (R.take k).flatten)) ∧ Kp No w wr
def PkRel (w : World) (pre x : List UInt8) (got kv : Value) (wr : World) : Prop := ∃ k : Nat, k ≤ x.length ∧ kv = .int .i64 (k : Int) ∧ got = .string (tx (pre ++ text10 (x.take k))) ∧ Kp No w wr
def PwRel (w : World) (x : List UInt8) (got kv : Value) (wr : World) : Prop := ∃ k : Nat, k ≤ x.length ∧ kv = .int .i64 (k : Int) ∧ got = .string (tx (text10 (x.take k))) ∧ Kp No w wr

set_option maxRecDepth 100000 in
set_option maxHeartbeats 8000000 in
theorem splitParas_any {Sp : SpT} (C : SplitC Sp) (w : World) (vb : Value) (bs : List UInt8) (hb : Bs w vb bs) (hl : bs.length ≤ 140737488355328) :
    Calls Try.prog 5 #[vb] w fun e w' => e = .returned (.bool true) ∧ Kp No w w' := by
  obtain ⟨ab, cb, rfl, b1, b2, -⟩ := id hb
  unfold maxLen at b2
  obtain ⟨bt, hbte⟩ : ∃ bt, bs.take (min bs.length 200) = bt := ⟨_, rfl⟩
  have hbtl : bt.length = min bs.length 200 := by rw [← hbte, List.length_take]; omega
  have hbt := bs_take hb (min bs.length 200) (Nat.min_le_left _ _)
  rw [hbte, ← hbtl] at hbt
  have HBy := bytes_any w _ bt hbt (by omega)
  obtain ⟨L, hL⟩ : ∃ L, bt.length = L := ⟨_, rfl⟩
  obtain ⟨kb, hkb⟩ : ∃ kb, kindsOf bt = kb := ⟨_, rfl⟩
  have hkl : kb.length = L := by rw [← hkb, ← hL]; simp [kindsOf]
  have hL2 : L ≤ 200 := by omega
  have hLc : L ≤ cb := by omega
  rw [hL, hkb] at HBy
  have HKl := Hid_mk hkl
  have hR := paras_recs (m := 200) (b := kb) (by omega)
  obtain ⟨R, hRe⟩ : ∃ R, recsS 200 [] kb = R := ⟨_, rfl⟩
  rw [hRe] at hR
  have HR := Hid_mk hR
  have hRs : ∀ x ∈ R, x.length ≤ 200 := by rw [← hRe]; exact recsS_small
  have HRs := Hid_mk hRs
  have HRe := Hid_mk hRe
  have HAl := Hid_mk fun W (hb : Bs W (.slice (some ⟨w.heap.size, 0, none⟩) L L) kb) => all_any C W 200 (by omega) (by omega) _ (.slice none 0 0) kb [] [] hb (⟨none, 0, rfl, Nat.le_refl _, by decide, fun h => absurd rfl h⟩ : Cu W (.slice none 0 0) []) (by omega) (by simp) (by unfold maxLen; simp)
  simp only [show tx [] = ⟨#[]⟩ from rfl, show ((200 : Nat) : Int) = 200 from rfl, hRe] at HAl
  have HBy' := Hid_mk HBy
  have hsel : (bs.length ≤ 200 ∧ L = bs.length) ∨ (¬ bs.length ≤ 200 ∧ L = 200) := by omega
  clear hb hbt hbte hbtl hL hR hRe hkb hkl HBy hRs
  rcases hsel with ⟨h3, e3⟩ | ⟨h3, e3⟩
  all_goals
    have h3i : (200 : Int) < (bs.length : Int) ∨ (bs.length : Int) ≤ 200 := by omega
    go_enter Try.func5, Try.ntmps5
    go_wp2_with fail
    rw [← e3]
    clear e3 h3 hl h3i
    with_reducible refine HBy'.out.mono ?_
    rintro e w1 ⟨rfl, hb1, hk1⟩
    have HB1 := Hid_mk hb1
    have HK1 := Hid_mk hk1
    clear hb1 hk1 HBy'
    go_wp2_with fail
    with_reducible refine (HAl.out w1 HB1.out).mono ?_
    rintro e w2 ⟨vx, rfl, hrow, hk2⟩
    have HB2 := Hid_mk (bs_no HB1.out hk2)
    have HK2 := Hid_mk (HK1.out.trans' hk2)
    have HRow := Hid_mk (TRow.tr hrow)
    have hvx : ∃ a c, vx = .slice a R.length c ∧ R.length ≤ c ∧ c ≤ 9223372036854775807 := by
      obtain ⟨a, cc, e, h1, h2, -⟩ := TRow.tr hrow
      exact ⟨a, cc, e, h1, h2⟩
    obtain ⟨ax, cx, rfl, x1, x2⟩ := hvx
    have HKn := Hid_mk (splitknown_any C w2)
    clear hrow hk2 HAl HB1 HK1
    go_wp2_with fail
    with_reducible refine HKn.out.mono ?_
    rintro e w3 ⟨rfl, hk3⟩
    have HB3 := Hid_mk (bs_no HB2.out hk3)
    have HK3 := Hid_mk (HK2.out.trans' hk3)
    have HRw := Hid_mk (HRow.out.no hk3)
    clear hk3 HKn HB2 HK2 HRow
    go_wp2
    go_loopw [5, 6] (fun got iv wr => PgRel w3 R got iv wr) (fun _ iv _ => R.length - (intOf iv).toNat)
    case atStart => exact ⟨0, Nat.zero_le _, rfl, rfl, Kp.refl _ _⟩
    case round =>
      obtain ⟨i, hi, rfl, rfl, hkp⟩ := hrel
      have HKp := Hid_mk hkp
      have hi0 : (0 : Int) ≤ (i : Int) := Int.natCast_nonneg _
      clear hkp
      by_cases hlt : i < R.length
      · obtain ⟨a9, c9, e9, -, -, h9⟩ := HRw.out
        simp only [Value.slice.injEq] at e9
        obtain ⟨gx, eg, hcx⟩ := h9 (by intro e; rw [e] at hlt; simp at hlt)
        rw [eg] at e9
        obtain ⟨rfl, -, rfl⟩ := e9
        have hci := HKp.out.cell' (hcx i hlt) id
        obtain ⟨x, hx⟩ : ∃ x, R[i] = x := ⟨_, rfl⟩
        have hpx := para_at (hx ▸ HR.out.1 R[i] (List.getElem_mem hlt))
        rw [hx] at hci
        obtain ⟨p1, p2, p3, p4⟩ := hpx
        have HX := Hid_mk hx
        have HP4 := Hid_mk p4
        have hx1 := (tx_cons x (List.length_pos_iff.1 p1)).1
        have hx2 := (tx_cons x (List.length_pos_iff.1 p1)).2
        have hx3 := tx_size x
        have hxl : x.length ≤ 200 := hx ▸ HRs.out R[i] (List.getElem_mem hlt)
        obtain ⟨n1, hn1⟩ : ∃ n1 : Nat, n1 = x.length - 1 := ⟨_, rfl⟩
        obtain ⟨y0, hy0⟩ : ∃ y0, (x.getD 0 0).toNat = y0 := ⟨_, rfl⟩
        obtain ⟨y1, hy1⟩ : ∃ y1, (x.getD n1 0).toNat = y1 := ⟨_, rfl⟩
        have hx4 := fun h => (tx_get x 0 h).trans hy0
        have hx5 := fun h => (tx_get x n1 h).trans hy1
        have q0 : ¬ (y0 : Int) = 10 := by rw [← hy0]; exact fun e => p2 (UInt8.toNat_inj.1 (by show _ = 10; omega))
        have q1 : ¬ (y1 : Int) = 10 := by rw [← hy1, hn1]; exact fun e => p3 (UInt8.toNat_inj.1 (by show _ = 10; omega))
        have q0' : ((y0 : Int) == 10) = false := by simp [q0]
        have q1' : ((y1 : Int) == 10) = false := by simp [q1]
        have hii : (i : Int) < (R.length : Int) := by omega
        have hn : (0 : Int) < (x.length : Int) := by omega
        have hwn : IntKind.i64.wrap ((x.length : Int) - 1) = (n1 : Int) := by rw [IntWalk.i64_in _ (by omega)]; omega
        have hn10 : (0 : Int) ≤ (n1 : Int) := Int.natCast_nonneg _
        have hn1x : (n1 : Int) < (x.length : Int) := by omega
        have hn1n : n1 < x.length := by omega
        clear hy0 hy1 hn1 p2 p3
        clear hcx h9 hx p4
        go_wp2_with fail
        go_region_held3 (fun V => V.cell? ⟨gx, i, none⟩ = some (.string (tx x))) (first | exact hci | go_keep) (fail)
        obtain ⟨wd, hwd⟩ : ∃ wd, wr.drew = wd := ⟨_, rfl⟩
        rw [hwd]
        have hcd : wd.cell? ⟨gx, i, none⟩ = some (.string (tx x)) := by rw [← hwd]; exact hci
        have HKd : Hid (Kp No wr wd) := Hid_mk (by rw [← hwd]; exact (Kp.refl No wr).drew)
        obtain ⟨pre, hpre⟩ : ∃ pre, text10 (R.take i).flatten = pre := ⟨_, rfl⟩
        rw [hpre]
        have hfl : ∀ k, (pre ++ text10 (x.take k)).length ≤ 200 := fun k => by
          have := flat_le hlt (n := 200) (by rw [HR.out.2]; exact Nat.le_trans (text10_len _) (by rw [HKl.out]; exact hL2)) k
          rw [HX.out, hpre] at this
          exact this
        have hst : text10 (R.take (i + 1)).flatten = pre ++ text10 x := by rw [take_flat hlt, text10_append, hpre, HX.out]
        have HSt := Hid_mk hst
        have HFl := Hid_mk hfl
        have HKd3 := Hid_mk (HKp.out.trans' HKd.out)
        have HLt := Hid_mk hlt
        have HCi := Hid_mk hcd
        clear hx4 hx5 q0 q1 q0' q1' hwn hn10 hn1x hn1n hx1 hx2 hx3 hwd hci hcd hpre hfl hst HX HKd HKp hlt
        go_wp2
        go_hide hQ
        go_loopw [5, 7] (fun got kv wr => PkRel wd pre x got kv wr) (fun _ kv _ => x.length - (intOf kv).toNat)
        case atStart => exact ⟨0, Nat.zero_le _, rfl, by simp [text10], Kp.refl _ _⟩
        case round =>
          obtain ⟨k, hk, rfl, rfl, hkp2⟩ := hrel
          have HKp2 := Hid_mk hkp2
          have hk0 : (0 : Int) ≤ (k : Int) := Int.natCast_nonneg _
          have hcx := hkp2.cell' HCi.out id
          have hxs := tx_size x
          clear hkp2
          by_cases hkl : k < x.length
          · obtain ⟨y, hy⟩ : ∃ y, x.getD k 0 = y := ⟨_, rfl⟩
            obtain ⟨yn, hyn⟩ : ∃ yn, y.toNat = yn := ⟨_, rfl⟩
            have hyg := fun h => (tx_get x k h).trans ((congrArg UInt8.toNat hy).trans hyn)
            have hki : (k : Int) < (x.length : Int) := by omega
            have hwk : IntKind.i64.wrap ((k : Int) + 1) = (k : Int) + 1 := IntWalk.i64_in _ (by omega)
            have hnext := text10_take (x := x) hkl
            rw [hy] at hnext
            have HLk := Hid_mk hkl
            by_cases h10 : y = 10
            · rw [if_pos h10, List.append_nil] at hnext
              obtain ⟨s1, s2⟩ := HP4.out k hkl (hy.trans h10)
              obtain ⟨z, hz⟩ : ∃ z, (x.getD (k + 1) 0).toNat = z := ⟨_, rfl⟩
              have hz10 : ¬ (z : Int) = 10 := by rw [← hz]; exact fun e => s2 (UInt8.toNat_inj.1 (by show _ = 10; omega))
              have hzg := fun h => (tx_get x (k + 1) h).trans hz
              have hy10 : (yn : Int) = 10 := by rw [← hyn, h10]; rfl
              have hkk : (k : Int) + 1 < (x.length : Int) := by omega
              have hkt : ((k : Int) + 1).toNat = k + 1 := by omega
              have hz0 : ((z : Int) == 10) = false := by simp [hz10]
              have HNx := Hid_mk hnext
              clear hy hyn hz h10 s2 hnext
              go_wp2
              go_roundw
              case rel => exact ⟨k + 1, by have := HLk.out; omega, by push_cast; rfl, by rw [HNx.out], HKp2.out⟩
              case measure => have := HLk.out; simp only [intOf]; omega
            · rw [if_neg h10] at hnext
              have hy10 : ¬ (yn : Int) = 10 := by rw [← hyn]; exact fun e => h10 (UInt8.toNat_inj.1 (by show _ = 10; omega))
              have hpc := fun W => tx_piece x k (k + 1) (by omega) (by omega) W
              have e1 : (x.drop k).take (k + 1 - k) = [y] := by
                rw [show k + 1 - k = 1 by omega, ← hy]
                exact take1_drop hkl
              rw [e1] at hpc
              push_cast at hpc
              have hlen := HFl.out (k + 1)
              rw [hnext] at hlen
              have had := fun W => tx_add (pre ++ text10 (x.take k)) [y] (by simp only [List.length_append, List.length_singleton] at hlen ⊢; omega) W
              have HNx := Hid_mk hnext
              clear hy hyn h10 hnext e1 hlen
              go_wp2
              go_roundw
              case rel => exact ⟨k + 1, by have := HLk.out; omega, by push_cast; rfl, by rw [HNx.out], HKp2.out⟩
              case measure => have := HLk.out; simp only [intOf]; omega
          · have hki : ¬ (k : Int) < (x.length : Int) := by omega
            have hkx : x.take k = x := List.take_of_length_le (by omega)
            rw [hkx, ← HSt.out]
            have HK9 := Hid_mk (HKd3.out.trans' HKp2.out)
            clear hkx
            go_wp2
            subst hQ
            go_wp2
            go_roundw
            case rel => exact ⟨i + 1, HLt.out, by push_cast; rfl, rfl, HK9.out⟩
            case measure => have := HLt.out; simp only [intOf]; omega
      · have hii : ¬ (i : Int) < (R.length : Int) := by omega
        have hiR : i = R.length := by omega
        have hget : text10 (R.take i).flatten = text10 kb := by rw [hiR, List.take_length]; exact HR.out.2
        rw [hget]
        have HK4 := Hid_mk (HK3.out.trans' HKp.out)
        have HB4 := Hid_mk (bs_no HB3.out HKp.out)
        clear hget hlt hiR hi HRw
        go_wp2
        go_loopw [8, 9] (fun got kv wr2 => PwRel wr kb got kv wr2) (fun _ kv _ => L - (intOf kv).toNat)
        case atStart => exact ⟨0, Nat.zero_le _, rfl, rfl, Kp.refl _ _⟩
        case round =>
          obtain ⟨k, hk, rfl, rfl, hkp2⟩ := hrel
          have HKp2 := Hid_mk hkp2
          have hk0 : (0 : Int) ≤ (k : Int) := Int.natCast_nonneg _
          rw [HKl.out] at hk
          by_cases hkl : k < L
          · have hkl' : k < kb.length := by rw [HKl.out]; exact hkl
            have hbb := bs_no HB4.out hkp2
            obtain ⟨a2, c2, e2, -, -, h4⟩ := id hbb
            obtain ⟨b2, o2, e3, hcell⟩ := h4 (by intro e; rw [e] at hkl'; simp at hkl')
            simp only [Value.slice.injEq] at e2
            rw [← e2.1] at e3
            cases e3
            have hck := hcell k hkl'
            simp only [Nat.zero_add, B] at hck
            obtain ⟨y, hy⟩ : ∃ y, kb.getD k 0 = y := ⟨_, rfl⟩
            rw [hy] at hck
            have hki : (k : Int) < (L : Int) := by omega
            have hwk : IntKind.i64.wrap ((k : Int) + 1) = (k : Int) + 1 := IntWalk.i64_in _ (by omega)
            have hnext := text10_take (x := kb) hkl'
            rw [hy] at hnext
            have HLk := Hid_mk hkl
            by_cases h10 : y = 10
            · rw [if_pos h10, List.append_nil] at hnext
              have hy10 : (y.toNat : Int) = 10 := by rw [h10]; rfl
              have HNx := Hid_mk hnext
              clear hy h10 hnext hcell h4 e2 hbb hkp2 hkl'
              go_wp2
              go_roundw
              case rel => exact ⟨k + 1, by rw [HKl.out]; exact HLk.out, by push_cast; rfl, by rw [HNx.out], HKp2.out⟩
              case measure => have := HLk.out; simp only [intOf]; omega
            · rw [if_neg h10] at hnext
              have hy10 : ¬ (y.toNat : Int) = 10 := fun e => h10 (UInt8.toNat_inj.1 (by show _ = 10; omega))
              have hlen : (text10 (kb.take (k + 1))).length ≤ 200 := Nat.le_trans (text10_len _) (by rw [List.length_take]; omega)
              rw [hnext] at hlen
              have had := fun W => tx_add (text10 (kb.take k)) [y] (by simp only [List.length_append, List.length_singleton] at hlen ⊢; omega) W
              have hsb := bs_take (bs_drop hbb k (by omega) (some ⟨w.heap.size, 0 + k, none⟩) fun _ => rfl) 1 (by omega)
              have e1 : (kb.drop k).take 1 = [y] := by rw [← hy]; exact take1_drop hkl'
              rw [e1] at hsb
              have hcv := conv_tx hsb
              simp only [Nat.zero_add] at hcv
              have hkc : ¬ k = L := by omega
              have HNx := Hid_mk hnext
              clear hy h10 hnext hlen hcell h4 e2 hbb hkp2 hkl' hsb e1
              go_wp2
              go_roundw
              case rel => exact ⟨k + 1, by rw [HKl.out]; exact HLk.out, by push_cast; rfl, by rw [HNx.out], HKp2.out⟩
              case measure => have := HLk.out; simp only [intOf]; omega
          · have hki : ¬ (k : Int) < (L : Int) := by omega
            have hkx : kb.take k = kb := List.take_of_length_le (by rw [HKl.out]; omega)
            rw [hkx]
            have HK9 := Hid_mk (HK4.out.trans' HKp2.out)
            clear hkx hkp2
            go_wp2
            go_ret
            exact ⟨rfl, HK9.out⟩

end Go.Proofs.Ytpmmjihkgfmbhaa.spl
