/- PackNear: the law's walk. -/
import Derived.Test.YtaghpjlodlbmjaaReads
import Derived.Test.YtaghpjlodlbmjaaLaid
import Derived.Test.YtaghpjlodlbmjaaRefLay
import Derived.Deep.AppendLies
namespace Go.Proofs.Ytaghpjlodlbmjaa.near
open Go.RowKit Go.Proofs.Ytaghpjlodlbmjaa.sum Go.Proofs.Ytaghpjlodlbmjaa.kept Go.Proofs.Ytaghpjlodlbmjaa.app Go.Proofs.Ytaghpjlodlbmjaa.writer Go.Proofs.Ytaghpjlodlbmjaa.clone Go.Proofs.Ytaghpjlodlbmjaa.known Go.Proofs.Ytaghpjlodlbmjaa.unseal Go.Proofs.Ytaghpjlodlbmjaa.number Go.Proofs.Ytaghpjlodlbmjaa.words Go.Proofs.Ytaghpjlodlbmjaa.turned Go.Proofs.Ytaghpjlodlbmjaa.laid Go.Proofs.Ytaghpjlodlbmjaa.reads
set_option linter.unusedVariables false

theorem infoAsk : (Try.prog.info? 64).map (fun i => (i.zero, i.size, i.bytes)) = some (some (.agg #[.int .i64 0, .int .u8 0, .int .u64 0, .int .i64 0]), 4, 32) := by kernel_rfl

theorem new2 (w : World) (o1 o2 : Obj) : ((w.alloc o1).alloc o2).heap[w.heap.size + 1]? = some o2 := by
  have h := heap_alloc_new (w.alloc o1) o2
  have e : (w.alloc o1).heap.size = w.heap.size + 1 := by simp
  rwa [e] at h

def askCells (d : AskD) : List Value := [.int .i64 d.what, .int .u8 (d.b.toNat : Int), .int .u64 (d.n : Int), .int .i64 d.t]

theorem flat_get {α : Type} (f : α → List Value) (m : Nat) (hf : ∀ x, (f x).length = m) : ∀ (L : List α) (k : Nat) (hk : k < L.length) (i : Nat) (hi : i < m), (L.flatMap f)[k * m + i]? = (f L[k])[i]?
  | [], k, hk, _, _ => by simp at hk
  | x :: L, 0, _, i, hi => by
    rw [List.flatMap_cons, List.getElem?_append_left (by rw [hf]; omega)]
    simp
  | x :: L, k + 1, hk, i, hi => by
    have ih := flat_get f m hf L k (by simpa using hk) i hi
    rw [List.flatMap_cons, List.getElem?_append_right (by rw [hf, Nat.add_mul]; omega), hf, show (k + 1) * m + i - m = k * m + i by rw [Nat.add_mul]; omega, ih]
    simp

theorem owns_asks {w : World} {base : Nat} {v : Value} {L : List AskD} (h : w.ownsRow base 64 4 v L.length (L.flatMap askCells)) : Asks w v L := by
  rcases h.2 with ⟨rfl, h0⟩ | ⟨g, cap, cur, rfl, hb, hg, r1, r2, r3, r4⟩
  · have : L = [] := List.eq_nil_of_length_eq_zero h0
    subst this
    exact ⟨none, 0, rfl, Nat.le_refl _, Nat.zero_le _, fun h => absurd rfl h⟩
  · refine ⟨_, cap, rfl, r1, r2, fun _ => ⟨g, 0, rfl, fun k hk => ?_⟩⟩
    have hc : ∀ i u, i < 4 → (askCells L[k])[i]? = some u → w.cell? ⟨g, 0 + (k * 4 + i), none⟩ = some u := by
      intro i u hi hu
      have := h.cells (g := g) rfl (k * 4 + i) u (by rw [flat_get askCells 4 (fun _ => rfl) L k hk i hi]; exact hu)
      rwa [addr_add] at this
    have e0 := hc 0 _ (by omega) rfl
    have e1 := hc 1 _ (by omega) rfl
    have e2 := hc 2 _ (by omega) rfl
    have e3 := hc 3 _ (by omega) rfl
    simp only [← Nat.add_assoc, Nat.add_zero] at e0 e1 e2 e3
    exact ⟨e0, e1, e2, e3⟩

/-- the k-th thing that is asked for -/
def askAt (ls : List LayD) (how : List AskD) (k : Nat) : AskD :=
  let what := (ls[k]?.map (·.what)).getD 0 % 4
  match how[k]? with
  | some h => if h.what.tmod 3 = 0 then ⟨what, h.b, h.n, h.t⟩ else ⟨what, 255, 18446744073709551615, 1048576⟩
  | none => ⟨what, 255, 18446744073709551615, 1048576⟩
def asksOf (ls : List LayD) (how : List AskD) (k : Nat) : List AskD := (List.range k).map (askAt ls how)
theorem asksOf_len (ls : List LayD) (how : List AskD) (k : Nat) : (asksOf ls how k).length = k := by simp [asksOf]
theorem asksOf_succ (ls : List LayD) (how : List AskD) (k : Nat) : asksOf ls how (k + 1) = asksOf ls how k ++ [askAt ls how k] := by simp [asksOf, List.range_succ]
theorem askAt_ok {ls : List LayD} {how : List AskD} (h : ∀ d ∈ how, d.ok) (k : Nat) : (askAt ls how k).ok := by
  have hdef : (⟨(ls[k]?.map (·.what)).getD 0 % 4, 255, 18446744073709551615, 1048576⟩ : AskD).ok := ⟨by rw [u64_eq]; show (18446744073709551615 : Nat) < _; omega, by show (1048576 : Int) < _; omega⟩
  unfold askAt
  split
  · rename_i d hd
    split
    · exact h d (List.mem_of_getElem? hd)
    · exact hdef
  · exact hdef

def NRel (w2 : World) (ls : List LayD) (how : List AskD) (asks i : Value) (wr : World) : Prop :=
  ∃ k, k ≤ ls.length ∧ i = .int .i64 ((k : Nat) : Int) ∧ wr.ownsRow w2.heap.size 64 4 asks k ((asksOf ls how k).flatMap askCells) ∧ Kp No w2 wr

theorem NRel.next {w2 wr w3 : World} {ls : List LayD} {how : List AskD} {k : Nat} {va v : Value} {news : List Value} {o1 o2 : Obj} (hlt : k < ls.length) (hn : askCells (askAt ls how k) = news)
    (hown : wr.ownsRow w2.heap.size 64 4 va k ((asksOf ls how k).flatMap askCells)) (hk : Kp No w2 wr)
    (ho : w3.ownsRow w2.heap.size 64 4 v (k + 1) ((asksOf ls how k).flatMap askCells ++ news)) (hg : ((wr.alloc o1).alloc o2).grownBy w3 va.ownBlock) : NRel w2 ls how v (.int .i64 ((k + 1 : Nat) : Int)) w3 := by
  refine ⟨k + 1, hlt, rfl, by rw [asksOf_succ, List.flatMap_append]; simpa [hn] using ho, ((hk.alloc _).alloc _).grown hg fun i hi e => ?_⟩
  have := (hown.lt i e).1
  omega

set_option maxRecDepth 100000 in
set_option maxHeartbeats 8000000 in
theorem near_any (w : World) (v vh : Value) (ls : List LayD) (how : List AskD) (at_ : Int) (to : UInt8) (h : Lays w v ls) (hok : ∀ d ∈ ls, d.ok) (hroom : roomOf ls < 140737488355328) (hh : Asks w vh how) (hhok : ∀ d ∈ how, d.ok) (hlen : ls.length ≤ 1000000000000) :
    Calls Try.prog 9 #[v, .int .i64 at_, .int .u8 (to.toNat : Int), vh] w fun e w' => e = .returned (.bool true) ∧ Kp No w w' := by
  obtain ⟨i0, hi, hz0, hz1, hz2⟩ := info_parts infoAsk
  have H := Hid_mk h
  have HH := Hid_mk hh
  have HOk := Hid_mk hok
  have HHOk := Hid_mk hhok
  have HRoom := Hid_mk hroom
  obtain ⟨a, cap, rfl, hl, hm, -⟩ := h
  obtain ⟨ah, caph, rfl, hlh, hmh, -⟩ := hh
  have HL := Hid_mk (layAll_len ls hok)
  clear hok hroom hhok
  unfold maxLen at hm hmh
  by_cases hn : layAll ls = []
  · go_enter Try.func9, Try.ntmps9
    go_wp2_with fail
    refine (laid_any w _ ls H.out HOk.out HRoom.out).mono ?_
    rintro e w2 ⟨v1, rfl, ho, hk2⟩
    rw [hn] at ho
    have hb := owns_bs (bs := []) ho
    obtain ⟨ab, capb, rfl, -, -, -⟩ := id hb
    have HB2 : Hid (∃ bs2, Bs w2 (.slice ab 0 capb) bs2 ∧ bs2.length ≤ 140737488355328) := Hid_mk ⟨[], hb, by simp⟩
    have HK2 := Hid_mk hk2
    clear ho hk2 hb hn
    go_wp2
    go_loopw [10, 11] (fun asks i wr => NRel w2 ls how asks i wr) (fun _ i _ => ls.length - (intOf i).toNat)
    case atStart => exact ⟨0, Nat.zero_le _, rfl, World.ownsRow_nil _ _ _ _, Kp.refl _ _⟩
    case round =>
      obtain ⟨k, hk, rfl, ho, hk2⟩ := hrel
      have HO := Hid_mk ho
      have HKK2 := Hid_mk hk2
      have HKW := Hid_mk (HK2.out.trans' hk2)
      have hlays := lays_kept H.out HKW.out fun _ _ _ _ _ => id
      have hasks := asks_kept HH.out HKW.out fun _ _ _ _ _ => id
      have hw2s := hk2.size
      clear ho hk2
      by_cases hlt : k < ls.length
      · obtain ⟨_, _, e, -, -, hc⟩ := hlays
        simp only [Value.slice.injEq] at e
        obtain ⟨rfl, -, rfl⟩ := e
        obtain ⟨b, o, rfl, hcell⟩ := hc (by intro e; subst e; simp at hlt)
        have c0 := (hcell k hlt).1
        have hki : (k : Int) < (ls.length : Int) := by omega
        have hwhat : (ls[k]?.map (·.what)).getD 0 % 4 = ls[k].what % 4 := by simp [hlt]
        generalize hd : ls[k].what = wh at *
        have hp := pick_any wh 4 (by omega) (by omega)
        have HP := fun w => Hid_mk (hp w)
        generalize hwm : wh % 4 = wm at *
        have HWhat := Hid_mk hwhat
        clear hcell hc hp hd hwhat
        by_cases hih : k < how.length
        · obtain ⟨_, _, e, -, -, hc⟩ := hasks
          simp only [Value.slice.injEq] at e
          obtain ⟨rfl, -, rfl⟩ := e
          obtain ⟨bh, oh, rfl, hcell⟩ := hc (by intro e; subst e; simp at hih)
          obtain ⟨d0, d1, d2, d3⟩ := hcell k hih
          have hkj : (k : Int) < (how.length : Int) := by omega
          have hget : how[k]? = some how[k] := by simp [hih]
          have hbh := World.block_lt_of_cell? wr _ d0
          simp only at hbh
          generalize hd : how[k] = d at *
          have HGet := Hid_mk hget
          clear hcell hc hd hget
          go_wp2_with fail
          refine (HP _).out.mono ?_
          rintro e w' ⟨rfl, rfl⟩
          by_cases h3 : d.what.tmod 3 = 0
          · have HN3 : Hid (askCells (askAt ls how k) = [.int .i64 wm, .int .u8 (d.b.toNat : Int), .int .u64 (d.n : Int), .int .i64 d.t]) := Hid_mk (by unfold askAt; rw [HGet.out, HWhat.out]; simp only [h3, if_true]; rfl)
            go_wp2_with (at_builtin; (refine wpList_append_own_at _ rfl _ _ 61 rfl w2.heap.size 64 i0 (.agg #[.int .i64 0, .int .u8 0, .int .u64 0, .int .i64 0]) 4 32 Try.underlying61 hi hz0 hz1 hz2 rfl (by decide) _ k _ rfl ((HO.out.alloc _).alloc _) _ 1 1 [.int .i64 wm, .int .u8 (d.b.toNat : Int), .int .u64 (d.n : Int), .int .i64 d.t] rfl rfl (World.news_of_block (cs := List.toArray [.int .i64 wm, .int .u8 (d.b.toNat : Int), .int .u64 (d.n : Int), .int .i64 d.t]) (t := 64) (fr := (0, 0)) (new2 wr _ _)) (by simp [Value.oneCell']) (by unfold maxLen; omega) (by omega) (by simp; omega) ?_; intro v' w3 hown hgrow hnil hat))
            have hfin := NRel.next hlt HN3.out HO.out HKK2.out hown hgrow
            have HF := Hid_mk hfin
            obtain ⟨g9, cap9, rfl, hg9, hg10⟩ := owns_some hown (by omega)
            clear hfin hown hgrow hnil hat
            go_wp2
            go_roundw
            case rel => exact HF.out
            case measure => simp [intOf]; omega
          · have HN3 : Hid (askCells (askAt ls how k) = [.int .i64 wm, .int .u8 255, .int .u64 18446744073709551615, .int .i64 1048576]) := Hid_mk (by unfold askAt; rw [HGet.out, HWhat.out]; simp only [h3, if_false]; rfl)
            go_wp2_with (at_builtin; (refine wpList_append_own_at _ rfl _ _ 61 rfl w2.heap.size 64 i0 (.agg #[.int .i64 0, .int .u8 0, .int .u64 0, .int .i64 0]) 4 32 Try.underlying61 hi hz0 hz1 hz2 rfl (by decide) _ k _ rfl ((HO.out.alloc _).alloc _) _ 1 1 [.int .i64 wm, .int .u8 255, .int .u64 18446744073709551615, .int .i64 1048576] rfl rfl (World.news_of_block (cs := List.toArray [.int .i64 wm, .int .u8 255, .int .u64 18446744073709551615, .int .i64 1048576]) (t := 64) (fr := (0, 0)) (new2 wr _ _)) (by simp [Value.oneCell']) (by unfold maxLen; omega) (by omega) (by simp; omega) ?_; intro v' w3 hown hgrow hnil hat))
            have hfin := NRel.next hlt HN3.out HO.out HKK2.out hown hgrow
            have HF := Hid_mk hfin
            obtain ⟨g9, cap9, rfl, hg9, hg10⟩ := owns_some hown (by omega)
            clear hfin hown hgrow hnil hat
            go_wp2
            go_roundw
            case rel => exact HF.out
            case measure => simp [intOf]; omega
        · have hnone : how[k]? = none := by simp; omega
          have hkj : ¬ (k : Int) < (how.length : Int) := by omega
          have HGet := Hid_mk hnone
          clear hnone hasks
          go_wp2_with fail
          refine (HP _).out.mono ?_
          rintro e w' ⟨rfl, rfl⟩
          have HN3 : Hid (askCells (askAt ls how k) = [.int .i64 wm, .int .u8 255, .int .u64 18446744073709551615, .int .i64 1048576]) := Hid_mk (by unfold askAt; rw [HGet.out, HWhat.out]; rfl)
          go_wp2_with (at_builtin; (refine wpList_append_own_at _ rfl _ _ 61 rfl w2.heap.size 64 i0 (.agg #[.int .i64 0, .int .u8 0, .int .u64 0, .int .i64 0]) 4 32 Try.underlying61 hi hz0 hz1 hz2 rfl (by decide) _ k _ rfl ((HO.out.alloc _).alloc _) _ 1 1 [.int .i64 wm, .int .u8 255, .int .u64 18446744073709551615, .int .i64 1048576] rfl rfl (World.news_of_block (cs := List.toArray [.int .i64 wm, .int .u8 255, .int .u64 18446744073709551615, .int .i64 1048576]) (t := 64) (fr := (0, 0)) (new2 wr _ _)) (by simp [Value.oneCell']) (by unfold maxLen; omega) (by omega) (by simp; omega) ?_; intro v' w3 hown hgrow hnil hat))
          have hfin := NRel.next hlt HN3.out HO.out HKK2.out hown hgrow
          have HF := Hid_mk hfin
          obtain ⟨g9, cap9, rfl, hg9, hg10⟩ := owns_some hown (by omega)
          clear hfin hown hgrow hnil hat
          go_wp2
          go_roundw
          case rel => exact HF.out
          case measure => simp [intOf]; omega
      · have hki : ¬ (k : Int) < (ls.length : Int) := by omega
        clear hlays hasks
        have hA := owns_asks (L := asksOf ls how k) (by rw [asksOf_len]; exact HO.out)
        have hAok : ∀ d ∈ asksOf ls how k, d.ok := by
          intro d hd
          simp only [asksOf, List.mem_map] at hd
          obtain ⟨i, -, rfl⟩ := hd
          exact askAt_ok HHOk.out i
        have HA := Hid_mk hA
        have HAok := Hid_mk hAok
        clear hA hAok
        go_wp2_with fail
        refine (known_any _).mono ?_
        rintro e w4 ⟨rfl, hk4⟩
        have HK4 := Hid_mk hk4
        obtain ⟨bs2, hb2, hl2⟩ := HB2.out
        have hrd := reads_any w4 _ _ bs2 (asksOf ls how k) (bs_no hb2 (HKK2.out.trans' hk4)) hl2 (asks_kept HA.out hk4 fun _ _ _ _ _ => id) HAok.out
        have HRd := Hid_mk hrd
        clear hk4 hb2 hl2 hrd
        go_wp2_with fail
        refine HRd.out.mono ?_
        rintro e w5 ⟨rfl, hk5⟩
        have HK5 := Hid_mk hk5
        clear hk5
        go_wp2
        go_ret
        exact ⟨rfl, (HKW.out.trans' HK4.out).trans' HK5.out⟩
  · have hpos : 0 < (layAll ls).length := List.length_pos_iff.2 hn
    have hbound : (layAll ls).length ≤ 140737488355328 := by have := HL.out; have := HRoom.out; omega
    generalize hbs : layAll ls = bs at *
    have HBound := Hid_mk hbound
    obtain ⟨n, hnn⟩ : ∃ n, bs.length = n := ⟨_, rfl⟩
    have HN := Hid_mk hnn
    have hposI : (0 : Int) < (n : Int) := by omega
    have hmx : n ≤ 140737488355328 := by omega
    obtain ⟨J, hJ⟩ : ∃ J : Nat, at_ % (n : Int) = J := ⟨(at_ % (n : Int)).toNat, by have := Int.emod_nonneg at_ (show (n : Int) ≠ 0 by omega); omega⟩
    have hJl : J < n := by have := Int.emod_lt_of_pos at_ (show (0 : Int) < (n : Int) by omega); omega
    have hp := pick_any at_ (n : Int) (by omega) (by omega)
    rw [hJ] at hp
    have HP := fun w => Hid_mk (hp w)
    have hJi : (J : Int) < (n : Int) := by omega
    clear hp hJ hpos hbound hn
    have hlaid := laid_any w _ ls H.out HOk.out HRoom.out
    rw [hbs] at hlaid
    have HLaid := Hid_mk hlaid
    clear hlaid
    go_enter Try.func9, Try.ntmps9
    go_wp2_with fail
    refine HLaid.out.mono ?_
    rintro e w1 ⟨v1, rfl, ho, hk1⟩
    obtain ⟨g, capb, rfl, hg1, hg2⟩ := owns_some ho (by omega)
    have hb := owns_bs (bs := bs) ho
    rw [hnn] at hb ho ⊢
    have hcell : w1.cell? ⟨g, J, none⟩ = some (.int .u8 ((bs.getD J 0).toNat : Int)) := by
      obtain ⟨_, _, e, _, _, h3⟩ := hb
      simp only [Value.slice.injEq] at e
      obtain ⟨b', o', e2, hc⟩ := h3 (by intro e; rw [e] at hnn; simp at hnn; omega)
      rw [← e.1] at e2
      cases e2
      have := hc J (by omega)
      rwa [Nat.zero_add] at this
    have hwarm : w1.frozen? ⟨g, J, none⟩ = false := by
      rcases ho.2 with ⟨e, _⟩ | ⟨g', cap', cur, e, _, hg, _⟩
      · cases e
      · cases e; simp [World.frozen?, hg]
    have hset := bs_set hb J hJl to
    rw [Nat.zero_add] at hset
    have HSet := Hid_mk hset
    have HK1 := Hid_mk hk1
    clear ho hk1 hb hset hnn
    go_wp2_with fail
    refine (HP _).out.mono ?_
    rintro e w' ⟨rfl, rfl⟩
    go_wp2
    have HK2 : Hid (Kp No w (w1.setCell ⟨g, J, none⟩ (.int .u8 (to.toNat : Int)))) := Hid_mk (HK1.out.setCell (p := ⟨g, J, none⟩) (fun hlt => by simp only at hlt; omega) _)
    have HB2 : Hid (∃ bs2, Bs (w1.setCell ⟨g, J, none⟩ (.int .u8 (to.toNat : Int))) (.slice (some ⟨g, 0, none⟩) n capb) bs2 ∧ bs2.length ≤ 140737488355328) := Hid_mk ⟨_, HSet.out, by rw [List.length_set]; exact HBound.out⟩
    clear HSet hcell hwarm HP
    generalize w1.setCell ⟨g, J, none⟩ (.int .u8 (to.toNat : Int)) = w2 at *
    go_loopw [10, 11] (fun asks i wr => NRel w2 ls how asks i wr) (fun _ i _ => ls.length - (intOf i).toNat)
    case atStart => exact ⟨0, Nat.zero_le _, rfl, World.ownsRow_nil _ _ _ _, Kp.refl _ _⟩
    case round =>
      obtain ⟨k, hk, rfl, ho, hk2⟩ := hrel
      have HO := Hid_mk ho
      have HKK2 := Hid_mk hk2
      have HKW := Hid_mk (HK2.out.trans' hk2)
      have hlays := lays_kept H.out HKW.out fun _ _ _ _ _ => id
      have hasks := asks_kept HH.out HKW.out fun _ _ _ _ _ => id
      have hw2s := hk2.size
      clear ho hk2
      by_cases hlt : k < ls.length
      · obtain ⟨_, _, e, -, -, hc⟩ := hlays
        simp only [Value.slice.injEq] at e
        obtain ⟨rfl, -, rfl⟩ := e
        obtain ⟨b, o, rfl, hcell⟩ := hc (by intro e; subst e; simp at hlt)
        have c0 := (hcell k hlt).1
        have hki : (k : Int) < (ls.length : Int) := by omega
        have hwhat : (ls[k]?.map (·.what)).getD 0 % 4 = ls[k].what % 4 := by simp [hlt]
        generalize hd : ls[k].what = wh at *
        have hp := pick_any wh 4 (by omega) (by omega)
        have HP := fun w => Hid_mk (hp w)
        generalize hwm : wh % 4 = wm at *
        have HWhat := Hid_mk hwhat
        clear hcell hc hp hd hwhat
        by_cases hih : k < how.length
        · obtain ⟨_, _, e, -, -, hc⟩ := hasks
          simp only [Value.slice.injEq] at e
          obtain ⟨rfl, -, rfl⟩ := e
          obtain ⟨bh, oh, rfl, hcell⟩ := hc (by intro e; subst e; simp at hih)
          obtain ⟨d0, d1, d2, d3⟩ := hcell k hih
          have hkj : (k : Int) < (how.length : Int) := by omega
          have hget : how[k]? = some how[k] := by simp [hih]
          have hbh := World.block_lt_of_cell? wr _ d0
          simp only at hbh
          generalize hd : how[k] = d at *
          have HGet := Hid_mk hget
          clear hcell hc hd hget
          go_wp2_with fail
          refine (HP _).out.mono ?_
          rintro e w' ⟨rfl, rfl⟩
          by_cases h3 : d.what.tmod 3 = 0
          · have HN3 : Hid (askCells (askAt ls how k) = [.int .i64 wm, .int .u8 (d.b.toNat : Int), .int .u64 (d.n : Int), .int .i64 d.t]) := Hid_mk (by unfold askAt; rw [HGet.out, HWhat.out]; simp only [h3, if_true]; rfl)
            go_wp2_with (at_builtin; (refine wpList_append_own_at _ rfl _ _ 61 rfl w2.heap.size 64 i0 (.agg #[.int .i64 0, .int .u8 0, .int .u64 0, .int .i64 0]) 4 32 Try.underlying61 hi hz0 hz1 hz2 rfl (by decide) _ k _ rfl ((HO.out.alloc _).alloc _) _ 1 1 [.int .i64 wm, .int .u8 (d.b.toNat : Int), .int .u64 (d.n : Int), .int .i64 d.t] rfl rfl (World.news_of_block (cs := List.toArray [.int .i64 wm, .int .u8 (d.b.toNat : Int), .int .u64 (d.n : Int), .int .i64 d.t]) (t := 64) (fr := (0, 0)) (new2 wr _ _)) (by simp [Value.oneCell']) (by unfold maxLen; omega) (by omega) (by simp; omega) ?_; intro v' w3 hown hgrow hnil hat))
            have hfin := NRel.next hlt HN3.out HO.out HKK2.out hown hgrow
            have HF := Hid_mk hfin
            obtain ⟨g9, cap9, rfl, hg9, hg10⟩ := owns_some hown (by omega)
            clear hfin hown hgrow hnil hat
            go_wp2
            go_roundw
            case rel => exact HF.out
            case measure => simp [intOf]; omega
          · have HN3 : Hid (askCells (askAt ls how k) = [.int .i64 wm, .int .u8 255, .int .u64 18446744073709551615, .int .i64 1048576]) := Hid_mk (by unfold askAt; rw [HGet.out, HWhat.out]; simp only [h3, if_false]; rfl)
            go_wp2_with (at_builtin; (refine wpList_append_own_at _ rfl _ _ 61 rfl w2.heap.size 64 i0 (.agg #[.int .i64 0, .int .u8 0, .int .u64 0, .int .i64 0]) 4 32 Try.underlying61 hi hz0 hz1 hz2 rfl (by decide) _ k _ rfl ((HO.out.alloc _).alloc _) _ 1 1 [.int .i64 wm, .int .u8 255, .int .u64 18446744073709551615, .int .i64 1048576] rfl rfl (World.news_of_block (cs := List.toArray [.int .i64 wm, .int .u8 255, .int .u64 18446744073709551615, .int .i64 1048576]) (t := 64) (fr := (0, 0)) (new2 wr _ _)) (by simp [Value.oneCell']) (by unfold maxLen; omega) (by omega) (by simp; omega) ?_; intro v' w3 hown hgrow hnil hat))
            have hfin := NRel.next hlt HN3.out HO.out HKK2.out hown hgrow
            have HF := Hid_mk hfin
            obtain ⟨g9, cap9, rfl, hg9, hg10⟩ := owns_some hown (by omega)
            clear hfin hown hgrow hnil hat
            go_wp2
            go_roundw
            case rel => exact HF.out
            case measure => simp [intOf]; omega
        · have hnone : how[k]? = none := by simp; omega
          have hkj : ¬ (k : Int) < (how.length : Int) := by omega
          have HGet := Hid_mk hnone
          clear hnone hasks
          go_wp2_with fail
          refine (HP _).out.mono ?_
          rintro e w' ⟨rfl, rfl⟩
          have HN3 : Hid (askCells (askAt ls how k) = [.int .i64 wm, .int .u8 255, .int .u64 18446744073709551615, .int .i64 1048576]) := Hid_mk (by unfold askAt; rw [HGet.out, HWhat.out]; rfl)
          go_wp2_with (at_builtin; (refine wpList_append_own_at _ rfl _ _ 61 rfl w2.heap.size 64 i0 (.agg #[.int .i64 0, .int .u8 0, .int .u64 0, .int .i64 0]) 4 32 Try.underlying61 hi hz0 hz1 hz2 rfl (by decide) _ k _ rfl ((HO.out.alloc _).alloc _) _ 1 1 [.int .i64 wm, .int .u8 255, .int .u64 18446744073709551615, .int .i64 1048576] rfl rfl (World.news_of_block (cs := List.toArray [.int .i64 wm, .int .u8 255, .int .u64 18446744073709551615, .int .i64 1048576]) (t := 64) (fr := (0, 0)) (new2 wr _ _)) (by simp [Value.oneCell']) (by unfold maxLen; omega) (by omega) (by simp; omega) ?_; intro v' w3 hown hgrow hnil hat))
          have hfin := NRel.next hlt HN3.out HO.out HKK2.out hown hgrow
          have HF := Hid_mk hfin
          obtain ⟨g9, cap9, rfl, hg9, hg10⟩ := owns_some hown (by omega)
          clear hfin hown hgrow hnil hat
          go_wp2
          go_roundw
          case rel => exact HF.out
          case measure => simp [intOf]; omega
      · have hki : ¬ (k : Int) < (ls.length : Int) := by omega
        clear hlays hasks
        have hA := owns_asks (L := asksOf ls how k) (by rw [asksOf_len]; exact HO.out)
        have hAok : ∀ d ∈ asksOf ls how k, d.ok := by
          intro d hd
          simp only [asksOf, List.mem_map] at hd
          obtain ⟨i, -, rfl⟩ := hd
          exact askAt_ok HHOk.out i
        have HA := Hid_mk hA
        have HAok := Hid_mk hAok
        clear hA hAok
        go_wp2_with fail
        refine (known_any _).mono ?_
        rintro e w4 ⟨rfl, hk4⟩
        have HK4 := Hid_mk hk4
        obtain ⟨bs2, hb2, hl2⟩ := HB2.out
        have hrd := reads_any w4 _ _ bs2 (asksOf ls how k) (bs_no hb2 (HKK2.out.trans' hk4)) hl2 (asks_kept HA.out hk4 fun _ _ _ _ _ => id) HAok.out
        have HRd := Hid_mk hrd
        clear hk4 hb2 hl2 hrd
        go_wp2_with fail
        refine HRd.out.mono ?_
        rintro e w5 ⟨rfl, hk5⟩
        have HK5 := Hid_mk hk5
        clear hk5
        go_wp2
        go_ret
        exact ⟨rfl, (HKW.out.trans' HK4.out).trans' HK5.out⟩

/-- as the statement's row asks it -/
theorem near_row (w : World) (v vh : Value) (ls : List LayD) (how : List AskD) (at_ z : Int) (h : Lays w v ls) (hok : ∀ d ∈ ls, d.ok) (hroom : roomOf ls < 140737488355328) (hh : Asks w vh how) (hhok : ∀ d ∈ how, d.ok) (hlen : ls.length ≤ 1048576) (hz : (Lit.int .u8 z).wf = true) :
    Calls Try.prog 9 #[v, .int .i64 at_, .int .u8 z, vh] w fun e w' => e = .returned (.bool true) ∧ Kp No w w' := by
  have hz' : 0 ≤ z ∧ z ≤ 255 := by simpa [Lit.wf, IntKind.min, IntKind.max, IntKind.signed, IntKind.bits] using hz
  have hto : z = ((z.toNat.toUInt8.toNat : Nat) : Int) := by rw [seal.u8_toNat]; omega
  rw [hto]
  exact near_any w v vh ls how at_ z.toNat.toUInt8 h hok hroom hh hhok (by omega)

end Go.Proofs.Ytaghpjlodlbmjaa.near
