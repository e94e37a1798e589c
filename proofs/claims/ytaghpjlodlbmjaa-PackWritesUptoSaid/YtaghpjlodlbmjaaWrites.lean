/- PackWrites: the law's walk. -/
import Derived.Test.YtaghpjlodlbmjaaRefLay
import Derived.Test.YtaghpjlodlbmjaaRefWords
import Derived.Test.YtaghpjlodlbmjaaLaid
import Derived.Deep.RegionWith
import Derived.RegionCalls
namespace Go.Proofs.Ytaghpjlodlbmjaa.writes
open Go.RowKit Go.Proofs.Ytaghpjlodlbmjaa.sum Go.Proofs.Ytaghpjlodlbmjaa.kept Go.Proofs.Ytaghpjlodlbmjaa.app Go.Proofs.Ytaghpjlodlbmjaa.writer Go.Proofs.Ytaghpjlodlbmjaa.clone Go.Proofs.Ytaghpjlodlbmjaa.known Go.Proofs.Ytaghpjlodlbmjaa.unseal Go.Proofs.Ytaghpjlodlbmjaa.number Go.Proofs.Ytaghpjlodlbmjaa.words Go.Proofs.Ytaghpjlodlbmjaa.turned Go.Proofs.Ytaghpjlodlbmjaa.laid
set_option linter.unusedVariables false

/-- a Writer, and bytes of one's own beside it -/
structure Pr (w wr : World) (v1 vw : Value) (bs cs : List UInt8) : Prop where
  wt : Wr w.heap.size wr w.heap.size v1 bs
  own : wr.ownsRow w.heap.size 5 1 vw cs.length (cs.map B)
  kp : Kp No w wr
  ne : vw.ownBlock ≠ some w.heap.size
  ap : ∀ g, vw.ownBlock = some g → v1.ownBlock ≠ some g

theorem Pr.same {w wr w2 : World} {v1 vw : Value} {bs cs : List UInt8} (h : Pr w wr v1 vw bs cs) (hk : Kp No wr w2) : Pr w w2 v1 vw bs cs :=
  ⟨h.wt.kept hk id (fun _ _ => id), owns_kept h.own hk (fun _ _ => id), h.kp.trans' hk, h.ne, h.ap⟩

theorem Pr.laid {w wr w2 : World} {v1 vw : Value} {bs cs add : List UInt8} {e : Ending} (h : Pr w wr v1 vw bs cs) (hp : WrPost w.heap.size w.heap.size v1 (bs ++ add) wr e w2) : ∃ v2, Pr w w2 v2 vw (bs ++ add) cs := by
  obtain ⟨-, v2, h1, h2, h3⟩ := hp
  refine ⟨v2, h1, owns_kept h.own h2 ?_, h.kp.trans h2 ?_, h.ne, ?_⟩
  · rintro k e (rfl | e2)
    · exact h.ne e
    · exact h.ap k e e2.symm
  · rintro i hi (e | e)
    · omega
    · have := (h.wt.owns.lt i e.symm).1; omega
  · intro g hg e
    rcases h3 with h3 | h3
    · rw [h3] at e; exact h.ap g hg e
    · have := h3 g e
      have := (h.own.lt g hg).2
      omega

theorem Pr.want {w w2 w3 : World} {v1 vw vw' : Value} {bs cs add : List UInt8} (h : Pr w w2 v1 vw bs cs) (happ : App w.heap.size w2 vw cs add vw' w3) : Pr w w3 v1 vw' bs (cs ++ add) := by
  have kp : Kp (fun k => some k = vw.ownBlock) w2 w3 := app_kept0 happ fun k _ e => e.symm
  have hp := World.block_lt_of_cell? w2 _ h.wt.cell
  simp only at hp
  refine ⟨h.wt.kept kp (fun e => h.ne e.symm) (fun k e e2 => h.ap k e2.symm e), happ.1, ref.own_kept0 h.kp h.own happ, ?_, ?_⟩
  · intro e
    rcases happ.2.2.2 with h4 | h4
    · rw [h4] at e; exact h.ne e
    · rw [h4] at e; simp at e; omega
  · intro g hg e
    rcases happ.2.2.2 with h4 | h4
    · rw [h4] at hg; exact h.ap g hg e
    · rw [h4] at hg
      have := (h.wt.owns.lt g e).2
      simp at hg
      omega

def WRel (w : World) (ls : List LayD) (i want : Value) (wr : World) : Prop :=
  ∃ k v1, k ≤ ls.length ∧ i = .int .i64 ((k : Nat) : Int) ∧ Pr w wr v1 want (layAll (ls.take k)) (layAll (ls.take k))

theorem WRel.next {w wr : World} {ls : List LayD} {k : Nat} {v1 vw : Value} {d : LayD} {add : List UInt8} (hlt : k < ls.length) (hsn : layAll (ls.take (k + 1)) = layAll (ls.take k) ++ layOne d) (hone : layOne d = add)
    (h : Pr w wr v1 vw (layAll (ls.take k) ++ add) (layAll (ls.take k) ++ add)) : WRel w ls (.int .i64 ((k + 1 : Nat) : Int)) vw wr :=
  ⟨k + 1, v1, hlt, rfl, by rw [hsn, hone]; exact h⟩

def ARel (w0 : World) (a : Option Addr) (n cap : Nat) (i : Value) (wr : World) : Prop :=
  ∃ (k : Nat) (ys : List UInt8), k ≤ n ∧ i = .int .i64 ((k : Nat) : Int) ∧ ys.length = n ∧ Bs wr (.slice a n cap) ys ∧ (∀ g o, a = some ⟨g, o, none⟩ → w0.heap.size ≤ g ∧ ∀ j, wr.frozen? ⟨g, j, none⟩ = false) ∧ Kp No w0 wr

theorem ARel.next {w0 wr : World} {g o n cap k : Nat} {ys : List UInt8} (hlt : k < n) (hl : ys.length = n) (hb : Bs wr (.slice (some ⟨g, o, none⟩) n cap) ys)
    (hf : ∀ g' o', (some (⟨g, o, none⟩ : Addr)) = some ⟨g', o', none⟩ → w0.heap.size ≤ g' ∧ ∀ j, wr.frozen? ⟨g', j, none⟩ = false) (hk : Kp No w0 wr) :
    ARel w0 (some ⟨g, o, none⟩) n cap (.int .i64 ((k + 1 : Nat) : Int)) (wr.setCell ⟨g, o + k, none⟩ (.int .u8 238)) := by
  refine ⟨k + 1, ys.set k 238, hlt, rfl, by rw [List.length_set]; exact hl, bs_set hb k hlt 238, ?_, hk.setCell (p := ⟨g, o + k, none⟩) (fun h => ?_) _⟩
  · intro g' o' e
    obtain ⟨h1, h2⟩ := hf g' o' e
    exact ⟨h1, fun j => by rw [World.frozen?_setCell]; exact h2 j⟩
  · have := (hf g o rfl).1
    simp only at h
    omega

theorem add_pos {d : LayD} : 0 < (layOne d).length := by
  unfold layOne
  split
  · simp
  · split
    · exact ref.num_pos _
    · split
      · rw [bytesN_len]; omega
      · have := ref.num_pos d.t.size; simp; omega

set_option maxRecDepth 100000 in
set_option maxHeartbeats 8000000 in
theorem writes_any (w : World) (v : Value) (ls : List LayD) (h : Lays w v ls) (hok : ∀ d ∈ ls, d.ok) (hroom : roomOf ls < 140737488355328) :
    Calls Try.prog 8 #[v] w fun e w' => e = .returned (.bool true) ∧ Kp No w w' := by
  have H := Hid_mk h
  have HOk := Hid_mk hok
  have HRoom := Hid_mk hroom
  obtain ⟨a, cap, rfl, hl, hm, -⟩ := h
  clear hok hroom
  unfold maxLen at hm
  go_enter Try.func8, Try.ntmps8
  go_wp2_with fail
  refine (writer.new_any w).mono ?_
  rintro e w1 ⟨rfl, hw1, hk1⟩
  have HW1 := Hid_mk hw1
  have HK1 := Hid_mk hk1
  clear hw1 hk1
  go_wp2_with fail
  refine (known_any w1).mono ?_
  rintro e w2 ⟨rfl, hk2⟩
  have HP : Hid (Pr w w2 (.slice none 0 0) (.slice none 0 0) [] []) := Hid_mk ⟨HW1.out.kept hk2 id (fun _ _ => id), World.ownsRow_nil _ _ _ _, HK1.out.trans' hk2, by simp [Value.ownBlock], by simp [Value.ownBlock]⟩
  clear hk2
  go_wp2
  go_loopw [5, 3] (fun i want wr => WRel w ls i want wr) (fun i _ _ => ls.length - (intOf i).toNat)
  case atStart => exact ⟨0, _, Nat.zero_le _, rfl, by simpa [layAll] using HP.out⟩
  case round =>
    obtain ⟨k, v1, hk, rfl, hpr⟩ := hrel
    have HPr := Hid_mk hpr
    have hlays := lays_kept H.out hpr.kp fun _ _ _ _ _ => id
    clear hpr
    by_cases hlt : k < ls.length
    · obtain ⟨_, _, e, -, -, hc⟩ := hlays
      simp only [Value.slice.injEq] at e
      obtain ⟨rfl, -, rfl⟩ := e
      obtain ⟨b, o, rfl, hcell⟩ := hc (by intro e; subst e; simp at hlt)
      obtain ⟨c0, c1, c2, c3, c4⟩ := hcell k hlt
      have hki : (k : Int) < (ls.length : Int) := by omega
      have hok : ls[k].ok := HOk.out _ (List.getElem_mem hlt)
      have hrm := roomOf_get hlt
      have hsn := layAll_snoc hlt
      have hb5 : ∀ W, Kp No w W → W.cell? ⟨b, o + k * 5 + 1, none⟩ = some (.int .u8 (ls[k].b.toNat : Int)) ∧ W.cell? ⟨b, o + k * 5 + 2, none⟩ = some (.int .u64 (ls[k].n : Int)) ∧ W.cell? ⟨b, o + k * 5 + 3, none⟩ = some (.float .f64 ls[k].x) ∧ W.cell? ⟨b, o + k * 5 + 4, none⟩ = some (.string ls[k].t) := by
        intro W hW
        obtain ⟨_, _, e, -, -, hc'⟩ := lays_kept H.out hW fun _ _ _ _ _ => id
        obtain ⟨b', o', e2, hcell'⟩ := hc' (by intro e; subst e; simp at hlt)
        simp only [Value.slice.injEq] at e
        rw [← e.1] at e2
        cases e2
        exact (hcell' k hlt).2
      generalize hd : ls[k] = d at *
      clear hcell hc hd
      have HB5 := Hid_mk hb5
      have hlen := Nat.le_trans (layAll_len (ls.take k) (fun e he => HOk.out e (List.mem_of_mem_take he))) (Nat.le_refl _)
      have hbnd : (layAll (ls.take k)).length + 10 + d.t.size < 140737488355328 := by have := HRoom.out; omega
      have HB := Hid_mk hbnd
      have hp := pick_any d.what 4 (by omega) (by omega)
      have HOkd := Hid_mk hok
      have hmod : d.what % 4 = 0 ∨ d.what % 4 = 1 ∨ d.what % 4 = 2 ∨ d.what % 4 = 3 := by omega
      have hpos := add_pos (d := d)
      clear hlen hbnd hok hrm hb5
      generalize hL : layAll (ls.take k) = L at *
      rcases hmod with hm0 | hm1 | hm2 | hm3
      · rw [hm0] at hp
        have hone : layOne d = [d.b] := by unfold layOne; rw [hm0]; rfl
        rw [hone] at hpos
        have HPos := Hid_mk hpos
        have HP := fun w => Hid_mk (hp w)
        have hfin := fun wr v1 vw => WRel.next (w := w) (wr := wr) (v1 := v1) (vw := vw) hlt (hL ▸ hsn) hone
        rw [hL] at hfin
        have HFin := Hid_mk hfin
        clear hp hone hm0 hfin hpos hsn hL
        go_wp2_with fail
        refine (HP _).out.mono ?_
        rintro e w' ⟨rfl, rfl⟩
        go_wp2_with fail
        refine (writer.byte_any w.heap.size w.heap.size wr v1 _ d.b HPr.out.wt (by have := HB.out; omega)).mono ?_
        intro e w3 hpost
        have he := hpost.1
        obtain ⟨v2, hpr2⟩ := HPr.out.laid hpost
        subst he
        have HPr2 := Hid_mk hpr2
        have hc := (HB5.out _ hpr2.kp).1
        have hsz := hpr2.kp.size
        clear hpost hpr2 c0 c1 c2 c3 c4
        go_wp2_with (at_builtin; (refine wpList_append_bs _ rfl _ _ rfl w.heap.size _ L rfl (HPr2.out.own.alloc _) _ [d.b] rfl (bs_one w3 d.b) ?c1 ?c2 ?_))
        case c1 => have := HB.out; (try simp); omega
        case c2 => (try simp); omega
        intro vw w5 happ
        have hrel2 := HFin.out _ _ _ ((HPr2.out.same ((Kp.refl No w3).alloc _)).want happ)
        have HR := Hid_mk hrel2
        obtain ⟨g, cap', rfl, hg1, hg2⟩ := owns_some happ.1 (by have := HPos.out; (try simp only [List.length_append] at this); (try simp only [List.length_append]); omega)
        generalize (L ++ [d.b]).length = N at *
        clear happ hrel2
        go_wp2
        go_roundw
        case rel => exact HR.out
        case measure => simp [intOf]; omega
      · rw [hm1] at hp
        have hone : layOne d = num d.n := by unfold layOne; rw [hm1]; rfl
        rw [hone] at hpos
        have HPos := Hid_mk hpos
        have HP := fun w => Hid_mk (hp w)
        have hfin := fun wr v1 vw => WRel.next (w := w) (wr := wr) (v1 := v1) (vw := vw) hlt (hL ▸ hsn) hone
        rw [hL] at hfin
        have HFin := Hid_mk hfin
        clear hp hone hm1 hfin hpos hsn hL
        go_wp2_with fail
        refine (HP _).out.mono ?_
        rintro e w' ⟨rfl, rfl⟩
        go_wp2_with fail
        refine (writer.num_any w.heap.size w.heap.size wr v1 _ d.n HOkd.out.1 HPr.out.wt (by have := HB.out; omega)).mono ?_
        intro e w3 hpost
        have he := hpost.1
        obtain ⟨v2, hpr2⟩ := HPr.out.laid hpost
        subst he
        have HPr2 := Hid_mk hpr2
        have hc := (HB5.out _ hpr2.kp).2.1
        have hsz := hpr2.kp.size
        clear hpost hpr2 c0 c1 c2 c3 c4
        clear hsz
        go_wp2_with fail
        refine (ref.lay_num w3 d.n HOkd.out.1).mono ?_
        rintro e w4 ⟨v4, rfl, ho4, hk4⟩
        have HPr4 := Hid_mk (HPr2.out.same hk4)
        have HO4 := Hid_mk (owns_bs ho4)
        have hsz := HPr4.out.kp.size
        clear ho4 hk4 hc
        go_wp2_with (at_builtin; (refine wpList_append_bs _ rfl _ _ rfl w.heap.size _ L rfl HPr4.out.own _ _ rfl HO4.out ?c1 hsz ?_))
        case c1 => have := HB.out; have := num_len d.n 10 (by have := HOkd.out.1; rw [u64_eq] at this; omega) (by omega); (try simp only [List.length_append]); omega
        intro vw w5 happ
        have hrel2 := HFin.out _ _ _ (HPr4.out.want happ)
        have HR := Hid_mk hrel2
        obtain ⟨g, cap', rfl, hg1, hg2⟩ := owns_some happ.1 (by have := HPos.out; (try simp only [List.length_append] at this); (try simp only [List.length_append]); omega)
        generalize (L ++ num d.n).length = N at *
        clear happ hrel2
        go_wp2
        go_roundw
        case rel => exact HR.out
        case measure => simp [intOf]; omega
      · rw [hm2] at hp
        have hone : layOne d = num d.t.size ++ d.t.data.toList := by unfold layOne; rw [hm2]; rfl
        rw [hone] at hpos
        have HPos := Hid_mk hpos
        have HP := fun w => Hid_mk (hp w)
        have hfin := fun wr v1 vw => WRel.next (w := w) (wr := wr) (v1 := v1) (vw := vw) hlt (hL ▸ hsn) hone
        rw [hL] at hfin
        have HFin := Hid_mk hfin
        clear hp hone hm2 hfin hpos hsn hL
        go_wp2_with fail
        refine (HP _).out.mono ?_
        rintro e w' ⟨rfl, rfl⟩
        go_wp2_with fail
        refine (text_any w.heap.size w.heap.size wr v1 _ d.t HPr.out.wt (by have := HB.out; omega)).mono ?_
        intro e w3 hpost
        have he := hpost.1
        obtain ⟨v2, hpr2⟩ := HPr.out.laid hpost
        subst he
        have HPr2 := Hid_mk hpr2
        have hc := (HB5.out _ hpr2.kp).2.2.2
        have hsz := hpr2.kp.size
        clear hpost hpr2 c0 c1 c2 c3 c4
        clear hsz
        go_wp2_with fail
        refine (ref.lay_text w3 d.t (by have := HB.out; omega)).mono ?_
        rintro e w4 ⟨v4, rfl, ho4, hk4⟩
        have HPr4 := Hid_mk (HPr2.out.same hk4)
        have HO4 := Hid_mk (owns_bs ho4)
        have hsz := HPr4.out.kp.size
        clear ho4 hk4 hc
        go_wp2_with (at_builtin; (refine wpList_append_bs _ rfl _ _ rfl w.heap.size _ L rfl HPr4.out.own _ _ rfl HO4.out ?c1 hsz ?_))
        case c1 => have := HB.out; have := num_len d.t.size 10 (by have := HB.out; omega) (by omega); have e9 : d.t.data.toList.length = d.t.size := (by rw [Array.length_toList]; rfl); (try simp only [List.length_append]); omega
        intro vw w5 happ
        have hrel2 := HFin.out _ _ _ (HPr4.out.want happ)
        have HR := Hid_mk hrel2
        obtain ⟨g, cap', rfl, hg1, hg2⟩ := owns_some happ.1 (by have := HPos.out; (try simp only [List.length_append] at this); (try simp only [List.length_append]); omega)
        generalize (L ++ num d.t.size ++ d.t.data.toList).length = N at *
        clear happ hrel2
        go_wp2
        go_roundw
        case rel => exact HR.out
        case measure => simp [intOf]; omega
      · rw [hm3] at hp
        have hone : layOne d = bytesN 8 (canon d.x) := by unfold layOne; rw [hm3]; rfl
        rw [hone] at hpos
        have HPos := Hid_mk hpos
        have HP := fun w => Hid_mk (hp w)
        have hfin := fun wr v1 vw => WRel.next (w := w) (wr := wr) (v1 := v1) (vw := vw) hlt (hL ▸ hsn) hone
        rw [hL] at hfin
        have HFin := Hid_mk hfin
        clear hp hone hm3 hfin hpos hsn hL
        go_wp2_with fail
        refine (HP _).out.mono ?_
        rintro e w' ⟨rfl, rfl⟩
        go_wp2_with fail
        refine (words.float_any w.heap.size w.heap.size wr v1 _ d.x HOkd.out.2.1 HPr.out.wt (by have := HB.out; omega)).mono ?_
        intro e w3 hpost
        have he := hpost.1
        obtain ⟨v2, hpr2⟩ := HPr.out.laid hpost
        subst he
        have HPr2 := Hid_mk hpr2
        have hc := (HB5.out _ hpr2.kp).2.2.1
        have hsz := hpr2.kp.size
        clear hpost hpr2 c0 c1 c2 c3 c4
        clear hsz
        go_wp2_with fail
        refine (ref.lay_float w3 d.x HOkd.out.2.1).mono ?_
        rintro e w4 ⟨v4, rfl, ho4, hk4⟩
        have HPr4 := Hid_mk (HPr2.out.same hk4)
        have HO4 := Hid_mk (owns_bs ho4)
        have hsz := HPr4.out.kp.size
        clear ho4 hk4 hc
        go_wp2_with (at_builtin; (refine wpList_append_bs _ rfl _ _ rfl w.heap.size _ L rfl HPr4.out.own _ _ rfl HO4.out ?c1 hsz ?_))
        case c1 => have := HB.out; have := bytesN_len 8 (canon d.x); (try simp only [List.length_append]); omega
        intro vw w5 happ
        have hrel2 := HFin.out _ _ _ (HPr4.out.want happ)
        have HR := Hid_mk hrel2
        obtain ⟨g, cap', rfl, hg1, hg2⟩ := owns_some happ.1 (by have := HPos.out; (try simp only [List.length_append] at this); (try simp only [List.length_append]); omega)
        generalize (L ++ bytesN 8 (canon d.x)).length = N at *
        clear happ hrel2
        go_wp2
        go_roundw
        case rel => exact HR.out
        case measure => simp [intOf]; omega
    · obtain rfl : k = ls.length := by omega
      have hki : ¬ (ls.length : Int) < (ls.length : Int) := by omega
      have hle := layAll_len ls HOk.out
      have hrm := HRoom.out
      rw [List.take_length] at HPr
      generalize hL : layAll ls = L at *
      clear hlays
      go_wp2_with fail
      refine (bytes_any w.heap.size w.heap.size wr v1 _ HPr.out.wt (by omega)).mono ?_
      rintro e w3 ⟨va, rfl, ho, hk3⟩
      have HPr3 := Hid_mk (HPr.out.same hk3)
      have hbva := owns_bs ho
      have hfrz : ∀ g o, (∃ n c, va = .slice (some ⟨g, o, none⟩) n c) → wr.heap.size ≤ g ∧ ∀ j, w3.frozen? ⟨g, j, none⟩ = false := by
        rintro g o ⟨n, c, rfl⟩
        rcases ho.2 with ⟨e, _⟩ | ⟨g', cap', cur, e, hb, hg, _⟩
        · cases e
        · cases e; exact ⟨hb, fun j => by simp [World.frozen?, hg]⟩
      have hcva := conv_bs hbva
      have hcvw := conv_bs (owns_bs (bs := L) HPr3.out.own)
      obtain ⟨aa, capa, rfl, hla, hma, -⟩ := id hbva
      unfold maxLen at hma
      have HBva := Hid_mk hbva
      have HFrz := Hid_mk hfrz
      have HK3 := Hid_mk hk3
      clear hbva hfrz hk3 ho
      go_wp2
      clear hcva hcvw
      go_loopw [8] (fun i w4 => ARel wr aa L.length capa i w4) (fun i _ => L.length - (intOf i).toNat)
      case atStart => exact ⟨0, L, Nat.zero_le _, rfl, rfl, HBva.out, fun g o e => HFrz.out g o ⟨_, _, by rw [e]⟩, HK3.out⟩
      case round =>
        obtain ⟨j, ys, hj, rfl, hyl, hby, hfz, hk4⟩ := hrel
        by_cases hjl : j < L.length
        · have hji : (j : Int) < (L.length : Int) := by omega
          obtain ⟨a', c', e, h1, h2, h3⟩ := id hby
          simp only [Value.slice.injEq] at e
          obtain ⟨rfl, -, rfl⟩ := e
          obtain ⟨g, o, rfl, hcell⟩ := h3 (by intro e; subst e; simp at hyl; omega)
          have hcj := hcell j (by omega)
          have hfj := (hfz g o rfl).2 (o + j)
          have hfin := ARel.next hjl hyl hby hfz hk4
          have HF := Hid_mk hfin
          clear hcell h3 hby hfz hfin hk4
          unfold B at hcj
          go_wp2
          go_roundw
          case rel => exact HF.out
          case measure => simp [intOf]; omega
        · have hji : ¬ (j : Int) < (L.length : Int) := by omega
          have HPr4 := Hid_mk (HPr.out.same hk4)
          have HKK := Hid_mk (HPr.out.kp.trans' hk4)
          have hcvw := conv_bs (owns_bs (bs := L) (HPr4.out.same (Kp.refl No _).drew).own)
          have hcall : ∀ W, Kp No wr W → Calls Try.prog 34 #[.pointer (some ⟨w.heap.size, 0, none⟩)] W fun e W1 => ∃ v', e = .returned v' ∧ Bs W1 v' L ∧ Bs W1 u3 L ∧ Kp No w W1 := by
            intro W hW
            refine (bytes_any w.heap.size w.heap.size W v1 _ (HPr4.out.same hW).wt (by omega)).mono ?_
            rintro e W1 ⟨v', rfl, ho, hk⟩
            exact ⟨v', rfl, owns_bs ho, owns_bs (bs := L) (HPr4.out.same (hW.trans' hk)).own, HKK.out.trans' (hW.trans' hk)⟩
          have HCall := Hid_mk hcall
          clear hby hfz hk4 hcall
          go_wp2
          go_region_with (go_at_call 34; refine (HCall.out _ (by exact ⟨rfl, rfl, rfl, Nat.le_refl _, fun _ _ _ => rfl⟩)).mono ?_; rintro e w6 ⟨v6, rfl, hb6, hbw6, hk6⟩; have hcv6 := conv_bs hb6; have hcvw6 := conv_bs hbw6; have HK6 := Hid_mk hk6; clear hb6 hbw6 hk6)
          all_goals
            go_wp2
            go_ret
            exact ⟨rfl, HK6.out.trans' (by exact ⟨rfl, rfl, rfl, Nat.le_refl _, fun _ _ _ => rfl⟩)⟩

end Go.Proofs.Ytaghpjlodlbmjaa.writes
