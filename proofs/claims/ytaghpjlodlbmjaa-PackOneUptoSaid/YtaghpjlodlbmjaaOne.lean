/- PackOne: the law's walk. -/
import Derived.Test.YtaghpjlodlbmjaaReads
import Derived.Test.YtaghpjlodlbmjaaNear
import Derived.Test.YtaghpjlodlbmjaaOnePlain
namespace Go.Proofs.Ytaghpjlodlbmjaa.oneWalk
open Go.RowKit Go.Proofs.Ytaghpjlodlbmjaa.sum Go.Proofs.Ytaghpjlodlbmjaa.kept Go.Proofs.Ytaghpjlodlbmjaa.app Go.Proofs.Ytaghpjlodlbmjaa.writer Go.Proofs.Ytaghpjlodlbmjaa.clone Go.Proofs.Ytaghpjlodlbmjaa.known Go.Proofs.Ytaghpjlodlbmjaa.unseal Go.Proofs.Ytaghpjlodlbmjaa.number Go.Proofs.Ytaghpjlodlbmjaa.words Go.Proofs.Ytaghpjlodlbmjaa.turned Go.Proofs.Ytaghpjlodlbmjaa.laid Go.Proofs.Ytaghpjlodlbmjaa.reader Go.Proofs.Ytaghpjlodlbmjaa.backWalk Go.Proofs.Ytaghpjlodlbmjaa.reads Go.Proofs.Ytaghpjlodlbmjaa.onePlain
set_option linter.unusedVariables false

theorem infoLay : (Try.prog.info? 51).map (fun i => (i.zero, i.size, i.bytes)) = some (some (.agg #[.int .i64 0, .int .u8 0, .int .u64 0, .float .f64 0, .string ByteArray.empty]), 5, 48) := by kernel_rfl

@[go_sem] theorem run_store_float {P : Program} {w : World} {a : Addr} {m : Mode} (k : FloatKind) (b : Nat) : (store a (.float k b) m).run P w = stored P w a (.float k b) m := run_store P w a _ m rfl

def layCells (d : LayD) : List Value := [.int .i64 d.what, .int .u8 (d.b.toNat : Int), .int .u64 (d.n : Int), .float .f64 d.x, .string d.t]

theorem owns_lays {w : World} {base : Nat} {v : Value} {L : List LayD} (h : w.ownsRow base 51 5 v L.length (L.flatMap layCells)) : Lays w v L := by
  rcases h.2 with ⟨rfl, h0⟩ | ⟨g, cap, cur, rfl, hb, hg, r1, r2, r3, r4⟩
  · have : L = [] := List.eq_nil_of_length_eq_zero h0
    subst this
    exact ⟨none, 0, rfl, Nat.le_refl _, Nat.zero_le _, fun h => absurd rfl h⟩
  · refine ⟨_, cap, rfl, r1, r2, fun _ => ⟨g, 0, rfl, fun k hk => ?_⟩⟩
    have hc : ∀ i u, i < 5 → (layCells L[k])[i]? = some u → w.cell? ⟨g, 0 + (k * 5 + i), none⟩ = some u := by
      intro i u hi hu
      have := h.cells (g := g) rfl (k * 5 + i) u (by rw [near.flat_get layCells 5 (fun _ => rfl) L k hk i hi]; exact hu)
      rwa [addr_add] at this
    have e0 := hc 0 _ (by omega) rfl
    have e1 := hc 1 _ (by omega) rfl
    have e2 := hc 2 _ (by omega) rfl
    have e3 := hc 3 _ (by omega) rfl
    have e4 := hc 4 _ (by omega) rfl
    simp only [← Nat.add_assoc, Nat.add_zero] at e0 e1 e2 e3 e4
    exact ⟨e0, e1, e2, e3, e4⟩

/-- A slice value that reads, in this world, as these whole numbers. -/
def Ns (w : World) (v : Value) (ws : List Int) : Prop :=
  ∃ a cap, v = .slice a ws.length cap ∧ ws.length ≤ cap ∧ cap ≤ maxLen ∧ (ws ≠ [] → ∃ b o, a = some ⟨b, o, none⟩ ∧ ∀ k, k < ws.length → w.cell? ⟨b, o + k, none⟩ = some (.int .i64 (ws.getD k 0)))
theorem ns_kept {w w' : World} {v : Value} {ws : List Int} (h : Ns w v ws) (hk : Kp No w w') : Ns w' v ws := by
  obtain ⟨a, cap, rfl, h1, h2, h3⟩ := h
  refine ⟨a, cap, rfl, h1, h2, fun hne => ?_⟩
  obtain ⟨b, o, rfl, hc⟩ := h3 hne
  exact ⟨b, o, rfl, fun k hkk => hk.cell' (hc k hkk) id⟩

def ORel (w2 : World) (p : Nat) (vR : Value) (bs : List UInt8) (ws : List Int) (l i : Value) (wr : World) : Prop :=
  ∃ k, k ≤ ws.length ∧ i = .int .i64 ((k : Nat) : Int) ∧ Rd wr p vR bs (St bs ws k).2.1 (St bs ws k).2.2 ∧ wr.ownsRow w2.heap.size 51 5 l k ((St bs ws k).1.flatMap layCells) ∧ Kp (fun q => q = p) w2 wr

theorem new1 (w : World) (a : Addr) (u : Value) (o : Obj) : ((w.setCell a u).alloc o).heap[w.heap.size]? = some o := by
  have h := heap_alloc_new (w.setCell a u) o
  have e : (w.setCell a u).heap.size = w.heap.size := by simp [World.setCell]
  rwa [e] at h

/-- one round's end -/
theorem ORel.next {w2 wr w3 w5 : World} {p q j : Nat} {vR va v u : Value} {bs : List UInt8} {ws : List Int} {k at2 bad2 : Nat} {d : LayD} {o1 o2 : Obj} {news : List Value} (hlt : k < ws.length) (hst : St bs ws (k + 1) = ((St bs ws k).1 ++ [d], at2, bad2)) (hn : layCells d = news)
    (hp2 : p < w2.heap.size) (hvR : bs ≠ [] → ∀ b o n c, vR = .slice (some ⟨b, o, none⟩) n c → b < w2.heap.size) (hq : q = wr.heap.size)
    (hown : wr.ownsRow w2.heap.size 51 5 va k ((St bs ws k).1.flatMap layCells)) (hk : Kp (fun q => q = p) w2 wr) (hR : Rd w3 p vR bs at2 bad2) (hk3 : Kp (fun k => k = p) (wr.alloc o1) w3)
    (ho : w5.ownsRow w2.heap.size 51 5 v (k + 1) ((St bs ws k).1.flatMap layCells ++ news)) (hg : ((w3.setCell ⟨q, j, none⟩ u).alloc o2).grownBy w5 va.ownBlock) : ORel w2 p vR bs ws v (.int .i64 ((k + 1 : Nat) : Int)) w5 := by
  have hs := hk.size
  have hs3 := hk3.size
  have hsa : (wr.alloc o1).heap.size = wr.heap.size + 1 := by simp
  have hss : (w3.setCell ⟨q, j, none⟩ u).heap.size = w3.heap.size := by simp [World.setCell]
  have k4 : Kp (fun k => k = q ∨ some k = va.ownBlock) w3 w5 := by
    refine ((((Kp.refl _ w3).setCell (p := ⟨q, j, none⟩) (fun _ => Or.inl rfl) u).alloc _).grown hg fun i hi e => Or.inr e.symm)
  have hva : ∀ i, va.ownBlock = some i → w2.heap.size ≤ i := fun i e => (hown.lt i e).1
  refine ⟨k + 1, hlt, rfl, ?_, ?_, ?_⟩
  · rw [hst]
    refine rd_kept2 hR k4 ?_ ?_
    · rintro (e | e)
      · omega
      · have := hva p e.symm; omega
    · rintro hne b o n c e (e2 | e2)
      · have := hvR hne b o n c e; omega
      · have := hvR hne b o n c e; have := hva b e2.symm; omega
  · rw [hst, List.flatMap_append]
    simpa [hn] using ho
  · have k35 : Kp (fun i => i = p ∨ i = q ∨ some i = va.ownBlock) (wr.alloc o1) w5 := (hk3.mono fun _ _ e => Or.inl e).trans' (k4.mono fun _ _ e => Or.inr e)
    refine (hk.alloc o1).trans k35 ?_
    rintro i hi (e | e | e)
    · exact e
    · omega
    · have := hva i e.symm; omega

set_option maxRecDepth 100000 in
set_option maxHeartbeats 8000000 in
theorem one_any (w : World) (vb vw : Value) (bs : List UInt8) (ws : List Int) (hb : Bs w vb bs) (hbl : bs.length ≤ 1048576) (hw : Ns w vw ws) (hwl : ws.length ≤ 1048576) :
    Calls Try.prog 10 #[vb, vw] w fun e w' => e = .returned (.bool true) ∧ Kp No w w' := by
  obtain ⟨i0, hi, hz0, hz1, hz2⟩ := info_parts infoLay
  have HB := Hid_mk hb
  have HW := Hid_mk hw
  obtain ⟨ab, capb, rfl, hlb, hmb, -⟩ := hb
  obtain ⟨aw, capw, rfl, hlw, hmw, -⟩ := hw
  unfold maxLen at hmb hmw
  go_enter Try.func10, Try.ntmps10
  go_wp2_with fail
  refine (reader.new_any w _ bs HB.out (by omega)).mono ?_
  rintro e w1 ⟨p, vR, rfl, hp, hR1, hk1, hf1⟩
  have HR1 := Hid_mk hR1
  have HK1 := Hid_mk hk1
  clear hR1 hk1 hf1
  go_wp2_with fail
  refine (known_any w1).mono ?_
  rintro e w2 ⟨rfl, hk2⟩
  have HR2 := Hid_mk (rd_same HR1.out hk2)
  have HK2 := Hid_mk (HK1.out.trans' hk2)
  have hp2 : p < w2.heap.size := HR2.out.lt
  have HVR := Hid_mk (fun hne => floats.bs_block_lt HR2.out.reads hne)
  clear hk2 HR1 HK1
  go_wp2
  go_loopw [6, 7] (fun l i wr => ORel w2 p vR bs ws l i wr) (fun _ i _ => ws.length - (intOf i).toNat)
  case atStart => exact ⟨0, Nat.zero_le _, rfl, HR2.out, World.ownsRow_nil _ _ _ _, Kp.refl _ _⟩
  case round =>
    obtain ⟨k, hk, rfl, hR, ho, hkp⟩ := hrel
    have HR := Hid_mk hR
    have HO := Hid_mk ho
    have HKp := Hid_mk hkp
    have HKW : Hid (Kp No w wr) := Hid_mk (HK2.out.trans hkp fun i hi e => by omega)
    have hns := ns_kept HW.out HKW.out
    have hsz := hkp.size
    have hpr : ¬ wr.heap.size = p := by omega
    clear hR ho hkp
    by_cases hlt : k < ws.length
    · obtain ⟨_, _, e, -, -, hc⟩ := hns
      simp only [Value.slice.injEq] at e
      obtain ⟨rfl, -, rfl⟩ := e
      obtain ⟨b, o, rfl, hcell⟩ := hc (by intro e; subst e; simp at hlt)
      have c0 := hcell k hlt
      have hki : (k : Int) < (ws.length : Int) := by omega
      have hstep : St bs ws (k + 1) = ((St bs ws k).1 ++ [(rdOne bs (St bs ws k).2.1 (St bs ws k).2.2 (ws.getD k 0 % 4)).1], (rdOne bs (St bs ws k).2.1 (St bs ws k).2.2 (ws.getD k 0 % 4)).2.1, (rdOne bs (St bs ws k).2.1 (St bs ws k).2.2 (ws.getD k 0 % 4)).2.2) := rfl
      generalize (St bs ws k).2.1 = A at *
      generalize (St bs ws k).2.2 = Bd at *
      generalize ws.getD k 0 = wh at *
      have HStep := Hid_mk hstep
      have hp4 := pick_any wh 4 (by omega) (by omega)
      have hmod : wh % 4 = 0 ∨ wh % 4 = 1 ∨ wh % 4 = 2 ∨ wh % 4 = 3 := by omega
      clear hcell hc hstep
      rcases hmod with hm | hm | hm | hm
      · rw [hm] at hp4
        have HP := fun w => Hid_mk (hp4 w)
        obtain ⟨⟨x, a2, b2⟩, hr⟩ : ∃ t, rByte bs A Bd 255 = t := ⟨_, rfl⟩
        have hst : St bs ws (k + 1) = ((St bs ws k).1 ++ [⟨0, x.toUInt8, 0, 0, ⟨#[]⟩⟩], a2, b2) := by
          rw [HStep.out, hm]; unfold rdOne; rw [hr]; rfl
        have HSt := Hid_mk hst
        have h1 := fun W (hW : Kp No wr W) => reader.byte_any W p vR bs A Bd 255 (rd_same HR.out hW)
        rw [hr] at h1
        have HC := Hid_mk h1
        have hx : x < 256 := by have := rByte_lt (bs := bs) (at_ := A) (bad := Bd); rw [hr] at this; exact this
        clear hp4 hm hst h1 hr
        go_wp2_with fail
        refine (HP _).out.mono ?_
        rintro e w' ⟨rfl, rfl⟩
        go_wp2_with fail
        refine (HC.out _ ((Kp.refl No wr).alloc _)).mono ?_
        rintro e w3 ⟨rfl, hR3, hk3⟩
        have n0 : w3.cell? ⟨wr.heap.size, 0, none⟩ = some (.int .i64 0) := hk3.cell' (by simp) hpr
        have n1 : w3.cell? ⟨wr.heap.size, 1, none⟩ = some (.int .u8 0) := hk3.cell' (by simp) hpr
        have n2 : w3.cell? ⟨wr.heap.size, 2, none⟩ = some (.int .u64 0) := hk3.cell' (by simp) hpr
        have n3 : w3.cell? ⟨wr.heap.size, 3, none⟩ = some (.float .f64 0) := hk3.cell' (by simp) hpr
        have n4 : w3.cell? ⟨wr.heap.size, 4, none⟩ = some (.string ⟨#[]⟩) := hk3.cell' (by simp) hpr
        have nf : ∀ j, w3.frozen? ⟨wr.heap.size, j, none⟩ = false := fun j => (hk3.frozen (p := ⟨wr.heap.size, j, none⟩) (by simp) hpr).trans (by simp)
        have HO3 : Hid (∀ u o2, ((w3.setCell ⟨wr.heap.size, 1, none⟩ u).alloc o2).ownsRow w2.heap.size 51 5 u6 k ((St bs ws k).1.flatMap layCells)) := Hid_mk fun u o2 => by
          have h0 := HO.out
          have hs3 := hk3.size
          have kk : Kp (fun q => q = p ∨ q = wr.heap.size) wr w3 := ((Kp.refl (fun q => q = p ∨ q = wr.heap.size) wr).alloc _).trans hk3 fun i hi e => Or.inl e
          refine owns_kept (S := fun q => q = p ∨ q = wr.heap.size) h0 ((kk.setCell (p := ⟨wr.heap.size, 1, none⟩) (fun _ => Or.inr rfl) u).alloc o2) ?_
          rintro i hi (e | e)
          · have := (h0.lt i hi).1; omega
          · have := (h0.lt i hi).2; omega
        have HR3 := Hid_mk hR3
        have HK3 := Hid_mk hk3
        have hs3 := hk3.size
        have hs4 : w2.heap.size ≤ w3.heap.size := by simp at hs3; omega
        clear hR3 hk3 hs3
        go_wp2_with (at_builtin; (refine wpList_append_own_at _ rfl _ _ 45 rfl w2.heap.size 51 i0 (.agg #[.int .i64 0, .int .u8 0, .int .u64 0, .float .f64 0, .string ByteArray.empty]) 5 48 Try.underlying45 hi hz0 hz1 hz2 rfl (by decide) _ k _ rfl (HO3.out _ _) _ 1 1 [.int .i64 0, .int .u8 (x : Int), .int .u64 0, .float .f64 0, .string ⟨#[]⟩] rfl rfl (World.news_of_block (cs := List.toArray [.int .i64 0, .int .u8 (x : Int), .int .u64 0, .float .f64 0, .string ⟨#[]⟩]) (t := 51) (fr := (0, 0)) (new1 w3 _ _ _)) (by simp [Value.oneCell']) (by unfold maxLen; omega) (by omega) (by simp [World.setCell]; omega) ?_; intro v' w5 hown hgrow hnil hat))
        have hfin := ORel.next hlt HSt.out (by simp [layCells, seal.u8_toNat]; omega) hp2 HVR.out rfl HO.out HKp.out HR3.out HK3.out hown hgrow
        have HF := Hid_mk hfin
        obtain ⟨g9, cap9, rfl, hg9, hg10⟩ := owns_some hown (by omega)
        clear hfin hown hgrow hnil hat n0 n1 n2 n3 n4 nf
        go_wp2
        go_roundw
        case rel => exact HF.out
        case measure => simp [intOf]; omega
      · rw [hm] at hp4
        have HP := fun w => Hid_mk (hp4 w)
        obtain ⟨⟨x, a2, b2⟩, hr⟩ : ∃ t, rNum bs A Bd 18446744073709551615 = t := ⟨_, rfl⟩
        have hst : St bs ws (k + 1) = ((St bs ws k).1 ++ [⟨1, 0, x, 0, ⟨#[]⟩⟩], a2, b2) := by
          rw [HStep.out, hm]; unfold rdOne; rw [hr]; rfl
        have HSt := Hid_mk hst
        have h1 := fun W (hW : Kp No wr W) => reader.num_any W p vR bs A Bd 18446744073709551615 (rd_same HR.out hW)
        rw [hr] at h1
        have HC := Hid_mk h1
        clear hp4 hm hst h1 hr
        go_wp2_with fail
        refine (HP _).out.mono ?_
        rintro e w' ⟨rfl, rfl⟩
        go_wp2_with fail
        refine (HC.out _ ((Kp.refl No wr).alloc _)).mono ?_
        rintro e w3 ⟨rfl, hR3, hk3⟩
        have n0 : w3.cell? ⟨wr.heap.size, 0, none⟩ = some (.int .i64 1) := hk3.cell' (by simp) hpr
        have n1 : w3.cell? ⟨wr.heap.size, 1, none⟩ = some (.int .u8 0) := hk3.cell' (by simp) hpr
        have n2 : w3.cell? ⟨wr.heap.size, 2, none⟩ = some (.int .u64 0) := hk3.cell' (by simp) hpr
        have n3 : w3.cell? ⟨wr.heap.size, 3, none⟩ = some (.float .f64 0) := hk3.cell' (by simp) hpr
        have n4 : w3.cell? ⟨wr.heap.size, 4, none⟩ = some (.string ⟨#[]⟩) := hk3.cell' (by simp) hpr
        have nf : ∀ j, w3.frozen? ⟨wr.heap.size, j, none⟩ = false := fun j => (hk3.frozen (p := ⟨wr.heap.size, j, none⟩) (by simp) hpr).trans (by simp)
        have HO3 : Hid (∀ u o2, ((w3.setCell ⟨wr.heap.size, 2, none⟩ u).alloc o2).ownsRow w2.heap.size 51 5 u6 k ((St bs ws k).1.flatMap layCells)) := Hid_mk fun u o2 => by
          have h0 := HO.out
          have hs3 := hk3.size
          have kk : Kp (fun q => q = p ∨ q = wr.heap.size) wr w3 := ((Kp.refl (fun q => q = p ∨ q = wr.heap.size) wr).alloc _).trans hk3 fun i hi e => Or.inl e
          refine owns_kept (S := fun q => q = p ∨ q = wr.heap.size) h0 ((kk.setCell (p := ⟨wr.heap.size, 2, none⟩) (fun _ => Or.inr rfl) u).alloc o2) ?_
          rintro i hi (e | e)
          · have := (h0.lt i hi).1; omega
          · have := (h0.lt i hi).2; omega
        have HR3 := Hid_mk hR3
        have HK3 := Hid_mk hk3
        have hs3 := hk3.size
        have hs4 : w2.heap.size ≤ w3.heap.size := by simp at hs3; omega
        clear hR3 hk3 hs3
        go_wp2_with (at_builtin; (refine wpList_append_own_at _ rfl _ _ 45 rfl w2.heap.size 51 i0 (.agg #[.int .i64 0, .int .u8 0, .int .u64 0, .float .f64 0, .string ByteArray.empty]) 5 48 Try.underlying45 hi hz0 hz1 hz2 rfl (by decide) _ k _ rfl (HO3.out _ _) _ 1 1 [.int .i64 1, .int .u8 0, .int .u64 (x : Int), .float .f64 0, .string ⟨#[]⟩] rfl rfl (World.news_of_block (cs := List.toArray [.int .i64 1, .int .u8 0, .int .u64 (x : Int), .float .f64 0, .string ⟨#[]⟩]) (t := 51) (fr := (0, 0)) (new1 w3 _ _ _)) (by simp [Value.oneCell']) (by unfold maxLen; omega) (by omega) (by simp [World.setCell]; omega) ?_; intro v' w5 hown hgrow hnil hat))
        have hfin := ORel.next hlt HSt.out (by rfl) hp2 HVR.out rfl HO.out HKp.out HR3.out HK3.out hown hgrow
        have HF := Hid_mk hfin
        obtain ⟨g9, cap9, rfl, hg9, hg10⟩ := owns_some hown (by omega)
        clear hfin hown hgrow hnil hat n0 n1 n2 n3 n4 nf
        go_wp2
        go_roundw
        case rel => exact HF.out
        case measure => simp [intOf]; omega
      · rw [hm] at hp4
        have HP := fun w => Hid_mk (hp4 w)
        obtain ⟨⟨x, a2, b2⟩, hr⟩ : ∃ t, rText bs A Bd bs.length = t := ⟨_, rfl⟩
        have hst : St bs ws (k + 1) = ((St bs ws k).1 ++ [⟨2, 0, 0, 0, ⟨x.toArray⟩⟩], a2, b2) := by
          rw [HStep.out, hm]; unfold rdOne; rw [hr]; rfl
        have HSt := Hid_mk hst
        have h1 := fun W (hW : Kp No wr W) => (by have h9 := reader.text_any W p vR bs A Bd (bs.length : Int) (by omega) (rd_same HR.out hW); rwa [Int.toNat_natCast] at h9 : Calls Try.prog 41 #[.pointer (some ⟨p, 0, none⟩), .int .i64 (bs.length : Int)] W (RdPost W p vR bs (.string ⟨(rText bs A Bd bs.length).1.toArray⟩) (rText bs A Bd bs.length).2.1 (rText bs A Bd bs.length).2.2))
        rw [hr] at h1
        have HC := Hid_mk h1
        clear hp4 hm hst h1 hr
        go_wp2_with fail
        refine (HP _).out.mono ?_
        rintro e w' ⟨rfl, rfl⟩
        go_wp2_with fail
        refine (HC.out _ ((Kp.refl No wr).alloc _)).mono ?_
        rintro e w3 ⟨rfl, hR3, hk3⟩
        have n0 : w3.cell? ⟨wr.heap.size, 0, none⟩ = some (.int .i64 2) := hk3.cell' (by simp) hpr
        have n1 : w3.cell? ⟨wr.heap.size, 1, none⟩ = some (.int .u8 0) := hk3.cell' (by simp) hpr
        have n2 : w3.cell? ⟨wr.heap.size, 2, none⟩ = some (.int .u64 0) := hk3.cell' (by simp) hpr
        have n3 : w3.cell? ⟨wr.heap.size, 3, none⟩ = some (.float .f64 0) := hk3.cell' (by simp) hpr
        have n4 : w3.cell? ⟨wr.heap.size, 4, none⟩ = some (.string ⟨#[]⟩) := hk3.cell' (by simp) hpr
        have nf : ∀ j, w3.frozen? ⟨wr.heap.size, j, none⟩ = false := fun j => (hk3.frozen (p := ⟨wr.heap.size, j, none⟩) (by simp) hpr).trans (by simp)
        have HO3 : Hid (∀ u o2, ((w3.setCell ⟨wr.heap.size, 4, none⟩ u).alloc o2).ownsRow w2.heap.size 51 5 u6 k ((St bs ws k).1.flatMap layCells)) := Hid_mk fun u o2 => by
          have h0 := HO.out
          have hs3 := hk3.size
          have kk : Kp (fun q => q = p ∨ q = wr.heap.size) wr w3 := ((Kp.refl (fun q => q = p ∨ q = wr.heap.size) wr).alloc _).trans hk3 fun i hi e => Or.inl e
          refine owns_kept (S := fun q => q = p ∨ q = wr.heap.size) h0 ((kk.setCell (p := ⟨wr.heap.size, 4, none⟩) (fun _ => Or.inr rfl) u).alloc o2) ?_
          rintro i hi (e | e)
          · have := (h0.lt i hi).1; omega
          · have := (h0.lt i hi).2; omega
        have HR3 := Hid_mk hR3
        have HK3 := Hid_mk hk3
        have hs3 := hk3.size
        have hs4 : w2.heap.size ≤ w3.heap.size := by simp at hs3; omega
        clear hR3 hk3 hs3
        go_wp2_with (at_builtin; (refine wpList_append_own_at _ rfl _ _ 45 rfl w2.heap.size 51 i0 (.agg #[.int .i64 0, .int .u8 0, .int .u64 0, .float .f64 0, .string ByteArray.empty]) 5 48 Try.underlying45 hi hz0 hz1 hz2 rfl (by decide) _ k _ rfl (HO3.out _ _) _ 1 1 [.int .i64 2, .int .u8 0, .int .u64 0, .float .f64 0, .string ⟨x.toArray⟩] rfl rfl (World.news_of_block (cs := List.toArray [.int .i64 2, .int .u8 0, .int .u64 0, .float .f64 0, .string ⟨x.toArray⟩]) (t := 51) (fr := (0, 0)) (new1 w3 _ _ _)) (by simp [Value.oneCell']) (by unfold maxLen; omega) (by omega) (by simp [World.setCell]; omega) ?_; intro v' w5 hown hgrow hnil hat))
        have hfin := ORel.next hlt HSt.out (by rfl) hp2 HVR.out rfl HO.out HKp.out HR3.out HK3.out hown hgrow
        have HF := Hid_mk hfin
        obtain ⟨g9, cap9, rfl, hg9, hg10⟩ := owns_some hown (by omega)
        clear hfin hown hgrow hnil hat n0 n1 n2 n3 n4 nf
        go_wp2
        go_roundw
        case rel => exact HF.out
        case measure => simp [intOf]; omega
      · rw [hm] at hp4
        have HP := fun w => Hid_mk (hp4 w)
        obtain ⟨⟨x, a2, b2⟩, hr⟩ : ∃ t, rFloat bs A Bd = t := ⟨_, rfl⟩
        have hst : St bs ws (k + 1) = ((St bs ws k).1 ++ [⟨3, 0, 0, x, ⟨#[]⟩⟩], a2, b2) := by
          rw [HStep.out, hm]; unfold rdOne; rw [hr]; rfl
        have HSt := Hid_mk hst
        have h1 := fun W (hW : Kp No wr W) => reader.float_any W p vR bs A Bd (rd_same HR.out hW)
        rw [hr] at h1
        have HC := Hid_mk h1
        clear hp4 hm hst h1 hr
        go_wp2_with fail
        refine (HP _).out.mono ?_
        rintro e w' ⟨rfl, rfl⟩
        go_wp2_with fail
        refine (HC.out _ ((Kp.refl No wr).alloc _)).mono ?_
        rintro e w3 ⟨rfl, hR3, hk3⟩
        have n0 : w3.cell? ⟨wr.heap.size, 0, none⟩ = some (.int .i64 3) := hk3.cell' (by simp) hpr
        have n1 : w3.cell? ⟨wr.heap.size, 1, none⟩ = some (.int .u8 0) := hk3.cell' (by simp) hpr
        have n2 : w3.cell? ⟨wr.heap.size, 2, none⟩ = some (.int .u64 0) := hk3.cell' (by simp) hpr
        have n3 : w3.cell? ⟨wr.heap.size, 3, none⟩ = some (.float .f64 0) := hk3.cell' (by simp) hpr
        have n4 : w3.cell? ⟨wr.heap.size, 4, none⟩ = some (.string ⟨#[]⟩) := hk3.cell' (by simp) hpr
        have nf : ∀ j, w3.frozen? ⟨wr.heap.size, j, none⟩ = false := fun j => (hk3.frozen (p := ⟨wr.heap.size, j, none⟩) (by simp) hpr).trans (by simp)
        have HO3 : Hid (∀ u o2, ((w3.setCell ⟨wr.heap.size, 3, none⟩ u).alloc o2).ownsRow w2.heap.size 51 5 u6 k ((St bs ws k).1.flatMap layCells)) := Hid_mk fun u o2 => by
          have h0 := HO.out
          have hs3 := hk3.size
          have kk : Kp (fun q => q = p ∨ q = wr.heap.size) wr w3 := ((Kp.refl (fun q => q = p ∨ q = wr.heap.size) wr).alloc _).trans hk3 fun i hi e => Or.inl e
          refine owns_kept (S := fun q => q = p ∨ q = wr.heap.size) h0 ((kk.setCell (p := ⟨wr.heap.size, 3, none⟩) (fun _ => Or.inr rfl) u).alloc o2) ?_
          rintro i hi (e | e)
          · have := (h0.lt i hi).1; omega
          · have := (h0.lt i hi).2; omega
        have HR3 := Hid_mk hR3
        have HK3 := Hid_mk hk3
        have hs3 := hk3.size
        have hs4 : w2.heap.size ≤ w3.heap.size := by simp at hs3; omega
        clear hR3 hk3 hs3
        go_wp2_with (at_builtin; (refine wpList_append_own_at _ rfl _ _ 45 rfl w2.heap.size 51 i0 (.agg #[.int .i64 0, .int .u8 0, .int .u64 0, .float .f64 0, .string ByteArray.empty]) 5 48 Try.underlying45 hi hz0 hz1 hz2 rfl (by decide) _ k _ rfl (HO3.out _ _) _ 1 1 [.int .i64 3, .int .u8 0, .int .u64 0, .float .f64 x, .string ⟨#[]⟩] rfl rfl (World.news_of_block (cs := List.toArray [.int .i64 3, .int .u8 0, .int .u64 0, .float .f64 x, .string ⟨#[]⟩]) (t := 51) (fr := (0, 0)) (new1 w3 _ _ _)) (by simp [Value.oneCell']) (by unfold maxLen; omega) (by omega) (by simp [World.setCell]; omega) ?_; intro v' w5 hown hgrow hnil hat))
        have hfin := ORel.next hlt HSt.out (by rfl) hp2 HVR.out rfl HO.out HKp.out HR3.out HK3.out hown hgrow
        have HF := Hid_mk hfin
        obtain ⟨g9, cap9, rfl, hg9, hg10⟩ := owns_some hown (by omega)
        clear hfin hown hgrow hnil hat n0 n1 n2 n3 n4 nf
        go_wp2
        go_roundw
        case rel => exact HF.out
        case measure => simp [intOf]; omega
    · obtain rfl : k = ws.length := by omega
      have hki : ¬ (ws.length : Int) < (ws.length : Int) := by omega
      have hinv := st_inv bs ws ws.length
      have hok := st_ok (bs := bs) ws (by omega) ws.length
      have hlen := St_len bs ws ws.length
      obtain ⟨⟨L, A, Bd⟩, hS⟩ : ∃ t, St bs ws ws.length = t := ⟨_, rfl⟩
      rw [hS] at hinv hok hlen
      have HR' : Hid (Rd wr p vR bs A Bd) := Hid_mk (by have := HR.out; rw [hS] at this; exact this)
      have hL := owns_lays (L := L) (by have := HO.out; rw [hS] at this; rw [hlen]; exact this)
      have HL := Hid_mk hL
      have HOk := Hid_mk hok.1
      have hroom : roomOf L < 140737488355328 := by
        have h1 := hok.2
        have h2 : ws.length * (bs.length + 10) ≤ 1048576 * (1048576 + 10) := Nat.mul_le_mul hwl (by omega)
        simp only at h1
        exact Nat.lt_of_le_of_lt (Nat.le_trans h1 h2) (by decide)
      have HRoom := Hid_mk hroom
      have hend := fun W (hW : Kp No wr W) => reader.end_any W p vR bs A Bd (rd_same HR'.out hW)
      by_cases he : rEnd bs A Bd = 0
      · have hb0 : Bd = 0 ∧ ¬ A < bs.length := by
          unfold rEnd at he
          split at he
          · omega
          · rename_i h1; exact ⟨he, fun h2 => h1 ⟨he, h2⟩⟩
        have hall : bs = layAll L := by
          have h3 : bs = layAll L ++ bs.drop A := hinv hb0.1
          have h4 : bs.drop A = [] := List.drop_of_length_le (by omega)
          rw [h4, List.append_nil] at h3
          exact h3
        have HAll := Hid_mk hall
        simp only [he] at hend
        have hcE : ∀ W, Kp No wr W → Calls Try.prog 42 #[.pointer (some ⟨p, 0, none⟩)] W fun e W1 => e = .returned (.int .i64 0) ∧ Kp No wr W1 ∧ Bs W1 (.slice ab bs.length capb) bs := by
          intro W hW
          refine (hend W hW).mono ?_
          rintro e W1 ⟨rfl, n, rfl⟩
          exact ⟨rfl, hW.drewN n, bs_no HB.out (HKW.out.trans' (hW.drewN n))⟩
        have hcL : ∀ W, Kp No wr W → Calls Try.prog 35 #[u6] W fun e W1 => ∃ v, e = .returned v ∧ Bs W1 v bs ∧ Bs W1 (.slice ab bs.length capb) bs ∧ Kp No w W1 := by
          intro W hW
          refine (laid_any W u6 L (lays_kept HL.out hW fun _ _ _ _ _ => id) HOk.out HRoom.out).mono ?_
          rintro e W1 ⟨v, rfl, ho, hk⟩
          have hb := owns_bs ho
          rw [← HAll.out] at hb
          exact ⟨v, rfl, hb, bs_no HB.out (HKW.out.trans' (hW.trans' hk)), HKW.out.trans' (hW.trans' hk)⟩
        have HCE := Hid_mk hcE
        have HCL := Hid_mk hcL
        clear hns hinv hok hlen hS hL hroom hend he hb0 hall hcE hcL
        go_wp2
        go_region_with (first
          | (go_at_call 42; refine (HCE.out _ (by exact ⟨rfl, rfl, rfl, Nat.le_refl _, fun _ _ _ => rfl⟩)).mono ?_; rintro e w6 ⟨rfl, hk6, hb6⟩; have hcv6 := conv_bs hb6; have HK6 := Hid_mk hk6; clear hk6 hb6)
          | (go_at_call 35; refine (HCL.out _ HK6.out).mono ?_; rintro e w7 ⟨v7, rfl, hb7, hbb7, hk7⟩; have hcv7 := conv_bs hb7; have hcvb7 := conv_bs hbb7; have HK7 := Hid_mk hk7; clear hb7 hbb7 hk7))
        all_goals
          go_wp2
          go_ret
          exact ⟨rfl, HK7.out.trans' (by exact ⟨rfl, rfl, rfl, Nat.le_refl _, fun _ _ _ => rfl⟩)⟩
      · have hneI : ((rEnd bs A Bd : Nat) : Int) ≠ 0 := by omega
        generalize ((rEnd bs A Bd : Nat) : Int) = E at *
        have hq : ∀ n, Calls Try.prog 42 #[.pointer (some ⟨p, 0, none⟩)] (wr.drewN n) fun e W1 => e = .returned (.int .i64 E) ∧ ∃ m, W1 = wr.drewN m := fun n => Calls.quiet_of (hend (wr.drewN n) ((Kp.refl No wr).drewN n))
        have HQ := Hid_mk hq
        have hb1 : (E == 0) = false := by simpa using hneI
        have hb2 : (E != 0) = true := by simpa using hneI
        have HNe := Hid_mk hneI
        clear hns hinv hok hlen hS hL hroom hend he hq hneI
        go_wp2
        go_quiet ((go_at_call 42; exact HQ.out _))
        go_wp2
        go_ret
        exact ⟨rfl, HKW.out.drewN _⟩

end Go.Proofs.Ytaghpjlodlbmjaa.oneWalk
