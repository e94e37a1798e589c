/- The reference's done. -/
import Derived.Test.YtmehneicdklfeaaGreatR2M
import Derived.Test.YtmehneicdklfeaaGreatFsMemM

namespace Go.Proofs.YtmehneicdklfeaaGreat.r2
open Go.RowKit Go.Maps Go.Proofs.YtmehneicdklfeaaGreat.sum Go.Proofs.YtmehneicdklfeaaGreat.kept Go.Proofs.YtmehneicdklfeaaGreat.app Go.Proofs.YtmehneicdklfeaaGreat.writer Go.Proofs.YtmehneicdklfeaaGreat.clone Go.Proofs.YtmehneicdklfeaaGreat.fs Go.Proofs.YtmehneicdklfeaaGreat.fsDo Go.Proofs.YtmehneicdklfeaaGreat.unseal
set_option linter.unusedVariables false

theorem get_place {l : List Fv} (hr : Rising (files l)) {n : ByteArray} {k : Nat} (hk : k < l.length) (h : l[k].1 = n) : old (files l) (nm n) = l[k].2.2 := by
  have : fs.get (files l) (nm n) = some l[k].2.2 := (get_some hr).2 (by
    unfold files
    refine List.mem_map.2 ⟨l[k], List.getElem_mem hk, ?_⟩
    rw [h])
  unfold old
  rw [this]
  rfl
theorem get_noplace {l : List Fv} {n : ByteArray} (h : ∀ j (h : j < l.length), l[j].1 ≠ n) : fs.get (files l) (nm n) = none := get_none.2 fun p hp => by
  obtain ⟨q, hq, rfl⟩ := List.mem_map.1 hp
  obtain ⟨j, hj, rfl⟩ := List.getElem_of_mem hq
  exact fun e => h j hj (nm_inj e)
theorem place_cases (l : List Fv) (n : ByteArray) : (∃ k, ∃ h : k < l.length, l[k].1 = n ∧ place l n = (k : Int)) ∨ ((∀ j (h : j < l.length), l[j].1 ≠ n) ∧ place l n = -1) := by
  by_cases h : ∃ k, ∃ h : k < l.length, l[k].1 = n
  · obtain ⟨k, hk, he⟩ := h
    cases hp : at? l n with
    | none =>
      unfold at? at hp
      rw [List.findIdx?_eq_none_iff] at hp
      have := hp l[k] (List.getElem_mem hk)
      simp [he] at this
    | some j =>
      have hp2 := hp
      unfold at? at hp
      rw [List.findIdx?_eq_some_iff_getElem] at hp
      obtain ⟨hj, h1, -⟩ := hp
      exact .inl ⟨j, hj, by simpa using h1, by unfold place; rw [hp2]⟩
  · have h2 : ∀ j (h : j < l.length), l[j].1 ≠ n := fun j hj e => h ⟨j, hj, e⟩
    exact .inr ⟨h2, place_none h2⟩

theorem app_some {base : Nat} {w w' : World} {b n c : Nat} {bs cs : List UInt8} {v' : Value} (h : App base w (.slice (some ⟨b, 0, none⟩) n c) bs cs v' w') : ∃ g cap, v' = .slice (some ⟨g, 0, none⟩) (bs ++ cs).length cap ∧ (g = b ∨ g = w.heap.size) := by
  obtain ⟨h1, h2, h3, h4⟩ := h
  rcases h1.2 with ⟨e, h0⟩ | ⟨g, cap, cur, rfl, _⟩
  · have := h3.1 e
    simp at this
  · refine ⟨g, cap, rfl, ?_⟩
    simp [Value.ownBlock] at h4
    exact h4

theorem app_new {base : Nat} {w w' : World} {b n c : Nat} {cs : List UInt8} {v' : Value} (h : App base w (.slice (some ⟨b, 0, none⟩) n c) [] cs v' w') : ∃ g cap, v' = .slice (some ⟨g, 0, none⟩) cs.length cap ∧ w'.ownsRow base 5 1 v' cs.length (cs.map B) := by
  obtain ⟨g, cap, e, -⟩ := app_some h
  exact ⟨g, cap, e, by simpa using h.1⟩

theorem step_append_bs (w : World) {ops : Array Oper} {o : Oper} {a : Act} {K : Act → World → Prop} {Q : Exit → Act → World → Prop} {E : Prop} (hgd : o.guard = none) (s x : Operand)
    (ho : o.op = .call { callee := .builtin .append, args := #[s, x], argTypes := #[29, 29] })
    (base : Nat) (v : Value) (bs : List UInt8) (hs : a.eval s = v) (hown : w.ownsRow base 5 1 v bs.length (bs.map B)) (xv : Value) (cs : List UInt8) (hx : a.eval x = xv) (hxs : Bs w xv cs)
    (hb : bs.length + cs.length ≤ 140737488355328) (hbase : base ≤ w.heap.size)
    (h : ∀ v' w', App base w v bs cs v' w' → K (a.put o.dst v') w') : if Region.wanted o (yielded ops a.tmps) = true then Oper.wp Tryz.prog o a w K Q else E := by
  have hw : Region.wanted o (yielded ops a.tmps) = true := by simp [Region.wanted, hgd]
  rw [if_pos hw]
  obtain ⟨v', w', hr, h2⟩ := run_append_bs w o.type base v bs hown xv cs hxs hb hbase
  unfold Oper.wp execOp
  simp only [ho, resolve, invoke, builtin, Sem.run_bind, Sem.run_pure, Result.andThen_ok, List.map_toArray, List.map_cons, List.map_nil, hs, hx, hr]
  exact h v' w' h2

theorem wit_fl {w w1 : World} {base k : Nat} {v v1 y : Value} {l : List Fv} {n : ByteArray} {bs : List UInt8} (h : Fl w v l) (hy : Bs w y bs) (hs : Stands k (n, y, bs) l) (hr : FRow w1 base v1 (wit k (n, y, bs) l)) (hk : Kp No w w1) :
    Fl w1 v1 (wit k (n, y, bs) l) ∧ files (wit k (n, y, bs) l) = put (files l) (nm n) bs := ⟨⟨hr.low (Nat.zero_le _), fun q hq => by
  have hor : q = (n, y, bs) ∨ q ∈ but n l := by
    rcases List.mem_append.1 hq with h | h
    · exact .inr (List.mem_of_mem_take h)
    · rcases List.mem_cons.1 h with e | h
      · exact .inl e
      · exact .inr (List.mem_of_mem_drop h)
  rcases hor with rfl | h2
  · exact bs_no hy hk
  · exact bs_no (h.2 q (List.mem_filter.1 h2).1) hk⟩, files_wit hs⟩

/-- a slice that lies at b or above, or nowhere -/
def Off (b : Nat) (y : Value) : Prop := ∀ x o m c, y = .slice (some ⟨x, o, none⟩) m c → b ≤ x
theorem off_nil (b n c : Nat) : Off b (.slice none n c) := fun x o m c e => by cases e
theorem off_at {b g o n c : Nat} (h : b ≤ g) : Off b (.slice (some ⟨g, o, none⟩) n c) := fun x o m c e => by cases e; exact h
theorem off_owns {w : World} {base b : Nat} {e : TypeId} {size : Nat} {v : Value} {n : Nat} {xs : List Value} (h : w.ownsRow base e size v n xs) (hb : b ≤ base) : Off b v := by
  rcases owns_any h with ⟨rfl, -⟩ | ⟨g, cap, rfl, hg, -⟩
  · exact off_nil _ _ _
  · exact off_at (Nat.le_trans hb hg)
/-- new, or of those that were there -/
def Newly (b : Nat) (l : List Fv) (v' : Value) (l' : List Fv) : Prop := Off b v' ∧ ∀ q ∈ l', q ∈ l ∨ Off b q.2.1
theorem nw_but {b base : Nat} {w1 : World} {v1 : Value} {l : List Fv} {n : ByteArray} (hr : FRow w1 base v1 (but n l)) (hb : b ≤ base) : Newly b l v1 (but n l) :=
  ⟨off_owns hr hb, fun q hq => .inl (List.mem_filter.1 hq).1⟩
theorem nw_wit {b base k : Nat} {w1 : World} {v1 y : Value} {l l0 : List Fv} {n : ByteArray} {bs : List UInt8} (hr : FRow w1 base v1 (wit k (n, y, bs) l)) (hb : b ≤ base) (hy : Off b y) (hl : ∀ q ∈ l, q ∈ l0) : Newly b l0 v1 (wit k (n, y, bs) l) :=
  ⟨off_owns hr hb, fun q hq => by
    rcases List.mem_append.1 hq with h | h
    · exact .inl (hl _ (List.mem_filter.1 (List.mem_of_mem_take h)).1)
    · rcases List.mem_cons.1 h with e | h
      · exact .inr (by rw [e]; exact hy)
      · exact .inl (hl _ (List.mem_filter.1 (List.mem_of_mem_drop h)).1)⟩

/-- what done leaves -/
def DonePost (w : World) (l : List Fv) (es : Files) (e : Ending) (w' : World) : Prop := ∃ v' l', e = .returned v' ∧ Fl w' v' l' ∧ files l' = es ∧ Kp No w w' ∧ Newly w.heap.size l v' l'

theorem but_fl {w w1 : World} {base : Nat} {v v1 : Value} {l : List Fv} {n : ByteArray} (h : Fl w v l) (hr : FRow w1 base v1 (but n l)) (hk : Kp No w w1) : Fl w1 v1 (but n l) := ⟨hr.low (Nat.zero_le _), fun q hq => bs_no (h.2 q (List.mem_filter.1 hq).1) hk⟩

set_option maxRecDepth 100000 in
set_option maxHeartbeats 4000000 in
theorem done_remove (w : World) (v vb : Value) (l : List Fv) (c : Change) (h : Fl w v l) (hr : Rising (files l)) (hl : l.length ≤ 100000000) (hn : c.name.size ≤ maxLen) (hkind : c.kind = 3) (hb : Bs w vb c.bytes) (hu : used (files l) ≤ 1000000000000) :
    Calls Tryz.prog 59 #[v, chg c vb] w (DonePost w l (doit (files l) c)) := by
  unfold chg
  have hdo : doit (files l) c = doit (files l) c := rfl
  conv at hdo => rhs; unfold doit; rw [hkind]
  simp only at hdo
  have HDo := Hid_mk hdo
  rw [hkind, show ((3 : Nat) : Int) = 3 from rfl]
  have H := Hid_mk h
  have HB := Hid_mk hb
  obtain ⟨a, cap, rfl, h1, h2, h3⟩ := h.1.opened
  have HC := Hid_mk h3
  obtain ⟨ab, cb, rfl, -⟩ := id hb
  have hfd := find_any (w.alloc (.cells #[.int .i64 3, .string c.name, .string c.to, .slice ab c.bytes.length cb, .int .i64 (c.size : Int)] 84)) (.slice a l.length cap) l c.name (h.no ((Kp.refl No w).alloc _)) (by omega) hn
  have HFd := Hid_mk hfd
  have HN := Hid_mk hn
  have hol : (old (files l) (nm c.name)).length ≤ 1000000000000 := Nat.le_trans (get_len hr _) hu
  have hpc := place_cases l c.name
  have HR := Hid_mk hr
  clear h3 h hb hfd hn hdo hr
  rcases hpc with ⟨k, hk, he, hp⟩ | ⟨hno, hp⟩
  · rw [hp] at HFd
    have hold := get_place HR.out hk he
    obtain ⟨b, rfl, hc⟩ := HC.out (by intro e; rw [e] at hk; simp at hk)
    obtain ⟨q, hq⟩ : ∃ q, q = l[k] := ⟨_, rfl⟩
    have hqb := H.out.2 q (hq ▸ List.getElem_mem hk)
    rw [← hq] at hold
    obtain ⟨x, y, bs⟩ := q
    simp only at hqb hold
    have c1 := (hc k hk).2.trans (congrArg (fun y : Fv => some y.2.1) hq.symm)
    simp only at c1
    have HQ := Hid_mk hqb
    have hki : (k : Int) < (l.length : Int) := by omega
    have hk0 : (0 : Int) ≤ (k : Int) := Int.natCast_nonneg _
    obtain ⟨ay, cy, rfl, -⟩ := id hqb
    have HOld := Hid_mk hold
    rw [hold] at hol
    clear hc hq hqb he hp hk hold
    go_enter Tryz.func59, Tryz.ntmps59
    go_wp2_with fail
    with_reducible refine HFd.out.mono ?_
    rintro e W0 ⟨rfl, hW0⟩
    have b0 : W0.cell? ⟨w.heap.size, 0, none⟩ = some (.int .i64 3) := by rw [← hW0]; simp
    have b1 : W0.cell? ⟨w.heap.size, 1, none⟩ = some (.string c.name) := by rw [← hW0]; simp
    have b2 : W0.cell? ⟨w.heap.size, 2, none⟩ = some (.string c.to) := by rw [← hW0]; simp
    have b3 : W0.cell? ⟨w.heap.size, 3, none⟩ = some (.slice ab c.bytes.length cb) := by rw [← hW0]; simp
    have b4 : W0.cell? ⟨w.heap.size, 4, none⟩ = some (.int .i64 (c.size : Int)) := by rw [← hW0]; simp
    have hz0 : W0.heap.size = w.heap.size + 1 := by rw [← hW0]; simp
    have k0 : Kp No w W0 := by rw [← hW0]; exact (Kp.refl No w).alloc _
    have HK0 := Hid_mk k0
    have c1a := (k0.alloc (.cells #[] 5)).cell' c1 id
    have HZ0 := Hid_mk hz0
    clear hW0 k0 c1 hz0
    go_wp2_with (at_builtin; (refine wpList_append_bs _ rfl _ _ rfl W0.heap.size _ [] rfl (World.ownsRow_made W0 #[] 0 (Nat.le_refl _) (by decide) rfl) _ bs rfl (bs_no HQ.out (HK0.out.alloc _)) (show ([] : List UInt8).length + _ ≤ _ by simp; omega) (by simp) ?_))
    rintro v2 W2 happ
    obtain ⟨g2, cap2, rfl, ho2⟩ := app_new happ
    have k2 : Kp No W0 W2 := ((Kp.refl No W0).alloc _).grown happ.2.1 (fun i hi e => by simp [Value.ownBlock] at e; omega)
    have d0 := k2.cell' b0 id
    have d1 := k2.cell' b1 id
    have d2 := k2.cell' b2 id
    have d3 := k2.cell' b3 id
    have d4 := k2.cell' b4 id
    have HO2 := Hid_mk (owns_base ho2 (show w.heap.size + 1 ≤ _ by have := HZ0.out; omega))
    have HK2 := Hid_mk (HK0.out.trans' k2)
    have hz2 := k2.size
    rw [HZ0.out] at hz2
    clear happ ho2 k2 b0 b1 b2 b3 b4 c1a
    go_wp2_with fail
    with_reducible refine (without_any W2 _ l c.name (H.out.no HK2.out) (by omega) HN.out).mono ?_
    rintro e W3 ⟨v3, rfl, hr3, hk3⟩
    have hfin : DonePost w l (doit (files l) c) (.returned v3) W3 := ⟨v3, _, rfl, but_fl (H.out.no HK2.out) hr3 hk3, by rw [HDo.out, files_but], HK2.out.trans' hk3, nw_but hr3 HK2.out.size⟩
    have HF := Hid_mk hfin
    obtain ⟨a3, c3, rfl, -⟩ := hr3.opened
    clear hfin hr3 hk3
    go_wp2
    go_ret
    exact HF.out
  · rw [hp] at HFd
    have hold : old (files l) (nm c.name) = [] := by unfold old; rw [get_noplace hno]; rfl
    have HOld := Hid_mk hold
    clear hno hp hold hol
    go_enter Tryz.func59, Tryz.ntmps59
    go_wp2_with fail
    with_reducible refine HFd.out.mono ?_
    rintro e W2 ⟨rfl, hW0⟩
    have d0 : W2.cell? ⟨w.heap.size, 0, none⟩ = some (.int .i64 3) := by rw [← hW0]; simp
    have d1 : W2.cell? ⟨w.heap.size, 1, none⟩ = some (.string c.name) := by rw [← hW0]; simp
    have d2 : W2.cell? ⟨w.heap.size, 2, none⟩ = some (.string c.to) := by rw [← hW0]; simp
    have d3 : W2.cell? ⟨w.heap.size, 3, none⟩ = some (.slice ab c.bytes.length cb) := by rw [← hW0]; simp
    have d4 : W2.cell? ⟨w.heap.size, 4, none⟩ = some (.int .i64 (c.size : Int)) := by rw [← hW0]; simp
    have hz2 : w.heap.size + 1 ≤ W2.heap.size := by rw [← hW0]; simp
    have HO2 := Hid_mk (World.ownsRow_nil W2 (w.heap.size + 1) 5 1)
    have k0 : Kp No w W2 := by rw [← hW0]; exact (Kp.refl No w).alloc _
    have HK2 := Hid_mk k0
    clear hW0 k0
    go_wp2_with fail
    with_reducible refine (without_any W2 _ l c.name (H.out.no HK2.out) (by omega) HN.out).mono ?_
    rintro e W3 ⟨v3, rfl, hr3, hk3⟩
    have hfin : DonePost w l (doit (files l) c) (.returned v3) W3 := ⟨v3, _, rfl, but_fl (H.out.no HK2.out) hr3 hk3, by rw [HDo.out, files_but], HK2.out.trans' hk3, nw_but hr3 HK2.out.size⟩
    have HF := Hid_mk hfin
    obtain ⟨a3, c3, rfl, -⟩ := hr3.opened
    clear hfin hr3 hk3
    go_wp2
    go_ret
    exact HF.out

set_option maxRecDepth 100000 in
set_option maxHeartbeats 4000000 in
theorem done_append (w : World) (v vb : Value) (l : List Fv) (c : Change) (h : Fl w v l) (hr : Rising (files l)) (hl : l.length ≤ 100000000) (hn : c.name.size ≤ maxLen) (hkind : c.kind = 0) (hb : Bs w vb c.bytes) (hu : used (files l) ≤ 1000000000000) (hbl : c.bytes.length ≤ 1000000000000) :
    Calls Tryz.prog 59 #[v, chg c vb] w (DonePost w l (doit (files l) c)) := by
  unfold chg
  have hdo : doit (files l) c = doit (files l) c := rfl
  conv at hdo => rhs; unfold doit; rw [hkind]
  simp only at hdo
  have HDo := Hid_mk hdo
  rw [hkind, show ((0 : Nat) : Int) = 0 from rfl]
  have H := Hid_mk h
  have HB := Hid_mk hb
  obtain ⟨a, cap, rfl, h1, h2, h3⟩ := h.1.opened
  have HC := Hid_mk h3
  obtain ⟨ab, cb, rfl, -⟩ := id hb
  have hfd := find_any (w.alloc (.cells #[.int .i64 0, .string c.name, .string c.to, .slice ab c.bytes.length cb, .int .i64 (c.size : Int)] 84)) (.slice a l.length cap) l c.name (h.no ((Kp.refl No w).alloc _)) (by omega) hn
  have HFd := Hid_mk hfd
  have HN := Hid_mk hn
  have hol : (old (files l) (nm c.name)).length ≤ 1000000000000 := Nat.le_trans (get_len hr _) hu
  have hpc := place_cases l c.name
  have HR := Hid_mk hr
  clear h3 h hb hfd hn hdo hr
  rcases hpc with ⟨k, hk, he, hp⟩ | ⟨hno, hp⟩
  · rw [hp] at HFd
    have hold := get_place HR.out hk he
    obtain ⟨b, rfl, hc⟩ := HC.out (by intro e; rw [e] at hk; simp at hk)
    obtain ⟨q, hq⟩ : ∃ q, q = l[k] := ⟨_, rfl⟩
    have hqb := H.out.2 q (hq ▸ List.getElem_mem hk)
    rw [← hq] at hold
    obtain ⟨x, y, bs⟩ := q
    simp only at hqb hold
    have c1 := (hc k hk).2.trans (congrArg (fun y : Fv => some y.2.1) hq.symm)
    simp only at c1
    have HQ := Hid_mk hqb
    have hki : (k : Int) < (l.length : Int) := by omega
    have hk0 : (0 : Int) ≤ (k : Int) := Int.natCast_nonneg _
    obtain ⟨ay, cy, rfl, -⟩ := id hqb
    have HOld := Hid_mk hold
    rw [hold] at hol
    clear hc hq hqb he hp hk hold
    go_enter Tryz.func59, Tryz.ntmps59
    go_wp2_with fail
    with_reducible refine HFd.out.mono ?_
    rintro e W0 ⟨rfl, hW0⟩
    have b0 : W0.cell? ⟨w.heap.size, 0, none⟩ = some (.int .i64 0) := by rw [← hW0]; simp
    have b1 : W0.cell? ⟨w.heap.size, 1, none⟩ = some (.string c.name) := by rw [← hW0]; simp
    have b2 : W0.cell? ⟨w.heap.size, 2, none⟩ = some (.string c.to) := by rw [← hW0]; simp
    have b3 : W0.cell? ⟨w.heap.size, 3, none⟩ = some (.slice ab c.bytes.length cb) := by rw [← hW0]; simp
    have b4 : W0.cell? ⟨w.heap.size, 4, none⟩ = some (.int .i64 (c.size : Int)) := by rw [← hW0]; simp
    have hz0 : W0.heap.size = w.heap.size + 1 := by rw [← hW0]; simp
    have k0 : Kp No w W0 := by rw [← hW0]; exact (Kp.refl No w).alloc _
    have HK0 := Hid_mk k0
    have c1a := (k0.alloc (.cells #[] 5)).cell' c1 id
    have HZ0 := Hid_mk hz0
    clear hW0 k0 c1 hz0
    go_wp2_with (at_builtin; (refine wpList_append_bs _ rfl _ _ rfl W0.heap.size _ [] rfl (World.ownsRow_made W0 #[] 0 (Nat.le_refl _) (by decide) rfl) _ bs rfl (bs_no HQ.out (HK0.out.alloc _)) (show ([] : List UInt8).length + _ ≤ _ by simp; omega) (by simp) ?_))
    rintro v2 W2 happ
    obtain ⟨g2, cap2, rfl, ho2⟩ := app_new happ
    have k2 : Kp No W0 W2 := ((Kp.refl No W0).alloc _).grown happ.2.1 (fun i hi e => by simp [Value.ownBlock] at e; omega)
    have d0 := k2.cell' b0 id
    have d1 := k2.cell' b1 id
    have d2 := k2.cell' b2 id
    have d3 := k2.cell' b3 id
    have d4 := k2.cell' b4 id
    have HO2 := Hid_mk (owns_base ho2 (show w.heap.size + 1 ≤ _ by have := HZ0.out; omega))
    have HK2 := Hid_mk (HK0.out.trans' k2)
    have hz2 := k2.size
    rw [HZ0.out] at hz2
    clear happ ho2 k2 b0 b1 b2 b3 b4 c1a
    go_wp2
    go_region_held3 (fun W => W.cell? ⟨w.heap.size, 1, none⟩ = some (.string c.name) ∧ W.cell? ⟨w.heap.size, 3, none⟩ = some (.slice ab c.bytes.length cb))
      (first
        | go_keep
        | (dsimp only; exact ⟨g1, g3⟩)
        | (dsimp only; exact ⟨e1, e3⟩)
        | (dsimp only; exact ⟨d1, d3⟩)
        | assumption)
      (first
        | (go_at_call 68; (with_reducible refine (with_any W3 _ _ l c.name _ (H.out.no k3) (by omega) HN.out HY.out).mono ?_); rintro e W4 ⟨k9, hst, v4, rfl, hr4, hk4⟩; have g1 := hk4.cell' e1 id; have g3 := hk4.cell' e3 id)
        | (refine step_append_bs _ (by rfl) _ _ (by rfl) (w.heap.size + 1) (.slice (some ⟨g2, 0, none⟩) bs.length cap2) bs (by rfl) (owns_kept HO2.out ((Kp.refl No W2).drew) (fun _ _ => id)) _ c.bytes (by rfl) (bs_no HB.out HK2.out.drew) (by first | omega | (simp; omega)) (by first | (simp; omega) | omega) ?_; intro v3 W3 happ; have kw := (Kp.refl (fun k => some k = ((.slice (some ⟨g2, 0, none⟩) bs.length cap2) : Value).ownBlock) W2.drew).grown happ.2.1 (fun i hi e => e.symm); have k3 : Kp No w W3 := HK2.out.drew.trans kw (fun i hi e => by have := (World.ownsRow.lt HO2.out i e.symm).1; omega); have e1 := kw.cell' (((Kp.refl No W2).drew).cell' d1 id) (fun e => by have h9 := (World.ownsRow.lt HO2.out w.heap.size e.symm).1; omega); have e3 := kw.cell' (((Kp.refl No W2).drew).cell' d3 id) (fun e => by have h9 := (World.ownsRow.lt HO2.out w.heap.size e.symm).1; omega); obtain ⟨zs, hzs⟩ : ∃ zs, bs ++ c.bytes = zs := ⟨_, rfl⟩; have HZs := Hid_mk hzs; have hbz := owns_bs happ.1; rw [hzs] at hbz; have HOf := Hid_mk (off_owns happ.1 (show w.heap.size ≤ _ by omega)); obtain ⟨a9, c9, rfl, -⟩ := id hbz; have HY := Hid_mk hbz; clear hzs hbz happ kw))
    have hw4 := wit_fl (H.out.no k3) HY.out hst hr4 hk4
    have hfin : DonePost w l (doit (files l) c) (.returned v4) W4 := ⟨v4, _, rfl, hw4.1, by rw [HDo.out, hw4.2, HOld.out, HZs.out], k3.trans' hk4, nw_wit hr4 k3.size HOf.out (fun q h => h)⟩
    have HF := Hid_mk hfin
    obtain ⟨a4, c4, rfl, -⟩ := hr4.opened
    clear hfin hr4 hk4 hw4 hst
    go_wp2
    go_ret
    exact HF.out
  · rw [hp] at HFd
    have hold : old (files l) (nm c.name) = [] := by unfold old; rw [get_noplace hno]; rfl
    have HOld := Hid_mk hold
    clear hno hp hold hol
    go_enter Tryz.func59, Tryz.ntmps59
    go_wp2_with fail
    with_reducible refine HFd.out.mono ?_
    rintro e W2 ⟨rfl, hW0⟩
    have d0 : W2.cell? ⟨w.heap.size, 0, none⟩ = some (.int .i64 0) := by rw [← hW0]; simp
    have d1 : W2.cell? ⟨w.heap.size, 1, none⟩ = some (.string c.name) := by rw [← hW0]; simp
    have d2 : W2.cell? ⟨w.heap.size, 2, none⟩ = some (.string c.to) := by rw [← hW0]; simp
    have d3 : W2.cell? ⟨w.heap.size, 3, none⟩ = some (.slice ab c.bytes.length cb) := by rw [← hW0]; simp
    have d4 : W2.cell? ⟨w.heap.size, 4, none⟩ = some (.int .i64 (c.size : Int)) := by rw [← hW0]; simp
    have hz2 : w.heap.size + 1 ≤ W2.heap.size := by rw [← hW0]; simp
    have HO2 := Hid_mk (World.ownsRow_nil W2 (w.heap.size + 1) 5 1)
    have k0 : Kp No w W2 := by rw [← hW0]; exact (Kp.refl No w).alloc _
    have HK2 := Hid_mk k0
    clear hW0 k0
    go_wp2
    go_region_held3 (fun W => W.cell? ⟨w.heap.size, 1, none⟩ = some (.string c.name) ∧ W.cell? ⟨w.heap.size, 3, none⟩ = some (.slice ab c.bytes.length cb))
      (first
        | go_keep
        | (dsimp only; exact ⟨g1, g3⟩)
        | (dsimp only; exact ⟨e1, e3⟩)
        | (dsimp only; exact ⟨d1, d3⟩)
        | assumption)
      (first
        | (go_at_call 68; (with_reducible refine (with_any W3 _ _ l c.name _ (H.out.no k3) (by omega) HN.out HY.out).mono ?_); rintro e W4 ⟨k9, hst, v4, rfl, hr4, hk4⟩; have g1 := hk4.cell' e1 id; have g3 := hk4.cell' e3 id)
        | (refine step_append_bs _ (by rfl) _ _ (by rfl) (w.heap.size + 1) (.slice none 0 0) [] (by rfl) (owns_kept HO2.out ((Kp.refl No W2).drew) (fun _ _ => id)) _ c.bytes (by rfl) (bs_no HB.out HK2.out.drew) (by first | omega | (simp; omega)) (by first | (simp; omega) | omega) ?_; intro v3 W3 happ; have kw := (Kp.refl (fun k => some k = ((.slice none 0 0) : Value).ownBlock) W2.drew).grown happ.2.1 (fun i hi e => e.symm); have k3 : Kp No w W3 := HK2.out.drew.trans kw (fun i hi e => by have := (World.ownsRow.lt HO2.out i e.symm).1; omega); have e1 := kw.cell' (((Kp.refl No W2).drew).cell' d1 id) (fun e => by have h9 := (World.ownsRow.lt HO2.out w.heap.size e.symm).1; omega); have e3 := kw.cell' (((Kp.refl No W2).drew).cell' d3 id) (fun e => by have h9 := (World.ownsRow.lt HO2.out w.heap.size e.symm).1; omega); obtain ⟨zs, hzs⟩ : ∃ zs, [] ++ c.bytes = zs := ⟨_, rfl⟩; have HZs := Hid_mk hzs; have hbz := owns_bs happ.1; rw [hzs] at hbz; have HOf := Hid_mk (off_owns happ.1 (show w.heap.size ≤ _ by omega)); obtain ⟨a9, c9, rfl, -⟩ := id hbz; have HY := Hid_mk hbz; clear hzs hbz happ kw))
    have hw4 := wit_fl (H.out.no k3) HY.out hst hr4 hk4
    have hfin : DonePost w l (doit (files l) c) (.returned v4) W4 := ⟨v4, _, rfl, hw4.1, by rw [HDo.out, hw4.2, HOld.out, HZs.out], k3.trans' hk4, nw_wit hr4 k3.size HOf.out (fun q h => h)⟩
    have HF := Hid_mk hfin
    obtain ⟨a4, c4, rfl, -⟩ := hr4.opened
    clear hfin hr4 hk4 hw4 hst
    go_wp2
    go_ret
    exact HF.out

set_option maxRecDepth 100000 in
set_option maxHeartbeats 4000000 in
theorem done_trunc (w : World) (v vb : Value) (l : List Fv) (c : Change) (h : Fl w v l) (hr : Rising (files l)) (hl : l.length ≤ 100000000) (hn : c.name.size ≤ maxLen) (hkind : c.kind = 1) (hb : Bs w vb c.bytes) (hu : used (files l) ≤ 1000000000000) (hsz : c.size ≤ (old (files l) (nm c.name)).length) :
    Calls Tryz.prog 59 #[v, chg c vb] w (DonePost w l (doit (files l) c)) := by
  unfold chg
  have hdo : doit (files l) c = doit (files l) c := rfl
  conv at hdo => rhs; unfold doit; rw [hkind]
  simp only at hdo
  have HDo := Hid_mk hdo
  rw [hkind, show ((1 : Nat) : Int) = 1 from rfl]
  have H := Hid_mk h
  have HB := Hid_mk hb
  obtain ⟨a, cap, rfl, h1, h2, h3⟩ := h.1.opened
  have HC := Hid_mk h3
  obtain ⟨ab, cb, rfl, -⟩ := id hb
  have hfd := find_any (w.alloc (.cells #[.int .i64 1, .string c.name, .string c.to, .slice ab c.bytes.length cb, .int .i64 (c.size : Int)] 84)) (.slice a l.length cap) l c.name (h.no ((Kp.refl No w).alloc _)) (by omega) hn
  have HFd := Hid_mk hfd
  have HN := Hid_mk hn
  have hol : (old (files l) (nm c.name)).length ≤ 1000000000000 := Nat.le_trans (get_len hr _) hu
  have hpc := place_cases l c.name
  have HR := Hid_mk hr
  clear h3 h hb hfd hn hdo hr
  rcases hpc with ⟨k, hk, he, hp⟩ | ⟨hno, hp⟩
  · rw [hp] at HFd
    have hold := get_place HR.out hk he
    obtain ⟨b, rfl, hc⟩ := HC.out (by intro e; rw [e] at hk; simp at hk)
    obtain ⟨q, hq⟩ : ∃ q, q = l[k] := ⟨_, rfl⟩
    have hqb := H.out.2 q (hq ▸ List.getElem_mem hk)
    rw [← hq] at hold
    obtain ⟨x, y, bs⟩ := q
    simp only at hqb hold
    have c1 := (hc k hk).2.trans (congrArg (fun y : Fv => some y.2.1) hq.symm)
    simp only at c1
    have HQ := Hid_mk hqb
    have hki : (k : Int) < (l.length : Int) := by omega
    have hk0 : (0 : Int) ≤ (k : Int) := Int.natCast_nonneg _
    obtain ⟨ay, cy, rfl, -⟩ := id hqb
    have HOld := Hid_mk hold
    rw [hold] at hol
    clear hc hq hqb he hp hk hold
    go_enter Tryz.func59, Tryz.ntmps59
    go_wp2_with fail
    with_reducible refine HFd.out.mono ?_
    rintro e W0 ⟨rfl, hW0⟩
    have b0 : W0.cell? ⟨w.heap.size, 0, none⟩ = some (.int .i64 1) := by rw [← hW0]; simp
    have b1 : W0.cell? ⟨w.heap.size, 1, none⟩ = some (.string c.name) := by rw [← hW0]; simp
    have b2 : W0.cell? ⟨w.heap.size, 2, none⟩ = some (.string c.to) := by rw [← hW0]; simp
    have b3 : W0.cell? ⟨w.heap.size, 3, none⟩ = some (.slice ab c.bytes.length cb) := by rw [← hW0]; simp
    have b4 : W0.cell? ⟨w.heap.size, 4, none⟩ = some (.int .i64 (c.size : Int)) := by rw [← hW0]; simp
    have hz0 : W0.heap.size = w.heap.size + 1 := by rw [← hW0]; simp
    have k0 : Kp No w W0 := by rw [← hW0]; exact (Kp.refl No w).alloc _
    have HK0 := Hid_mk k0
    have c1a := (k0.alloc (.cells #[] 5)).cell' c1 id
    have HZ0 := Hid_mk hz0
    clear hW0 k0 c1 hz0
    go_wp2_with (at_builtin; (refine wpList_append_bs _ rfl _ _ rfl W0.heap.size _ [] rfl (World.ownsRow_made W0 #[] 0 (Nat.le_refl _) (by decide) rfl) _ bs rfl (bs_no HQ.out (HK0.out.alloc _)) (show ([] : List UInt8).length + _ ≤ _ by simp; omega) (by simp) ?_))
    rintro v2 W2 happ
    obtain ⟨g2, cap2, rfl, ho2⟩ := app_new happ
    have k2 : Kp No W0 W2 := ((Kp.refl No W0).alloc _).grown happ.2.1 (fun i hi e => by simp [Value.ownBlock] at e; omega)
    have d0 := k2.cell' b0 id
    have d1 := k2.cell' b1 id
    have d2 := k2.cell' b2 id
    have d3 := k2.cell' b3 id
    have d4 := k2.cell' b4 id
    have HO2 := Hid_mk (owns_base ho2 (show w.heap.size + 1 ≤ _ by have := HZ0.out; omega))
    have HK2 := Hid_mk (HK0.out.trans' k2)
    have hz2 := k2.size
    rw [HZ0.out] at hz2
    clear happ ho2 k2 b0 b1 b2 b3 b4 c1a
    have hbz := owns_bs HO2.out
    obtain ⟨_, _, ee, hcc, -⟩ := id hbz
    simp only [Value.slice.injEq] at ee
    obtain ⟨-, -, rfl⟩ := ee
    have hs1 : c.size ≤ bs.length := by rw [← HOld.out]; exact hsz
    have hs2 : (c.size : Int) ≤ (cap2 : Int) := by omega
    have hs0 : (0 : Int) ≤ (c.size : Int) := Int.natCast_nonneg _
    have HY := Hid_mk (bs_take hbz c.size hs1)
    clear hbz hsz
    go_wp2
    go_region_held3 (fun W => W.cell? ⟨w.heap.size, 1, none⟩ = some (.string c.name) ∧ W.cell? ⟨w.heap.size, 4, none⟩ = some (.int .i64 (c.size : Int)))
      (first
        | go_keep
        | (dsimp only; exact ⟨g1, g4⟩)
        | (dsimp only; exact ⟨d1, d4⟩)
        | assumption)
      ((go_at_call 68; (with_reducible refine (with_any W2.drew _ _ l c.name _ (H.out.no HK2.out.drew) (by omega) HN.out (bs_no HY.out ((Kp.refl No W2).drew))).mono ?_); rintro e W4 ⟨k9, hst, v4, rfl, hr4, hk4⟩; have g1 := hk4.cell' (((Kp.refl No W2).drew).cell' d1 id) id; have g4 := hk4.cell' (((Kp.refl No W2).drew).cell' d4 id) id))
    have hw4 := wit_fl (H.out.no HK2.out.drew) (bs_no HY.out ((Kp.refl No W2).drew)) hst hr4 hk4
    have hfin : DonePost w l (doit (files l) c) (.returned v4) W4 := ⟨v4, _, rfl, hw4.1, by rw [HDo.out, hw4.2, HOld.out], HK2.out.drew.trans' hk4, nw_wit hr4 HK2.out.drew.size (off_at (by have := (World.ownsRow.lt HO2.out g2 rfl).1; omega)) (fun q h => h)⟩
    have HF := Hid_mk hfin
    obtain ⟨a4, c4, rfl, -⟩ := hr4.opened
    clear hfin hr4 hk4 hw4 hst
    go_wp2
    go_ret
    exact HF.out
  · rw [hp] at HFd
    have hold : old (files l) (nm c.name) = [] := by unfold old; rw [get_noplace hno]; rfl
    have HOld := Hid_mk hold
    clear hno hp hold hol
    go_enter Tryz.func59, Tryz.ntmps59
    go_wp2_with fail
    with_reducible refine HFd.out.mono ?_
    rintro e W2 ⟨rfl, hW0⟩
    have d0 : W2.cell? ⟨w.heap.size, 0, none⟩ = some (.int .i64 1) := by rw [← hW0]; simp
    have d1 : W2.cell? ⟨w.heap.size, 1, none⟩ = some (.string c.name) := by rw [← hW0]; simp
    have d2 : W2.cell? ⟨w.heap.size, 2, none⟩ = some (.string c.to) := by rw [← hW0]; simp
    have d3 : W2.cell? ⟨w.heap.size, 3, none⟩ = some (.slice ab c.bytes.length cb) := by rw [← hW0]; simp
    have d4 : W2.cell? ⟨w.heap.size, 4, none⟩ = some (.int .i64 (c.size : Int)) := by rw [← hW0]; simp
    have hz2 : w.heap.size + 1 ≤ W2.heap.size := by rw [← hW0]; simp
    have HO2 := Hid_mk (World.ownsRow_nil W2 (w.heap.size + 1) 5 1)
    have k0 : Kp No w W2 := by rw [← hW0]; exact (Kp.refl No w).alloc _
    have HK2 := Hid_mk k0
    clear hW0 k0
    have hz0 : c.size = 0 := by
      have := hsz
      rw [HOld.out] at this
      simpa using this
    have HZ := Hid_mk hz0
    rw [hz0] at d4
    have HY : Hid (Bs W2 (.slice none 0 0) []) := Hid_mk ⟨none, 0, rfl, Nat.le_refl _, Nat.zero_le _, fun h => absurd rfl h⟩
    clear hsz hz0
    go_wp2
    go_region_held3 (fun W => W.cell? ⟨w.heap.size, 1, none⟩ = some (.string c.name) ∧ W.cell? ⟨w.heap.size, 4, none⟩ = some (.int .i64 ((0 : Nat) : Int)))
      (first
        | go_keep
        | (dsimp only; exact ⟨g1, g4⟩)
        | (dsimp only; exact ⟨d1, d4⟩)
        | assumption)
      ((go_at_call 68; (with_reducible refine (with_any W2.drew _ _ l c.name _ (H.out.no HK2.out.drew) (by omega) HN.out (bs_no HY.out ((Kp.refl No W2).drew))).mono ?_); rintro e W4 ⟨k9, hst, v4, rfl, hr4, hk4⟩; have g1 := hk4.cell' (((Kp.refl No W2).drew).cell' d1 id) id; have g4 := hk4.cell' (((Kp.refl No W2).drew).cell' d4 id) id))
    have hw4 := wit_fl (H.out.no HK2.out.drew) (bs_no HY.out ((Kp.refl No W2).drew)) hst hr4 hk4
    have hfin : DonePost w l (doit (files l) c) (.returned v4) W4 := ⟨v4, _, rfl, hw4.1, by rw [HDo.out, hw4.2, HOld.out]; simp, HK2.out.drew.trans' hk4, nw_wit hr4 HK2.out.drew.size (off_nil _ _ _) (fun q h => h)⟩
    have HF := Hid_mk hfin
    obtain ⟨a4, c4, rfl, -⟩ := hr4.opened
    clear hfin hr4 hk4 hw4 hst
    go_wp2
    go_ret
    exact HF.out

set_option maxRecDepth 100000 in
set_option maxHeartbeats 4000000 in
theorem done_rename (w : World) (v vb : Value) (l : List Fv) (c : Change) (h : Fl w v l) (hr : Rising (files l)) (hl : l.length ≤ 100000000) (hn : c.name.size ≤ maxLen) (hkind : c.kind = 2) (hb : Bs w vb c.bytes) (hu : used (files l) ≤ 1000000000000) (hto : c.to.size ≤ maxLen) :
    Calls Tryz.prog 59 #[v, chg c vb] w (DonePost w l (doit (files l) c)) := by
  unfold chg
  have hdo : doit (files l) c = doit (files l) c := rfl
  conv at hdo => rhs; unfold doit; rw [hkind]
  simp only at hdo
  have HDo := Hid_mk hdo
  rw [hkind, show ((2 : Nat) : Int) = 2 from rfl]
  have H := Hid_mk h
  have HB := Hid_mk hb
  obtain ⟨a, cap, rfl, h1, h2, h3⟩ := h.1.opened
  have HC := Hid_mk h3
  obtain ⟨ab, cb, rfl, -⟩ := id hb
  have hfd := find_any (w.alloc (.cells #[.int .i64 2, .string c.name, .string c.to, .slice ab c.bytes.length cb, .int .i64 (c.size : Int)] 84)) (.slice a l.length cap) l c.name (h.no ((Kp.refl No w).alloc _)) (by omega) hn
  have HFd := Hid_mk hfd
  have HN := Hid_mk hn
  have hol : (old (files l) (nm c.name)).length ≤ 1000000000000 := Nat.le_trans (get_len hr _) hu
  have hpc := place_cases l c.name
  have HR := Hid_mk hr
  clear h3 h hb hfd hn hdo hr
  rcases hpc with ⟨k, hk, he, hp⟩ | ⟨hno, hp⟩
  · rw [hp] at HFd
    have hold := get_place HR.out hk he
    obtain ⟨b, rfl, hc⟩ := HC.out (by intro e; rw [e] at hk; simp at hk)
    obtain ⟨q, hq⟩ : ∃ q, q = l[k] := ⟨_, rfl⟩
    have hqb := H.out.2 q (hq ▸ List.getElem_mem hk)
    rw [← hq] at hold
    obtain ⟨x, y, bs⟩ := q
    simp only at hqb hold
    have c1 := (hc k hk).2.trans (congrArg (fun y : Fv => some y.2.1) hq.symm)
    simp only at c1
    have HQ := Hid_mk hqb
    have hki : (k : Int) < (l.length : Int) := by omega
    have hk0 : (0 : Int) ≤ (k : Int) := Int.natCast_nonneg _
    obtain ⟨ay, cy, rfl, -⟩ := id hqb
    have HOld := Hid_mk hold
    rw [hold] at hol
    clear hc hq hqb he hp hk hold
    go_enter Tryz.func59, Tryz.ntmps59
    go_wp2_with fail
    with_reducible refine HFd.out.mono ?_
    rintro e W0 ⟨rfl, hW0⟩
    have b0 : W0.cell? ⟨w.heap.size, 0, none⟩ = some (.int .i64 2) := by rw [← hW0]; simp
    have b1 : W0.cell? ⟨w.heap.size, 1, none⟩ = some (.string c.name) := by rw [← hW0]; simp
    have b2 : W0.cell? ⟨w.heap.size, 2, none⟩ = some (.string c.to) := by rw [← hW0]; simp
    have b3 : W0.cell? ⟨w.heap.size, 3, none⟩ = some (.slice ab c.bytes.length cb) := by rw [← hW0]; simp
    have b4 : W0.cell? ⟨w.heap.size, 4, none⟩ = some (.int .i64 (c.size : Int)) := by rw [← hW0]; simp
    have hz0 : W0.heap.size = w.heap.size + 1 := by rw [← hW0]; simp
    have k0 : Kp No w W0 := by rw [← hW0]; exact (Kp.refl No w).alloc _
    have HK0 := Hid_mk k0
    have c1a := (k0.alloc (.cells #[] 5)).cell' c1 id
    have HZ0 := Hid_mk hz0
    clear hW0 k0 c1 hz0
    go_wp2_with (at_builtin; (refine wpList_append_bs _ rfl _ _ rfl W0.heap.size _ [] rfl (World.ownsRow_made W0 #[] 0 (Nat.le_refl _) (by decide) rfl) _ bs rfl (bs_no HQ.out (HK0.out.alloc _)) (show ([] : List UInt8).length + _ ≤ _ by simp; omega) (by simp) ?_))
    rintro v2 W2 happ
    obtain ⟨g2, cap2, rfl, ho2⟩ := app_new happ
    have k2 : Kp No W0 W2 := ((Kp.refl No W0).alloc _).grown happ.2.1 (fun i hi e => by simp [Value.ownBlock] at e; omega)
    have d0 := k2.cell' b0 id
    have d1 := k2.cell' b1 id
    have d2 := k2.cell' b2 id
    have d3 := k2.cell' b3 id
    have d4 := k2.cell' b4 id
    have HO2 := Hid_mk (owns_base ho2 (show w.heap.size + 1 ≤ _ by have := HZ0.out; omega))
    have HK2 := Hid_mk (HK0.out.trans' k2)
    have hz2 := k2.size
    rw [HZ0.out] at hz2
    clear happ ho2 k2 b0 b1 b2 b3 b4 c1a
    have HY := Hid_mk (owns_bs HO2.out)
    have HTo := Hid_mk hto
    have hlb := but_le c.name l
    clear hto
    go_wp2
    go_region_held3 (fun W => W.cell? ⟨w.heap.size, 1, none⟩ = some (.string c.name) ∧ W.cell? ⟨w.heap.size, 2, none⟩ = some (.string c.to))
      (first
        | go_keep
        | (dsimp only; exact ⟨g1, g2'⟩)
        | (dsimp only; exact ⟨e1, e2⟩)
        | (dsimp only; exact ⟨d1, d2⟩)
        | assumption)
      (first
        | (go_at_call 69; (with_reducible refine (without_any W2.drew _ l c.name (H.out.no HK2.out.drew) (by omega) HN.out).mono ?_); rintro e W3 ⟨v3, rfl, hr3, hk3⟩; have k3 := HK2.out.drew.trans' hk3; have e1 := hk3.cell' (((Kp.refl No W2).drew).cell' d1 id) id; have e2 := hk3.cell' (((Kp.refl No W2).drew).cell' d2 id) id; have HF3 := Hid_mk (but_fl (H.out.no HK2.out.drew) hr3 hk3); have HY3 := Hid_mk (bs_no (bs_no HY.out ((Kp.refl No W2).drew)) hk3); obtain ⟨a3, c3, rfl, -⟩ := hr3.opened; clear hr3)
        | (go_at_call 68; (with_reducible refine (with_any W3 _ _ (but c.name l) c.to _ HF3.out (by omega) HTo.out HY3.out).mono ?_); rintro e W4 ⟨k9, hst, v4, rfl, hr4, hk4⟩; have g1 := hk4.cell' e1 id; have g2' := hk4.cell' e2 id))
    have hw4 := wit_fl HF3.out HY3.out hst hr4 hk4
    have hfin : DonePost w l (doit (files l) c) (.returned v4) W4 := ⟨v4, _, rfl, hw4.1, by rw [HDo.out, hw4.2, HOld.out, files_but], k3.trans' hk4, nw_wit hr4 k3.size (off_at (by have := (World.ownsRow.lt HO2.out g2 rfl).1; omega)) (fun q h => (List.mem_filter.1 h).1)⟩
    have HF := Hid_mk hfin
    obtain ⟨a4, c4, rfl, -⟩ := hr4.opened
    clear hfin hr4 hk4 hw4 hst
    go_wp2
    go_ret
    exact HF.out
  · rw [hp] at HFd
    have hold : old (files l) (nm c.name) = [] := by unfold old; rw [get_noplace hno]; rfl
    have HOld := Hid_mk hold
    clear hno hp hold hol
    go_enter Tryz.func59, Tryz.ntmps59
    go_wp2_with fail
    with_reducible refine HFd.out.mono ?_
    rintro e W2 ⟨rfl, hW0⟩
    have d0 : W2.cell? ⟨w.heap.size, 0, none⟩ = some (.int .i64 2) := by rw [← hW0]; simp
    have d1 : W2.cell? ⟨w.heap.size, 1, none⟩ = some (.string c.name) := by rw [← hW0]; simp
    have d2 : W2.cell? ⟨w.heap.size, 2, none⟩ = some (.string c.to) := by rw [← hW0]; simp
    have d3 : W2.cell? ⟨w.heap.size, 3, none⟩ = some (.slice ab c.bytes.length cb) := by rw [← hW0]; simp
    have d4 : W2.cell? ⟨w.heap.size, 4, none⟩ = some (.int .i64 (c.size : Int)) := by rw [← hW0]; simp
    have hz2 : w.heap.size + 1 ≤ W2.heap.size := by rw [← hW0]; simp
    have HO2 := Hid_mk (World.ownsRow_nil W2 (w.heap.size + 1) 5 1)
    have k0 : Kp No w W2 := by rw [← hW0]; exact (Kp.refl No w).alloc _
    have HK2 := Hid_mk k0
    clear hW0 k0
    have HY : Hid (Bs W2 (.slice none 0 0) []) := Hid_mk ⟨none, 0, rfl, Nat.le_refl _, Nat.zero_le _, fun h => absurd rfl h⟩
    have HTo := Hid_mk hto
    have hlb := but_le c.name l
    clear hto
    go_wp2
    go_region_held3 (fun W => W.cell? ⟨w.heap.size, 1, none⟩ = some (.string c.name) ∧ W.cell? ⟨w.heap.size, 2, none⟩ = some (.string c.to))
      (first
        | go_keep
        | (dsimp only; exact ⟨g1, g2'⟩)
        | (dsimp only; exact ⟨e1, e2⟩)
        | (dsimp only; exact ⟨d1, d2⟩)
        | assumption)
      (first
        | (go_at_call 69; (with_reducible refine (without_any W2.drew _ l c.name (H.out.no HK2.out.drew) (by omega) HN.out).mono ?_); rintro e W3 ⟨v3, rfl, hr3, hk3⟩; have k3 := HK2.out.drew.trans' hk3; have e1 := hk3.cell' (((Kp.refl No W2).drew).cell' d1 id) id; have e2 := hk3.cell' (((Kp.refl No W2).drew).cell' d2 id) id; have HF3 := Hid_mk (but_fl (H.out.no HK2.out.drew) hr3 hk3); have HY3 := Hid_mk (bs_no (bs_no HY.out ((Kp.refl No W2).drew)) hk3); obtain ⟨a3, c3, rfl, -⟩ := hr3.opened; clear hr3)
        | (go_at_call 68; (with_reducible refine (with_any W3 _ _ (but c.name l) c.to _ HF3.out (by omega) HTo.out HY3.out).mono ?_); rintro e W4 ⟨k9, hst, v4, rfl, hr4, hk4⟩; have g1 := hk4.cell' e1 id; have g2' := hk4.cell' e2 id))
    have hw4 := wit_fl HF3.out HY3.out hst hr4 hk4
    have hfin : DonePost w l (doit (files l) c) (.returned v4) W4 := ⟨v4, _, rfl, hw4.1, by rw [HDo.out, hw4.2, HOld.out, files_but], k3.trans' hk4, nw_wit hr4 k3.size (off_nil _ _ _) (fun q h => (List.mem_filter.1 h).1)⟩
    have HF := Hid_mk hfin
    obtain ⟨a4, c4, rfl, -⟩ := hr4.opened
    clear hfin hr4 hk4 hw4 hst
    go_wp2
    go_ret
    exact HF.out

end Go.Proofs.YtmehneicdklfeaaGreat.r2
