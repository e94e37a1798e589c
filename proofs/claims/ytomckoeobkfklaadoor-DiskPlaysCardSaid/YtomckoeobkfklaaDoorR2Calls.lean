/- The reference's Disk: Append, Truncate, Rename, Remove, Sync. -/
import Derived.Test.YtomckoeobkfklaaDoorR2Rel
namespace Go.Proofs.YtomckoeobkfklaaDoor.r2
open Go.RowKit Go.Maps Go.Proofs.YtomckoeobkfklaaDoor.sum Go.Proofs.YtomckoeobkfklaaDoor.kept Go.Proofs.YtomckoeobkfklaaDoor.app Go.Proofs.YtomckoeobkfklaaDoor.writer Go.Proofs.YtomckoeobkfklaaDoor.clone Go.Proofs.YtomckoeobkfklaaDoor.fs Go.Proofs.YtomckoeobkfklaaDoor.fsDo Go.Proofs.YtomckoeobkfklaaDoor.unseal Go.Proofs.YtomckoeobkfklaaDoor.dsk
set_option linter.unusedVariables false

theorem wrapU (z : Int) (h : -9223372036854775808 ≤ z ∧ z ≤ 9223372036854775807) : IntKind.i64.wrap z = z := IntWalk.i64_in _ (by omega)

section
variable {w : World} {ρ : Nat → Role} {r : Nat} {d : DSt} {x : RSt} {vs vn vw : Value} {ls ln : List Fv} {ps : List (Change × Value)} {M : Nat}

/-- where a name stands, beside what the files tell -/
theorem place_get (hd : RD d x ls ln ps) (n : ByteArray) : (∃ k, ∃ h : k < ln.length, ln[k].1 = n ∧ place ln n = (k : Int) ∧ (get d.now (nm n)).isSome = true) ∨ (place ln n = -1 ∧ (get d.now (nm n)).isSome = false) := by
  rcases place_cases ln n with ⟨k, hk, he, hp⟩ | ⟨hno, hp⟩
  · refine .inl ⟨k, hk, he, hp, ?_⟩
    cases hg : fs.get d.now (nm n) with
    | some _ => rfl
    | none =>
      have := get_none.1 hg (nm ln[k].1, ln[k].2.2) (by rw [← hd.now]; exact List.mem_map.2 ⟨ln[k], List.getElem_mem hk, rfl⟩)
      exact absurd (by rw [he]) this
  · refine .inr ⟨hp, ?_⟩
    rw [← hd.now, get_noplace hno]
    rfl

/-- does, as a call leaves it -/
theorem pushed_any (h : RS w ρ r (cntX x) vs vn vw ls ln ps) (hd : RD d x ls ln ps) (hok : DOk M d) (hM : M ≤ 1000) (hi : ∀ k, w.heap.size ≤ k → ρ k = .other) (c : Change) (vb : Value) (hc : c.fits d.now) (hn : c.name.size ≤ maxLen) (hto : c.to.size ≤ maxLen)
    (hb : Bs w vb c.bytes) (ha : c.bytes ≠ [] → Aw w ρ r vb) (hbl : c.bytes.length ≤ 1000000000000) :
    Calls Tryd.prog 44 #[.pointer (some ⟨r, 0, none⟩), chg c vb] w (RPost w ρ r (pushD d c) (.int .i64 0)) := by
  obtain ⟨b1, b2, b3, b4, -⟩ := hd.bounds hok hM
  refine (does_any w ρ r (cntX x) vs vn vw vb ls ln ps c h (by rw [hd.now]; exact hc) hn hto hb ha b1 (by omega) (by omega) hbl (by omega) hi).mono ?_
  rintro e w' ⟨he, hk, vs', vn', vw', ln', hR, hf⟩
  exact ⟨he, hk, _, _, _, _, _, _, _, hR, hd.pushed hf⟩

theorem RPost.is {w w' : World} {d : DSt} {res : Value} {e : Ending} (h : RPost w ρ r d res e w') : e = .returned res := h.1
theorem RPost.done {w w1 w' : World} {d : DSt} {res : Value} {e : Ending} (h : RPost w1 ρ r d res e w') (hk : Kp (fun k => k = r) w w1) : RPost w ρ r d res e w' := ⟨h.1, hk.trans' h.2.1, h.2.2⟩
end

set_option maxRecDepth 100000 in
set_option maxHeartbeats 4000000 in
theorem refremove_any (w : World) (ρ : Nat → Role) (r : Nat) (d : DSt) (x : RSt) (vs vn vw : Value) (ls ln : List Fv) (ps : List (Change × Value)) (M : Nat) (h : RS w ρ r x vs vn vw ls ln ps) (hd : RD d x ls ln ps) (hok : DOk M d) (hM : M ≤ 1000) (hi : ∀ k, w.heap.size ≤ k → ρ k = .other)
    (n : ByteArray) (hn : n.size ≤ maxLen) : Calls Tryd.prog 20 #[.pointer (some ⟨r, 0, none⟩), .string n] w (RPost w ρ r (rmR d n).2 (.int .i64 (rmR d n).1)) := by
  have HCt := Hid_mk (counted_any w ρ r d x vs vn vw ls ln ps h hd)
  obtain ⟨b1, b2, b3, b4, -⟩ := hd.bounds hok hM
  have hpg := place_get hd n
  have HD := Hid_mk hd
  have HOk := Hid_mk hok
  have HI := Hid_mk hi
  clear h hd hok hi
  cases hs : stopB d with
  | true =>
    rw [hs] at HCt
    have e : rmR d n = (3, stopD d) := by unfold rmR; rw [if_pos hs]
    rw [e]
    clear e hpg
    go_enter Tryd.func20, Tryd.ntmps20
    go_wp2_with fail
    with_reducible refine HCt.out.mono ?_
    rintro e w1 ⟨rfl, hR, hk⟩
    have HF : Hid (RPost w ρ r (stopD d) (.int .i64 3) (.returned (.int .i64 3)) w1) := Hid_mk ⟨rfl, hk, _, _, _, _, _, _, _, hR, HD.out.counted⟩
    clear hR hk
    go_wp2
    go_ret
    exact HF.out
  | false =>
    rw [hs] at HCt
    rcases hpg with ⟨k, hk, he, hp, hg⟩ | ⟨hp, hg⟩
    · have e : rmR d n = (0, pushD d (remC n)) := by unfold rmR; rw [hs, hg]; rfl
      rw [e]
      clear e he
      have hk0 : ¬ (k : Int) < 0 := by omega
      go_enter Tryd.func20, Tryd.ntmps20
      go_wp2_with fail
      with_reducible refine HCt.out.mono ?_
      rintro e w1 ⟨rfl, hR, hkp⟩
      have c2 := hR.at_.c2
      have HFd := Hid_mk (find_any w1 vn ln n hR.fn (by omega) hn)
      rw [hp] at HFd
      have hdo := pushed_any hR HD.out HOk.out hM (fun k hk => HI.out k (Nat.le_trans hkp.size hk)) (remC n) (.slice none 0 0) ⟨by show (3 : Nat) < 4; omega, fun e => by cases e⟩ hn (by show (0 : Nat) ≤ _; exact Nat.zero_le _) ⟨none, 0, rfl, Nat.le_refl _, Nat.zero_le _, fun h => absurd rfl h⟩ (fun h => absurd rfl h) (by show (0 : Nat) ≤ _; omega)
      have HDo : Hid (Calls Tryd.prog 44 #[.pointer (some ⟨r, 0, none⟩), .agg #[.int .i64 3, .string n, .string ⟨#[]⟩, .slice none 0 0, .int .i64 0]] w1 (RPost w1 ρ r (pushD d (remC n)) (.int .i64 0))) := Hid_mk hdo
      have HK := Hid_mk hkp
      clear hR hkp hdo HCt
      go_wp2_with (first
        | (go_at_call 42; with_reducible refine HFd.out.mono ?_; rintro e w' ⟨rfl, rfl⟩)
        | (go_at_call 44; with_reducible refine HDo.out.mono ?_; rintro e w2 hpost; have hpd := RPost.done hpost HK.out; have he2 := RPost.is hpd; subst he2; have HP := Hid_mk hpd; clear hpd hpost))
      go_ret
      exact HP.out
    · have e : rmR d n = (4, stopD d) := by unfold rmR; rw [hs, hg]; rfl
      rw [e]
      clear e
      go_enter Tryd.func20, Tryd.ntmps20
      go_wp2_with fail
      with_reducible refine HCt.out.mono ?_
      rintro e w1 ⟨rfl, hR, hkp⟩
      have c2 := hR.at_.c2
      have HFd := Hid_mk (find_any w1 vn ln n hR.fn (by omega) hn)
      rw [hp] at HFd
      have HF : Hid (RPost w ρ r (stopD d) (.int .i64 4) (.returned (.int .i64 4)) w1) := Hid_mk ⟨rfl, hkp, _, _, _, _, _, _, _, hR, HD.out.counted⟩
      clear hR hkp HCt
      go_wp2_with (first
        | (go_at_call 42; with_reducible refine HFd.out.mono ?_; rintro e w' ⟨rfl, rfl⟩))
      go_ret
      exact HF.out


set_option maxRecDepth 100000 in
set_option maxHeartbeats 4000000 in
theorem refsync_any (w : World) (ρ : Nat → Role) (r : Nat) (d : DSt) (x : RSt) (vs vn vw : Value) (ls ln : List Fv) (ps : List (Change × Value)) (M : Nat) (h : RS w ρ r x vs vn vw ls ln ps) (hd : RD d x ls ln ps) (hok : DOk M d) (hM : M ≤ 1000) (hi : ∀ k, w.heap.size ≤ k → ρ k = .other)
     : Calls Tryd.prog 21 #[.pointer (some ⟨r, 0, none⟩)] w (RPost w ρ r (syR d).2 (.int .i64 (syR d).1)) := by
  have HCt := Hid_mk (counted_any w ρ r d x vs vn vw ls ln ps h hd)
  obtain ⟨b1, b2, b3, b4, -⟩ := hd.bounds hok hM
  have HD := Hid_mk hd
  have HOk := Hid_mk hok
  have HI := Hid_mk hi
  clear h hd hok hi
  cases hs : stopB d with
  | true =>
    rw [hs] at HCt
    have e : syR d = (3, stopD d) := by unfold syR; rw [if_pos hs]
    rw [e]
    clear e b1
    go_enter Tryd.func21, Tryd.ntmps21
    go_wp2_with fail
    with_reducible refine HCt.out.mono ?_
    rintro e w1 ⟨rfl, hR, hk⟩
    have HF : Hid (RPost w ρ r (stopD d) (.int .i64 3) (.returned (.int .i64 3)) w1) := Hid_mk ⟨rfl, hk, _, _, _, _, _, _, _, hR, HD.out.counted⟩
    clear hR hk
    go_wp2
    go_ret
    exact HF.out
  | false =>
    rw [hs] at HCt
    have e : syR d = (0, { stopD d with syn := d.now, cs := [] }) := by unfold syR; rw [hs]; rfl
    rw [e]
    clear e
    go_enter Tryd.func21, Tryd.ntmps21
    go_wp2_with fail
    with_reducible refine HCt.out.mono ?_
    rintro e w1 ⟨rfl, hR, hkp⟩
    have c1 := hR.at_.c1
    have c2 := hR.at_.c2
    have hw1 := hR.at_.warm 1
    have g3 := (hR.at_.set_syn vn).c3
    have gw := (hR.at_.set_syn vn).warm 3
    obtain ⟨an, cn, rfl⟩ : ∃ a c, vn = .slice a ln.length c := by
      obtain ⟨a, c, e, -⟩ := hR.fn.1.opened
      exact ⟨a, c, e⟩
    have hR2 := hR.put_syn hR.fn hR.na hR.bn (kp_p w1 r 1 _) (hR.at_.set_syn _)
    have hR3 := hR2.put_wait (Wt.nil _) (Aw.nil _ _ _ _ _) (fun q hq => by cases hq) (kp_p _ r 3 _) (hR2.at_.set_wait _)
    have hrd : RD { stopD d with syn := d.now, cs := [] } (cntX x) ln ln [] := by
      have k := HD.out.counted
      exact ⟨k.room, k.down, k.fuse, k.fuse0, k.fuse1, HD.out.now, by rw [HD.out.now]; rfl, rfl⟩
    have HF : Hid (RPost w ρ r { stopD d with syn := d.now, cs := [] } (.int .i64 0) (.returned (.int .i64 0)) ((w1.setCell ⟨r, 1, none⟩ (.slice an ln.length cn)).setCell ⟨r, 3, none⟩ (.slice none 0 0))) := Hid_mk ⟨rfl, (hkp.trans' (kp_p _ _ _ _)).trans' (kp_p _ _ _ _), _, _, _, _, _, _, _, hR3, hrd⟩
    clear hR hR2 hR3 hrd hkp HCt
    go_wp2
    go_ret
    exact HF.out

set_option maxRecDepth 100000 in
set_option maxHeartbeats 4000000 in
theorem refrename_any (w : World) (ρ : Nat → Role) (r : Nat) (d : DSt) (x : RSt) (vs vn vw : Value) (ls ln : List Fv) (ps : List (Change × Value)) (M : Nat) (h : RS w ρ r x vs vn vw ls ln ps) (hd : RD d x ls ln ps) (hok : DOk M d) (hM : M ≤ 1000) (hi : ∀ k, w.heap.size ≤ k → ρ k = .other)
    (n to : ByteArray) (hn : n.size ≤ maxLen) (hto : to.size ≤ maxLen) : Calls Tryd.prog 19 #[.pointer (some ⟨r, 0, none⟩), .string n, .string to] w (RPost w ρ r (reR d n to).2 (.int .i64 (reR d n to).1)) := by
  have HCt := Hid_mk (counted_any w ρ r d x vs vn vw ls ln ps h hd)
  obtain ⟨b1, b2, b3, b4, -⟩ := hd.bounds hok hM
  have hpg := place_get hd n
  have HD := Hid_mk hd
  have HOk := Hid_mk hok
  have HI := Hid_mk hi
  clear h hd hok hi
  cases hs : stopB d with
  | true =>
    rw [hs] at HCt
    have e : reR d n to = (3, stopD d) := by unfold reR; rw [if_pos hs]
    rw [e]
    clear e hpg
    go_enter Tryd.func19, Tryd.ntmps19
    go_wp2_with fail
    with_reducible refine HCt.out.mono ?_
    rintro e w1 ⟨rfl, hR, hk⟩
    have HF : Hid (RPost w ρ r (stopD d) (.int .i64 3) (.returned (.int .i64 3)) w1) := Hid_mk ⟨rfl, hk, _, _, _, _, _, _, _, hR, HD.out.counted⟩
    clear hR hk
    go_wp2
    go_ret
    exact HF.out
  | false =>
    rw [hs] at HCt
    cases hnb : nameB to with
    | false =>
      have e : reR d n to = (1, stopD d) := by unfold reR; rw [hs, hnb]; rfl
      rw [e]
      clear e hpg
      go_enter Tryd.func19, Tryd.ntmps19
      go_wp2_with fail
      with_reducible refine HCt.out.mono ?_
      rintro e w1 ⟨rfl, hR, hkp⟩
      have HNm := Hid_mk (refname_any w1 to hto)
      rw [hnb] at HNm
      have HF : Hid (RPost w ρ r (stopD d) (.int .i64 1) (.returned (.int .i64 1)) w1) := Hid_mk ⟨rfl, hkp, _, _, _, _, _, _, _, hR, HD.out.counted⟩
      clear hR hkp HCt
      go_wp2_with (first | (go_at_call 45; with_reducible refine HNm.out.mono ?_; rintro e w' ⟨rfl, rfl⟩))
      go_ret
      exact HF.out
    | true =>
      rcases hpg with ⟨k, hk, he, hp, hg⟩ | ⟨hp, hg⟩
      · have e : reR d n to = (0, pushD d (renC n to)) := by unfold reR; rw [hs, hnb, hg]; rfl
        rw [e]
        clear e he
        have hk0 : ¬ (k : Int) < 0 := by omega
        go_enter Tryd.func19, Tryd.ntmps19
        go_wp2_with fail
        with_reducible refine HCt.out.mono ?_
        rintro e w1 ⟨rfl, hR, hkp⟩
        have c2 := hR.at_.c2
        have HNm := Hid_mk (refname_any w1 to hto)
        rw [hnb] at HNm
        have HFd := Hid_mk (find_any w1 vn ln n hR.fn (by omega) hn)
        rw [hp] at HFd
        have hdo := pushed_any hR HD.out HOk.out hM (fun k hk => HI.out k (Nat.le_trans hkp.size hk)) (renC n to) (.slice none 0 0) ⟨by show (2 : Nat) < 4; omega, fun e => by cases e⟩ hn hto ⟨none, 0, rfl, Nat.le_refl _, Nat.zero_le _, fun h => absurd rfl h⟩ (fun h => absurd rfl h) (by show (0 : Nat) ≤ _; omega)
        have HDo : Hid (Calls Tryd.prog 44 #[.pointer (some ⟨r, 0, none⟩), .agg #[.int .i64 2, .string n, .string to, .slice none 0 0, .int .i64 0]] w1 (RPost w1 ρ r (pushD d (renC n to)) (.int .i64 0))) := Hid_mk hdo
        have HK := Hid_mk hkp
        clear hR hkp hdo HCt
        go_wp2_with (first | (go_at_call 45; with_reducible refine HNm.out.mono ?_; rintro e w' ⟨rfl, rfl⟩) | (go_at_call 42; with_reducible refine HFd.out.mono ?_; rintro e w' ⟨rfl, rfl⟩) | (go_at_call 44; with_reducible refine HDo.out.mono ?_; rintro e w2 hpost; have hpd := RPost.done hpost HK.out; have he2 := RPost.is hpd; subst he2; have HP := Hid_mk hpd; clear hpd hpost))
        go_ret
        exact HP.out
      · have e : reR d n to = (4, stopD d) := by unfold reR; rw [hs, hnb, hg]; rfl
        rw [e]
        clear e
        go_enter Tryd.func19, Tryd.ntmps19
        go_wp2_with fail
        with_reducible refine HCt.out.mono ?_
        rintro e w1 ⟨rfl, hR, hkp⟩
        have c2 := hR.at_.c2
        have HNm := Hid_mk (refname_any w1 to hto)
        rw [hnb] at HNm
        have HFd := Hid_mk (find_any w1 vn ln n hR.fn (by omega) hn)
        rw [hp] at HFd
        have HF : Hid (RPost w ρ r (stopD d) (.int .i64 4) (.returned (.int .i64 4)) w1) := Hid_mk ⟨rfl, hkp, _, _, _, _, _, _, _, hR, HD.out.counted⟩
        clear hR hkp HCt
        go_wp2_with (first | (go_at_call 45; with_reducible refine HNm.out.mono ?_; rintro e w' ⟨rfl, rfl⟩) | (go_at_call 42; with_reducible refine HFd.out.mono ?_; rintro e w' ⟨rfl, rfl⟩))
        go_ret
        exact HF.out

set_option maxRecDepth 100000 in
set_option maxHeartbeats 4000000 in
theorem reftrunc_any (w : World) (ρ : Nat → Role) (r : Nat) (d : DSt) (x : RSt) (vs vn vw : Value) (ls ln : List Fv) (ps : List (Change × Value)) (M : Nat) (h : RS w ρ r x vs vn vw ls ln ps) (hd : RD d x ls ln ps) (hok : DOk M d) (hM : M ≤ 1000) (hi : ∀ k, w.heap.size ≤ k → ρ k = .other)
    (n : ByteArray) (size : Int) (hn : n.size ≤ maxLen) : Calls Tryd.prog 17 #[.pointer (some ⟨r, 0, none⟩), .string n, .int .i64 size] w (RPost w ρ r (trR d n size).2 (.int .i64 (trR d n size).1)) := by
  have HCt := Hid_mk (counted_any w ρ r d x vs vn vw ls ln ps h hd)
  obtain ⟨b1, b2, b3, b4, -⟩ := hd.bounds hok hM
  have hpg := place_get hd n
  have HR1 := Hid_mk b1
  have HD := Hid_mk hd
  have HOk := Hid_mk hok
  have HI := Hid_mk hi
  clear h hd hok hi b1
  cases hs : stopB d with
  | true =>
    rw [hs] at HCt
    have e : trR d n size = (3, stopD d) := by unfold trR; rw [if_pos hs]
    rw [e]
    clear e hpg
    go_enter Tryd.func17, Tryd.ntmps17
    go_wp2_with fail
    with_reducible refine HCt.out.mono ?_
    rintro e w1 ⟨rfl, hR, hk⟩
    have HF : Hid (RPost w ρ r (stopD d) (.int .i64 3) (.returned (.int .i64 3)) w1) := Hid_mk ⟨rfl, hk, _, _, _, _, _, _, _, hR, HD.out.counted⟩
    clear hR hk
    go_wp2
    go_ret
    exact HF.out
  | false =>
    rw [hs] at HCt
    rcases hpg with ⟨k, hk, he, hp, hg⟩ | ⟨hp, hg⟩
    · have hk0 : ¬ (k : Int) < 0 := by omega
      have hk1 : (0 : Int) ≤ (k : Int) := by omega
      have hki : (k : Int) < (ln.length : Int) := by omega
      have hold := get_place HR1.out hk he
      rw [HD.out.now] at hold
      go_enter Tryd.func17, Tryd.ntmps17
      go_wp2_with fail
      with_reducible refine HCt.out.mono ?_
      rintro e w1 ⟨rfl, hR, hkp⟩
      have c2 := hR.at_.c2
      have HFd := Hid_mk (find_any w1 vn ln n hR.fn (by omega) hn)
      rw [hp] at HFd
      obtain ⟨a, cap, rfl, h1, h2, h3⟩ := hR.fn.1.opened
      obtain ⟨b, rfl, hc⟩ := h3 (by intro e; rw [e] at hk; simp at hk)
      obtain ⟨q, hq⟩ : ∃ q, q = ln[k] := ⟨_, rfl⟩
      have hqb := hR.fn.2 q (hq ▸ List.getElem_mem hk)
      rw [← hq] at hold
      obtain ⟨y, z, bs⟩ := q
      simp only at hqb hold
      obtain ⟨az, cz, rfl, -⟩ := hqb
      have c1 : w1.cell? ⟨b, k * 2 + 1, none⟩ = some (.slice az bs.length cz) := (hc k hk).2.trans (congrArg (fun y : Fv => some y.2.1) hq.symm)
      have HRt := Hid_mk hR
      have HK := Hid_mk hkp
      have HOld := Hid_mk hold
      clear hc hq h3 hR hkp HCt he hp hk hold
      by_cases hs0 : size < 0
      · have e : trR d n size = (1, stopD d) := by unfold trR; rw [hs, hg, if_neg (by simp), if_neg (by simp), if_pos hs0]
        have HE := Hid_mk e
        have HF : Hid (RPost w ρ r (stopD d) (.int .i64 1) (.returned (.int .i64 1)) w1) := Hid_mk ⟨rfl, HK.out, _, _, _, _, _, _, _, HRt.out, HD.out.counted⟩
        clear e
        go_wp2_with (first | (go_at_call 42; with_reducible refine HFd.out.mono ?_; rintro e w' ⟨rfl, rfl⟩))
        go_ret
        rw [HE.out]
        exact HF.out
      · by_cases hs1 : (bs.length : Int) < size
        · have e : trR d n size = (1, stopD d) := by unfold trR; rw [hs, hg, HOld.out, if_neg (by simp), if_neg (by simp), if_neg hs0, if_pos hs1]
          have HE := Hid_mk e
          have HF : Hid (RPost w ρ r (stopD d) (.int .i64 1) (.returned (.int .i64 1)) w1) := Hid_mk ⟨rfl, HK.out, _, _, _, _, _, _, _, HRt.out, HD.out.counted⟩
          clear e
          go_wp2_with (first | (go_at_call 42; with_reducible refine HFd.out.mono ?_; rintro e w' ⟨rfl, rfl⟩))
          go_ret
          rw [HE.out]
          exact HF.out
        · have e : trR d n size = (0, pushD d (truncC n size.toNat)) := by unfold trR; rw [hs, hg, HOld.out, if_neg (by simp), if_neg (by simp), if_neg hs0, if_neg hs1]
          have HE := Hid_mk e
          obtain ⟨m, rfl⟩ : ∃ m : Nat, size = (m : Int) := ⟨size.toNat, by omega⟩
          simp only [Int.toNat_natCast] at *
          have hdo := pushed_any HRt.out HD.out HOk.out hM (fun k hk => HI.out k (Nat.le_trans HK.out.size hk)) (truncC n m) (.slice none 0 0) ⟨by show (1 : Nat) < 4; omega, fun _ => by show m ≤ (old d.now (nm n)).length; rw [HOld.out]; omega⟩ hn (by show (0 : Nat) ≤ _; exact Nat.zero_le _) ⟨none, 0, rfl, Nat.le_refl _, Nat.zero_le _, fun h => absurd rfl h⟩ (fun h => absurd rfl h) (by show (0 : Nat) ≤ _; omega)
          have HDo : Hid (Calls Tryd.prog 44 #[.pointer (some ⟨r, 0, none⟩), .agg #[.int .i64 1, .string n, .string ⟨#[]⟩, .slice none 0 0, .int .i64 (m : Int)]] w1 (RPost w1 ρ r (pushD d (truncC n m)) (.int .i64 0))) := Hid_mk hdo
          clear hdo HRt e
          go_wp2_with (first | (go_at_call 42; with_reducible refine HFd.out.mono ?_; rintro e w' ⟨rfl, rfl⟩) | (go_at_call 44; with_reducible refine HDo.out.mono ?_; rintro e w2 hpost; have hpd := RPost.done hpost HK.out; have he2 := RPost.is hpd; subst he2; have HP := Hid_mk hpd; clear hpd hpost))
          go_ret
          rw [HE.out]
          exact HP.out
    · have e : trR d n size = (4, stopD d) := by unfold trR; rw [hs, hg]; rfl
      rw [e]
      clear e
      go_enter Tryd.func17, Tryd.ntmps17
      go_wp2_with fail
      with_reducible refine HCt.out.mono ?_
      rintro e w1 ⟨rfl, hR, hkp⟩
      have c2 := hR.at_.c2
      have HFd := Hid_mk (find_any w1 vn ln n hR.fn (by omega) hn)
      rw [hp] at HFd
      have HF : Hid (RPost w ρ r (stopD d) (.int .i64 4) (.returned (.int .i64 4)) w1) := Hid_mk ⟨rfl, hkp, _, _, _, _, _, _, _, hR, HD.out.counted⟩
      clear hR hkp HCt
      go_wp2_with (first | (go_at_call 42; with_reducible refine HFd.out.mono ?_; rintro e w' ⟨rfl, rfl⟩))
      go_ret
      exact HF.out

end Go.Proofs.YtomckoeobkfklaaDoor.r2
