/- The reference's Disk: Append, Truncate, Rename, Remove, Sync. The reference's Disk: Append. The reference's Disk: Crash. -/
import Derived.Test.YtmehneicdklfeaaGreatR2DoesM

namespace Go.Proofs.YtmehneicdklfeaaGreat.r2
open Go.RowKit Go.Maps Go.Proofs.YtmehneicdklfeaaGreat.sum Go.Proofs.YtmehneicdklfeaaGreat.kept Go.Proofs.YtmehneicdklfeaaGreat.app Go.Proofs.YtmehneicdklfeaaGreat.writer Go.Proofs.YtmehneicdklfeaaGreat.clone Go.Proofs.YtmehneicdklfeaaGreat.fs Go.Proofs.YtmehneicdklfeaaGreat.fsDo Go.Proofs.YtmehneicdklfeaaGreat.unseal Go.Proofs.YtmehneicdklfeaaGreat.dsk
set_option linter.unusedVariables false

theorem wrapU (z : Int) (h : -9223372036854775808 ≤ z ∧ z ≤ 9223372036854775807) : IntKind.i64.wrap z = z := IntWalk.i64_in _ (by omega)

section
variable {w : World} {ρ : Nat → Role} {r : Nat} {d : DSt} {x : RSt} {vs vn vw : Value} {ls ln : List Fv} {ps : List (Change × Value)} {M : Nat}

/-- where a name stands, beside what the files tell -/
theorem place_get (hd : RD d x ls ln ps) (n : ByteArray) : (∃ k, ∃ h : k < ln.length, ln[k].1 = n ∧ place ln n = (k : Int) ∧ (get d.now (nm n)).isSome = true) ∨ (place ln n = -1 ∧ (get d.now (nm n)).isSome = false) := by
  rcases place_cases ln n with ⟨k, hk, he, hp⟩ | ⟨hno, hp⟩
  · refine .inl ⟨k, hk, he, hp, ?_⟩
    cases hg : fs.get d.now (nm n) with
    | some _ => rfl
    | none =>
      have := get_none.1 hg (nm ln[k].1, ln[k].2.2) (by rw [← hd.now]; exact List.mem_map.2 ⟨ln[k], List.getElem_mem hk, rfl⟩)
      exact absurd (by rw [he]) this
  · refine .inr ⟨hp, ?_⟩
    rw [← hd.now, get_noplace hno]
    rfl

/-- does, as a call leaves it -/
theorem pushed_any (h : RS w ρ r (cntX x) vs vn vw ls ln ps) (hd : RD d x ls ln ps) (hok : DOk M d) (hM : M ≤ 1000) (hi : ∀ k, w.heap.size ≤ k → ρ k = .other) (c : Change) (vb : Value) (hc : c.fits d.now) (hn : c.name.size ≤ maxLen) (hto : c.to.size ≤ maxLen)
    (hb : Bs w vb c.bytes) (ha : c.bytes ≠ [] → Aw w ρ r vb) (hbl : c.bytes.length ≤ 1000000000000) :
    Calls Tryz.prog 53 #[.pointer (some ⟨r, 0, none⟩), chg c vb] w (RPost w ρ r (pushD d c) (.int .i64 0)) := by
  obtain ⟨b1, b2, b3, b4, -⟩ := hd.bounds hok hM
  refine (does_any w ρ r (cntX x) vs vn vw vb ls ln ps c h (by rw [hd.now]; exact hc) hn hto hb ha b1 (by omega) (by omega) hbl (by omega) hi).mono ?_
  rintro e w' ⟨he, hk, vs', vn', vw', ln', hR, hf⟩
  exact ⟨he, hk, _, _, _, _, _, _, _, hR, hd.pushed hf⟩

theorem RPost.is {w w' : World} {d : DSt} {res : Value} {e : Ending} (h : RPost w ρ r d res e w') : e = .returned res := h.1
theorem RPost.done {w w1 w' : World} {d : DSt} {res : Value} {e : Ending} (h : RPost w1 ρ r d res e w') (hk : Kp (fun k => k = r) w w1) : RPost w ρ r d res e w' := ⟨h.1, hk.trans' h.2.1, h.2.2⟩
end

set_option maxRecDepth 100000 in
set_option maxHeartbeats 4000000 in
theorem refremove_any (w : World) (ρ : Nat → Role) (r : Nat) (d : DSt) (x : RSt) (vs vn vw : Value) (ls ln : List Fv) (ps : List (Change × Value)) (M : Nat) (h : RS w ρ r x vs vn vw ls ln ps) (hd : RD d x ls ln ps) (hok : DOk M d) (hM : M ≤ 1000) (hi : ∀ k, w.heap.size ≤ k → ρ k = .other)
    (n : ByteArray) (hn : n.size ≤ maxLen) : Calls Tryz.prog 30 #[.pointer (some ⟨r, 0, none⟩), .string n] w (RPost w ρ r (rmR d n).2 (.int .i64 (rmR d n).1)) := by
  have HCt := Hid_mk (counted_any w ρ r d x vs vn vw ls ln ps h hd)
  obtain ⟨b1, b2, b3, b4, -⟩ := hd.bounds hok hM
  have hpg := place_get hd n
  have HD := Hid_mk hd
  have HOk := Hid_mk hok
  have HI := Hid_mk hi
  clear h hd hok hi
  cases hs : stopB d with
  | true =>
    rw [hs] at HCt
    have e : rmR d n = (3, stopD d) := by unfold rmR; rw [if_pos hs]
    rw [e]
    clear e hpg
    go_enter Tryz.func30, Tryz.ntmps30
    go_wp2_with fail
    with_reducible refine HCt.out.mono ?_
    rintro e w1 ⟨rfl, hR, hk⟩
    have HF : Hid (RPost w ρ r (stopD d) (.int .i64 3) (.returned (.int .i64 3)) w1) := Hid_mk ⟨rfl, hk, _, _, _, _, _, _, _, hR, HD.out.counted⟩
    clear hR hk
    go_wp2
    go_ret
    exact HF.out
  | false =>
    rw [hs] at HCt
    rcases hpg with ⟨k, hk, he, hp, hg⟩ | ⟨hp, hg⟩
    · have e : rmR d n = (0, pushD d (remC n)) := by unfold rmR; rw [hs, hg]; rfl
      rw [e]
      clear e he
      have hk0 : ¬ (k : Int) < 0 := by omega
      go_enter Tryz.func30, Tryz.ntmps30
      go_wp2_with fail
      with_reducible refine HCt.out.mono ?_
      rintro e w1 ⟨rfl, hR, hkp⟩
      have c2 := hR.at_.c2
      have HFd := Hid_mk (find_any w1 vn ln n hR.fn (by omega) hn)
      rw [hp] at HFd
      have hdo := pushed_any hR HD.out HOk.out hM (fun k hk => HI.out k (Nat.le_trans hkp.size hk)) (remC n) (.slice none 0 0) ⟨by show (3 : Nat) < 4; omega, fun e => by cases e⟩ hn (by show (0 : Nat) ≤ _; exact Nat.zero_le _) ⟨none, 0, rfl, Nat.le_refl _, Nat.zero_le _, fun h => absurd rfl h⟩ (fun h => absurd rfl h) (by show (0 : Nat) ≤ _; omega)
      have HDo : Hid (Calls Tryz.prog 53 #[.pointer (some ⟨r, 0, none⟩), .agg #[.int .i64 3, .string n, .string ⟨#[]⟩, .slice none 0 0, .int .i64 0]] w1 (RPost w1 ρ r (pushD d (remC n)) (.int .i64 0))) := Hid_mk hdo
      have HK := Hid_mk hkp
      clear hR hkp hdo HCt
      go_wp2_with (first
        | (go_at_call 52; with_reducible refine HFd.out.mono ?_; rintro e w' ⟨rfl, rfl⟩)
        | (go_at_call 53; with_reducible refine HDo.out.mono ?_; rintro e w2 hpost; have hpd := RPost.done hpost HK.out; have he2 := RPost.is hpd; subst he2; have HP := Hid_mk hpd; clear hpd hpost))
      go_ret
      exact HP.out
    · have e : rmR d n = (4, stopD d) := by unfold rmR; rw [hs, hg]; rfl
      rw [e]
      clear e
      go_enter Tryz.func30, Tryz.ntmps30
      go_wp2_with fail
      with_reducible refine HCt.out.mono ?_
      rintro e w1 ⟨rfl, hR, hkp⟩
      have c2 := hR.at_.c2
      have HFd := Hid_mk (find_any w1 vn ln n hR.fn (by omega) hn)
      rw [hp] at HFd
      have HF : Hid (RPost w ρ r (stopD d) (.int .i64 4) (.returned (.int .i64 4)) w1) := Hid_mk ⟨rfl, hkp, _, _, _, _, _, _, _, hR, HD.out.counted⟩
      clear hR hkp HCt
      go_wp2_with (first
        | (go_at_call 52; with_reducible refine HFd.out.mono ?_; rintro e w' ⟨rfl, rfl⟩))
      go_ret
      exact HF.out


set_option maxRecDepth 100000 in
set_option maxHeartbeats 4000000 in
theorem refsync_any (w : World) (ρ : Nat → Role) (r : Nat) (d : DSt) (x : RSt) (vs vn vw : Value) (ls ln : List Fv) (ps : List (Change × Value)) (M : Nat) (h : RS w ρ r x vs vn vw ls ln ps) (hd : RD d x ls ln ps) (hok : DOk M d) (hM : M ≤ 1000) (hi : ∀ k, w.heap.size ≤ k → ρ k = .other)
     : Calls Tryz.prog 19 #[.pointer (some ⟨r, 0, none⟩)] w (RPost w ρ r (syR d).2 (.int .i64 (syR d).1)) := by
  have HCt := Hid_mk (counted_any w ρ r d x vs vn vw ls ln ps h hd)
  obtain ⟨b1, b2, b3, b4, -⟩ := hd.bounds hok hM
  have HD := Hid_mk hd
  have HOk := Hid_mk hok
  have HI := Hid_mk hi
  clear h hd hok hi
  cases hs : stopB d with
  | true =>
    rw [hs] at HCt
    have e : syR d = (3, stopD d) := by unfold syR; rw [if_pos hs]
    rw [e]
    clear e b1
    go_enter Tryz.func19, Tryz.ntmps19
    go_wp2_with fail
    with_reducible refine HCt.out.mono ?_
    rintro e w1 ⟨rfl, hR, hk⟩
    have HF : Hid (RPost w ρ r (stopD d) (.int .i64 3) (.returned (.int .i64 3)) w1) := Hid_mk ⟨rfl, hk, _, _, _, _, _, _, _, hR, HD.out.counted⟩
    clear hR hk
    go_wp2
    go_ret
    exact HF.out
  | false =>
    rw [hs] at HCt
    have e : syR d = (0, { stopD d with syn := d.now, cs := [] }) := by unfold syR; rw [hs]; rfl
    rw [e]
    clear e
    go_enter Tryz.func19, Tryz.ntmps19
    go_wp2_with fail
    with_reducible refine HCt.out.mono ?_
    rintro e w1 ⟨rfl, hR, hkp⟩
    have c1 := hR.at_.c1
    have c2 := hR.at_.c2
    have hw1 := hR.at_.warm 1
    have g3 := (hR.at_.set_syn vn).c3
    have gw := (hR.at_.set_syn vn).warm 3
    obtain ⟨an, cn, rfl⟩ : ∃ a c, vn = .slice a ln.length c := by
      obtain ⟨a, c, e, -⟩ := hR.fn.1.opened
      exact ⟨a, c, e⟩
    have hR2 := hR.put_syn hR.fn hR.na hR.bn (kp_p w1 r 1 _) (hR.at_.set_syn _)
    have hR3 := hR2.put_wait (Wt.nil _) (Aw.nil _ _ _ _ _) (fun q hq => by cases hq) (kp_p _ r 3 _) (hR2.at_.set_wait _)
    have hrd : RD { stopD d with syn := d.now, cs := [] } (cntX x) ln ln [] := by
      have k := HD.out.counted
      exact ⟨k.room, k.down, k.fuse, k.fuse0, k.fuse1, HD.out.now, by rw [HD.out.now]; rfl, rfl⟩
    have HF : Hid (RPost w ρ r { stopD d with syn := d.now, cs := [] } (.int .i64 0) (.returned (.int .i64 0)) ((w1.setCell ⟨r, 1, none⟩ (.slice an ln.length cn)).setCell ⟨r, 3, none⟩ (.slice none 0 0))) := Hid_mk ⟨rfl, (hkp.trans' (kp_p _ _ _ _)).trans' (kp_p _ _ _ _), _, _, _, _, _, _, _, hR3, hrd⟩
    clear hR hR2 hR3 hrd hkp HCt
    go_wp2
    go_ret
    exact HF.out

set_option maxRecDepth 100000 in
set_option maxHeartbeats 4000000 in
theorem refrename_any (w : World) (ρ : Nat → Role) (r : Nat) (d : DSt) (x : RSt) (vs vn vw : Value) (ls ln : List Fv) (ps : List (Change × Value)) (M : Nat) (h : RS w ρ r x vs vn vw ls ln ps) (hd : RD d x ls ln ps) (hok : DOk M d) (hM : M ≤ 1000) (hi : ∀ k, w.heap.size ≤ k → ρ k = .other)
    (n to : ByteArray) (hn : n.size ≤ maxLen) (hto : to.size ≤ maxLen) : Calls Tryz.prog 36 #[.pointer (some ⟨r, 0, none⟩), .string n, .string to] w (RPost w ρ r (reR d n to).2 (.int .i64 (reR d n to).1)) := by
  have HCt := Hid_mk (counted_any w ρ r d x vs vn vw ls ln ps h hd)
  obtain ⟨b1, b2, b3, b4, -⟩ := hd.bounds hok hM
  have hpg := place_get hd n
  have HD := Hid_mk hd
  have HOk := Hid_mk hok
  have HI := Hid_mk hi
  clear h hd hok hi
  cases hs : stopB d with
  | true =>
    rw [hs] at HCt
    have e : reR d n to = (3, stopD d) := by unfold reR; rw [if_pos hs]
    rw [e]
    clear e hpg
    go_enter Tryz.func36, Tryz.ntmps36
    go_wp2_with fail
    with_reducible refine HCt.out.mono ?_
    rintro e w1 ⟨rfl, hR, hk⟩
    have HF : Hid (RPost w ρ r (stopD d) (.int .i64 3) (.returned (.int .i64 3)) w1) := Hid_mk ⟨rfl, hk, _, _, _, _, _, _, _, hR, HD.out.counted⟩
    clear hR hk
    go_wp2
    go_ret
    exact HF.out
  | false =>
    rw [hs] at HCt
    cases hnb : nameB to with
    | false =>
      have e : reR d n to = (1, stopD d) := by unfold reR; rw [hs, hnb]; rfl
      rw [e]
      clear e hpg
      go_enter Tryz.func36, Tryz.ntmps36
      go_wp2_with fail
      with_reducible refine HCt.out.mono ?_
      rintro e w1 ⟨rfl, hR, hkp⟩
      have HNm := Hid_mk (refname_any w1 to hto)
      rw [hnb] at HNm
      have HF : Hid (RPost w ρ r (stopD d) (.int .i64 1) (.returned (.int .i64 1)) w1) := Hid_mk ⟨rfl, hkp, _, _, _, _, _, _, _, hR, HD.out.counted⟩
      clear hR hkp HCt
      go_wp2_with (first | (go_at_call 51; with_reducible refine HNm.out.mono ?_; rintro e w' ⟨rfl, rfl⟩))
      go_ret
      exact HF.out
    | true =>
      rcases hpg with ⟨k, hk, he, hp, hg⟩ | ⟨hp, hg⟩
      · have e : reR d n to = (0, pushD d (renC n to)) := by unfold reR; rw [hs, hnb, hg]; rfl
        rw [e]
        clear e he
        have hk0 : ¬ (k : Int) < 0 := by omega
        go_enter Tryz.func36, Tryz.ntmps36
        go_wp2_with fail
        with_reducible refine HCt.out.mono ?_
        rintro e w1 ⟨rfl, hR, hkp⟩
        have c2 := hR.at_.c2
        have HNm := Hid_mk (refname_any w1 to hto)
        rw [hnb] at HNm
        have HFd := Hid_mk (find_any w1 vn ln n hR.fn (by omega) hn)
        rw [hp] at HFd
        have hdo := pushed_any hR HD.out HOk.out hM (fun k hk => HI.out k (Nat.le_trans hkp.size hk)) (renC n to) (.slice none 0 0) ⟨by show (2 : Nat) < 4; omega, fun e => by cases e⟩ hn hto ⟨none, 0, rfl, Nat.le_refl _, Nat.zero_le _, fun h => absurd rfl h⟩ (fun h => absurd rfl h) (by show (0 : Nat) ≤ _; omega)
        have HDo : Hid (Calls Tryz.prog 53 #[.pointer (some ⟨r, 0, none⟩), .agg #[.int .i64 2, .string n, .string to, .slice none 0 0, .int .i64 0]] w1 (RPost w1 ρ r (pushD d (renC n to)) (.int .i64 0))) := Hid_mk hdo
        have HK := Hid_mk hkp
        clear hR hkp hdo HCt
        go_wp2_with (first | (go_at_call 51; with_reducible refine HNm.out.mono ?_; rintro e w' ⟨rfl, rfl⟩) | (go_at_call 52; with_reducible refine HFd.out.mono ?_; rintro e w' ⟨rfl, rfl⟩) | (go_at_call 53; with_reducible refine HDo.out.mono ?_; rintro e w2 hpost; have hpd := RPost.done hpost HK.out; have he2 := RPost.is hpd; subst he2; have HP := Hid_mk hpd; clear hpd hpost))
        go_ret
        exact HP.out
      · have e : reR d n to = (4, stopD d) := by unfold reR; rw [hs, hnb, hg]; rfl
        rw [e]
        clear e
        go_enter Tryz.func36, Tryz.ntmps36
        go_wp2_with fail
        with_reducible refine HCt.out.mono ?_
        rintro e w1 ⟨rfl, hR, hkp⟩
        have c2 := hR.at_.c2
        have HNm := Hid_mk (refname_any w1 to hto)
        rw [hnb] at HNm
        have HFd := Hid_mk (find_any w1 vn ln n hR.fn (by omega) hn)
        rw [hp] at HFd
        have HF : Hid (RPost w ρ r (stopD d) (.int .i64 4) (.returned (.int .i64 4)) w1) := Hid_mk ⟨rfl, hkp, _, _, _, _, _, _, _, hR, HD.out.counted⟩
        clear hR hkp HCt
        go_wp2_with (first | (go_at_call 51; with_reducible refine HNm.out.mono ?_; rintro e w' ⟨rfl, rfl⟩) | (go_at_call 52; with_reducible refine HFd.out.mono ?_; rintro e w' ⟨rfl, rfl⟩))
        go_ret
        exact HF.out

end Go.Proofs.YtmehneicdklfeaaGreat.r2

namespace Go.Proofs.YtmehneicdklfeaaGreat.r2
open Go.RowKit Go.Maps Go.Proofs.YtmehneicdklfeaaGreat.sum Go.Proofs.YtmehneicdklfeaaGreat.kept Go.Proofs.YtmehneicdklfeaaGreat.app Go.Proofs.YtmehneicdklfeaaGreat.writer Go.Proofs.YtmehneicdklfeaaGreat.clone Go.Proofs.YtmehneicdklfeaaGreat.fs Go.Proofs.YtmehneicdklfeaaGreat.fsDo Go.Proofs.YtmehneicdklfeaaGreat.unseal Go.Proofs.YtmehneicdklfeaaGreat.dsk
set_option linter.unusedVariables false

set_option maxRecDepth 100000 in
set_option maxHeartbeats 4000000 in
theorem refappend_any (w : World) (ρ : Nat → Role) (r : Nat) (d : DSt) (x : RSt) (vs vn vw : Value) (ls ln : List Fv) (ps : List (Change × Value)) (M : Nat) (h : RS w ρ r x vs vn vw ls ln ps) (hd : RD d x ls ln ps) (hok : DOk M d) (hM : M ≤ 1000) (hi : ∀ k, w.heap.size ≤ k → ρ k = .other)
    (n : ByteArray) (vb : Value) (bs : List UInt8) (hn : n.size ≤ maxLen) (hb : Bs w vb bs) (ha : bs ≠ [] → Aw w ρ r vb) (hbl : bs.length ≤ 1000000000000000) : Calls Tryz.prog 17 #[.pointer (some ⟨r, 0, none⟩), .string n, vb] w (RPost w ρ r (appR d n bs).2 (.int .i64 (appR d n bs).1)) := by
  have HCt := Hid_mk (counted_any w ρ r d x vs vn vw ls ln ps h hd)
  obtain ⟨b1, b2, b3, b4, -⟩ := hd.bounds hok hM
  have hpg := place_get hd n
  have hroom := hd.room
  have hsp : (cntX x).space = d.room := by rw [hd.room]; unfold cntX; split <;> (try split) <;> rfl
  have hr0 := hok.room0
  have hr1 := hok.room1
  have hlen : d.now.length = ln.length := by rw [← hd.now, files_len]
  have hup := hd.up
  have hnow := hd.now
  have HB := Hid_mk hb
  have HA := Hid_mk ha
  obtain ⟨ab, cb, rfl, -⟩ := id hb
  have HD := Hid_mk hd
  have HOk := Hid_mk hok
  have HI := Hid_mk hi
  clear h hd hok hi b1 hb ha
  cases hs : stopB d with
  | true =>
    rw [hs] at HCt
    have e : appR d n bs = (3, stopD d) := by unfold appR; rw [if_pos hs]
    rw [e]
    clear e hpg hup
    go_enter Tryz.func17, Tryz.ntmps17
    go_wp2_with fail
    with_reducible refine HCt.out.mono ?_
    rintro e w1 ⟨rfl, hR, hk⟩
    have HF : Hid (RPost w ρ r (stopD d) (.int .i64 3) (.returned (.int .i64 3)) w1) := Hid_mk ⟨rfl, hk, _, _, _, _, _, _, _, hR, HD.out.counted⟩
    clear hR hk
    go_wp2
    go_ret
    exact HF.out
  | false =>
    rw [hs] at HCt
    have hdn := hup hs
    cases hnb : nameB n with
    | false =>
      have e : appR d n bs = (1, stopD d) := by unfold appR; rw [hs, hnb]; rfl
      rw [e]
      clear e hpg hup
      go_enter Tryz.func17, Tryz.ntmps17
      go_wp2_with fail
      with_reducible refine HCt.out.mono ?_
      rintro e w1 ⟨rfl, hR, hkp⟩
      have HNm := Hid_mk (refname_any w1 n hn)
      rw [hnb] at HNm
      have HF : Hid (RPost w ρ r (stopD d) (.int .i64 1) (.returned (.int .i64 1)) w1) := Hid_mk ⟨rfl, hkp, _, _, _, _, _, _, _, hR, HD.out.counted⟩
      clear hR hkp HCt
      go_wp2_with (first | (go_at_call 51; with_reducible refine HNm.out.mono ?_; rintro e w' ⟨rfl, rfl⟩))
      go_ret
      exact HF.out
    | true =>
      have hns : n.size ≤ 16 := by simp [nameB] at hnb; exact hnb.2
      obtain ⟨K, hK⟩ : ∃ K, K = place ln n := ⟨_, rfl⟩
      have hK0 : -1 ≤ K ∧ (K < 0 ↔ (get d.now (nm n)).isSome = false) ∧ K ≤ (ln.length : Int) := by
        rcases hpg with ⟨k, hk, he, hp, hg⟩ | ⟨hp, hg⟩
        · rw [hK, hp, hg]; refine ⟨by omega, ⟨fun h => absurd h (by omega), fun h => by cases h⟩, by omega⟩
        · rw [hK, hp, hg]; exact ⟨by omega, ⟨fun _ => rfl, fun _ => by omega⟩, by omega⟩
      obtain ⟨hK1, hK2, hK3⟩ := hK0
      have HK2 := Hid_mk hK2
      clear hpg hK2
      go_enter Tryz.func17, Tryz.ntmps17
      go_wp2_with fail
      with_reducible refine HCt.out.mono ?_
      rintro e w1 ⟨rfl, hR, hkp⟩
      have HNm := Hid_mk (refname_any w1 n hn)
      rw [hnb] at HNm
      go_wp2_with fail
      with_reducible refine HNm.out.mono ?_
      rintro e w' ⟨rfl, rfl⟩
      have c0 := hR.at_.c0
      rw [hsp] at c0
      have c2 := hR.at_.c2
      have hu := refused_any w1 r (cntX x) vs vn vw ln hR.at_ hR.fn (by omega) (by omega)
      rw [hdn, if_neg (by simp), hnow] at hu
      have hfd := find_any w1 vn ln n hR.fn (by omega) hn
      rw [← hK] at hfd
      have hdrw : ∀ N, RS (w1.drewN N) ρ r (cntX x) vs vn vw ls ln ps := fun N => hR.no ((Kp.refl No w1).drewN N)
      have hu2 : ∀ N, Calls Tryz.prog 40 #[.pointer (some ⟨r, 0, none⟩)] (w1.drewN N) fun e W1 => e = .returned (.int .i64 (used d.now : Int)) ∧ ∃ m, W1 = w1.drewN m := fun N => by
        have hu := refused_any (w1.drewN N) r (cntX x) vs vn vw ln (hdrw N).at_ (hdrw N).fn (by omega) (by omega)
        rw [hdn, if_neg (by simp), hnow] at hu
        exact hu.mono fun _ _ ⟨he, hw⟩ => ⟨he, N, hw.symm⟩
      have hfd2 : ∀ N, Calls Tryz.prog 52 #[vn, .string n] (w1.drewN N) fun e W1 => e = .returned (.int .i64 K) ∧ ∃ m, W1 = w1.drewN m := fun N => by
        have := find_any (w1.drewN N) vn ln n (hdrw N).fn (by omega) hn
        rw [← hK] at this
        exact this.mono fun _ _ ⟨he, hw⟩ => ⟨he, N, hw.symm⟩
      have HU := Hid_mk hu2
      have HFd := Hid_mk hfd2
      obtain ⟨a, cap, rfl, -⟩ := hR.fn.1.opened
      have HRt := Hid_mk hR
      have HK := Hid_mk hkp
      have hub : (used d.now : Int) ≤ 10000000000 := by rw [← hnow]; omega
      obtain ⟨U, hU⟩ : ∃ U, used d.now = U := ⟨_, rfl⟩
      obtain ⟨R, hRm⟩ : ∃ R, d.room = R := ⟨_, rfl⟩
      rw [hU] at hub HU
      rw [hRm] at c0 hr0 hr1
      have HUe := Hid_mk hU
      have HRe := Hid_mk hRm
      have HSp := Hid_mk hsp
      have HKe := Hid_mk hK
      have HLe := Hid_mk hlen
      clear hR hkp HCt HNm hu hfd hdrw hu2 hfd2 hU hRm hK hsp hroom hup hdn hnow hlen
      have h0 : (0 : Int) ≤ (bs.length : Int) := by omega
      by_cases hA1 : R < (bs.length : Int)
      · have e : appR d n bs = (2, stopD d) := by unfold appR; rw [hs, hnb, HUe.out, HRe.out, if_neg (by simp), if_neg (by simp), if_pos (by omega)]
        have HE := Hid_mk e
        clear e
        go_wp2
        go_quiet (fail)
        go_wp2
        go_ret
        rw [HE.out]
        exact ⟨rfl, HK.out.drewN _, _, _, _, _, _, _, _, HRt.out.no ((Kp.refl No w1).drewN _), HD.out.counted⟩
      · have hwr : IntKind.i64.wrap (R - (bs.length : Int)) = R - (bs.length : Int) := wrapU _ (by omega)
        have hd1 : decide (R < (bs.length : Int)) = false := by simpa using hA1
        by_cases hA2 : R - (bs.length : Int) < (U : Int)
        · have e : appR d n bs = (2, stopD d) := by unfold appR; rw [hs, hnb, HUe.out, HRe.out, if_neg (by simp), if_neg (by simp), if_pos (by omega)]
          have HE := Hid_mk e
          have hd2 : decide (R - (bs.length : Int) < (U : Int)) = true := by simpa using hA2
          clear e
          go_wp2
          go_quiet (first | (go_at_call 40; exact HU.out _) | (go_at_call 52; exact HFd.out _))
          go_wp2
          go_ret
          rw [HE.out]
          exact ⟨rfl, HK.out.drewN _, _, _, _, _, _, _, _, HRt.out.no ((Kp.refl No w1).drewN _), HD.out.counted⟩
        · have hd2 : decide (R - (bs.length : Int) < (U : Int)) = false := by simp; omega
          by_cases hB : K < 0 ∧ 64 ≤ (ln.length : Int)
          · have e : appR d n bs = (2, stopD d) := by unfold appR; rw [hs, hnb, HUe.out, HRe.out, if_neg (by simp), if_neg (by simp), if_neg (by omega), if_pos ⟨HK2.out.1 hB.1, by have := HLe.out; omega⟩]
            have HE := Hid_mk e
            obtain ⟨hB1, hB2⟩ := hB
            have hd3 : decide (K < 0) = true := by simpa using hB1
            have hd4 : decide (64 ≤ (ln.length : Int)) = true := by simp; omega
            clear e
            go_wp2
            go_quiet (first | (go_at_call 40; exact HU.out _) | (go_at_call 52; exact HFd.out _))
            go_wp2
            go_ret
            rw [HE.out]
            exact ⟨rfl, HK.out.drewN _, _, _, _, _, _, _, _, HRt.out.no ((Kp.refl No w1).drewN _), HD.out.counted⟩
          · have e : appR d n bs = (0, pushD d (appC n bs)) := by unfold appR; rw [hs, hnb, HUe.out, HRe.out, if_neg (by simp), if_neg (by simp), if_neg (by omega), if_neg (fun h => hB ⟨HK2.out.2 h.1, by have := HLe.out; omega⟩)]
            have HE := Hid_mk e
            have HB1 : Hid (¬ (K < 0 ∧ 64 ≤ (ln.length : Int))) := Hid_mk hB
            have hbl2 : bs.length ≤ 8388608 := by omega
            clear e hB
            by_cases hk : K < 0
            · have hl : ¬ 64 ≤ (ln.length : Int) := fun h => HB1.out ⟨hk, h⟩
              have hd3 : decide (K < 0) = true := by simpa using hk
              have hd4 : decide (64 ≤ (ln.length : Int)) = false := by simp; omega
              go_wp2
              go_quiet (first | (go_at_call 40; exact HU.out _) | (go_at_call 52; exact HFd.out _))
              have hRq := HRt.out.no ((Kp.refl No w1).drewN nq)
              have HRq := Hid_mk hRq
              have hkq := HK.out.drewN nq
              have HBq := Hid_mk (bs_keptE HB.out hkq (fun hne x o m c e => (HA.out hne x o m c e).2.1))
              have HKq := Hid_mk hkq
              have hzq := hkq.size
              have hrlt := hRq.at_.lt
              clear hRq hkq HK HRt HU HFd
              obtain ⟨wq, hwq⟩ : ∃ wq, w1.drewN nq = wq := ⟨_, rfl⟩
              rw [hwq] at HRq HBq HKq hzq hrlt ⊢
              clear hwq
              go_wp2_with (at_builtin; (refine wpList_append_bs _ rfl _ _ rfl wq.heap.size _ [] rfl (World.ownsRow_made wq #[] 0 (Nat.le_refl _) (by decide) rfl) _ bs rfl (bs_no HBq.out ((Kp.refl No wq).alloc _)) (show ([] : List UInt8).length + _ ≤ _ by simp; omega) (by simp) ?_))
              rintro v2 W2 happ
              obtain ⟨g2, cap2, rfl, ho2⟩ := app_new happ
              have k2 : Kp No wq W2 := ((Kp.refl No wq).alloc _).grown happ.2.1 (fun i hi e => by simp [Value.ownBlock] at e; omega)
              have hz2 := k2.size
              have hg2 := World.ownsRow.lt ho2 g2 rfl
              have hdo := pushed_any (HRq.out.no k2) HD.out HOk.out hM (fun k hk => HI.out k (by omega)) (appC n bs) (.slice (some ⟨g2, 0, none⟩) bs.length cap2) ⟨by show (0 : Nat) < 4; omega, fun e => by cases e⟩ hn (by show (0 : Nat) ≤ _; exact Nat.zero_le _) (owns_bs ho2) (fun _ x o m c e => by cases e; exact ⟨HI.out _ (by omega), by omega, hg2.2⟩) (by show bs.length ≤ _; omega)
              have HDo : Hid (Calls Tryz.prog 53 #[.pointer (some ⟨r, 0, none⟩), .agg #[.int .i64 0, .string n, .string ⟨#[]⟩, .slice (some ⟨g2, 0, none⟩) bs.length cap2, .int .i64 0]] W2 (RPost W2 ρ r (pushD d (appC n bs)) (.int .i64 0))) := Hid_mk hdo
              have HK := Hid_mk (HKq.out.trans' (k2.to (S := fun k => k = r)))
              clear hdo happ ho2 k2 HRq HBq
              go_wp2_with (first | (go_at_call 53; with_reducible refine HDo.out.mono ?_; rintro e w2 hpost; have hpd := RPost.done hpost HK.out; have he2 := RPost.is hpd; subst he2; have HP := Hid_mk hpd; clear hpd hpost))
              go_ret
              rw [HE.out]
              exact HP.out

            · have hd3 : decide (K < 0) = false := by simp; omega
              go_wp2
              go_quiet (first | (go_at_call 40; exact HU.out _) | (go_at_call 52; exact HFd.out _))
              have hRq := HRt.out.no ((Kp.refl No w1).drewN nq)
              have HRq := Hid_mk hRq
              have hkq := HK.out.drewN nq
              have HBq := Hid_mk (bs_keptE HB.out hkq (fun hne x o m c e => (HA.out hne x o m c e).2.1))
              have HKq := Hid_mk hkq
              have hzq := hkq.size
              have hrlt := hRq.at_.lt
              clear hRq hkq HK HRt HU HFd
              obtain ⟨wq, hwq⟩ : ∃ wq, w1.drewN nq = wq := ⟨_, rfl⟩
              rw [hwq] at HRq HBq HKq hzq hrlt ⊢
              clear hwq
              go_wp2_with (at_builtin; (refine wpList_append_bs _ rfl _ _ rfl wq.heap.size _ [] rfl (World.ownsRow_made wq #[] 0 (Nat.le_refl _) (by decide) rfl) _ bs rfl (bs_no HBq.out ((Kp.refl No wq).alloc _)) (show ([] : List UInt8).length + _ ≤ _ by simp; omega) (by simp) ?_))
              rintro v2 W2 happ
              obtain ⟨g2, cap2, rfl, ho2⟩ := app_new happ
              have k2 : Kp No wq W2 := ((Kp.refl No wq).alloc _).grown happ.2.1 (fun i hi e => by simp [Value.ownBlock] at e; omega)
              have hz2 := k2.size
              have hg2 := World.ownsRow.lt ho2 g2 rfl
              have hdo := pushed_any (HRq.out.no k2) HD.out HOk.out hM (fun k hk => HI.out k (by omega)) (appC n bs) (.slice (some ⟨g2, 0, none⟩) bs.length cap2) ⟨by show (0 : Nat) < 4; omega, fun e => by cases e⟩ hn (by show (0 : Nat) ≤ _; exact Nat.zero_le _) (owns_bs ho2) (fun _ x o m c e => by cases e; exact ⟨HI.out _ (by omega), by omega, hg2.2⟩) (by show bs.length ≤ _; omega)
              have HDo : Hid (Calls Tryz.prog 53 #[.pointer (some ⟨r, 0, none⟩), .agg #[.int .i64 0, .string n, .string ⟨#[]⟩, .slice (some ⟨g2, 0, none⟩) bs.length cap2, .int .i64 0]] W2 (RPost W2 ρ r (pushD d (appC n bs)) (.int .i64 0))) := Hid_mk hdo
              have HK := Hid_mk (HKq.out.trans' (k2.to (S := fun k => k = r)))
              clear hdo happ ho2 k2 HRq HBq
              go_wp2_with (first | (go_at_call 53; with_reducible refine HDo.out.mono ?_; rintro e w2 hpost; have hpd := RPost.done hpost HK.out; have he2 := RPost.is hpd; subst he2; have HP := Hid_mk hpd; clear hpd hpost))
              go_ret
              rw [HE.out]
              exact HP.out


end Go.Proofs.YtmehneicdklfeaaGreat.r2

namespace Go.Proofs.YtmehneicdklfeaaGreat.r2
open Go.RowKit Go.Maps Go.Proofs.YtmehneicdklfeaaGreat.sum Go.Proofs.YtmehneicdklfeaaGreat.kept Go.Proofs.YtmehneicdklfeaaGreat.app Go.Proofs.YtmehneicdklfeaaGreat.writer Go.Proofs.YtmehneicdklfeaaGreat.clone Go.Proofs.YtmehneicdklfeaaGreat.fs Go.Proofs.YtmehneicdklfeaaGreat.fsDo Go.Proofs.YtmehneicdklfeaaGreat.unseal Go.Proofs.YtmehneicdklfeaaGreat.dsk
set_option linter.unusedVariables false

theorem op_cells {w : World} {base g n cap : Nat} {ps : List (Change × Value)} (h : w.ownsRow base 84 5 (.slice (some ⟨g, 0, none⟩) n cap) ps.length (ps.flatMap chgList)) (j : Nat) (hj : j < ps.length) :
    w.cell? ⟨g, j * 5, none⟩ = some (.int .i64 (ps[j].1.kind : Int)) ∧ w.cell? ⟨g, j * 5 + 1, none⟩ = some (.string ps[j].1.name) ∧ w.cell? ⟨g, j * 5 + 2, none⟩ = some (.string ps[j].1.to) ∧ w.cell? ⟨g, j * 5 + 3, none⟩ = some ps[j].2 ∧ w.cell? ⟨g, j * 5 + 4, none⟩ = some (.int .i64 (ps[j].1.size : Int)) := by
  have flat : ∀ (L : List (Change × Value)) (k : Nat) (hk : k < L.length) (i : Nat) (hi : i < 5), (L.flatMap chgList)[k * 5 + i]? = (chgList L[k])[i]? := by
    intro L
    induction L with
    | nil => intro k hk; simp at hk
    | cons x L ih =>
      intro k hk i hi
      cases k with
      | zero =>
        rw [List.flatMap_cons, List.getElem?_append_left (by show 0 * 5 + i < 5; omega)]
        simp
      | succ k =>
        have := ih k (by simpa using hk) i hi
        rw [List.flatMap_cons, List.getElem?_append_right (by show 5 ≤ _; omega)]
        have e : (k + 1) * 5 + i - (chgList x).length = k * 5 + i := by show (k + 1) * 5 + i - 5 = _; omega
        rw [e, this]
        simp
  have hc : ∀ i u, i < 5 → (chgList ps[j])[i]? = some u → w.cell? ⟨g, j * 5 + i, none⟩ = some u := by
    intro i u hi hu
    have := h.cells (g := g) rfl (j * 5 + i) u (by rw [flat ps j hj i hi]; exact hu)
    rw [addr_add, Nat.zero_add] at this
    exact this
  exact ⟨hc 0 _ (by omega) rfl, hc 1 _ (by omega) rfl, hc 2 _ (by omega) rfl, hc 3 _ (by omega) rfl, hc 4 _ (by omega) rfl⟩

/-- the world behind the five stores at the end -/
def finW (w : World) (r : Nat) (v : Value) : World := ((((w.setCell ⟨r, 1, none⟩ v).setCell ⟨r, 2, none⟩ v).setCell ⟨r, 3, none⟩ (.slice none 0 0)).setCell ⟨r, 4, none⟩ (.bool false)).setCell ⟨r, 6, none⟩ (.bool false)

theorem crash_fin {w : World} {ρ : Nat → Role} {r : Nat} {d : DSt} {x : RSt} {vs vn vw v : Value} {ls ln l : List Fv} {ps : List (Change × Value)} {keep torn : Int} (h : RS w ρ r x vs vn vw ls ln ps) (hd : RD d x ls ln ps)
    (hf : Fl w v l) (ha : Aw w ρ r v) (hb : ∀ q ∈ l, q.2.2 ≠ [] → Aw w ρ r q.2.1) (he : files l = crashF d keep torn) :
    Kp (fun k => k = r) w (finW w r v) ∧ ∃ x' vs' vn' vw' ls' ln' ps', RS (finW w r v) ρ r x' vs' vn' vw' ls' ln' ps' ∧ RD (crashD d keep torn) x' ls' ln' ps' := by
  have s1 := h.put_syn hf ha hb (kp_p w r 1 _) (h.at_.set_syn v)
  have s2 := s1.put_now s1.fs s1.sa s1.bs (kp_p _ r 2 _) (s1.at_.set_now v)
  have s3 := s2.put_wait (Wt.nil _) (Aw.nil _ _ _ _ _) (fun q hq => by cases hq) (kp_p _ r 3 _) (s2.at_.set_wait _)
  have s4 := s3.own (kp_p _ r 4 _) (s3.at_.set_fused false)
  have s5 := s4.own (kp_p _ r 6 _) (s4.at_.set_down false)
  refine ⟨(((((Kp.refl _ w).trans' (kp_p _ _ _ _)).trans' (kp_p _ _ _ _)).trans' (kp_p _ _ _ _)).trans' (kp_p _ _ _ _)).trans' (kp_p _ _ _ _), _, _, _, _, _, _, _, s5, ?_⟩
  exact ⟨hd.room, rfl, rfl, hd.fuse0, hd.fuse1, he, by rw [he]; rfl, rfl⟩

/-- the cells at the end, one behind the other -/
structure FinC (w : World) (r : Nat) (v : Value) : Prop where
  g1 : ∃ u, w.cell? ⟨r, 1, none⟩ = some u
  f1 : w.frozen? ⟨r, 1, none⟩ = false
  g2 : ∃ u, (w.setCell ⟨r, 1, none⟩ v).cell? ⟨r, 2, none⟩ = some u
  f2 : (w.setCell ⟨r, 1, none⟩ v).frozen? ⟨r, 2, none⟩ = false
  g3 : ∃ u, ((w.setCell ⟨r, 1, none⟩ v).setCell ⟨r, 2, none⟩ v).cell? ⟨r, 3, none⟩ = some u
  f3 : ((w.setCell ⟨r, 1, none⟩ v).setCell ⟨r, 2, none⟩ v).frozen? ⟨r, 3, none⟩ = false
  g4 : ∃ u, (((w.setCell ⟨r, 1, none⟩ v).setCell ⟨r, 2, none⟩ v).setCell ⟨r, 3, none⟩ (.slice none 0 0)).cell? ⟨r, 4, none⟩ = some u
  f4 : (((w.setCell ⟨r, 1, none⟩ v).setCell ⟨r, 2, none⟩ v).setCell ⟨r, 3, none⟩ (.slice none 0 0)).frozen? ⟨r, 4, none⟩ = false
  g6 : ∃ u, ((((w.setCell ⟨r, 1, none⟩ v).setCell ⟨r, 2, none⟩ v).setCell ⟨r, 3, none⟩ (.slice none 0 0)).setCell ⟨r, 4, none⟩ (.bool false)).cell? ⟨r, 6, none⟩ = some u
  f6 : ((((w.setCell ⟨r, 1, none⟩ v).setCell ⟨r, 2, none⟩ v).setCell ⟨r, 3, none⟩ (.slice none 0 0)).setCell ⟨r, 4, none⟩ (.bool false)).frozen? ⟨r, 6, none⟩ = false
theorem RAt.fin {w : World} {r : Nat} {x : RSt} {vs vn vw : Value} (h : RAt w r x vs vn vw) (v : Value) : FinC w r v := by
  have a1 := h.set_syn v
  have a2 := a1.set_now v
  have a3 := a2.set_wait (.slice none 0 0)
  have a4 := a3.set_fused false
  exact ⟨⟨_, h.c1⟩, h.warm 1, ⟨_, a1.c2⟩, a1.warm 2, ⟨_, a2.c3⟩, a2.warm 3, ⟨_, a3.c4⟩, a3.warm 4, ⟨_, a4.c6⟩, a4.warm 6⟩

/-- the loop -/
def CrRel (w : World) (ρ : Nat → Role) (r : Nat) (d : DSt) (k : Nat) (t i : Value) (wr : World) : Prop :=
  ∃ (j : Nat) (l : List Fv), i = .int .i64 (j : Int) ∧ j ≤ k ∧ (∃ a n c, t = .slice a n c) ∧ Fl wr t l ∧ files l = all d.syn (d.cs.take j) ∧ Kp No w wr ∧ Aw wr ρ r t ∧ ∀ q ∈ l, q.2.2 ≠ [] → Aw wr ρ r q.2.1

/-- what holds of a beginning of what waits -/
theorem take_bounds {d : DSt} {M : Nat} (hok : DOk M d) (hM : M ≤ 1000) (j : Nat) : Rising (all d.syn (d.cs.take j)) ∧ (all d.syn (d.cs.take j)).length ≤ 1000 ∧ used (all d.syn (d.cs.take j)) ≤ 10000000000 := by
  have q1 := hok.few
  have q2 := hok.small
  have q3 := len_all hok.rising (d.cs.take j)
  have q4 := used_all hok.rising (d.cs.take j)
  have q5 := bytesOf_take d.cs j
  have q6 : (d.cs.take j).length ≤ d.cs.length := by rw [List.length_take]; omega
  exact ⟨rising_all hok.rising _, by omega, by omega⟩
theorem bytes_le (cs : List Change) (j : Nat) (h : j < cs.length) : cs[j].bytes.length ≤ bytesOf cs := by
  have h1 := bytesOf_take cs (j + 1)
  rw [List.take_succ_eq_append_getElem h, bytesOf_append] at h1
  have : bytesOf [cs[j]] = cs[j].bytes.length := by simp [bytesOf]
  omega
/-- one of them more -/
theorem take_step {d : DSt} {M : Nat} (hok : DOk M d) (hM : M ≤ 1000) {j : Nat} (hj : j < d.cs.length) : d.cs[j].fits (all d.syn (d.cs.take j)) ∧ all d.syn (d.cs.take (j + 1)) = doit (all d.syn (d.cs.take j)) d.cs[j] ∧ d.cs[j].bytes.length ≤ 10000000000 := by
  refine ⟨fitsAll_at hok.fit j hj, ?_, ?_⟩
  · rw [List.take_succ_eq_append_getElem hj, all_snoc]
  · have := bytes_le d.cs j hj
    have := hok.small
    omega

end Go.Proofs.YtmehneicdklfeaaGreat.r2
