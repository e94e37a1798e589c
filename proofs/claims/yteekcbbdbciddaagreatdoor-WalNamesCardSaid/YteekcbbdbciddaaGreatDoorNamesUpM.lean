/- (*Disk).Names of a disk that is up. The names of a journal's files, as package wal finds them on a disk. -/
import Derived.Test.YteekcbbdbciddaaGreatDoorDiskAppendM
import Derived.Test.YteekcbbdbciddaaGreatDoorNames0
import Derived.Test.YteekcbbdbciddaaGreatDoorIter
import Derived.Test.YteekcbbdbciddaaGreatDoorHexM

namespace Go.Proofs.YteekcbbdbciddaaGreatDoor.dsk
open Go.RowKit Go.Maps Go.Sort Go.Proofs.YteekcbbdbciddaaGreatDoor.sum Go.Proofs.YteekcbbdbciddaaGreatDoor.kept Go.Proofs.YteekcbbdbciddaaGreatDoor.app Go.Proofs.YteekcbbdbciddaaGreatDoor.writer Go.Proofs.YteekcbbdbciddaaGreatDoor.clone Go.Proofs.YteekcbbdbciddaaGreatDoor.unseal Go.Proofs.YteekcbbdbciddaaGreatDoor.fs Go.Proofs.YteekcbbdbciddaaGreatDoor.fsMem Go.Proofs.YteekcbbdbciddaaGreatDoor.fsDo Go.Proofs.YteekcbbdbciddaaGreatDoor.fsUsed Go.Proofs.YteekcbbdbciddaaGreatDoor.turned
set_option linter.unusedVariables false

theorem kp_below {w w' : World} (h : Go.RowKit.Below w.heap.size w w') : Kp No w w' := ⟨h.os, h.tape, h.output, h.size, fun k hk _ => h.block k hk⟩

theorem keys_dat (val : Name → Value) (es : Files) : strKeys (dat val es) = namesOf es := by
  show (es.map fun e => (Lit.string e.1, DataW.held (val e.1))).map (fun p => strOf p.1) = namesOf es
  rw [List.map_map]
  rfl

/-- what Names leaves -/
def NmPost (w : World) (es : Files) (e : Ending) (w' : World) : Prop := ∃ v, e = .returned v ∧ w'.ownsRow w.heap.size 9 1 v es.length ((namesOf es).map encStr) ∧ Kp No w w'

set_option maxRecDepth 100000 in
set_option maxHeartbeats 2000000 in
theorem names_up (w : World) (base p : Nat) (ρ : Nat → Role) (d : DSt) (h : Dk w base p ρ d) (hd : d.down = false) (hl : d.now.length ≤ 1000000000) :
    Calls Tryz.prog 31 #[.pointer (some ⟨p, 0, none⟩)] w (NmPost w d.now) := by
  obtain ⟨s, nn, vp, ps, h⟩ := h
  have c2 := h.c2
  have c4 := h.c4
  rw [hd] at c2
  obtain ⟨h1, h2, h3, val, h4, h5⟩ := h.now
  have hsz : Maps.size (dat val d.now) = d.now.length := dat_size val d.now
  have hk := fun W => callsIn_wide.1 (iter.Tryz.maps_Keys_65 (some nn) W)
  have hs := callsIn_wide.1 (iter.Tryz.slices_Sorted_keys_64_65 nn d.now.length (dat val d.now) raw w h4 (by rw [hsz]; unfold maxLen; omega) (by rw [hsz]; omega))
  have HK := fun W => Hid_mk (hk W)
  have HS := Hid_mk hs
  have HR := Hid_mk h1
  clear hk hs h h1 h2 h3 h4 h5 hsz
  go_enter Tryz.func31, Tryz.ntmps31
  go_wp2_with fail
  with_reducible refine (HK _).out.mono ?_
  rintro e w' ⟨rfl, rfl⟩
  go_wp2_with fail
  with_reducible refine HS.out.mono ?_
  rintro e w2 ⟨v, ss, rfl, hperm, hrow, hnil, hb⟩
  have hsort := names_sorted HR.out (keys_dat val d.now ▸ hperm)
  have hlen : ss.length = d.now.length := by
    have := hperm.length_eq
    rw [keys_dat] at this
    rw [this]
    exact List.length_map _
  have hfin : NmPost w d.now (.returned v) w2 := ⟨v, rfl, by
    rw [hsort, hlen] at hrow
    exact owns_base hrow (by simp), ((Kp.refl No w).alloc _).trans' (kp_below hb)⟩
  have HF := Hid_mk hfin
  obtain ⟨av, cv, rfl⟩ : ∃ a c, v = .slice a ss.length c := by
    rcases hrow.2 with ⟨rfl, hz⟩ | ⟨g, cap, cur, rfl, -⟩
    · exact ⟨none, 0, by rw [hz]⟩
    · exact ⟨_, _, rfl⟩
  clear hfin hrow hb hnil hperm hsort hlen
  go_wp2
  go_ret
  exact HF.out

end Go.Proofs.YteekcbbdbciddaaGreatDoor.dsk

namespace Go.Proofs.YteekcbbdbciddaaGreatDoor.wal
open Go.RowKit Go.Proofs.YteekcbbdbciddaaGreatDoor.sum Go.Proofs.YteekcbbdbciddaaGreatDoor.kept Go.Proofs.YteekcbbdbciddaaGreatDoor.app Go.Proofs.YteekcbbdbciddaaGreatDoor.writer Go.Proofs.YteekcbbdbciddaaGreatDoor.clone Go.Proofs.YteekcbbdbciddaaGreatDoor.known Go.Proofs.YteekcbbdbciddaaGreatDoor.hex Go.Proofs.YteekcbbdbciddaaGreatDoor.fs Go.Proofs.YteekcbbdbciddaaGreatDoor.dsk
set_option linter.unusedVariables false

def nmv (n : Nat) : Value := .string ⟨(nameOf n).toArray⟩
/-- a slice of names of files of the journal -/
def Ns (w : World) (v : Value) (ns : List Nat) : Prop :=
  ∃ a cap, v = .slice a ns.length cap ∧ ns.length ≤ cap ∧ cap ≤ maxLen ∧ (ns ≠ [] → ∃ b o, a = some ⟨b, o, none⟩ ∧ ∀ k (h : k < ns.length), w.cell? ⟨b, o + k, none⟩ = some (nmv ns[k]))
theorem Ns.no {w w' : World} {v : Value} {ns : List Nat} (h : Ns w v ns) (hk : Kp No w w') : Ns w' v ns := by
  obtain ⟨a, cap, rfl, h1, h2, h3⟩ := h
  refine ⟨a, cap, rfl, h1, h2, fun hne => ?_⟩
  obtain ⟨b, o, rfl, hc⟩ := h3 hne
  exact ⟨b, o, rfl, fun k hk2 => hk.cell' (hc k hk2) id⟩
theorem Ns.of_row {w : World} {base : Nat} {v : Value} {ns : List Nat} (h : w.ownsRow base 9 1 v ns.length (ns.map nmv)) : Ns w v ns := by
  rcases h.2 with ⟨rfl, h0⟩ | ⟨g, cap, cur, rfl, hb, hg, r1, r2, r3, r4⟩
  · have : ns = [] := List.eq_nil_of_length_eq_zero h0
    subst this
    exact ⟨none, 0, rfl, Nat.le_refl _, by decide, fun h => absurd rfl h⟩
  · refine ⟨_, cap, rfl, r1, r2, fun _ => ⟨g, 0, rfl, fun k hk => ?_⟩⟩
    have := h.cells (g := g) rfl k (nmv ns[k]) (by simp [hk])
    rw [addr_add] at this
    exact this

set_option maxRecDepth 100000 in
set_option maxHeartbeats 1000000 in
theorem other_any (n : Nat) (hn : n ≤ 1099511627776) (w : World) (ht : Tz w) :
    Calls Tryz.prog 32 #[nmv n] w fun e w' => e = .returned (.bool false) ∧ Kp No w w' := by
  have H := Hid_mk (is_any n hn w ht)
  unfold nmv
  clear ht
  go_enter Tryz.func32, Tryz.ntmps32
  go_wp2_with (go_at_call 33; (with_reducible refine H.out.mono ?_); rintro e w1 ⟨rfl, hk⟩)
  go_ret
  exact ⟨rfl, hk⟩

def IxRel (w : World) (n : Nat) (i : Value) (wr : World) : Prop := ∃ k : Nat, k ≤ n ∧ i = .int .i64 (k : Int) ∧ Kp No w wr

set_option maxRecDepth 100000 in
set_option maxHeartbeats 2000000 in
theorem index_none (ns : List Nat) (hns : ∀ n ∈ ns, n ≤ 1099511627776) (v : Value) (w : World) (h : Ns w v ns) (ht : Tz w) :
    Calls Tryz.prog 63 #[v, .func (.func 32) #[] #[]] w fun e w' => e = .returned (.int .i64 (-1)) ∧ Kp No w w' := by
  have HN := Hid_mk hns
  have HT := Hid_mk ht
  obtain ⟨a, cap, rfl, h1, h2, h3⟩ := h
  unfold maxLen at h2
  clear ht hns
  go_enter Tryz.func63, Tryz.ntmps63
  go_wp2
  go_loopw [8] (fun i wr => IxRel w ns.length i wr) (fun i _ => ns.length - (intOf i).toNat)
  case atStart => exact ⟨0, Nat.zero_le _, rfl, Kp.refl _ _⟩
  case round =>
    obtain ⟨k, hk, rfl, hkp⟩ := hrel
    by_cases hlt : k < ns.length
    · obtain ⟨b, o, rfl, hc⟩ := h3 (by intro e; subst e; simp at hlt)
      have hx := hkp.cell' (hc k hlt) id
      have ho := other_any ns[k] (HN.out _ (List.getElem_mem hlt)) wr (HT.out.no hkp)
      unfold nmv at hx ho
      have HO := Hid_mk ho
      have HK := Hid_mk hkp
      clear hc ho hkp h3
      go_wp2_with fail
      with_reducible refine HO.out.mono ?_
      rintro e w1 ⟨rfl, hk1⟩
      have HK1 := Hid_mk (HK.out.trans' hk1)
      clear hk1 hx
      go_wp2
      go_roundw
      case rel => exact ⟨k + 1, by omega, by go_num, HK1.out⟩
      case measure => simp [intOf]; omega
    · obtain rfl : k = ns.length := by omega
      have HK := Hid_mk hkp
      clear hkp
      go_wp2
      go_ret
      exact ⟨rfl, HK.out⟩

set_option maxRecDepth 100000 in
set_option maxHeartbeats 1000000 in
theorem delete_none (ns : List Nat) (hns : ∀ n ∈ ns, n ≤ 1099511627776) (v : Value) (w : World) (h : Ns w v ns) (ht : Tz w) :
    Calls Tryz.prog 30 #[v, .func (.func 32) #[] #[]] w fun e w' => e = .returned v ∧ Kp No w w' := by
  have H := Hid_mk (index_none ns hns v w h ht)
  clear h ht hns
  go_enter Tryz.func30, Tryz.ntmps30
  go_wp2_with fail
  with_reducible refine H.out.mono ?_
  rintro e w1 ⟨rfl, hk1⟩
  go_wp2
  go_ret
  exact ⟨rfl, hk1⟩

/-- what namesOn leaves -/
def NoPost (w : World) (ns : List Nat) (e : Ending) (w' : World) : Prop := ∃ v, e = .returned v ∧ w'.ownsRow w.heap.size 9 1 v ns.length (ns.map nmv) ∧ Kp No w w'

set_option maxRecDepth 100000 in
set_option maxHeartbeats 1000000 in
theorem namesOn_any (w : World) (base p : Nat) (ρ : Nat → Role) (d : DSt) (ns : List Nat) (h : Dk w base p ρ d) (hd : d.down = false) (hns : ∀ n ∈ ns, n ≤ 1099511627776) (hnm : namesOf d.now = ns.map nameOf) (hl : ns.length ≤ 1000000000) (ht : Tz w) :
    Calls Tryz.prog 17 #[.pointer (some ⟨p, 0, none⟩)] w (NoPost w ns) := by
  have hlen : d.now.length = ns.length := by
    have := congrArg List.length hnm
    simpa [namesOf] using this
  have H := Hid_mk (names_up w base p ρ d h hd (by omega))
  have HNm := Hid_mk hnm
  have HNs := Hid_mk hns
  have HT := Hid_mk ht
  have HL := Hid_mk hlen
  clear h hd hns hnm hl ht hlen
  go_enter Tryz.func17, Tryz.ntmps17
  go_wp2_with fail
  with_reducible refine H.out.mono ?_
  rintro e w1 ⟨v, rfl, ho, hk1⟩
  have ho' : w1.ownsRow w.heap.size 9 1 v ns.length (ns.map nmv) := by
    rw [HL.out, HNm.out, List.map_map] at ho
    exact ho
  have HO := Hid_mk ho'
  have HK := Hid_mk hk1
  have HD := Hid_mk (delete_none ns HNs.out v w1 (Ns.of_row ho') (HT.out.no hk1))
  clear ho ho' hk1
  go_wp2_with fail
  with_reducible refine HD.out.mono ?_
  rintro e w2 ⟨rfl, hk2⟩
  have hfin : NoPost w ns (.returned v) w2 := ⟨v, rfl, owns_kept HO.out hk2 fun _ _ => id, HK.out.trans' hk2⟩
  have HF := Hid_mk hfin
  clear hfin hk2
  go_wp2
  go_ret
  exact HF.out

end Go.Proofs.YteekcbbdbciddaaGreatDoor.wal
