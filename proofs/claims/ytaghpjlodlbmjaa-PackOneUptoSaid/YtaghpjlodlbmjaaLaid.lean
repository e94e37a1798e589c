/- What the statements lay: 'laid'. -/
import Derived.Test.YtaghpjlodlbmjaaReaderFloat
import Derived.Test.YtaghpjlodlbmjaaTurned
namespace Go.Proofs.Ytaghpjlodlbmjaa.laid
open Go.RowKit Go.Proofs.Ytaghpjlodlbmjaa.sum Go.Proofs.Ytaghpjlodlbmjaa.kept Go.Proofs.Ytaghpjlodlbmjaa.app Go.Proofs.Ytaghpjlodlbmjaa.writer Go.Proofs.Ytaghpjlodlbmjaa.clone Go.Proofs.Ytaghpjlodlbmjaa.known Go.Proofs.Ytaghpjlodlbmjaa.unseal Go.Proofs.Ytaghpjlodlbmjaa.number Go.Proofs.Ytaghpjlodlbmjaa.words Go.Proofs.Ytaghpjlodlbmjaa.turned
set_option linter.unusedVariables false

structure LayD where
  what : Int
  b : UInt8
  n : Nat
  x : Nat
  t : ByteArray

def LayD.ok (d : LayD) : Prop := d.n < U64 ∧ d.x < U64 ∧ d.t.size < 140737488355328

/-- A slice value that reads, in this world, as these. -/
def Lays (w : World) (v : Value) (ls : List LayD) : Prop :=
  ∃ a cap, v = .slice a ls.length cap ∧ ls.length ≤ cap ∧ cap ≤ maxLen ∧
    (ls ≠ [] → ∃ b o, a = some ⟨b, o, none⟩ ∧ ∀ k (hk : k < ls.length),
      w.cell? ⟨b, o + k * 5, none⟩ = some (.int .i64 ls[k].what) ∧ w.cell? ⟨b, o + k * 5 + 1, none⟩ = some (.int .u8 (ls[k].b.toNat : Int)) ∧
      w.cell? ⟨b, o + k * 5 + 2, none⟩ = some (.int .u64 (ls[k].n : Int)) ∧ w.cell? ⟨b, o + k * 5 + 3, none⟩ = some (.float .f64 ls[k].x) ∧
      w.cell? ⟨b, o + k * 5 + 4, none⟩ = some (.string ls[k].t))

theorem lays_kept {S : Nat → Prop} {w w' : World} {v : Value} {ls : List LayD} (h : Lays w v ls) (hk : Kp S w w') (hn : ∀ b o n c, v = .slice (some ⟨b, o, none⟩) n c → ¬ S b) : Lays w' v ls := by
  obtain ⟨a, cap, rfl, h1, h2, h3⟩ := h
  refine ⟨a, cap, rfl, h1, h2, fun hne => ?_⟩
  obtain ⟨b, o, rfl, hc⟩ := h3 hne
  have hb := hn b o _ _ rfl
  refine ⟨b, o, rfl, fun k hkk => ?_⟩
  obtain ⟨c0, c1, c2, c3, c4⟩ := hc k hkk
  exact ⟨hk.cell' c0 hb, hk.cell' c1 hb, hk.cell' c2 hb, hk.cell' c3 hb, hk.cell' c4 hb⟩

/-- what one lays -/
def layOne (d : LayD) : List UInt8 :=
  if d.what % 4 = 0 then [d.b] else if d.what % 4 = 1 then num d.n else if d.what % 4 = 3 then bytesN 8 (canon d.x) else num d.t.size ++ d.t.data.toList
def layAll (ls : List LayD) : List UInt8 := ls.flatMap layOne

theorem layAll_snoc {ls : List LayD} {k : Nat} (h : k < ls.length) : layAll (ls.take (k + 1)) = layAll (ls.take k) ++ layOne ls[k] := by
  unfold layAll
  rw [List.take_succ_eq_append_getElem h, List.flatMap_append]
  simp

/-- the room that they take -/
def roomOf : List LayD → Nat
  | [] => 0
  | d :: r => d.t.size + 10 + roomOf r
theorem roomOf_append (a b : List LayD) : roomOf (a ++ b) = roomOf a + roomOf b := by
  induction a with
  | nil => simp [roomOf]
  | cons d a ih => simp only [List.cons_append, roomOf, ih]; omega
theorem roomOf_get {ls : List LayD} {k : Nat} (h : k < ls.length) : ls[k].t.size + 10 + roomOf (ls.take k) ≤ roomOf ls := by
  have e : ls = ls.take k ++ ls[k] :: ls.drop (k + 1) := by
    conv => lhs; rw [← List.take_append_drop k ls]
    rw [List.drop_eq_getElem_cons h]
  have e2 : roomOf ls = roomOf (ls.take k) + (ls[k].t.size + 10 + roomOf (ls.drop (k + 1))) := by
    conv => lhs; rw [e]
    rw [roomOf_append]
    rfl
  omega
theorem layOne_len (d : LayD) (h : d.ok) : (layOne d).length ≤ d.t.size + 10 := by
  obtain ⟨h1, h2, h3⟩ := h
  rw [u64_eq] at h1 h2
  unfold layOne
  split
  · simp
  · split
    · have := num_len d.n 10 (by omega) (by omega); omega
    · split
      · rw [bytesN_len]; omega
      · rw [List.length_append, Array.length_toList]
        have := num_len d.t.size 10 (by omega) (by omega)
        show (num d.t.size).length + d.t.size ≤ _
        omega
theorem layAll_len (ls : List LayD) (h : ∀ d ∈ ls, d.ok) : (layAll ls).length ≤ roomOf ls := by
  induction ls with
  | nil => simp [layAll, roomOf]
  | cons d ls ih =>
    have h1 := layOne_len d (h d (by simp))
    have h2 := ih (fun e he => h e (by simp [he]))
    unfold layAll at *
    simp only [List.flatMap_cons, List.length_append, roomOf]
    omega

def LaidRel (w : World) (p : Nat) (ls : List LayD) (i : Value) (wr : World) : Prop :=
  ∃ k v1, k ≤ ls.length ∧ i = .int .i64 ((k : Nat) : Int) ∧ Wr w.heap.size wr p v1 (layAll (ls.take k)) ∧ Kp No w wr

theorem layfin {w wr : World} {ls : List LayD} {k : Nat} {v1 : Value} {d : LayD} {add : List UInt8} (hwr : Wr w.heap.size wr w.heap.size v1 (layAll (ls.take k))) (hkp : Kp No w wr)
    (hsn : layAll (ls.take (k + 1)) = layAll (ls.take k) ++ layOne d) (hone : layOne d = add) (hlt : k < ls.length) (e : Ending) (w2 : World) (h : WrPost w.heap.size w.heap.size v1 (layAll (ls.take k) ++ add) wr e w2) :
    LaidRel w w.heap.size ls (.int .i64 ((k + 1 : Nat) : Int)) w2 := by
  obtain ⟨-, v2, h1, h2, h3⟩ := h
  refine ⟨k + 1, v2, hlt, rfl, by rw [hsn, hone]; exact h1, hkp.trans h2 ?_⟩
  rintro i hi (e | e)
  · omega
  · have := (hwr.owns.lt i e.symm).1; omega

set_option maxRecDepth 100000 in
set_option maxHeartbeats 4000000 in
theorem laid_any (w : World) (v : Value) (ls : List LayD) (h : Lays w v ls) (hok : ∀ d ∈ ls, d.ok) (hroom : roomOf ls < 140737488355328) :
    Calls Try.prog 35 #[v] w (NewBs w (layAll ls)) := by
  have H := Hid_mk h
  have HOk := Hid_mk hok
  have HRoom := Hid_mk hroom
  obtain ⟨a, cap, rfl, hl, hm, -⟩ := h
  clear hok hroom
  unfold maxLen at hm
  go_enter Try.func35, Try.ntmps35
  go_wp2_with fail
  refine (writer.new_any w).mono ?_
  rintro e w1 ⟨rfl, hw1, hk1⟩
  have HW1 := Hid_mk hw1
  have HK1 := Hid_mk hk1
  clear hw1 hk1
  go_wp2
  go_loopw [4] (fun i wr => LaidRel w w.heap.size ls i wr) (fun i _ => ls.length - (intOf i).toNat)
  case atStart => exact ⟨0, _, Nat.zero_le _, rfl, by simpa [layAll] using HW1.out, HK1.out⟩
  case round =>
    obtain ⟨k, v1, hk, rfl, hwr, hkp⟩ := hrel
    have HWr := Hid_mk hwr
    have HKp := Hid_mk hkp
    have hlays := lays_kept H.out hkp fun _ _ _ _ _ => id
    clear hwr hkp
    by_cases hlt : k < ls.length
    · obtain ⟨_, _, e, -, -, hc⟩ := hlays
      simp only [Value.slice.injEq] at e
      obtain ⟨rfl, -, rfl⟩ := e
      obtain ⟨b, o, rfl, hcell⟩ := hc (by intro e; subst e; simp at hlt)
      obtain ⟨c0, c1, c2, c3, c4⟩ := hcell k hlt
      have hki : (k : Int) < (ls.length : Int) := by omega
      have hok : ls[k].ok := HOk.out _ (List.getElem_mem hlt)
      have hrm := roomOf_get hlt
      have hsn := layAll_snoc hlt
      generalize hd : ls[k] = d at *
      clear hcell hc hd
      have hlen := Nat.le_trans (layAll_len (ls.take k) (fun e he => HOk.out e (List.mem_of_mem_take he))) (Nat.le_refl _)
      have hbnd : (layAll (ls.take k)).length + 10 + d.t.size < 140737488355328 := by have := HRoom.out; omega
      have HB := Hid_mk hbnd
      have hp := pick_any d.what 4 (by omega) (by omega)
      have HOkd := Hid_mk hok
      have hmod : d.what % 4 = 0 ∨ d.what % 4 = 1 ∨ d.what % 4 = 2 ∨ d.what % 4 = 3 := by omega
      clear hlen hbnd hok hrm
      rcases hmod with hm0 | hm1 | hm2 | hm3
      · rw [hm0] at hp
        have hone : layOne d = [d.b] := by unfold layOne; rw [hm0]; rfl
        have HP := fun w => Hid_mk (hp w)
        have hfin := layfin HWr.out HKp.out hsn hone hlt
        have HFin := Hid_mk hfin
        clear hp hone hm0 hfin
        go_wp2_with fail
        refine (HP _).out.mono ?_
        rintro e w' ⟨rfl, rfl⟩
        go_wp2_with fail
        refine (writer.byte_any w.heap.size w.heap.size wr v1 _ d.b HWr.out (by have := HB.out; omega)).mono ?_
        intro e w2 hpost
        have he := hpost.1
        have hrel2 := HFin.out e w2 hpost
        subst he
        have HR := Hid_mk hrel2
        clear hpost hrel2
        go_wp2
        go_roundw
        case rel => exact HR.out
        case measure => simp [intOf]; omega
      · rw [hm1] at hp
        have hone : layOne d = num d.n := by unfold layOne; rw [hm1]; rfl
        have HP := fun w => Hid_mk (hp w)
        have hfin := layfin HWr.out HKp.out hsn hone hlt
        have HFin := Hid_mk hfin
        clear hp hone hm1 hfin
        go_wp2_with fail
        refine (HP _).out.mono ?_
        rintro e w' ⟨rfl, rfl⟩
        go_wp2_with fail
        refine (writer.num_any w.heap.size w.heap.size wr v1 _ d.n HOkd.out.1 HWr.out (by have := HB.out; omega)).mono ?_
        intro e w2 hpost
        have he := hpost.1
        have hrel2 := HFin.out e w2 hpost
        subst he
        have HR := Hid_mk hrel2
        clear hpost hrel2
        go_wp2
        go_roundw
        case rel => exact HR.out
        case measure => simp [intOf]; omega
      · rw [hm2] at hp
        have hone : layOne d = num d.t.size ++ d.t.data.toList := by unfold layOne; rw [hm2]; rfl
        have HP := fun w => Hid_mk (hp w)
        have hfin := layfin HWr.out HKp.out hsn hone hlt
        have HFin := Hid_mk hfin
        clear hp hone hm2 hfin
        go_wp2_with fail
        refine (HP _).out.mono ?_
        rintro e w' ⟨rfl, rfl⟩
        go_wp2_with fail
        refine (text_any w.heap.size w.heap.size wr v1 _ d.t HWr.out (by have := HB.out; omega)).mono ?_
        intro e w2 hpost
        have he := hpost.1
        have hrel2 := HFin.out e w2 hpost
        subst he
        have HR := Hid_mk hrel2
        clear hpost hrel2
        go_wp2
        go_roundw
        case rel => exact HR.out
        case measure => simp [intOf]; omega
      · rw [hm3] at hp
        have hone : layOne d = bytesN 8 (canon d.x) := by unfold layOne; rw [hm3]; rfl
        have HP := fun w => Hid_mk (hp w)
        have hfin := layfin HWr.out HKp.out hsn hone hlt
        have HFin := Hid_mk hfin
        clear hp hone hm3 hfin
        go_wp2_with fail
        refine (HP _).out.mono ?_
        rintro e w' ⟨rfl, rfl⟩
        go_wp2_with fail
        refine (words.float_any w.heap.size w.heap.size wr v1 _ d.x HOkd.out.2.1 HWr.out (by have := HB.out; omega)).mono ?_
        intro e w2 hpost
        have he := hpost.1
        have hrel2 := HFin.out e w2 hpost
        subst he
        have HR := Hid_mk hrel2
        clear hpost hrel2
        go_wp2
        go_roundw
        case rel => exact HR.out
        case measure => simp [intOf]; omega
    · obtain rfl : k = ls.length := by omega
      have hki : ¬ (ls.length : Int) < (ls.length : Int) := by omega
      have hle := layAll_len ls HOk.out
      have hrm := HRoom.out
      rw [List.take_length] at HWr
      clear hlays
      go_wp2_with fail
      refine (bytes_any w.heap.size w.heap.size wr v1 _ HWr.out (by omega)).mono ?_
      rintro e w2 ⟨v2, rfl, ho, hk2⟩
      have hfin : NewBs w (layAll ls) (.returned v2) w2 := ⟨v2, rfl, owns_base ho HKp.out.size, HKp.out.trans' hk2⟩
      have HF := Hid_mk hfin
      clear ho hk2 hfin
      go_wp2
      go_ret
      exact HF.out

end Go.Proofs.Ytaghpjlodlbmjaa.laid
