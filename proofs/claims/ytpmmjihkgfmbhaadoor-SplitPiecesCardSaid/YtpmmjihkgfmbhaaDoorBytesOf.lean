/- The law's bytes: any bytes as bytes of few kinds. -/
import Derived.Test.YtpmmjihkgfmbhaaDoorClone
import Derived.Test.YtpmmjihkgfmbhaaDoorCuts0
import Derived.Test.YtpmmjihkgfmbhaaDoorPick0
namespace Go.Proofs.YtpmmjihkgfmbhaaDoor.spl
open Go.RowKit Go.Maps Go.Proofs.YtpmmjihkgfmbhaaDoor.sum Go.Proofs.YtpmmjihkgfmbhaaDoor.kept Go.Proofs.YtpmmjihkgfmbhaaDoor.app Go.Proofs.YtpmmjihkgfmbhaaDoor.writer Go.Proofs.YtpmmjihkgfmbhaaDoor.clone Go.Proofs.YtpmmjihkgfmbhaaDoor.unseal Go.Proofs.YtpmmjihkgfmbhaaDoor.turned
set_option linter.unusedVariables false

def kinds : List UInt8 := [97, 98, 10, 59, 10, 10, 99]
def kindB (b : UInt8) : UInt8 := kinds.getD (b.toNat % 7) 0
def kindsOf (bs : List UInt8) : List UInt8 := bs.map kindB

theorem makeZ (w : World) (n : Nat) (hn : n ≤ 1000000000) :
    ∃ w', (Instr.makeSlice 30 (.int .i64 (n : Int)) (.int .i64 (n : Int))).run Tryd.prog w = .ok (.slice (some ⟨w.heap.size, 0, none⟩) n n) w' ∧ w'.ownsRow w.heap.size 5 1 (.slice (some ⟨w.heap.size, 0, none⟩) n n) (List.replicate n (0 : UInt8)).length ((List.replicate n (0 : UInt8)).map B) ∧ Kp No w w' := by
  obtain ⟨i0, hi, hz0, hz1, hz2⟩ := info_parts info5
  obtain ⟨w', hr, ho, hg⟩ := run_make_full (P := Tryd.prog) w w.heap.size 30 5 i0 (.int .u8 0) 1 Tryd.underlying30 hi hz0 hz1 .i64 .i64 n (by rw [hz2]; omega) (by unfold maxLen; omega) (Nat.le_refl _)
  refine ⟨w', hr, ?_, (Kp.refl No w).grown hg fun k hk e => by cases e⟩
  rw [List.length_replicate]
  have e : (madeCells (Value.int .u8 0).cells (n * 1)).toList = (List.replicate n (0 : UInt8)).map B := by
    apply List.ext_getElem
    · simp [madeCells]
    · intro i h1 h2
      simp [madeCells, Value.cells, B, Nat.mod_one]
  rw [← e]; exact ho
theorem owns_warmS {w : World} {base : Nat} {e : TypeId} {size : Nat} {g o n c : Nat} {m : Nat} {xs : List Value} (h : w.ownsRow base e size (.slice (some ⟨g, o, none⟩) n c) m xs) (j : Nat) : w.frozen? ⟨g, j, none⟩ = false := by
  rcases h.2 with ⟨e, _⟩ | ⟨g', cap, cur, e, _, hb, _⟩
  · cases e
  · simp only [Value.slice.injEq, Option.some.injEq, Addr.mk.injEq] at e
    obtain ⟨⟨rfl, -⟩, -⟩ := e
    simp [World.frozen?, hb]

/-- behind k bytes -/
def ByRel (w : World) (bs : List UInt8) (i : Value) (wr : World) : Prop :=
  ∃ (k : Nat) (zs : List UInt8), k ≤ bs.length ∧ i = .int .i64 (k : Int) ∧ Bs wr (.slice (some ⟨w.heap.size, 0, none⟩) bs.length bs.length) (kindsOf (bs.take k) ++ zs) ∧ (∀ j, wr.frozen? ⟨w.heap.size, j, none⟩ = false) ∧ Kp No w wr

theorem bs_len {w : World} {a : Option Addr} {n c : Nat} {bs : List UInt8} (h : Bs w (.slice a n c) bs) : bs.length = n := by
  obtain ⟨a2, c2, e, -⟩ := h
  simp only [Value.slice.injEq] at e
  exact e.2.1.symm
theorem set_mid {x : List UInt8} {z y : UInt8} {zs : List UInt8} {k : Nat} (h : x.length = k) : (x ++ z :: zs).set k y = x ++ [y] ++ zs := by
  subst h
  rw [List.set_append_right _ _ (Nat.le_refl _)]
  simp

set_option maxRecDepth 100000 in
set_option maxHeartbeats 4000000 in
theorem bytes_any (w : World) (v : Value) (bs : List UInt8) (hb : Bs w v bs) (hl : bs.length ≤ 1000000000) :
    Calls Tryd.prog 9 #[v] w fun e w' => e = .returned (.slice (some ⟨w.heap.size, 0, none⟩) bs.length bs.length) ∧ Bs w' (.slice (some ⟨w.heap.size, 0, none⟩) bs.length bs.length) (kindsOf bs) ∧ Kp No w w' := by
  have HB := Hid_mk hb
  obtain ⟨a, c, rfl, g1, g2, g3⟩ := id hb
  have hM := makeZ w bs.length hl
  obtain ⟨w1, hrun, hown, hk1⟩ := hM
  have HO := Hid_mk hown
  have HK1 := Hid_mk hk1
  have H3 := Hid_mk g3
  unfold maxLen at g2
  clear hb hown hk1 g3
  go_enter Tryd.func9, Tryd.ntmps9
  go_wp2
  go_loopw [4] (fun i wr => ByRel w bs i wr) (fun i _ => bs.length - (intOf i).toNat)
  case atStart => exact ⟨0, _, Nat.zero_le _, rfl, by have := owns_bs HO.out; simpa [kindsOf] using this, owns_warmS HO.out, HK1.out⟩
  case round =>
    obtain ⟨k, zs, hk, rfl, hbs, hwarm, hkp⟩ := hrel
    have HBs := Hid_mk hbs
    have HW := Hid_mk hwarm
    have HKp := Hid_mk hkp
    have hk0 : (0 : Int) ≤ (k : Int) := Int.natCast_nonneg _
    by_cases hlt : k < bs.length
    · have hki : (k : Int) < (bs.length : Int) := by omega
      have hwi : IntKind.i64.wrap ((k : Int) + 1) = (k : Int) + 1 := IntWalk.i64_in _ (by omega)
      have hkl : (kindsOf (bs.take k)).length = k := by simp [kindsOf]; omega
      have hlen := bs_len hbs
      rw [List.length_append, hkl] at hlen
      obtain ⟨z, zs', rfl⟩ : ∃ z zs', zs = z :: zs' := by
        cases zs with
        | nil => simp at hlen; omega
        | cons z zs' => exact ⟨_, _, rfl⟩
      obtain ⟨b, o, rfl, hc⟩ := H3.out (by intro e; rw [e] at hlt; simp at hlt)
      have hci := hkp.cell' (hc k hlt) id
      obtain ⟨x, hx⟩ : ∃ x, bs.getD k 0 = x := ⟨_, rfl⟩
      rw [hx] at hci
      unfold B at hci
      obtain ⟨a2, c2, e2, -, -, h4⟩ := hbs
      obtain ⟨b2, o2, e3, hcell⟩ := h4 (by simp)
      simp only [Value.slice.injEq] at e2
      rw [← e2.1] at e3
      cases e3
      have hold := hcell k (by rw [List.length_append, hkl]; simp)
      have hfro := hwarm k
      have hset := bs_set HBs.out k hlt (kindB x)
      rw [set_mid hkl] at hset
      have htk : kindsOf (bs.take (k + 1)) = kindsOf (bs.take k) ++ [kindB x] := by
        unfold kindsOf
        rw [take_snoc hlt, List.map_append, hx]
        rfl
      rw [← htk] at hset
      have HSet := Hid_mk hset
      have HLt := Hid_mk hlt
      obtain ⟨r, hr⟩ : ∃ r, x.toNat % 7 = r := ⟨_, rfl⟩
      have hr7 : r < 7 := by omega
      have htm : (x.toNat : Int).tmod 7 = (r : Int) := by
        rw [← hr, Int.tmod_eq_emod_of_nonneg (by omega)]
        omega
      have hkb : kindB x = kinds.getD r 0 := by unfold kindB; rw [hr]
      rw [hkb] at HSet
      simp only [Nat.zero_add] at hold HSet
      clear hwarm hkp hc hx hset htk h4 hcell hkb hlen hkl e2 hlt
      have hcases : r = 0 ∨ r = 1 ∨ r = 2 ∨ r = 3 ∨ r = 4 ∨ r = 5 ∨ r = 6 := by omega
      rcases hcases with rfl | rfl | rfl | rfl | rfl | rfl | rfl
      all_goals
        clear hr7 hr
        go_wp2
        go_roundw
        case rel => exact ⟨k + 1, zs', by have := HLt.out; omega, by push_cast; rfl, HSet.out, fun j => by rw [World.frozen?_setCell]; exact HW.out j, HKp.out.setCell (fun h => absurd h (Nat.lt_irrefl _)) _⟩
        case measure => have := HLt.out; simp only [intOf]; omega
    · have hki : ¬ (k : Int) < (bs.length : Int) := by omega
      have hzs : zs = [] := by
        have hlen := bs_len hbs
        rw [List.length_append] at hlen
        have : (kindsOf (bs.take k)).length = bs.length := by simp [kindsOf]; omega
        exact List.eq_nil_of_length_eq_zero (by omega)
      have hfin : Bs wr (.slice (some ⟨w.heap.size, 0, none⟩) bs.length bs.length) (kindsOf bs) := by
        have := hbs
        rw [hzs, List.append_nil, List.take_of_length_le (by omega)] at this
        exact this
      have HF := Hid_mk hfin
      clear hbs hwarm hkp hzs hfin
      go_wp2
      go_ret
      exact ⟨rfl, HF.out, HKp.out⟩

end Go.Proofs.YtpmmjihkgfmbhaaDoor.spl
