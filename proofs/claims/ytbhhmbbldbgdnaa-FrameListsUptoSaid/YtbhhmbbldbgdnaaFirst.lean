/- frame.first: the frame that bytes begin with. -/
import Derived.Test.YtbhhmbbldbgdnaaFrame
namespace Go.Proofs.Ytbhhmbbldbgdnaa.frm
open Go.RowKit Go.Proofs.Ytbhhmbbldbgdnaa.sum Go.Proofs.Ytbhhmbbldbgdnaa.kept Go.Proofs.Ytbhhmbbldbgdnaa.app Go.Proofs.Ytbhhmbbldbgdnaa.writer Go.Proofs.Ytbhhmbbldbgdnaa.clone Go.Proofs.Ytbhhmbbldbgdnaa.known Go.Proofs.Ytbhhmbbldbgdnaa.fl Go.Proofs.Ytbhhmbbldbgdnaa.seal Go.Proofs.Ytbhhmbbldbgdnaa.unseal
set_option linter.unusedVariables false

/-- the number of four bytes -/
def num4 (bs : List UInt8) : Nat := num3 bs + 16777216 * (bs.getD 3 0).toNat

theorem or4 (p q r s : Nat) (hp : p < 256) (hq : q < 256) (hr : r < 256) (hs : s < 256) : bits .or .u32 (bits .or .u32 (bits .or .u32 (p : Int) ((q : Int) * 256)) ((r : Int) * 65536)) ((s : Int) * 16777216) = ((p + 256 * q + 65536 * r + 16777216 * s : Nat) : Int) := by
  rw [or3 p q r hp hq hr, u32_or _ _ (by omega) (by omega) (by omega) (by omega), show (((p + 256 * q + 65536 * r : Nat) : Int)).toNat = p + 256 * q + 65536 * r by omega, show ((s : Int) * 16777216).toNat = s * 16777216 by omega, Nat.or_comm, nat_join 24 (s * 16777216) (p + 256 * q + 65536 * r) (by omega) (by omega)]
  congr 1; omega

/-- what a whole frame has, if one stands at the beginning -/
def firstP (bs : List UInt8) : Option (List UInt8) :=
  if 4 ≤ bs.length ∧ num4 bs ≤ 4194304 ∧ num4 bs + 10 ≤ bs.length ∧ pl.sum (((bs.drop 4).take (num4 bs + 6)).take (num4 bs)) = said (((bs.drop 4).take (num4 bs + 6)).drop (num4 bs))
  then some (((bs.drop 4).take (num4 bs + 6)).take (num4 bs)) else none

def FirstPost (w : World) (x : Option (List UInt8)) (e : Ending) (w' : World) : Prop :=
  Kp No w w' ∧ match x with
    | none => e = .returned (.tuple #[.slice none 0 0, .bool false])
    | some xs => ∃ v', e = .returned (.tuple #[v', .bool true]) ∧ w'.ownsRow w.heap.size 5 1 v' xs.length (xs.map B)

set_option maxRecDepth 100000 in
set_option maxHeartbeats 2000000 in
theorem first_any (w : World) (v : Value) (bs : List UInt8) (h : Bs w v bs) :
    Calls Try.prog 42 #[v] w (FirstPost w (firstP bs)) := by
  have H := Hid_mk h
  obtain ⟨a, cap, rfl, hlc, hm, hc⟩ := h
  unfold maxLen at hm
  by_cases h4 : 4 ≤ bs.length
  · obtain ⟨b, o, rfl, hcell⟩ := hc (by intro e; subst e; simp at h4)
    have c0 : w.cell? ⟨b, o, none⟩ = some (.int .u8 ((bs.getD 0 0).toNat : Int)) := hcell 0 (by omega)
    have c1 : w.cell? ⟨b, o + 1, none⟩ = some (.int .u8 ((bs.getD 1 0).toNat : Int)) := hcell 1 (by omega)
    have c2 : w.cell? ⟨b, o + 2, none⟩ = some (.int .u8 ((bs.getD 2 0).toNat : Int)) := hcell 2 (by omega)
    have c3 : w.cell? ⟨b, o + 3, none⟩ = some (.int .u8 ((bs.getD 3 0).toNat : Int)) := hcell 3 (by omega)
    have l0 : (0 : Int) < (bs.length : Int) := by omega
    have l1 : (1 : Int) < (bs.length : Int) := by omega
    have l2 : (2 : Int) < (bs.length : Int) := by omega
    have l3 : (3 : Int) < (bs.length : Int) := by omega
    have l4 : ¬ (bs.length : Int) < 4 := by omega
    obtain ⟨n, hn⟩ : ∃ n, num4 bs = n := ⟨_, rfl⟩
    have hn4 := hn
    unfold num4 num3 at hn4
    have x0 : (bs.getD 0 0).toNat < 256 := UInt8.toNat_lt _
    have x1 : (bs.getD 1 0).toNat < 256 := UInt8.toNat_lt _
    have x2 : (bs.getD 2 0).toNat < 256 := UInt8.toNat_lt _
    have x3 : (bs.getD 3 0).toNat < 256 := UInt8.toNat_lt _
    generalize (bs.getD 0 0).toNat = p at *
    generalize (bs.getD 1 0).toNat = q at *
    generalize (bs.getD 2 0).toNat = r at *
    generalize (bs.getD 3 0).toNat = s at *
    have ho := or4 p q r s x0 x1 x2 x3
    rw [hn4] at ho
    have HO := Hid_mk ho
    have HN := Hid_mk hn
    have hnb : n < 4294967296 := by omega
    clear hcell hc ho hn hn4
    by_cases hbig : n ≤ 4194304
    · have hbigi : ¬ (4194304 : Int) < (n : Int) := by omega
      by_cases hlen : n + 10 ≤ bs.length
      · have hx1 := bs_take (bs_drop H.out 4 h4 (some ⟨b, o + 4, none⟩) (fun _ => rfl)) (n + 6) (by omega)
        obtain ⟨xs, hxs⟩ : ∃ xs, (bs.drop 4).take (n + 6) = xs := ⟨_, rfl⟩
        have hxl : xs.length = n + 6 := by rw [← hxs, List.length_take, List.length_drop]; omega
        have hf : firstP bs = if pl.sum (xs.take n) = said (xs.drop n) then some (xs.take n) else none := by
          unfold firstP
          rw [HN.out, hxs]
          by_cases hs : pl.sum (xs.take n) = said (xs.drop n)
          · rw [if_pos ⟨h4, hbig, hlen, hs⟩, if_pos hs]
          · rw [if_neg (fun e => hs e.2.2.2), if_neg hs]
        rw [hxs] at hx1
        have hun := fun W (hk : Kp No w W) => unseal_any W _ xs (bs_no hx1 hk) (by omega) (by omega)
        rw [hxl, show n + 6 - 6 = n by omega] at hun
        have hli : ¬ (bs.length : Int) < (n : Int) + 10 := by omega
        rw [show n + 6 = 4 + n + 2 by omega] at hun
        have HUn := Hid_mk hun
        have HXl := Hid_mk hxl
        have hz1 : (4 : Int) ≤ (cap : Int) := by omega
        have hz2 : (n : Int) + 10 ≤ (cap : Int) := by omega
        have hz3 : ¬ 4 = cap := by omega
        have hz4 : ¬ cap = 4 := by omega
        clear hxs hx1 hun hxl
        by_cases hs : pl.sum (xs.take n) = said (xs.drop n)
        · rw [if_pos hs] at hf
          simp only [if_pos hs] at HUn
          rw [hf]
          have htl : (xs.take n).length = n := by rw [List.length_take, HXl.out]; omega
          clear hs hf
          go_enter Try.func42, Try.ntmps42
          go_wp2
          go_quiet (fail)
          rw [HO.out]
          go_wp2_with fail
          with_reducible refine (HUn.out _ ((Kp.refl No w).drewN _)).mono ?_
          rintro e w2 ⟨hk2, v2, rfl, ho2⟩
          have hfin : FirstPost w (some (xs.take n)) (.returned (.tuple #[v2, .bool true])) w2 := ⟨((Kp.refl No w).drewN _).trans' hk2, v2, rfl, ho2⟩
          have HF := Hid_mk hfin
          clear hk2 ho2 hfin
          go_wp2
          go_ret2
          exact HF.out
        · rw [if_neg hs] at hf
          simp only [if_neg hs] at HUn
          rw [hf]
          clear hs hf
          go_enter Try.func42, Try.ntmps42
          go_wp2
          go_quiet (fail)
          rw [HO.out]
          go_wp2_with fail
          with_reducible refine (HUn.out _ ((Kp.refl No w).drewN _)).mono ?_
          rintro e w2 ⟨hk2, rfl⟩
          have HF := Hid_mk (((Kp.refl No w).drewN nq).trans' hk2)
          clear hk2
          go_wp2
          go_ret2
          exact ⟨HF.out, rfl⟩
      · have hf : firstP bs = none := by unfold firstP; rw [if_neg (by rw [HN.out]; omega)]
        rw [hf]
        have hli : (bs.length : Int) < (n : Int) + 10 := by omega
        go_enter Try.func42, Try.ntmps42
        go_wp2
        go_quiet (fail)
        rw [HO.out]
        go_wp2
        go_ret2
        exact ⟨(Kp.refl No w).drewN _, rfl⟩
    · have hbigi : (4194304 : Int) < (n : Int) := by omega
      have hf : FirstPost w (firstP bs) = FirstPost w none := by unfold firstP; rw [if_neg (by rw [HN.out]; omega)]
      rw [hf]
      go_enter Try.func42, Try.ntmps42
      go_wp2
      go_quiet (fail)
      rw [HO.out]
      go_wp2
      go_ret2
      exact ⟨(Kp.refl No w).drewN _, rfl⟩
  · have hf : firstP bs = none := if_neg (by omega)
    rw [hf]
    have l4 : (bs.length : Int) < 4 := by omega
    generalize bs.length = len at *
    clear hc
    go_enter Try.func42, Try.ntmps42
    go_wp2
    go_ret2
    exact ⟨Kp.refl _ _, rfl⟩

end Go.Proofs.Ytbhhmbbldbgdnaa.frm
