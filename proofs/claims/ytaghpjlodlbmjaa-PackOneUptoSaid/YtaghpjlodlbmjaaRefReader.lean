/- The reference's Reader: the same answers. -/
import Derived.Test.YtaghpjlodlbmjaaBack
namespace Go.Proofs.Ytaghpjlodlbmjaa.ref
open Go.RowKit Go.Proofs.Ytaghpjlodlbmjaa.sum Go.Proofs.Ytaghpjlodlbmjaa.kept Go.Proofs.Ytaghpjlodlbmjaa.writer Go.Proofs.Ytaghpjlodlbmjaa.clone Go.Proofs.Ytaghpjlodlbmjaa.known Go.Proofs.Ytaghpjlodlbmjaa.unseal Go.Proofs.Ytaghpjlodlbmjaa.number Go.Proofs.Ytaghpjlodlbmjaa.words Go.Proofs.Ytaghpjlodlbmjaa.reader
set_option linter.unusedVariables false

/-- The reference's Reader at block p. -/
theorem bs_kept2 {S : Nat → Prop} {w w' : World} {v : Value} {bs : List UInt8} (h : Bs w v bs) (hk : Kp S w w') (hn : bs ≠ [] → ∀ b o n c, v = .slice (some ⟨b, o, none⟩) n c → ¬ S b) : Bs w' v bs := by
  by_cases hb : bs = []
  · subst hb
    obtain ⟨a, c, rfl, h1, h2, -⟩ := h
    exact ⟨a, c, rfl, h1, h2, fun h => absurd rfl h⟩
  · exact bs_kept h hk (hn hb)

structure RR (w : World) (p : Nat) (v : Value) (bs : List UInt8) (at_ bad : Nat) : Prop where
  c0 : w.cell? ⟨p, 0, none⟩ = some v
  c1 : w.cell? ⟨p, 1, none⟩ = some (.int .i64 (at_ : Int))
  c2 : w.cell? ⟨p, 2, none⟩ = some (.int .i64 (bad : Int))
  warm : ∀ o, w.frozen? ⟨p, o, none⟩ = false
  reads : Bs w v bs
  apart : bs ≠ [] → ∀ b o n c, v = .slice (some ⟨b, o, none⟩) n c → b ≠ p
  le : at_ ≤ bs.length
  short : bs.length ≤ 140737488355328

theorem RR.kept {S : Nat → Prop} {w w' : World} {p : Nat} {v : Value} {bs : List UInt8} {at_ bad : Nat} (h : RR w p v bs at_ bad) (hk : Kp S w w') (hp : ¬ S p) (hv : bs ≠ [] → ∀ b o n c, v = .slice (some ⟨b, o, none⟩) n c → ¬ S b) : RR w' p v bs at_ bad :=
  ⟨hk.cell' h.c0 hp, hk.cell' h.c1 hp, hk.cell' h.c2 hp, fun o => (hk.frozen (p := ⟨p, o, none⟩) (show p < w.heap.size from World.block_lt_of_cell? w ⟨p, 0, none⟩ h.c0) hp).trans (h.warm o), bs_kept2 h.reads hk hv, h.apart, h.le, h.short⟩
theorem RR.same {w w' : World} {p : Nat} {v : Value} {bs : List UInt8} {at_ bad : Nat} (h : RR w p v bs at_ bad) (hk : Kp No w w') : RR w' p v bs at_ bad := h.kept hk id fun _ _ _ _ _ _ => id
theorem RR.drewN {w : World} {p : Nat} {v : Value} {bs : List UInt8} {at_ bad : Nat} (h : RR w p v bs at_ bad) (n : Nat) : RR (w.drewN n) p v bs at_ bad := h.same ((Kp.refl No w).drewN n)
theorem RR.lt {w : World} {p : Nat} {v : Value} {bs : List UInt8} {at_ bad : Nat} (h : RR w p v bs at_ bad) : p < w.heap.size := World.block_lt_of_cell? w ⟨p, 0, none⟩ h.c0

theorem RR.set_bad {w : World} {p : Nat} {v : Value} {bs : List UInt8} {at_ bad : Nat} (h : RR w p v bs at_ bad) (c : Nat) : RR (w.setCell ⟨p, 2, none⟩ (.int .i64 (c : Int))) p v bs at_ c := by
  have hk := kp_set w p 2 (.int .i64 (c : Int))
  refine ⟨?_, ?_, World.cell?_setCell_same w _ _ h.c2, fun o => by rw [World.frozen?_setCell]; exact h.warm o, bs_kept2 h.reads hk h.apart, h.apart, h.le, h.short⟩
  · rw [World.cell?_setCell_other w _ _ _ (by simp)]; exact h.c0
  · rw [World.cell?_setCell_other w _ _ _ (by simp)]; exact h.c1
theorem RR.set_at {w : World} {p : Nat} {v : Value} {bs : List UInt8} {at_ bad : Nat} (h : RR w p v bs at_ bad) (c : Nat) (hc : c ≤ bs.length) : RR (w.setCell ⟨p, 1, none⟩ (.int .i64 (c : Int))) p v bs c bad := by
  have hk := kp_set w p 1 (.int .i64 (c : Int))
  refine ⟨?_, World.cell?_setCell_same w _ _ h.c1, ?_, fun o => by rw [World.frozen?_setCell]; exact h.warm o, bs_kept2 h.reads hk h.apart, h.apart, hc, h.short⟩
  · rw [World.cell?_setCell_other w _ _ _ (by simp)]; exact h.c0
  · rw [World.cell?_setCell_other w _ _ _ (by simp)]; exact h.c2

def RRPost (w : World) (p : Nat) (v : Value) (bs : List UInt8) (res : Value) (at_ bad : Nat) (e : Ending) (w' : World) : Prop :=
  e = .returned res ∧ RR w' p v bs at_ bad ∧ Kp (fun k => k = p) w w'

theorem drop_cons {bs : List UInt8} {at_ : Nat} (h : at_ < bs.length) : bs.drop at_ = bs.getD at_ 0 :: bs.drop (at_ + 1) := by
  rw [List.drop_eq_getElem_cons h]; simp [List.getD, h]

theorem kp_drew_set (w : World) (n p o : Nat) (u : Value) : Kp (fun k => k = p) w ((w.setCell ⟨p, o, none⟩ u).drewN n) := (kp_set w p o u).drewN n

set_option maxRecDepth 100000 in
set_option maxHeartbeats 2000000 in
theorem byte_any (w : World) (p : Nat) (v : Value) (bs : List UInt8) (at_ bad most : Nat) (h : RR w p v bs at_ bad) :
    Calls Try.prog 64 #[.pointer (some ⟨p, 0, none⟩), .int .u8 (most : Int)] w (RRPost w p v bs (.int .u8 ((rByte bs at_ bad most).1 : Int)) (rByte bs at_ bad most).2.1 (rByte bs at_ bad most).2.2) := by
  have c0 := h.c0
  have c1 := h.c1
  have c2 := h.c2
  have f1 := h.warm 1
  have f2 := h.warm 2
  have H := Hid_mk h
  by_cases hb : bad = 0
  · subst hb
    obtain ⟨a, cap, rfl, hl, hm, hc⟩ := h.reads
    have hshort := h.short
    have hap := h.apart
    unfold maxLen at hm
    clear h
    by_cases he : at_ < bs.length
    · obtain ⟨b, o, rfl, hcell⟩ := hc (by intro e; subst e; simp at he)
      have hbp : b ≠ p := hap (by intro e; subst e; simp at he) _ _ _ _ rfl
      have hx : w.cell? ⟨b, o + at_, none⟩ = some (.int .u8 ((bs.getD at_ 0).toNat : Int)) := hcell at_ he
      have hd := drop_cons he
      have hi : (at_ : Int) < (bs.length : Int) := by omega
      have hge : decide ((bs.length : Int) ≤ (at_ : Int)) = false := decide_eq_false (by omega)
      have HAt := Hid_mk (show at_ + 1 ≤ bs.length from he)
      by_cases hgt : most < (bs.getD at_ 0).toNat
      · have hr : rByte bs at_ 0 most = (0, at_, 12) := by unfold rByte; rw [if_neg (by simp), hd, if_neg (by simp)]; simp only [List.getD_cons_zero]; rw [if_pos hgt]
        have hgi : (most : Int) < ((bs.getD at_ 0).toNat : Int) := by omega
        have HRes := Hid_mk hr
        generalize (bs.getD at_ 0).toNat = d at *
        generalize hLen : bs.length = len at *
        clear hr hd hcell hc hap hgt hLen
        go_enter Try.func64, Try.ntmps64
        go_wp2
        go_quiet (fail)
        go_wp2
        go_quiet (fail)
        go_wp2
        go_ret
        rw [HRes.out]
        exact ⟨rfl, (H.out.set_bad 12).same (by exact ⟨rfl, rfl, rfl, Nat.le_refl _, fun _ _ _ => rfl⟩), by exact ⟨rfl, rfl, rfl, (kp_set w p 2 _).size, (kp_set w p 2 _).block⟩⟩
      · have hr : rByte bs at_ 0 most = ((bs.getD at_ 0).toNat, at_ + 1, 0) := by unfold rByte; rw [if_neg (by simp), hd, if_neg (by simp)]; simp only [List.getD_cons_zero]; rw [if_neg hgt]
        have hgi : ¬ (most : Int) < ((bs.getD at_ 0).toNat : Int) := by omega
        have HRes := Hid_mk hr
        have hx1 : (w.setCell ⟨p, 1, none⟩ (.int .i64 ((at_ : Int) + 1))).cell? ⟨b, o + at_, none⟩ = some (.int .u8 ((bs.getD at_ 0).toNat : Int)) := (kp_set w p 1 _).cell' hx hbp
        have i1 : IntKind.i64.wrap ((at_ : Int) + 1) = (at_ : Int) + 1 := IntWalk.i64_in _ (by omega)
        generalize (bs.getD at_ 0).toNat = d at *
        generalize hLen : bs.length = len at *
        clear hr hd hcell hc hap hgt
        go_enter Try.func64, Try.ntmps64
        go_wp2
        go_quiet (fail)
        go_wp2
        go_quiet (fail)
        go_wp2
        go_quiet (fail)
        go_wp2
        go_ret
        rw [HRes.out]
        exact ⟨rfl, (H.out.set_at (at_ + 1) (by rw [hLen]; exact HAt.out)).same (by exact ⟨rfl, rfl, rfl, Nat.le_refl _, fun _ _ _ => rfl⟩), by exact ⟨rfl, rfl, rfl, (kp_set w p 1 _).size, (kp_set w p 1 _).block⟩⟩
    · have hr : rByte bs at_ 0 most = (0, at_, 10) := by unfold rByte; rw [if_neg (by simp), if_pos (List.drop_of_length_le (by omega))]
      have HRes := Hid_mk hr
      have hge : decide ((bs.length : Int) ≤ (at_ : Int)) = true := decide_eq_true (by omega)
      have hge2 : (bs.length : Int) ≤ (at_ : Int) := by omega
      generalize hLen : bs.length = len at *
      clear hr hc hap hLen
      go_enter Try.func64, Try.ntmps64
      go_wp2
      go_quiet (fail)
      go_wp2
      go_ret
      rw [HRes.out]
      exact ⟨rfl, (H.out.set_bad 10).same (by exact ⟨rfl, rfl, rfl, Nat.le_refl _, fun _ _ _ => rfl⟩), by exact ⟨rfl, rfl, rfl, (kp_set w p 2 _).size, (kp_set w p 2 _).block⟩⟩
  · have hr : rByte bs at_ bad most = (0, at_, bad) := by unfold rByte; rw [if_pos hb]
    rw [hr]
    have hbz : ((bad : Int) == 0) = false := by simp; omega
    have hbz2 : ((bad : Int) != 0) = true := by simp; omega
    clear h hr
    go_enter Try.func64, Try.ntmps64
    go_wp2
    go_ret
    exact ⟨rfl, H.out, Kp.refl _ _⟩

end Go.Proofs.Ytaghpjlodlbmjaa.ref
