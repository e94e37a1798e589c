/- Package nfa: a new walk; it begins; it ends. -/
import Derived.Test.YtaneblecgjahbabEreQuoteM
import Derived.Test.YtaneblecgjahbabNfaOkM
import Derived.StillTailTactics

namespace Go.Proofs.Ytaneblecgjahbab.nfa
open Go.RowKit Go.Proofs.Ytaneblecgjahbab.sum Go.Proofs.Ytaneblecgjahbab.kept Go.Proofs.Ytaneblecgjahbab.pop Go.Proofs.Ytaneblecgjahbab.cls Go.Proofs.Ytaneblecgjahbab.tre Go.Proofs.Ytaneblecgjahbab.ere
set_option linter.unusedVariables false

theorem make_ints (w : World) (n : Nat) (hn : n ≤ 1000000000) :
    ∃ w', (Instr.makeSlice 87 (.int .i64 (n : Int)) (.int .i64 (n : Int))).run Try.prog w = .ok (.slice (some ⟨w.heap.size, 0, none⟩) n n) w' ∧ IRw w' (.slice (some ⟨w.heap.size, 0, none⟩) n n) (List.replicate n 0) ∧ Kp No w w' := by
  obtain ⟨i0, hi, hz0, hz1, hz2⟩ := info_parts infoIn
  obtain ⟨w', hr, ho, hg⟩ := run_make_full (P := Try.prog) w 0 87 3 i0 (.int .i64 0) 1 Try.underlying87 hi hz0 hz1 .i64 .i64 n (by rw [hz2]; omega) (by unfold maxLen; omega) (Nat.zero_le _)
  refine ⟨w', hr, ?_, (Kp.refl No w).grown hg fun k hk e => by cases e⟩
  have e : (madeCells (Value.int .i64 0).cells (n * 1)).toList = (List.replicate n 0).flatMap inC := by
    apply List.ext_getElem
    · simp [madeCells, inC]
    · intro i h1 h2
      have h3 : i < (List.replicate n 0).length := by simp [madeCells] at h1; simpa using h1
      have h4 := in_get (List.replicate n 0) i h3
      rw [List.getElem?_eq_getElem h2] at h4
      have h4 := Option.some.inj h4
      rw [h4]
      simp [madeCells, Value.cells, Nat.mod_one]
  rw [e] at ho
  simpa [IRw] using ho

/-- a new walk: what there was is as it was -/
def NwPost (w : World) (pb po gp cp : Nat) (r : Nat × List Part) (bk : Bool) (s : ByteArray) (pl : Nat) (e : Ending) (w' : World) : Prop :=
  ∃ q ρ g cg, e = .returned (.pointer (some ⟨q, 0, none⟩)) ∧ WkAt w' ρ ⟨q, pb, po, gp, cp, r, bk, s⟩ (.slice none 0 0) (.slice none 0 0) (.slice none 0 0) g cg [] ⟨pl, [], [], List.replicate r.2.length 0, -1⟩ ∧ (∀ i, i < w.heap.size → ρ i = 0) ∧ Kp No w w'

set_option maxRecDepth 100000 in
set_option maxHeartbeats 4000000 in
theorem newWalk_any (w : World) (pb po gp cp : Nat) (r : Nat × List Part) (bk : Bool) (s : ByteArray) (pl : Nat) (h : PgRd w pb po r bk gp cp) (hl : r.2.length ≤ 1000000) :
    Calls Try.prog 38 #[.pointer (some ⟨pb, po, none⟩), .string s, .int .i64 (pl : Int)] w (NwPost w pb po gp cp r bk s pl) := by
  obtain ⟨w1, hr, ho, hk1⟩ := make_ints w r.2.length (by omega)
  obtain ⟨n, hn⟩ : ∃ n, r.2.length = n := ⟨_, rfl⟩
  have HO := Hid_mk ho
  have HK1 := Hid_mk hk1
  have H := Hid_mk h
  have HN := Hid_mk hn
  have d0 := h.c0
  rw [hn] at d0 hr
  have hni : (n : Int) ≤ 1000000 := by omega
  clear h hl hn ho hk1
  go_enter Try.func38, Try.ntmps38
  go_wp2
  go_ret
  have hlt1 := (own_lt HO.out (g := w.heap.size) rfl).2
  have hka : Kp No w1 (w1.alloc (.cells #[.pointer (some ⟨pb, po, none⟩), .string s, .int .i64 (pl : Int), .slice none 0 0, .slice none 0 0, .slice none 0 0, .slice (some ⟨w.heap.size, 0, none⟩) n n, .int .i64 (-1)] 89)) := (Kp.refl No w1).alloc _
  have hkf := HK1.out.trans' hka
  have hpl := H.out.lt
  have hlen : (List.replicate r.2.length 0).length = n := by rw [List.length_replicate]; exact HN.out
  have ho := HO.out
  rw [HN.out] at ho
  refine ⟨w1.heap.size, fun i => if i = w1.heap.size then 1 else if i = w.heap.size then 5 else 0, w.heap.size, n, rfl, ⟨by simp, by simp, by simp, by simp, by simp, by simp, ?_, by simp, fun i => by simp, World.ownsRow_nil _ _ _ _, World.ownsRow_nil _ _ _ _, World.ownsRow_nil _ _ _ _, ?_, if_pos rfl, fun x e => (by cases e), fun x e => (by cases e), fun x e => (by cases e), ?_, H.out.kept hkf id id, ?_, ?_, ?_⟩, ?_, hkf⟩
  · rw [hlen]; simp
  · rw [HN.out, List.length_replicate]
    have := owns_kept ho hka fun _ _ => id
    simpa [IRw] using this
  · rw [if_neg (by omega), if_pos rfl]
  · show (if pb = w1.heap.size then 1 else if pb = w.heap.size then 5 else 0) = 0
    rw [if_neg (by omega), if_neg (by omega)]
  · show (if gp = w1.heap.size then 1 else if gp = w.heap.size then 5 else 0) = 0
    rw [if_neg (by omega), if_neg (by omega)]
  · intro i hi
    have hi : (w1.alloc (.cells #[.pointer (some ⟨pb, po, none⟩), .string s, .int .i64 (pl : Int), .slice none 0 0, .slice none 0 0, .slice none 0 0, .slice (some ⟨w.heap.size, 0, none⟩) n n, .int .i64 (-1)] 89)).heap.size ≤ i := hi
    have e1 : (w1.alloc (.cells #[.pointer (some ⟨pb, po, none⟩), .string s, .int .i64 (pl : Int), .slice none 0 0, .slice none 0 0, .slice none 0 0, .slice (some ⟨w.heap.size, 0, none⟩) n n, .int .i64 (-1)] 89)).heap.size = w1.heap.size + 1 := by simp
    show (if i = w1.heap.size then 1 else if i = w.heap.size then 5 else 0) = 0
    rw [if_neg (by omega), if_neg (by omega)]
  · intro i hi
    show (if i = w1.heap.size then 1 else if i = w.heap.size then 5 else 0) = 0
    rw [if_neg (by omega), if_neg (by omega)]

/-- a walk's steps to a stand, at most -/
def fuelS (o : Over) : Nat := 3 * o.r.2.length + 3
/-- begin -/
def begS (o : Over) (t : Wst) : Wst := rchS o.r.2 o.s.size t.pl (fuelS o) none { t with stk := [o.r.1] }

set_option maxRecDepth 100000 in
set_option maxHeartbeats 4000000 in
theorem begin_any (w : World) (ρ : Nat → Nat) (o : Over) (vl vs vp : Value) (g cg : Nat) (S : List (Nat × Nat)) (t : Wst) (h : WkAt w ρ o vl vs vp g cg S t) (hok : OkW o.r.2 { t with stk := [] }) (hP : okP o.r.2) (hst : o.r.1 < o.r.2.length) (hPl : o.r.2.length ≤ 1000000) (hpl : t.pl ≤ 140737488355328) :
    Calls Try.prog 39 #[.pointer (some ⟨o.q, 0, none⟩)] w (RcPost w ρ o vs S (begS o t)) := by
  have hc : ∀ V, Kp No w V → Calls Try.prog 58 #[.pointer (some ⟨o.q, 0, none⟩), .int .i64 (o.r.1 : Int), .int .i64 (t.pl : Int)] V (RcPost w ρ o vs S (begS o t)) := fun V hV =>
    (reach_any V ρ o vl vs vp g cg S t o.r.1 t.pl (h.no hV) hok hst hP hPl hpl (fuelS o) (Nat.le_refl _)).mono fun e w' hp => by
      obtain ⟨he, ρ', a, b, c, d, h1, h2, h3⟩ := hp
      exact ⟨he, ρ', a, b, c, d, h1, (Gr.of hV).trans h2, h3⟩
  have HC := Hid_mk hc
  have b0 := h.c0
  have b2 := h.c2
  have d1 := h.pg.c1
  clear h hok hP hst hPl hpl hc
  go_enter Try.func39, Try.ntmps39
  go_still_tail 12, (by kernel_rfl)
  clear b0 b2 d1
  go_wp2_with fail
  with_reducible refine (HC.out _ (Kp.refl No w).drew).mono ?_
  rintro e w' ⟨rfl, hrest⟩
  have HR := Hid_mk hrest
  clear hrest
  go_wp2
  go_end0
  exact ⟨rfl, HR.out⟩

theorem ends_any (w : World) (ρ : Nat → Nat) (o : Over) (vl vs vp : Value) (g cg : Nat) (S : List (Nat × Nat)) (t : Wst) (h : WkAt w ρ o vl vs vp g cg S t) :
    Calls Try.prog 40 #[.pointer (some ⟨o.q, 0, none⟩)] w fun e w' => e = .returned (.bool (t.en != -1)) ∧ w = w' := by
  have b7 := h.c7
  clear h
  go_enter Try.func40, Try.ntmps40
  go_wp2
  go_ret
  exact ⟨rfl, rfl⟩

end Go.Proofs.Ytaneblecgjahbab.nfa
