/- PackReads: the law's walk. -/
import Derived.Test.YtaghpjlodlbmjaaRefText
import Derived.Test.YtaghpjlodlbmjaaFloats
namespace Go.Proofs.Ytaghpjlodlbmjaa.reads
open Go.RowKit Go.Proofs.Ytaghpjlodlbmjaa.sum Go.Proofs.Ytaghpjlodlbmjaa.kept Go.Proofs.Ytaghpjlodlbmjaa.app Go.Proofs.Ytaghpjlodlbmjaa.writer Go.Proofs.Ytaghpjlodlbmjaa.clone Go.Proofs.Ytaghpjlodlbmjaa.known Go.Proofs.Ytaghpjlodlbmjaa.unseal Go.Proofs.Ytaghpjlodlbmjaa.number Go.Proofs.Ytaghpjlodlbmjaa.words Go.Proofs.Ytaghpjlodlbmjaa.turned Go.Proofs.Ytaghpjlodlbmjaa.back Go.Proofs.Ytaghpjlodlbmjaa.reader Go.Proofs.Ytaghpjlodlbmjaa.backWalk
set_option linter.unusedVariables false

structure AskD where
  what : Int
  b : UInt8
  n : Nat
  t : Int

def AskD.ok (d : AskD) : Prop := d.n < U64 ∧ d.t < 9223372036854775808

/-- A slice value that reads, in this world, as these. -/
def Asks (w : World) (v : Value) (ls : List AskD) : Prop :=
  ∃ a cap, v = .slice a ls.length cap ∧ ls.length ≤ cap ∧ cap ≤ maxLen ∧
    (ls ≠ [] → ∃ b o, a = some ⟨b, o, none⟩ ∧ ∀ k (hk : k < ls.length),
      w.cell? ⟨b, o + k * 4, none⟩ = some (.int .i64 ls[k].what) ∧ w.cell? ⟨b, o + k * 4 + 1, none⟩ = some (.int .u8 (ls[k].b.toNat : Int)) ∧
      w.cell? ⟨b, o + k * 4 + 2, none⟩ = some (.int .u64 (ls[k].n : Int)) ∧ w.cell? ⟨b, o + k * 4 + 3, none⟩ = some (.int .i64 ls[k].t))

theorem asks_kept {S : Nat → Prop} {w w' : World} {v : Value} {ls : List AskD} (h : Asks w v ls) (hk : Kp S w w') (hn : ∀ b o n c, v = .slice (some ⟨b, o, none⟩) n c → ¬ S b) : Asks w' v ls := by
  obtain ⟨a, cap, rfl, h1, h2, h3⟩ := h
  refine ⟨a, cap, rfl, h1, h2, fun hne => ?_⟩
  obtain ⟨b, o, rfl, hc⟩ := h3 hne
  have hb := hn b o _ _ rfl
  refine ⟨b, o, rfl, fun k hkk => ?_⟩
  obtain ⟨c0, c1, c2, c3⟩ := hc k hkk
  exact ⟨hk.cell' c0 hb, hk.cell' c1 hb, hk.cell' c2 hb, hk.cell' c3 hb⟩

theorem rd_kept2 {S : Nat → Prop} {w w' : World} {p : Nat} {v : Value} {bs : List UInt8} {at_ bad : Nat} (h : Rd w p v bs at_ bad) (hk : Kp S w w') (hp : ¬ S p) (hv : bs ≠ [] → ∀ b o n c, v = .slice (some ⟨b, o, none⟩) n c → ¬ S b) : Rd w' p v bs at_ bad :=
  ⟨hk.cell' h.c0 hp, hk.cell' h.c1 hp, hk.cell' h.c2 hp, fun o => (hk.frozen (p := ⟨p, o, none⟩) (show p < w.heap.size from World.block_lt_of_cell? w ⟨p, 0, none⟩ h.c0) hp).trans (h.warm o), ref.bs_kept2 h.reads hk hv, h.shape, h.le, h.short⟩

/-- where the two Readers and what they read lie -/
structure Lie (w : World) (p q : Nat) (vR vb vo : Value) (bs : List UInt8) : Prop where
  pw : w.heap.size ≤ p
  qw : w.heap.size ≤ q
  ne : p ≠ q
  vr : bs ≠ [] → ∀ b o n c, vR = .slice (some ⟨b, o, none⟩) n c → b ≠ q
  vb : bs ≠ [] → ∀ b o n c, vb = .slice (some ⟨b, o, none⟩) n c → b ≠ p
  vo : bs ≠ [] → ∀ b o n c, vo = .slice (some ⟨b, o, none⟩) n c → b ≠ p ∧ b ≠ q

/-- the project's Reader at one place, the reference's at one -/
def Two (w : World) (p : Nat) (vR : Value) (q : Nat) (vb vo : Value) (bs : List UInt8) (a1 b1 a2 b2 : Nat) (wr : World) : Prop :=
  Rd wr p vR bs a1 b1 ∧ ref.RR wr q vb bs a2 b2 ∧ Kp No w wr ∧ Bs wr vo bs

theorem Two.same {w wr w' : World} {p q : Nat} {vR vb vo : Value} {bs : List UInt8} {a1 b1 a2 b2 : Nat} (h : Two w p vR q vb vo bs a1 b1 a2 b2 wr) (hk : Kp No wr w') : Two w p vR q vb vo bs a1 b1 a2 b2 w' :=
  ⟨rd_same h.1 hk, h.2.1.same hk, h.2.2.1.trans' hk, bs_no h.2.2.2 hk⟩
theorem Two.left {w wr w' : World} {p q : Nat} {vR vb vo : Value} {bs : List UInt8} {a1 b1 a2 b2 a3 b3 : Nat} (hL : Lie w p q vR vb vo bs) (h : Two w p vR q vb vo bs a1 b1 a2 b2 wr) (hR : Rd w' p vR bs a3 b3) (hk : Kp (fun k => k = p) wr w') : Two w p vR q vb vo bs a3 b3 a2 b2 w' :=
  ⟨hR, h.2.1.kept hk (fun e => hL.ne e.symm) hL.vb, h.2.2.1.trans hk (fun i hi e => by have := hL.pw; omega), ref.bs_kept2 h.2.2.2 hk fun hne b o n c e => (hL.vo hne b o n c e).1⟩
theorem Two.right {w wr w' : World} {p q : Nat} {vR vb vo : Value} {bs : List UInt8} {a1 b1 a2 b2 a3 b3 : Nat} (hL : Lie w p q vR vb vo bs) (h : Two w p vR q vb vo bs a1 b1 a2 b2 wr) (hR : ref.RR w' q vb bs a3 b3) (hk : Kp (fun k => k = q) wr w') : Two w p vR q vb vo bs a1 b1 a3 b3 w' :=
  ⟨rd_kept2 h.1 hk hL.ne hL.vr, hR, h.2.2.1.trans hk (fun i hi e => by have := hL.qw; omega), ref.bs_kept2 h.2.2.2 hk fun hne b o n c e => (hL.vo hne b o n c e).2⟩

def TwoRel (w : World) (p : Nat) (vR : Value) (q : Nat) (vb vo : Value) (bs : List UInt8) (ls : List AskD) (i : Value) (wr : World) : Prop :=
  ∃ k, k ≤ ls.length ∧ i = .int .i64 ((k : Nat) : Int) ∧ ∃ at_ bad, Two w p vR q vb vo bs at_ bad at_ bad wr

theorem TwoRel.same {w : World} {p : Nat} {vR : Value} {q : Nat} {vb vo : Value} {bs : List UInt8} {ls : List AskD} {i : Value} {wr w' : World} (h : TwoRel w p vR q vb vo bs ls i wr) (hk : Kp No wr w') : TwoRel w p vR q vb vo bs ls i w' := by
  obtain ⟨k, h1, h2, a, b, h3⟩ := h
  exact ⟨k, h1, h2, a, b, h3.same hk⟩

/-- one thing read by both -/
theorem both_byte {w wr : World} {p q : Nat} {vR vb vo : Value} {bs : List UInt8} {at_ bad : Nat} (hL : Lie w p q vR vb vo bs) (h : Two w p vR q vb vo bs at_ bad at_ bad wr) (m : Nat) :
    ∃ x a2 b2, ∀ W, Kp No wr W → Calls Try.prog 38 #[.pointer (some ⟨p, 0, none⟩), .int .u8 (m : Int)] W fun e W1 => e = .returned (.int .u8 (x : Int)) ∧ Kp No w W1 ∧
      ∀ W2, Kp No W1 W2 → Calls Try.prog 64 #[.pointer (some ⟨q, 0, none⟩), .int .u8 (m : Int)] W2 fun e W3 => e = .returned (.int .u8 (x : Int)) ∧ Two w p vR q vb vo bs a2 b2 a2 b2 W3 := by
  obtain ⟨⟨x, a2, b2⟩, hr⟩ : ∃ t, rByte bs at_ bad m = t := ⟨_, rfl⟩
  refine ⟨x, a2, b2, fun W hW => ?_⟩
  have hT := h.same hW
  have h1 := reader.byte_any W p vR bs at_ bad m hT.1
  rw [hr] at h1
  refine h1.mono ?_
  rintro e W1 ⟨he, hR1, hk1⟩
  have hT1 := hT.left hL hR1 hk1
  refine ⟨he, hT1.2.2.1, fun W2 hW2 => ?_⟩
  have hT2 := hT1.same hW2
  have h2 := ref.byte_any W2 q vb bs at_ bad m hT2.2.1
  rw [hr] at h2
  refine h2.mono ?_
  rintro e W3 ⟨he, hR3, hk3⟩
  exact ⟨he, hT2.right hL hR3 hk3⟩

/-- one thing read by both -/
theorem both_num {w wr : World} {p q : Nat} {vR vb vo : Value} {bs : List UInt8} {at_ bad : Nat} (hL : Lie w p q vR vb vo bs) (h : Two w p vR q vb vo bs at_ bad at_ bad wr) (m : Nat) :
    ∃ x a2 b2, ∀ W, Kp No wr W → Calls Try.prog 39 #[.pointer (some ⟨p, 0, none⟩), .int .u64 (m : Int)] W fun e W1 => e = .returned (.int .u64 (x : Int)) ∧ Kp No w W1 ∧
      ∀ W2, Kp No W1 W2 → Calls Try.prog 65 #[.pointer (some ⟨q, 0, none⟩), .int .u64 (m : Int)] W2 fun e W3 => e = .returned (.int .u64 (x : Int)) ∧ Two w p vR q vb vo bs a2 b2 a2 b2 W3 := by
  obtain ⟨⟨x, a2, b2⟩, hr⟩ : ∃ t, rNum bs at_ bad m = t := ⟨_, rfl⟩
  refine ⟨x, a2, b2, fun W hW => ?_⟩
  have hT := h.same hW
  have h1 := reader.num_any W p vR bs at_ bad m hT.1
  rw [hr] at h1
  refine h1.mono ?_
  rintro e W1 ⟨he, hR1, hk1⟩
  have hT1 := hT.left hL hR1 hk1
  refine ⟨he, hT1.2.2.1, fun W2 hW2 => ?_⟩
  have hT2 := hT1.same hW2
  have h2 := ref.num_any W2 q vb bs at_ bad m hT2.2.1
  rw [hr] at h2
  refine h2.mono ?_
  rintro e W3 ⟨he, hR3, hk3⟩
  exact ⟨he, hT2.right hL hR3 hk3⟩

/-- one thing read by both -/
theorem both_text {w wr : World} {p q : Nat} {vR vb vo : Value} {bs : List UInt8} {at_ bad : Nat} (hL : Lie w p q vR vb vo bs) (h : Two w p vR q vb vo bs at_ bad at_ bad wr) (m : Int) (hm : m < 9223372036854775808) :
    ∃ x a2 b2, ∀ W, Kp No wr W → Calls Try.prog 41 #[.pointer (some ⟨p, 0, none⟩), .int .i64 m] W fun e W1 => e = .returned (.string x) ∧ Kp No w W1 ∧
      ∀ W2, Kp No W1 W2 → Calls Try.prog 66 #[.pointer (some ⟨q, 0, none⟩), .int .i64 m] W2 fun e W3 => e = .returned (.string x) ∧ Two w p vR q vb vo bs a2 b2 a2 b2 W3 := by
  obtain ⟨⟨x0, a2, b2⟩, hr⟩ : ∃ t, rText bs at_ bad m.toNat = t := ⟨_, rfl⟩
  refine ⟨⟨x0.toArray⟩, a2, b2, fun W hW => ?_⟩
  have hT := h.same hW
  have h1 := reader.text_any W p vR bs at_ bad m hm hT.1
  rw [hr] at h1
  refine h1.mono ?_
  rintro e W1 ⟨he, hR1, hk1⟩
  have hT1 := hT.left hL hR1 hk1
  refine ⟨he, hT1.2.2.1, fun W2 hW2 => ?_⟩
  have hT2 := hT1.same hW2
  have h2 := ref.text_any W2 q vb bs at_ bad m hm hT2.2.1
  rw [hr] at h2
  refine h2.mono ?_
  rintro e W3 ⟨he, hR3, hk3⟩
  exact ⟨he, hT2.right hL hR3 hk3⟩

/-- one thing read by both -/
theorem both_float {w wr : World} {p q : Nat} {vR vb vo : Value} {bs : List UInt8} {at_ bad : Nat} (hL : Lie w p q vR vb vo bs) (h : Two w p vR q vb vo bs at_ bad at_ bad wr) :
    ∃ x a2 b2, ∀ W, Kp No wr W → Calls Try.prog 40 #[.pointer (some ⟨p, 0, none⟩)] W fun e W1 => e = .returned (.float .f64 x) ∧ Kp No w W1 ∧
      ∀ W2, Kp No W1 W2 → Calls Try.prog 68 #[.pointer (some ⟨q, 0, none⟩)] W2 fun e W3 => e = .returned (.float .f64 x) ∧ Two w p vR q vb vo bs a2 b2 a2 b2 W3 := by
  obtain ⟨⟨x, a2, b2⟩, hr⟩ : ∃ t, rFloat bs at_ bad = t := ⟨_, rfl⟩
  refine ⟨x, a2, b2, fun W hW => ?_⟩
  have hT := h.same hW
  have h1 := reader.float_any W p vR bs at_ bad hT.1
  rw [hr] at h1
  refine h1.mono ?_
  rintro e W1 ⟨he, hR1, hk1⟩
  have hT1 := hT.left hL hR1 hk1
  refine ⟨he, hT1.2.2.1, fun W2 hW2 => ?_⟩
  have hT2 := hT1.same hW2
  have h2 := ref.float_any W2 q vb bs at_ bad hT2.2.1
  rw [hr] at h2
  refine h2.mono ?_
  rintro e W3 ⟨he, hR3, hk3⟩
  exact ⟨he, hT2.right hL hR3 hk3⟩

theorem both_end {w wr : World} {p q : Nat} {vR vb vo : Value} {bs : List UInt8} {at_ bad : Nat} (hL : Lie w p q vR vb vo bs) (h : Two w p vR q vb vo bs at_ bad at_ bad wr) :
    ∃ x : Nat, ∀ W, Kp No wr W → Calls Try.prog 42 #[.pointer (some ⟨p, 0, none⟩)] W fun e W1 => e = .returned (.int .i64 (x : Int)) ∧ Kp No w W1 ∧
      ∀ W2, Kp No W1 W2 → Calls Try.prog 69 #[.pointer (some ⟨q, 0, none⟩)] W2 fun e W3 => e = .returned (.int .i64 (x : Int)) ∧ Two w p vR q vb vo bs at_ bad at_ bad W3 := by
  refine ⟨rEnd bs at_ bad, fun W hW => ?_⟩
  have hT := h.same hW
  refine (reader.end_any W p vR bs at_ bad hT.1).mono ?_
  rintro e W1 ⟨he, n, hw⟩
  have hT1 : Two w p vR q vb vo bs at_ bad at_ bad W1 := hT.same (by rw [hw]; exact (Kp.refl No W).drewN n)
  refine ⟨he, hT1.2.2.1, fun W2 hW2 => ?_⟩
  have hT2 := hT1.same hW2
  refine (ref.end_any W2 q vb bs at_ bad hT2.2.1).mono ?_
  rintro e W3 ⟨he, hk3⟩
  exact ⟨he, hT2.same hk3⟩

set_option maxRecDepth 100000 in
set_option maxHeartbeats 8000000 in
theorem reads_any (w : World) (vb va : Value) (bs : List UInt8) (ls : List AskD) (hb : Bs w vb bs) (hl : bs.length ≤ 140737488355328) (ha : Asks w va ls) (hok : ∀ d ∈ ls, d.ok) :
    Calls Try.prog 36 #[vb, va] w fun e w' => e = .returned (.bool true) ∧ Kp No w w' := by
  have HB := Hid_mk hb
  have HA := Hid_mk ha
  have HOk := Hid_mk hok
  obtain ⟨a, cap, rfl, hla, hma, -⟩ := ha
  unfold maxLen at hma
  have hlen : ∀ cc, vb = .slice none 0 cc → True := fun _ _ => trivial
  have k0 : Kp No w (w.alloc (.cells #[] 5)) := (Kp.refl _ _).alloc _
  have h0 : (w.alloc (.cells #[] 5)).ownsRow w.heap.size 5 1 (.slice (some ⟨w.heap.size, 0, none⟩) 0 0) 0 [] := World.ownsRow_made w #[] 0 (Nat.le_refl _) (by decide) rfl
  have HX := Hid_mk (bs_no hb k0)
  have HB := Hid_mk hb
  obtain ⟨ab, capb, rfl, hlb, hmb, hcb⟩ := hb
  have hvw : bs ≠ [] → ∀ b o n c, Value.slice ab bs.length capb = .slice (some ⟨b, o, none⟩) n c → b < w.heap.size := fun hne => floats.bs_block_lt HB.out hne
  have HVw := Hid_mk hvw
  unfold maxLen at hmb
  clear hok hlen hcb hvw
  go_enter Try.func36, Try.ntmps36
  go_wp2_with (at_builtin; (refine wpList_append_bs _ rfl _ _ rfl w.heap.size _ [] rfl h0 _ bs rfl HX.out ?c1 ?c2 ?_))
  case c1 => simpa using hl
  case c2 => simp
  intro v1 w1 happ
  have ho1 : w1.ownsRow w.heap.size 5 1 v1 bs.length (bs.map B) := by simpa using happ.1
  have HK1 := Hid_mk (k0.grown happ.2.1 fun k hk e => by simp [Value.ownBlock] at e; omega)
  have HO1 := Hid_mk ho1
  clear happ k0 h0 ho1
  go_wp2_with fail
  refine (reader.new_any _ _ _ (owns_bs HO1.out) hl).mono ?_
  rintro e w2 ⟨p, vR, rfl, hp2, hR2, hk2, hf2⟩
  have HR2 := Hid_mk hR2
  have HK2 := Hid_mk (HK1.out.trans' hk2)
  have hs1 := HK1.out.size
  have hs2 := hk2.size
  have hplt := hR2.lt
  have HLie : Hid (Lie w p w2.heap.size vR (.slice ab bs.length capb) v1 bs) := by
    have hvo := fun hne => floats.bs_block_lt (owns_bs (bs := bs) HO1.out) hne
    refine Hid_mk ⟨by omega, by omega, by omega, fun hne b o n c e => ?_, fun hne b o n c e => ?_, fun hne b o n c e => ?_⟩
    · have := floats.bs_block_lt hR2.reads hne b o n c e; omega
    · have := HVw.out hne b o n c e; omega
    · have := hvo hne b o n c e; omega
  have HB2 := Hid_mk (bs_no HB.out HK2.out)
  have HO2 := Hid_mk (owns_bs (bs := bs) (owns_kept HO1.out hk2 fun _ _ => id))
  clear hR2 hk2 hf2 hp2
  have HT : Hid (Two w p vR w2.heap.size (.slice ab bs.length capb) v1 bs 0 0 0 0 (w2.alloc (.cells #[.slice ab bs.length capb, .int .i64 0, .int .i64 0] 103))) := by
    refine Hid_mk ⟨rd_same HR2.out ((Kp.refl No w2).alloc _), ⟨by simp, by simp, by simp, fun o => by simp, bs_no HB2.out ((Kp.refl No _).alloc _), fun hne b o n c e => ?_, Nat.zero_le _, hl⟩, HK2.out.alloc _, bs_no HO2.out ((Kp.refl No _).alloc _)⟩
    have := HVw.out hne b o n c e; omega
  generalize hq : w2.heap.size = q at *
  go_wp2
  go_loopw [8] (fun i wr => TwoRel w p vR q (.slice ab bs.length capb) v1 bs ls i wr) (fun i _ => ls.length - (intOf i).toNat)
  case atStart => exact ⟨0, Nat.zero_le _, rfl, 0, 0, HT.out⟩
  case round =>
    obtain ⟨k, hk, rfl, at_, bad, hT⟩ := hrel
    have HTk := Hid_mk hT
    have hasks := asks_kept HA.out hT.2.2.1 fun _ _ _ _ _ => id
    have HAsks := Hid_mk hasks
    clear hT
    by_cases hlt : k < ls.length
    · obtain ⟨_, _, e, -, -, hc⟩ := hasks
      simp only [Value.slice.injEq] at e
      obtain ⟨rfl, -, rfl⟩ := e
      obtain ⟨b, o, rfl, hcell⟩ := hc (by intro e; subst e; simp at hlt)
      have hca := hcell k hlt
      have hki : (k : Int) < (ls.length : Int) := by omega
      have hok := HOk.out _ (List.getElem_mem hlt)
      have hb4 : ∀ W, Kp No w W → W.cell? ⟨b, o + k * 4, none⟩ = some (.int .i64 ls[k].what) ∧ W.cell? ⟨b, o + k * 4 + 1, none⟩ = some (.int .u8 (ls[k].b.toNat : Int)) ∧ W.cell? ⟨b, o + k * 4 + 2, none⟩ = some (.int .u64 (ls[k].n : Int)) ∧ W.cell? ⟨b, o + k * 4 + 3, none⟩ = some (.int .i64 ls[k].t) := by
        intro W hW
        obtain ⟨_, _, e, -, -, hc'⟩ := asks_kept HA.out hW fun _ _ _ _ _ => id
        obtain ⟨b', o', e2, hcell'⟩ := hc' (by intro e; subst e; simp at hlt)
        simp only [Value.slice.injEq] at e
        rw [← e.1] at e2
        cases e2
        exact hcell' k hlt
      generalize hd : ls[k] = d at *
      have HB4 := Hid_mk hb4
      obtain ⟨c0, c1, c2, c3⟩ := hca
      clear hcell hc hd hb4
      have hp := pick_any d.what 5 (by omega) (by omega)
      have HOkd := Hid_mk hok
      have hmod : d.what % 5 = 0 ∨ d.what % 5 = 1 ∨ d.what % 5 = 2 ∨ d.what % 5 = 3 ∨ d.what % 5 = 4 := by omega
      clear hok
      rcases hmod with hm | hm | hm | hm | hm
      · rw [hm] at hp
        have HP := fun w => Hid_mk (hp w)
        obtain ⟨x, a2, b2, hboth⟩ := both_byte HLie.out HTk.out d.b.toNat
        have hcall : ∀ W, Kp No wr W → Calls Try.prog 38 #[.pointer (some ⟨p, 0, none⟩), .int .u8 (d.b.toNat : Int)] W fun e W1 => e = .returned (.int .u8 (x : Int)) ∧ W1.cell? ⟨b, o + k * 4 + 1, none⟩ = some (.int .u8 (d.b.toNat : Int)) ∧
            ∀ W2, Kp No W1 W2 → Calls Try.prog 64 #[.pointer (some ⟨q, 0, none⟩), .int .u8 (d.b.toNat : Int)] W2 fun e W3 => e = .returned (.int .u8 (x : Int)) ∧ TwoRel w p vR q (.slice ab bs.length capb) v1 bs ls (.int .i64 ((k + 1 : Nat) : Int)) W3 :=
          fun W hW => (hboth W hW).mono fun e W1 ⟨he, hk1, h2⟩ => ⟨he, (HB4.out W1 hk1).2.1, fun W2 hW2 => (h2 W2 hW2).mono fun e W3 ⟨he, hT⟩ => ⟨he, k + 1, hlt, rfl, a2, b2, hT⟩⟩
        have HCall := Hid_mk hcall
        clear hp hm hboth hcall
        go_wp2_with fail
        refine (HP _).out.mono ?_
        rintro e w' ⟨rfl, rfl⟩
        go_wp2
        go_region_with (first
          | (go_at_call 38; refine (HCall.out _ (by exact ⟨rfl, rfl, rfl, Nat.le_refl _, fun _ _ _ => rfl⟩)).mono ?_; rintro e w4 ⟨rfl, hcc, hcall2⟩; have HCall2 := Hid_mk hcall2; clear hcall2)
          | (go_at_call 64; refine (HCall2.out _ (by exact ⟨rfl, rfl, rfl, Nat.le_refl _, fun _ _ _ => rfl⟩)).mono ?_; rintro e w5 ⟨rfl, hrel2⟩; have HRel := Hid_mk hrel2; clear hrel2))
        all_goals
          go_wp2
          go_roundw
          case rel => exact HRel.out.same (by exact ⟨rfl, rfl, rfl, Nat.le_refl _, fun _ _ _ => rfl⟩)
          case measure => simp [intOf]; omega
      · rw [hm] at hp
        have HP := fun w => Hid_mk (hp w)
        obtain ⟨x, a2, b2, hboth⟩ := both_num HLie.out HTk.out d.n
        have hcall : ∀ W, Kp No wr W → Calls Try.prog 39 #[.pointer (some ⟨p, 0, none⟩), .int .u64 (d.n : Int)] W fun e W1 => e = .returned (.int .u64 (x : Int)) ∧ W1.cell? ⟨b, o + k * 4 + 2, none⟩ = some (.int .u64 (d.n : Int)) ∧
            ∀ W2, Kp No W1 W2 → Calls Try.prog 65 #[.pointer (some ⟨q, 0, none⟩), .int .u64 (d.n : Int)] W2 fun e W3 => e = .returned (.int .u64 (x : Int)) ∧ TwoRel w p vR q (.slice ab bs.length capb) v1 bs ls (.int .i64 ((k + 1 : Nat) : Int)) W3 :=
          fun W hW => (hboth W hW).mono fun e W1 ⟨he, hk1, h2⟩ => ⟨he, (HB4.out W1 hk1).2.2.1, fun W2 hW2 => (h2 W2 hW2).mono fun e W3 ⟨he, hT⟩ => ⟨he, k + 1, hlt, rfl, a2, b2, hT⟩⟩
        have HCall := Hid_mk hcall
        clear hp hm hboth hcall
        go_wp2_with fail
        refine (HP _).out.mono ?_
        rintro e w' ⟨rfl, rfl⟩
        go_wp2
        go_region_with (first
          | (go_at_call 39; refine (HCall.out _ (by exact ⟨rfl, rfl, rfl, Nat.le_refl _, fun _ _ _ => rfl⟩)).mono ?_; rintro e w4 ⟨rfl, hcc, hcall2⟩; have HCall2 := Hid_mk hcall2; clear hcall2)
          | (go_at_call 65; refine (HCall2.out _ (by exact ⟨rfl, rfl, rfl, Nat.le_refl _, fun _ _ _ => rfl⟩)).mono ?_; rintro e w5 ⟨rfl, hrel2⟩; have HRel := Hid_mk hrel2; clear hrel2))
        all_goals
          go_wp2
          go_roundw
          case rel => exact HRel.out.same (by exact ⟨rfl, rfl, rfl, Nat.le_refl _, fun _ _ _ => rfl⟩)
          case measure => simp [intOf]; omega
      · rw [hm] at hp
        have HP := fun w => Hid_mk (hp w)
        obtain ⟨x, a2, b2, hboth⟩ := both_text HLie.out HTk.out d.t HOkd.out.2
        have hcall : ∀ W, Kp No wr W → Calls Try.prog 41 #[.pointer (some ⟨p, 0, none⟩), .int .i64 d.t] W fun e W1 => e = .returned (.string x) ∧ W1.cell? ⟨b, o + k * 4 + 3, none⟩ = some (.int .i64 d.t) ∧
            ∀ W2, Kp No W1 W2 → Calls Try.prog 66 #[.pointer (some ⟨q, 0, none⟩), .int .i64 d.t] W2 fun e W3 => e = .returned (.string x) ∧ TwoRel w p vR q (.slice ab bs.length capb) v1 bs ls (.int .i64 ((k + 1 : Nat) : Int)) W3 :=
          fun W hW => (hboth W hW).mono fun e W1 ⟨he, hk1, h2⟩ => ⟨he, (HB4.out W1 hk1).2.2.2, fun W2 hW2 => (h2 W2 hW2).mono fun e W3 ⟨he, hT⟩ => ⟨he, k + 1, hlt, rfl, a2, b2, hT⟩⟩
        have HCall := Hid_mk hcall
        clear hp hm hboth hcall
        go_wp2_with fail
        refine (HP _).out.mono ?_
        rintro e w' ⟨rfl, rfl⟩
        go_wp2
        go_region_with (first
          | (go_at_call 41; refine (HCall.out _ (by exact ⟨rfl, rfl, rfl, Nat.le_refl _, fun _ _ _ => rfl⟩)).mono ?_; rintro e w4 ⟨rfl, hcc, hcall2⟩; have HCall2 := Hid_mk hcall2; clear hcall2)
          | (go_at_call 66; refine (HCall2.out _ (by exact ⟨rfl, rfl, rfl, Nat.le_refl _, fun _ _ _ => rfl⟩)).mono ?_; rintro e w5 ⟨rfl, hrel2⟩; have HRel := Hid_mk hrel2; clear hrel2))
        all_goals
          go_wp2
          go_roundw
          case rel => exact HRel.out.same (by exact ⟨rfl, rfl, rfl, Nat.le_refl _, fun _ _ _ => rfl⟩)
          case measure => simp [intOf]; omega
      · rw [hm] at hp
        have HP := fun w => Hid_mk (hp w)
        obtain ⟨x, a2, b2, hboth⟩ := both_float HLie.out HTk.out
        have HBoth := Hid_mk hboth
        clear hp hm hboth
        go_wp2_with fail
        refine (HP _).out.mono ?_
        rintro e w' ⟨rfl, rfl⟩
        go_wp2_with fail
        refine (HBoth.out _ (Kp.refl _ _)).mono ?_
        rintro e w4 ⟨rfl, -, hcall2⟩
        have HCall2 := Hid_mk hcall2
        clear hcall2
        go_wp2_with fail
        refine (HCall2.out _ (Kp.refl _ _)).mono ?_
        rintro e w5 ⟨rfl, hT5⟩
        have HRel : Hid (TwoRel w p vR q (.slice ab bs.length capb) v1 bs ls (.int .i64 ((k + 1 : Nat) : Int)) w5) := Hid_mk ⟨k + 1, hlt, rfl, a2, b2, hT5⟩
        clear hT5
        go_wp2_with fail
        refine (floats.one_same x _).mono ?_
        rintro e w' ⟨rfl, rfl⟩
        go_wp2
        go_roundw
        case rel => exact HRel.out
        case measure => simp [intOf]; omega
      · rw [hm] at hp
        have HP := fun w => Hid_mk (hp w)
        obtain ⟨x, hboth⟩ := both_end HLie.out HTk.out
        have HBoth := Hid_mk hboth
        clear hp hm hboth
        go_wp2_with fail
        refine (HP _).out.mono ?_
        rintro e w' ⟨rfl, rfl⟩
        go_wp2_with fail
        refine (HBoth.out _ (Kp.refl _ _)).mono ?_
        rintro e w4 ⟨rfl, -, hcall2⟩
        have HCall2 := Hid_mk hcall2
        clear hcall2
        go_wp2_with fail
        refine (HCall2.out _ (Kp.refl _ _)).mono ?_
        rintro e w5 ⟨rfl, hT5⟩
        have HRel : Hid (TwoRel w p vR q (.slice ab bs.length capb) v1 bs ls (.int .i64 ((k + 1 : Nat) : Int)) w5) := Hid_mk ⟨k + 1, hlt, rfl, at_, bad, hT5⟩
        clear hT5
        go_wp2
        go_roundw
        case rel => exact HRel.out
        case measure => simp [intOf]; omega
    · have hki : ¬ (k : Int) < (ls.length : Int) := by omega
      obtain ⟨x, hboth⟩ := both_end HLie.out HTk.out
      have HBoth := Hid_mk hboth
      clear hasks hboth
      go_wp2_with fail
      refine (HBoth.out _ (Kp.refl _ _)).mono ?_
      rintro e w4 ⟨rfl, -, hcall2⟩
      have HCall2 := Hid_mk hcall2
      clear hcall2
      go_wp2_with fail
      refine (HCall2.out _ (Kp.refl _ _)).mono ?_
      rintro e w5 ⟨rfl, hT5⟩
      have hc1 := conv_bs hT5.2.2.2
      have hc2 := conv_bs hT5.2.1.reads
      have HK5 := Hid_mk hT5.2.2.1
      clear hT5
      go_wp2
      go_ret
      exact ⟨rfl, HK5.out⟩

end Go.Proofs.Ytaghpjlodlbmjaa.reads
