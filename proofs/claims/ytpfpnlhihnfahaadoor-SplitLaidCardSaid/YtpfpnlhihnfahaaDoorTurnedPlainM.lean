/- One byte turned turns the sum; what the last six bytes say. Plain whole numbers. PackTurned: the law's walk. What the statements lay: 'laid'. What was laid is read as it was: whole numbers, bytes, texts. What was laid is read as it was; what was cut off ends too early. Lists and whole numbers. What was read without anything wrong is laid as the same bytes. Lists and whole numbers. A splitter of its bytes, in plain words. No program is named here. -/
import Derived.Test.YtpfpnlhihnfahaaDoorFloorM
import Derived.Test.YtpfpnlhihnfahaaDoorRefNextM
import Derived.Deep.RegionWith
import Derived.StillTailTactics
import Derived.RegionCalls
import Derived.Test.YtpfpnlhihnfahaaDoorNumberM
import Derived.Test.YtpfpnlhihnfahaaDoorBaseM

namespace Go.Proofs.YtpfpnlhihnfahaaDoor.turnedPlain
open Go.Proofs.YtpfpnlhihnfahaaDoor.seal Go.Proofs.YtpfpnlhihnfahaaDoor.unseal

theorem run_lt (s : Nat × Nat) (hs : s.1 < pl.P ∧ s.2 < pl.P) (bs : List UInt8) : (bs.foldl pl.step s).1 < pl.P ∧ (bs.foldl pl.step s).2 < pl.P := by
  induction bs generalizing s with
  | nil => exact hs
  | cons x bs ih => exact ih _ (pl.step_lt _ _)

theorem run_inj {s t : Nat × Nat} (hs : s.1 < pl.P ∧ s.2 < pl.P) (ht : t.1 < pl.P ∧ t.2 < pl.P) (bs : List UInt8) (h : bs.foldl pl.step s = bs.foldl pl.step t) : s = t := by
  induction bs generalizing s t with
  | nil => exact h
  | cons x bs ih => exact pl.step_inj x hs ht (ih (pl.step_lt _ _) (pl.step_lt _ _) h)

theorem step_byte {s : Nat × Nat} {x y : UInt8} (h : pl.step s x = pl.step s y) : x = y := by
  unfold pl.step at h
  simp only [Prod.mk.injEq, and_true] at h
  obtain ⟨k, hk⟩ := pl.mod_eq h
  have hx : x.toNat < 256 := UInt8.toNat_lt _
  have hy : y.toNat < 256 := UInt8.toNat_lt _
  apply UInt8.toNat_inj.1
  have hP : (pl.P : Int) = 16777199 := rfl
  rw [hP] at hk
  generalize pl.P - s.2 = c at hk
  omega

theorem sum_set (bs : List UInt8) (k : Nat) (hk : k < bs.length) (y : UInt8) (hy : bs[k] ≠ y) : pl.sum (bs.set k y) ≠ pl.sum bs := by
  intro h
  have e1 : bs = bs.take k ++ bs[k] :: bs.drop (k + 1) := by
    conv => lhs; rw [← List.take_append_drop k bs]
    rw [List.drop_eq_getElem_cons hk]
  have e2 : bs.set k y = bs.take k ++ y :: bs.drop (k + 1) := List.set_eq_take_append_cons_drop (l := bs) (i := k) (a := y) |>.trans (if_pos hk)
  rw [e2] at h
  conv at h => rhs; rw [e1]
  unfold pl.sum at h
  rw [List.foldl_append, List.foldl_append] at h
  simp only [List.foldl_cons] at h
  have := run_inj (pl.step_lt _ _) (pl.step_lt _ _) _ h
  exact hy (step_byte this).symm

theorem num3_part (n : Nat) (r : List UInt8) (hn : n < 16777216) : num3 (seal.part n ++ r) = n := by
  unfold num3 seal.part
  simp [u8_toNat]
  omega

theorem said_tail (s : Nat × Nat) (hs : s.1 < pl.P ∧ s.2 < pl.P) : said (tail s) = s := by
  unfold said tail
  unfold pl.P at hs
  rw [num3_part _ _ (by omega)]
  have e : (seal.part s.1 ++ seal.part s.2).drop 3 = seal.part s.2 ++ [] := by simp [seal.part]
  rw [e, num3_part _ _ (by omega)]

theorem said_inj {a b : List UInt8} (ha : a.length = 6) (hb : b.length = 6) (h : said a = said b) : a = b := by
  match a, ha with
  | [a0, a1, a2, a3, a4, a5], _ =>
  match b, hb with
  | [b0, b1, b2, b3, b4, b5], _ =>
  unfold said num3 at h
  simp at h
  have l := fun x : UInt8 => UInt8.toNat_lt x
  have := l a0; have := l a1; have := l a2; have := l a3; have := l a4; have := l a5
  have := l b0; have := l b1; have := l b2; have := l b3; have := l b4; have := l b5
  simp only [List.cons.injEq, and_true, ← UInt8.toNat_inj]
  omega

/-- What was sealed is unsealed as it was. -/
theorem sealed_ok (bs : List UInt8) : (sealed bs).length = bs.length + 6 ∧ (sealed bs).take bs.length = bs ∧ said ((sealed bs).drop bs.length) = pl.sum bs := by
  unfold sealed
  refine ⟨by simp [tail_len], by simp, ?_⟩
  rw [List.drop_left]
  exact said_tail _ (pl.sum_lt bs)

/-- .. and with one byte turned it is not. -/
theorem turned_bad (bs : List UInt8) (k : Nat) (hk : k < bs.length + 6) (y : UInt8) (hy : (sealed bs).getD k 0 ≠ y) :
    pl.sum (((sealed bs).set k y).take bs.length) ≠ said (((sealed bs).set k y).drop bs.length) := by
  have so := sealed_ok bs
  have hks : k < (sealed bs).length := by omega
  by_cases h : k < bs.length
  · rw [List.take_set, List.drop_set_of_lt h, so.2.1, so.2.2]
    refine sum_set bs k h y ?_
    intro e
    apply hy
    simp only [List.getD, List.getElem?_eq_getElem hks, Option.getD_some]
    rw [← e]
    have h2 : k < ((sealed bs).take bs.length).length := by rw [so.2.1]; exact h
    have := List.getElem_take (xs := sealed bs) (j := bs.length) (i := k) (h := h2)
    rw [← this]
    simp only [so.2.1]
  · rw [List.take_set, so.2.1, List.set_eq_of_length_le (by omega), List.drop_set, if_neg h]
    intro e
    rw [← so.2.2] at e
    have l1 : ((sealed bs).drop bs.length).length = 6 := by rw [List.length_drop, so.1]; omega
    have e2 := said_inj l1 (by rw [List.length_set]; exact l1) e
    apply hy
    have h3 : k - bs.length < ((sealed bs).drop bs.length).length := by omega
    have e3 : (((sealed bs).drop bs.length).set (k - bs.length) y)[k - bs.length]? = some y := by rw [List.getElem?_set, if_pos rfl, if_pos h3]
    rw [← e2, List.getElem?_drop, show bs.length + (k - bs.length) = k by omega] at e3
    simp [List.getD, e3]

end Go.Proofs.YtpfpnlhihnfahaaDoor.turnedPlain

namespace Go.Proofs.YtpfpnlhihnfahaaDoor.turned
open Go.RowKit Go.Proofs.YtpfpnlhihnfahaaDoor.sum Go.Proofs.YtpfpnlhihnfahaaDoor.kept Go.Proofs.YtpfpnlhihnfahaaDoor.app Go.Proofs.YtpfpnlhihnfahaaDoor.writer Go.Proofs.YtpfpnlhihnfahaaDoor.clone Go.Proofs.YtpfpnlhihnfahaaDoor.known Go.Proofs.YtpfpnlhihnfahaaDoor.fl Go.Proofs.YtpfpnlhihnfahaaDoor.seal Go.Proofs.YtpfpnlhihnfahaaDoor.unseal Go.Proofs.YtpfpnlhihnfahaaDoor.turnedPlain
set_option linter.unusedVariables false

theorem xor_byte (x : UInt8) (J : Nat) (hJ : J < 255) : ∃ y : UInt8, bits .xor .u8 (x.toNat : Int) (1 + (J : Int)) = (y.toNat : Int) ∧ x ≠ y := by
  refine ⟨x ^^^ (1 + J).toUInt8, ?_, ?_⟩
  · have e : (1 + J).toUInt8.toNat = 1 + J := by rw [u8_toNat]; omega
    have hx : x.toNat < 256 := UInt8.toNat_lt _
    have := u8_xor_nat x.toNat (1 + J) hx (by omega)
    rw [show (1 : Int) + (J : Int) = ((1 + J : Nat) : Int) by omega, this, UInt8.toNat_xor, e]
  · intro h
    have h2 : (1 + J).toUInt8 = 0 := by
      have := congrArg (fun z => x ^^^ z) h
      simp only [UInt8.xor_self, ← UInt8.xor_assoc, UInt8.zero_xor] at this
      exact this.symm
    have := congrArg UInt8.toNat h2
    rw [u8_toNat] at this
    simp at this
    omega

end Go.Proofs.YtpfpnlhihnfahaaDoor.turned

namespace Go.Proofs.YtpfpnlhihnfahaaDoor.laid
open Go.RowKit Go.Proofs.YtpfpnlhihnfahaaDoor.sum Go.Proofs.YtpfpnlhihnfahaaDoor.kept Go.Proofs.YtpfpnlhihnfahaaDoor.app Go.Proofs.YtpfpnlhihnfahaaDoor.writer Go.Proofs.YtpfpnlhihnfahaaDoor.clone Go.Proofs.YtpfpnlhihnfahaaDoor.known Go.Proofs.YtpfpnlhihnfahaaDoor.unseal Go.Proofs.YtpfpnlhihnfahaaDoor.number Go.Proofs.YtpfpnlhihnfahaaDoor.words Go.Proofs.YtpfpnlhihnfahaaDoor.turned
set_option linter.unusedVariables false

structure LayD where
  what : Int
  b : UInt8
  n : Nat
  x : Nat
  t : ByteArray

def LayD.ok (d : LayD) : Prop := d.n < U64 ∧ d.x < U64 ∧ d.t.size < 140737488355328

/-- A slice value that reads, in this world, as these. -/
def Lays (w : World) (v : Value) (ls : List LayD) : Prop :=
  ∃ a cap, v = .slice a ls.length cap ∧ ls.length ≤ cap ∧ cap ≤ maxLen ∧
    (ls ≠ [] → ∃ b o, a = some ⟨b, o, none⟩ ∧ ∀ k (hk : k < ls.length),
      w.cell? ⟨b, o + k * 5, none⟩ = some (.int .i64 ls[k].what) ∧ w.cell? ⟨b, o + k * 5 + 1, none⟩ = some (.int .u8 (ls[k].b.toNat : Int)) ∧
      w.cell? ⟨b, o + k * 5 + 2, none⟩ = some (.int .u64 (ls[k].n : Int)) ∧ w.cell? ⟨b, o + k * 5 + 3, none⟩ = some (.float .f64 ls[k].x) ∧
      w.cell? ⟨b, o + k * 5 + 4, none⟩ = some (.string ls[k].t))

theorem lays_kept {S : Nat → Prop} {w w' : World} {v : Value} {ls : List LayD} (h : Lays w v ls) (hk : Kp S w w') (hn : ∀ b o n c, v = .slice (some ⟨b, o, none⟩) n c → ¬ S b) : Lays w' v ls := by
  obtain ⟨a, cap, rfl, h1, h2, h3⟩ := h
  refine ⟨a, cap, rfl, h1, h2, fun hne => ?_⟩
  obtain ⟨b, o, rfl, hc⟩ := h3 hne
  have hb := hn b o _ _ rfl
  refine ⟨b, o, rfl, fun k hkk => ?_⟩
  obtain ⟨c0, c1, c2, c3, c4⟩ := hc k hkk
  exact ⟨hk.cell' c0 hb, hk.cell' c1 hb, hk.cell' c2 hb, hk.cell' c3 hb, hk.cell' c4 hb⟩

/-- what one lays -/
def layOne (d : LayD) : List UInt8 :=
  if d.what % 4 = 0 then [d.b] else if d.what % 4 = 1 then num d.n else if d.what % 4 = 3 then bytesN 8 (canon d.x) else num d.t.size ++ d.t.data.toList
def layAll (ls : List LayD) : List UInt8 := ls.flatMap layOne

theorem layAll_snoc {ls : List LayD} {k : Nat} (h : k < ls.length) : layAll (ls.take (k + 1)) = layAll (ls.take k) ++ layOne ls[k] := by
  unfold layAll
  rw [List.take_succ_eq_append_getElem h, List.flatMap_append]
  simp

/-- the room that they take -/
def roomOf : List LayD → Nat
  | [] => 0
  | d :: r => d.t.size + 10 + roomOf r
theorem roomOf_append (a b : List LayD) : roomOf (a ++ b) = roomOf a + roomOf b := by
  induction a with
  | nil => simp [roomOf]
  | cons d a ih => simp only [List.cons_append, roomOf, ih]; omega
theorem roomOf_get {ls : List LayD} {k : Nat} (h : k < ls.length) : ls[k].t.size + 10 + roomOf (ls.take k) ≤ roomOf ls := by
  have e : ls = ls.take k ++ ls[k] :: ls.drop (k + 1) := by
    conv => lhs; rw [← List.take_append_drop k ls]
    rw [List.drop_eq_getElem_cons h]
  have e2 : roomOf ls = roomOf (ls.take k) + (ls[k].t.size + 10 + roomOf (ls.drop (k + 1))) := by
    conv => lhs; rw [e]
    rw [roomOf_append]
    rfl
  omega
theorem layOne_len (d : LayD) (h : d.ok) : (layOne d).length ≤ d.t.size + 10 := by
  obtain ⟨h1, h2, h3⟩ := h
  rw [u64_eq] at h1 h2
  unfold layOne
  split
  · simp
  · split
    · have := num_len d.n 10 (by omega) (by omega); omega
    · split
      · rw [bytesN_len]; omega
      · rw [List.length_append, Array.length_toList]
        have := num_len d.t.size 10 (by omega) (by omega)
        show (num d.t.size).length + d.t.size ≤ _
        omega
theorem layAll_len (ls : List LayD) (h : ∀ d ∈ ls, d.ok) : (layAll ls).length ≤ roomOf ls := by
  induction ls with
  | nil => simp [layAll, roomOf]
  | cons d ls ih =>
    have h1 := layOne_len d (h d (by simp))
    have h2 := ih (fun e he => h e (by simp [he]))
    unfold layAll at *
    simp only [List.flatMap_cons, List.length_append, roomOf]
    omega

def LaidRel (w : World) (p : Nat) (ls : List LayD) (i : Value) (wr : World) : Prop :=
  ∃ k v1, k ≤ ls.length ∧ i = .int .i64 ((k : Nat) : Int) ∧ Wr w.heap.size wr p v1 (layAll (ls.take k)) ∧ Kp No w wr

theorem layfin {w wr : World} {ls : List LayD} {k : Nat} {v1 : Value} {d : LayD} {add : List UInt8} (hwr : Wr w.heap.size wr w.heap.size v1 (layAll (ls.take k))) (hkp : Kp No w wr)
    (hsn : layAll (ls.take (k + 1)) = layAll (ls.take k) ++ layOne d) (hone : layOne d = add) (hlt : k < ls.length) (e : Ending) (w2 : World) (h : WrPost w.heap.size w.heap.size v1 (layAll (ls.take k) ++ add) wr e w2) :
    LaidRel w w.heap.size ls (.int .i64 ((k + 1 : Nat) : Int)) w2 := by
  obtain ⟨-, v2, h1, h2, h3⟩ := h
  refine ⟨k + 1, v2, hlt, rfl, by rw [hsn, hone]; exact h1, hkp.trans h2 ?_⟩
  rintro i hi (e | e)
  · omega
  · have := (hwr.owns.lt i e.symm).1; omega

end Go.Proofs.YtpfpnlhihnfahaaDoor.laid

namespace Go.Proofs.YtpfpnlhihnfahaaDoor.back
open Go.Proofs.YtpfpnlhihnfahaaDoor.sum Go.Proofs.YtpfpnlhihnfahaaDoor.kept Go.Proofs.YtpfpnlhihnfahaaDoor.writer Go.Proofs.YtpfpnlhihnfahaaDoor.seal Go.Proofs.YtpfpnlhihnfahaaDoor.number Go.Proofs.YtpfpnlhihnfahaaDoor.reader
set_option linter.unusedVariables false

theorem big_pow (i : Nat) : 128 ^ (i + 1) = 128 * 128 ^ i := by rw [Nat.pow_succ, Nat.mul_comm]

theorem dig_num (i m n : Nat) (r : List UInt8) (hi : i ≤ 9) (hn : n * 128 ^ i < U64) (h0 : 0 < i → 0 < n) : dig i m (num n ++ r) = (m + n * 128 ^ i, i + (num n).length, 0) := by
  induction n using Nat.strongRecOn generalizing i m with
  | ind n ih =>
    rw [u64_eq] at hn
    by_cases h : n < 128
    · rw [num_small h]
      have hd : n.toUInt8.toNat = n := by rw [u8_toNat]; omega
      show dig i m (n.toUInt8 :: r) = _
      rw [dig_end, hd]
      · simp only [List.length_singleton]
        rw [Nat.mod_eq_of_lt h]
      · rintro ⟨rfl, h2⟩
        rw [hd] at h2
        have e : 128 ^ 9 = 9223372036854775808 := by decide
        rw [e] at hn
        omega
      · rw [hd]; omega
      · rw [hd]
        rintro ⟨h2, h3⟩
        have := h0 h3
        omega
    · rw [num_big h]
      have hd : (n % 128 + 128).toUInt8.toNat = n % 128 + 128 := by rw [u8_toNat]; omega
      show dig i m ((n % 128 + 128).toUInt8 :: (num (n / 128) ++ r)) = _
      have hi8 : i ≤ 8 := by
        rcases Nat.lt_or_ge i 9 with h9 | h9
        · omega
        · obtain rfl : i = 9 := by omega
          have e : 128 ^ 9 = 9223372036854775808 := by decide
          rw [e] at hn
          omega
      have hsplit : n * 128 ^ i = n % 128 * 128 ^ i + n / 128 * (128 * 128 ^ i) := by
        conv => lhs; rw [← Nat.mod_add_div n 128]
        rw [Nat.add_mul, Nat.mul_comm 128 (n / 128), Nat.mul_assoc]
      have hlt : n / 128 * 128 ^ (i + 1) < U64 := by rw [big_pow, u64_eq]; omega
      rw [dig_on (by omega) (by rw [hd]; omega), hd, ih (n / 128) (by omega) (i + 1) _ (by omega) hlt (fun _ => by omega)]
      rw [big_pow, show (n % 128 + 128) % 128 = n % 128 by omega]
      simp only [List.length_cons, Prod.mk.injEq, and_true]
      exact ⟨by omega, by omega⟩

theorem num_pos (n : Nat) : 0 < (num n).length := by
  by_cases h : n < 128
  · rw [num_small h]; simp
  · rw [num_big h]; simp

variable {bs : List UInt8} {at_ : Nat}
theorem byte_ok {b : UInt8} {r : List UInt8} {most : Nat} (h : bs.drop at_ = b :: r) (hm : b.toNat ≤ most) : rByte bs at_ 0 most = (b.toNat, at_ + 1, 0) := by
  unfold rByte
  rw [h]
  simp; omega
theorem num_ok {n most : Nat} {r : List UInt8} (h : bs.drop at_ = num n ++ r) (hn : n < U64) (hm : n ≤ most) : rNum bs at_ 0 most = (n, at_ + (num n).length, 0) := by
  unfold rNum
  rw [h, dig_num 0 0 n r (by omega) (by simpa using hn) (by omega)]
  simp
  omega
theorem text_ok {t r : List UInt8} {most : Nat} (h : bs.drop at_ = num t.length ++ t ++ r) (ht : t.length < U64) (hm : t.length ≤ most) : rText bs at_ 0 most = (t, at_ + (num t.length ++ t).length, 0) := by
  rw [List.append_assoc] at h
  have hn := num_ok (most := most) h ht hm
  have hd : bs.drop (at_ + (num t.length).length) = t ++ r := by rw [← List.drop_drop, h, List.drop_left]
  unfold rText
  rw [hn]
  simp only
  rw [if_neg (by simp), hd, if_neg (by simp)]
  simp [Nat.add_assoc]

end Go.Proofs.YtpfpnlhihnfahaaDoor.back

namespace Go.Proofs.YtpfpnlhihnfahaaDoor.back
open Go.Proofs.YtpfpnlhihnfahaaDoor.sum Go.Proofs.YtpfpnlhihnfahaaDoor.kept Go.Proofs.YtpfpnlhihnfahaaDoor.writer Go.Proofs.YtpfpnlhihnfahaaDoor.seal Go.Proofs.YtpfpnlhihnfahaaDoor.number Go.Proofs.YtpfpnlhihnfahaaDoor.words Go.Proofs.YtpfpnlhihnfahaaDoor.laid Go.Proofs.YtpfpnlhihnfahaaDoor.reader

theorem dig_num_cut (i m n q : Nat) (hi : i ≤ 9) (hn : n * 128 ^ i < U64) (hq : q < (num n).length) : dig i m ((num n).take q) = (0, 0, 10) := by
  induction n using Nat.strongRecOn generalizing i m q with
  | ind n ih =>
    cases q with
    | zero => rfl
    | succ q =>
      by_cases h : n < 128
      · rw [num_small h] at hq; simp at hq
      · rw [num_big h] at hq ⊢
        rw [u64_eq] at hn
        have hd : (n % 128 + 128).toUInt8.toNat = n % 128 + 128 := by rw [u8_toNat]; omega
        have hi8 : i ≤ 8 := by
          rcases Nat.lt_or_ge i 9 with h9 | h9
          · omega
          · obtain rfl : i = 9 := by omega
            have e : 128 ^ 9 = 9223372036854775808 := by decide
            rw [e] at hn
            omega
        have hsplit : n * 128 ^ i = n % 128 * 128 ^ i + n / 128 * (128 * 128 ^ i) := by
          conv => lhs; rw [← Nat.mod_add_div n 128]
          rw [Nat.add_mul, Nat.mul_comm 128 (n / 128), Nat.mul_assoc]
        have hlt : n / 128 * 128 ^ (i + 1) < U64 := by rw [big_pow, u64_eq]; omega
        rw [List.take_succ_cons, dig_on (by omega) (by rw [hd]; omega)]
        exact ih (n / 128) (by omega) (i + 1) _ q (by omega) hlt (by simpa using hq)

theorem bytesN_get (j c k : Nat) (h : k < j) (r : List UInt8) : ((bytesN j c ++ r).getD k 0).toNat = c / 256 ^ k % 256 := by
  induction j generalizing c k with
  | zero => omega
  | succ j ih =>
    cases k with
    | zero => simp [bytesN, u8_toNat]
    | succ k =>
      have := ih (c / 256) k (by omega)
      rw [bytesN, List.cons_append, List.getD_cons_succ, this, Nat.div_div_eq_div_mul, Nat.pow_succ, Nat.mul_comm]

theorem leN_mod (c k j : Nat) (h : k ≤ j) (r : List UInt8) : leN (bytesN j c ++ r) k = c % 256 ^ k := by
  induction k with
  | zero => simp [leN, Nat.mod_one]
  | succ k ih =>
    rw [leN, ih (by omega), bytesN_get j c k (by omega), Nat.pow_succ, Nat.mod_mul, Nat.mul_comm]

theorem leN_bytes (c : Nat) (hc : c < U64) (r : List UInt8) : leN (bytesN 8 c ++ r) 8 = c := by
  rw [leN_mod c 8 8 (by omega), Nat.mod_eq_of_lt]
  have e : 256 ^ 8 = 18446744073709551616 := by decide
  rw [e]; exact hc

theorem canon_nan (x : Nat) : ¬ (nanB (canon x) = true ∧ canon x ≠ nanW) := by
  unfold canon
  split
  · simp
  · rename_i h; simp [h]
theorem canon_lt {x : Nat} (h : x < U64) : canon x < U64 := by
  unfold canon; split
  · decide
  · exact h

/-! ### one read, where all of it is there, and where it isn't -/
variable {bs : List UInt8} {at_ : Nat}

theorem byte_cut {most : Nat} (h : bs.drop at_ = []) : rByte bs at_ 0 most = (0, at_, 10) := by
  unfold rByte
  rw [h]
  simp
theorem num_cut {n q most : Nat} (h : bs.drop at_ = (num n).take q) (hn : n < U64) (hq : q < (num n).length) : rNum bs at_ 0 most = (0, at_, 10) := by
  unfold rNum
  rw [h, dig_num_cut 0 0 n q (by omega) (by simpa using hn) hq]
  simp
theorem float_ok {x : Nat} {r : List UInt8} (h : bs.drop at_ = bytesN 8 (canon x) ++ r) (hx : x < U64) : rFloat bs at_ 0 = (canon x, at_ + 8, 0) := by
  unfold rFloat
  rw [h, leN_bytes _ (canon_lt hx), if_neg (by simp), if_neg (by simp [bytesN_len]), if_neg (canon_nan x)]
theorem float_cut (h : (bs.drop at_).length < 8) : rFloat bs at_ 0 = (0, at_, 10) := by
  unfold rFloat
  rw [if_neg (by simp), if_pos h]
theorem text_cut {t : List UInt8} {q most : Nat} (h : bs.drop at_ = (num t.length ++ t).take q) (ht : t.length < U64) (hm : t.length ≤ most) (hq : q < (num t.length ++ t).length) : (rText bs at_ 0 most).2.2 = 10 := by
  by_cases hq1 : q < (num t.length).length
  · rw [List.take_append_of_le_length (by omega)] at h
    have hn := num_cut (most := most) h ht hq1
    unfold rText
    rw [hn]
    simp
  · have e : (num t.length ++ t).take q = num t.length ++ t.take (q - (num t.length).length) := by
      rw [List.take_append, List.take_of_length_le (by omega)]
    rw [e] at h
    have hn := num_ok (most := most) h ht hm
    have hd : bs.drop (at_ + (num t.length).length) = t.take (q - (num t.length).length) := by rw [← List.drop_drop, h, List.drop_left]
    unfold rText
    rw [hn]
    simp only
    rw [if_neg (by simp), hd, if_pos (by simp at hq ⊢; omega)]

end Go.Proofs.YtpfpnlhihnfahaaDoor.back

namespace Go.Proofs.YtpfpnlhihnfahaaDoor.onePlain
open Go.Proofs.YtpfpnlhihnfahaaDoor.sum Go.Proofs.YtpfpnlhihnfahaaDoor.kept Go.Proofs.YtpfpnlhihnfahaaDoor.writer Go.Proofs.YtpfpnlhihnfahaaDoor.seal Go.Proofs.YtpfpnlhihnfahaaDoor.number Go.Proofs.YtpfpnlhihnfahaaDoor.words Go.Proofs.YtpfpnlhihnfahaaDoor.laid Go.Proofs.YtpfpnlhihnfahaaDoor.reader Go.Proofs.YtpfpnlhihnfahaaDoor.back

theorem dig_inv : ∀ (l : List UInt8) (i m n s : Nat), dig i m l = (n, s, 0) → ∃ d r, n = m + d * 128 ^ i ∧ l = num d ++ r ∧ s = i + (num d).length ∧ (0 < i → 0 < d)
  | [], i, m, n, s, h => by rw [dig_nil] at h; simp at h
  | x :: l, i, m, n, s, h => by
    have hx : x.toNat < 256 := UInt8.toNat_lt _
    by_cases h1 : i = 9 ∧ 1 < x.toNat
    · rw [h1.1, dig_cut h1.2] at h; simp at h
    · by_cases h2 : 128 ≤ x.toNat
      · rw [dig_on h1 h2] at h
        obtain ⟨d, r, e1, e2, e3, e4⟩ := dig_inv l (i + 1) _ n s h
        have hd := e4 (by omega)
        have hbig : ¬ (128 * d + x.toNat % 128) < 128 := by omega
        have hq : (128 * d + x.toNat % 128) / 128 = d := by omega
        have hm : ((128 * d + x.toNat % 128) % 128 + 128).toUInt8 = x := by
          apply UInt8.toNat_inj.1
          rw [u8_toNat]
          omega
        refine ⟨128 * d + x.toNat % 128, r, ?_, ?_, ?_, fun _ => by omega⟩
        · rw [e1, big_pow, Nat.add_mul, Nat.mul_comm 128 d, Nat.mul_assoc]
          generalize d * (128 * 128 ^ i) = A
          generalize x.toNat % 128 * 128 ^ i = B
          omega
        · rw [num_big hbig, hq, hm, e2]; rfl
        · rw [e3, num_big hbig, hq]; simp; omega
      · by_cases h3 : x.toNat = 0 ∧ 0 < i
        · rw [dig_zero h3.1 h3.2] at h; simp at h
        · rw [dig_end h1 h2 h3] at h
          simp only [Prod.mk.injEq, and_true] at h
          obtain ⟨e1, e2⟩ := h
          have hm : x.toNat % 128 = x.toNat := by omega
          refine ⟨x.toNat, l, by rw [← e1, hm], ?_, ?_, fun _ => by omega⟩
          · rw [num_small (by omega)]
            have : x.toNat.toUInt8 = x := by apply UInt8.toNat_inj.1; rw [u8_toNat]; omega
            rw [this]; rfl
          · rw [num_small (by omega)]; exact e2.symm

variable {bs : List UInt8} {at_ bad : Nat}

theorem byte_inv {x at' most : Nat} (h : rByte bs at_ bad most = (x, at', 0)) : bad = 0 ∧ bs.drop at_ = [x.toUInt8] ++ bs.drop at' := by
  unfold rByte at h
  split at h
  · rename_i h1; simp at h; exact absurd h.2.2 h1
  · rename_i h1
    split at h
    · simp at h
    · rename_i h2
      split at h
      · simp at h
      · simp only [Prod.mk.injEq, and_true] at h
        obtain ⟨e1, e2⟩ := h
        refine ⟨by omega, ?_⟩
        obtain ⟨y, r, hy⟩ := List.exists_cons_of_ne_nil h2
        have hr : bs.drop at' = r := by rw [← e2, ← List.drop_drop, hy]; rfl
        rw [hr, hy, ← e1, hy]
        have : (List.getD (y :: r) 0 0).toNat.toUInt8 = y := by apply UInt8.toNat_inj.1; rw [u8_toNat]; have := UInt8.toNat_lt y; simp
        rw [this]; rfl

theorem num_inv {n at' most : Nat} (h : rNum bs at_ bad most = (n, at', 0)) : bad = 0 ∧ n ≤ most ∧ bs.drop at_ = num n ++ bs.drop at' := by
  unfold rNum at h
  split at h
  · rename_i h1; simp at h; exact absurd h.2.2 h1
  · rename_i h1
    split at h
    · rename_i h2; simp at h; exact absurd h.2.2 h2
    · rename_i h2
      split at h
      · simp at h
      · rename_i h3
        simp only [Prod.mk.injEq, and_true] at h
        obtain ⟨e1, e2⟩ := h
        obtain ⟨d, r, f1, f2, f3, -⟩ := dig_inv (bs.drop at_) 0 0 (dig 0 0 (bs.drop at_)).1 (dig 0 0 (bs.drop at_)).2.1 (Prod.ext rfl (Prod.ext rfl (by show (dig 0 0 (bs.drop at_)).2.2 = 0; omega)))
        have hd : d = n := by rw [← e1, f1]; simp
        subst hd
        refine ⟨by omega, by omega, ?_⟩
        have hr : bs.drop at' = r := by
          rw [← e2, ← List.drop_drop, f3, Nat.zero_add]
          conv => lhs; rw [f2]
          rw [List.drop_left]
        rw [hr, ← f2]

theorem bytesN_le : ∀ (k : Nat) (l : List UInt8), k ≤ l.length → bytesN k (leN l k) = l.take k := by
  have key : ∀ (k : Nat) (l : List UInt8) (c : Nat), k ≤ l.length → bytesN k (leN l k + c * 256 ^ k) = l.take k := by
    intro k
    induction k with
    | zero => intro l c _; simp [bytesN]
    | succ k ih =>
      intro l c hk
      match l, hk with
      | x :: l, hk =>
        have hl : ∀ j, leN (x :: l) (j + 1) = x.toNat + 256 * leN l j := by
          intro j
          induction j with
          | zero => simp [leN]
          | succ j ihj =>
            rw [leN, ihj, leN]
            simp only [List.getD_cons_succ]
            rw [Nat.mul_add, Nat.pow_succ, Nat.mul_comm (256 ^ j) 256, Nat.mul_left_comm]
            omega
        have hx : x.toNat < 256 := UInt8.toNat_lt _
        rw [hl, bytesN, List.take_succ_cons]
        have e : x.toNat + 256 * leN l k + c * 256 ^ (k + 1) = x.toNat + 256 * (leN l k + c * 256 ^ k) := by
          rw [Nat.mul_add, Nat.pow_succ, Nat.mul_comm (256 ^ k) 256, Nat.mul_left_comm]; omega
        rw [e]
        have e2 : (x.toNat + 256 * (leN l k + c * 256 ^ k)) / 256 = leN l k + c * 256 ^ k := by omega
        rw [e2, ih l c (by simpa using hk)]
        congr 1
        apply UInt8.toNat_inj.1
        rw [u8_toNat]
        omega
  intro k l h
  have := key k l 0 h
  simpa using this

theorem float_inv {x at' : Nat} (h : rFloat bs at_ bad = (x, at', 0)) : bad = 0 ∧ bs.drop at_ = bytesN 8 (canon x) ++ bs.drop at' := by
  unfold rFloat at h
  split at h
  · rename_i h1; simp at h; exact absurd h.2.2 h1
  · rename_i h1
    split at h
    · simp at h
    · rename_i h2
      split at h
      · simp at h
      · rename_i h3
        simp only [Prod.mk.injEq, and_true] at h
        obtain ⟨e1, e2⟩ := h
        refine ⟨by omega, ?_⟩
        have hc : canon x = leN (bs.drop at_) 8 := by
          rw [← e1]
          unfold canon
          split
          · rename_i h4
            have h5 : leN (bs.drop at_) 8 = nanW := Decidable.byContradiction fun h5 => h3 ⟨h4, h5⟩
            exact h5.symm
          · rfl
        rw [hc, bytesN_le 8 _ (by omega), ← e2, ← List.drop_drop, List.take_append_drop]

theorem text_inv {t : List UInt8} {at' most : Nat} (h : rText bs at_ bad most = (t, at', 0)) : bad = 0 ∧ bs.drop at_ = num t.length ++ t ++ bs.drop at' := by
  unfold rText at h
  split at h
  · rename_i h1; simp at h; exact absurd h.2.2 h1
  · rename_i h1
    obtain ⟨⟨n, a1, b1⟩, hr⟩ : ∃ r, rNum bs at_ bad most = r := ⟨_, rfl⟩
    rw [hr] at h h1
    simp only at h h1
    have hb : b1 = 0 := by omega
    subst hb
    obtain ⟨f1, f2, f3⟩ := num_inv hr
    split at h
    · simp at h
    · rename_i h2
      simp only [Prod.mk.injEq, and_true] at h
      obtain ⟨e1, e2⟩ := h
      have hl : t.length = n := by rw [← e1, List.length_take]; omega
      refine ⟨f1, ?_⟩
      rw [hl, List.append_assoc, f3, ← e2, ← List.drop_drop, ← e1, List.take_append_drop]

/-- one thing read, as what would be laid -/
def rdOne (bs : List UInt8) (at_ bad : Nat) (wh : Int) : LayD × Nat × Nat :=
  if wh = 0 then (⟨wh, (rByte bs at_ bad 255).1.toUInt8, 0, 0, ⟨#[]⟩⟩, (rByte bs at_ bad 255).2.1, (rByte bs at_ bad 255).2.2)
  else if wh = 1 then (⟨wh, 0, (rNum bs at_ bad 18446744073709551615).1, 0, ⟨#[]⟩⟩, (rNum bs at_ bad 18446744073709551615).2.1, (rNum bs at_ bad 18446744073709551615).2.2)
  else if wh = 3 then (⟨wh, 0, 0, (rFloat bs at_ bad).1, ⟨#[]⟩⟩, (rFloat bs at_ bad).2.1, (rFloat bs at_ bad).2.2)
  else (⟨wh, 0, 0, 0, ⟨(rText bs at_ bad bs.length).1.toArray⟩⟩, (rText bs at_ bad bs.length).2.1, (rText bs at_ bad bs.length).2.2)

def St (bs : List UInt8) (ws : List Int) : Nat → List LayD × Nat × Nat
  | 0 => ([], 0, 0)
  | k + 1 => ((St bs ws k).1 ++ [(rdOne bs (St bs ws k).2.1 (St bs ws k).2.2 (ws.getD k 0 % 4)).1], (rdOne bs (St bs ws k).2.1 (St bs ws k).2.2 (ws.getD k 0 % 4)).2.1, (rdOne bs (St bs ws k).2.1 (St bs ws k).2.2 (ws.getD k 0 % 4)).2.2)

theorem St_len (bs : List UInt8) (ws : List Int) (k : Nat) : (St bs ws k).1.length = k := by
  induction k with
  | zero => rfl
  | succ k ih => simp [St, ih]

theorem one_inv {wh : Int} (hw : wh % 4 = wh) (h : (rdOne bs at_ bad wh).2.2 = 0) : bad = 0 ∧ bs.drop at_ = layOne (rdOne bs at_ bad wh).1 ++ bs.drop (rdOne bs at_ bad wh).2.1 := by
  unfold rdOne at h ⊢
  split
  · rename_i h1
    rw [if_pos h1] at h
    obtain ⟨e1, e2⟩ := byte_inv (bs := bs) (at_ := at_) (bad := bad) (most := 255) (x := (rByte bs at_ bad 255).1) (at' := (rByte bs at_ bad 255).2.1) (by rw [← h])
    refine ⟨e1, ?_⟩
    have : layOne ⟨wh, (rByte bs at_ bad 255).1.toUInt8, 0, 0, ⟨#[]⟩⟩ = [(rByte bs at_ bad 255).1.toUInt8] := by unfold layOne; simp only [h1]; rfl
    rw [this]; exact e2
  · rename_i h1
    rw [if_neg h1] at h
    split
    · rename_i h2
      rw [if_pos h2] at h
      obtain ⟨e1, e2, e3⟩ := num_inv (bs := bs) (at_ := at_) (bad := bad) (most := 18446744073709551615) (n := (rNum bs at_ bad 18446744073709551615).1) (at' := (rNum bs at_ bad 18446744073709551615).2.1) (by rw [← h])
      refine ⟨e1, ?_⟩
      have : ∀ n : Nat, layOne ⟨wh, 0, n, 0, ⟨#[]⟩⟩ = num n := by intro n; unfold layOne; simp only [h2]; rfl
      rw [this]; exact e3
    · rename_i h2
      rw [if_neg h2] at h
      split
      · rename_i h3
        rw [if_pos h3] at h
        obtain ⟨e1, e3⟩ := float_inv (bs := bs) (at_ := at_) (bad := bad) (x := (rFloat bs at_ bad).1) (at' := (rFloat bs at_ bad).2.1) (by rw [← h])
        refine ⟨e1, ?_⟩
        have : ∀ n : Nat, layOne ⟨wh, 0, 0, n, ⟨#[]⟩⟩ = bytesN 8 (canon n) := by intro n; unfold layOne; simp only [h3]; rfl
        rw [this]; exact e3
      · rename_i h3
        rw [if_neg h3] at h
        obtain ⟨e1, e3⟩ := text_inv (bs := bs) (at_ := at_) (bad := bad) (most := bs.length) (t := (rText bs at_ bad bs.length).1) (at' := (rText bs at_ bad bs.length).2.1) (by rw [← h])
        refine ⟨e1, ?_⟩
        have : ∀ t : List UInt8, layOne ⟨wh, 0, 0, 0, ⟨t.toArray⟩⟩ = num t.length ++ t := by
          intro t
          unfold layOne
          simp only
          rw [if_neg (by omega), if_neg (by omega), if_neg (by omega)]
          rfl
        rw [this]; exact e3

theorem st_inv (bs : List UInt8) (ws : List Int) (k : Nat) (h : (St bs ws k).2.2 = 0) : bs = layAll (St bs ws k).1 ++ bs.drop (St bs ws k).2.1 := by
  induction k with
  | zero => simp [St, layAll]
  | succ k ih =>
    have hmod : (ws.getD k 0 % 4) % 4 = ws.getD k 0 % 4 := by omega
    obtain ⟨e1, e2⟩ := one_inv hmod (show (rdOne bs (St bs ws k).2.1 (St bs ws k).2.2 (ws.getD k 0 % 4)).2.2 = 0 from h)
    have e3 := ih e1
    rw [e2] at e3
    have : (St bs ws (k + 1)).1 = (St bs ws k).1 ++ [(rdOne bs (St bs ws k).2.1 (St bs ws k).2.2 (ws.getD k 0 % 4)).1] := rfl
    rw [this]
    have e4 : layAll ((St bs ws k).1 ++ [(rdOne bs (St bs ws k).2.1 (St bs ws k).2.2 (ws.getD k 0 % 4)).1]) = layAll (St bs ws k).1 ++ layOne (rdOne bs (St bs ws k).2.1 (St bs ws k).2.2 (ws.getD k 0 % 4)).1 := by
      unfold layAll; simp [List.flatMap_append]
    rw [e4, List.append_assoc]
    exact e3

/-! ### what is read is such as may be laid -/
theorem dig_le : ∀ (l : List UInt8) (i m : Nat), i ≤ 9 → m < 128 ^ i → (dig i m l).1 < 18446744073709551616
  | [], i, m, _, _ => by rw [dig_nil]; omega
  | x :: l, i, m, hi, hm => by
    by_cases h1 : i = 9 ∧ 1 < x.toNat
    · rw [h1.1, dig_cut h1.2]; simp
    · have hd : x.toNat % 128 < 128 := by omega
      by_cases h2 : 128 ≤ x.toNat
      · have h9 : i ≠ 9 := fun e => h1 ⟨e, by omega⟩
        rw [dig_on h1 h2]
        exact dig_le l (i + 1) _ (by omega) (dig_next hm hd)
      · by_cases h3 : x.toNat = 0 ∧ 0 < i
        · rw [dig_zero h3.1 h3.2]; simp
        · rw [dig_end h1 h2 h3]
          simp only
          by_cases h9 : i = 9
          · subst h9
            have e : 128 ^ 9 = 9223372036854775808 := by decide
            rw [e] at hm ⊢
            have : x.toNat % 128 ≤ 1 := by omega
            have := Nat.mul_le_mul_right 9223372036854775808 this
            omega
          · have := dig_next hm hd
            have h10 := pow_le9 (i := i + 1) (by omega)
            omega

theorem rNum_lt (most : Nat) : (rNum bs at_ bad most).1 < U64 := by
  rw [u64_eq]
  have := dig_le (bs.drop at_) 0 0 (by omega) (by simp)
  unfold rNum
  split
  · simp
  · split
    · simp
    · split
      · simp
      · exact this
theorem rFloat_lt : (rFloat bs at_ bad).1 < U64 := by
  rw [u64_eq]
  have := leN_lt (bs.drop at_) 8
  have e : 256 ^ 8 = 18446744073709551616 := by decide
  rw [e] at this
  unfold rFloat
  split
  · simp
  · split
    · simp
    · split
      · simp
      · exact this
theorem rText_len (most : Nat) : (rText bs at_ bad most).1.length ≤ bs.length := by
  unfold rText
  split
  · simp
  · split
    · simp
    · simp only [List.length_take, List.length_drop]; omega
theorem rByte_lt : (rByte bs at_ bad 255).1 < 256 := by
  have h : ∀ x : UInt8, x.toNat < 256 := fun x => UInt8.toNat_lt x
  unfold rByte
  split
  · simp
  · split
    · simp
    · split
      · simp
      · exact h _

theorem one_ok (wh : Int) (hl : bs.length < 140737488355328) : (rdOne bs at_ bad wh).1.ok ∧ (rdOne bs at_ bad wh).1.t.size ≤ bs.length := by
  have u0 : (0 : Nat) < U64 := by rw [u64_eq]; omega
  unfold rdOne
  split
  · exact ⟨⟨u0, u0, by show (0 : Nat) < _; omega⟩, Nat.zero_le _⟩
  · split
    · exact ⟨⟨rNum_lt _, u0, by show (0 : Nat) < _; omega⟩, Nat.zero_le _⟩
    · split
      · exact ⟨⟨u0, rFloat_lt, by show (0 : Nat) < _; omega⟩, Nat.zero_le _⟩
      · have := rText_len (bs := bs) (at_ := at_) (bad := bad) bs.length
        have e : (⟨(rText bs at_ bad bs.length).1.toArray⟩ : ByteArray).size = (rText bs at_ bad bs.length).1.length := by simp [ByteArray.size]
        exact ⟨⟨u0, u0, by show ByteArray.size _ < _; rw [e]; omega⟩, by show ByteArray.size _ ≤ _; rw [e]; exact this⟩

theorem st_ok (ws : List Int) (hl : bs.length < 140737488355328) (k : Nat) : (∀ d ∈ (St bs ws k).1, d.ok) ∧ roomOf (St bs ws k).1 ≤ k * (bs.length + 10) := by
  induction k with
  | zero => exact ⟨fun d hd => by simp [St] at hd, by simp [St, roomOf]⟩
  | succ k ih =>
    have h1 := one_ok (bs := bs) (at_ := (St bs ws k).2.1) (bad := (St bs ws k).2.2) (ws.getD k 0 % 4) hl
    have e : (St bs ws (k + 1)).1 = (St bs ws k).1 ++ [(rdOne bs (St bs ws k).2.1 (St bs ws k).2.2 (ws.getD k 0 % 4)).1] := rfl
    rw [e]
    refine ⟨fun d hd => ?_, ?_⟩
    · rcases List.mem_append.1 hd with hd | hd
      · exact ih.1 d hd
      · simp only [List.mem_singleton] at hd; subst hd; exact h1.1
    · rw [roomOf_append]
      simp only [roomOf]
      rw [Nat.add_mul]
      have := ih.2
      omega

end Go.Proofs.YtpfpnlhihnfahaaDoor.onePlain

namespace Go.Proofs.YtpfpnlhihnfahaaDoor.spl
open Go.RowKit Go.Proofs.YtpfpnlhihnfahaaDoor.sum Go.Proofs.YtpfpnlhihnfahaaDoor.kept Go.Proofs.YtpfpnlhihnfahaaDoor.writer Go.Proofs.YtpfpnlhihnfahaaDoor.reader Go.Proofs.YtpfpnlhihnfahaaDoor.onePlain
set_option linter.unusedVariables false

/-- what the three reads come to, and where they leave the Reader -/
def readS (m : Nat) (bs : List UInt8) (at_ bad : Nat) : SpS × Nat × Nat :=
  (if (rText bs (rByte bs (rText bs at_ bad m).2.1 (rText bs at_ bad m).2.2 3).2.1 (rByte bs (rText bs at_ bad m).2.1 (rText bs at_ bad m).2.2 3).2.2 2048).2.2 = 0 then
    ⟨(rText bs at_ bad m).1, decide ((rByte bs (rText bs at_ bad m).2.1 (rText bs at_ bad m).2.2 3).1 % 2 = 1), decide ((rByte bs (rText bs at_ bad m).2.1 (rText bs at_ bad m).2.2 3).1 / 2 = 1), (rText bs (rByte bs (rText bs at_ bad m).2.1 (rText bs at_ bad m).2.2 3).2.1 (rByte bs (rText bs at_ bad m).2.1 (rText bs at_ bad m).2.2 3).2.2 2048).1⟩ else zeroS,
   (rText bs (rByte bs (rText bs at_ bad m).2.1 (rText bs at_ bad m).2.2 3).2.1 (rByte bs (rText bs at_ bad m).2.1 (rText bs at_ bad m).2.2 3).2.2 2048).2)
/-- does an empty text stand next? -/
def emptS (bs : List UInt8) (at_ bad : Nat) : Bool :=
  decide (rEnd bs (rByte bs at_ bad 0).2.1 (rByte bs at_ bad 0).2.2 = 0 ∨ rEnd bs (rByte bs at_ bad 0).2.1 (rByte bs at_ bad 0).2.2 = 11)

theorem text_bad {bs : List UInt8} {at_ bad m : Nat} (h : (rText bs at_ bad m).2.2 ≠ 0) : (rText bs at_ bad m).1 = [] := by
  unfold rText at h ⊢
  split
  · rfl
  · split
    · rfl
    · rename_i h1 h2
      rw [if_neg h1, if_neg h2] at h
      exact absurd rfl h
theorem text_keeps {bs : List UInt8} {at_ bad m : Nat} (h : bad ≠ 0) : rText bs at_ bad m = ([], at_, bad) := by
  have e : rNum bs at_ bad m = (0, at_, bad) := if_pos h
  unfold rText
  rw [e]
  exact if_pos h
theorem byte_keeps {bs : List UInt8} {at_ bad m : Nat} (h : bad ≠ 0) : rByte bs at_ bad m = (0, at_, bad) := if_pos h
theorem byte_bad {bs : List UInt8} {at_ m : Nat} (h : (rByte bs at_ 0 m).2.2 ≠ 0) : (rByte bs at_ 0 m).2.2 = 10 ∨ (rByte bs at_ 0 m).2.2 = 12 := by
  unfold rByte at h ⊢
  rw [if_neg (by simp)] at h ⊢
  split
  · exact .inl rfl
  · split
    · exact .inr rfl
    · rename_i h1 h2
      rw [if_neg h1, if_neg h2] at h
      exact absurd rfl h
theorem num_zero : num 0 = [0] := by rw [num]; rfl
/-- an empty text was read: a byte 0 stood there -/
theorem empt_of {bs : List UInt8} {at_ bad m at' : Nat} (h : rText bs at_ bad m = ([], at', 0)) : emptS bs at_ bad = true := by
  obtain ⟨rfl, hd⟩ := text_inv h
  have hd2 : bs.drop at_ = 0 :: bs.drop at' := by rw [hd]; simp [num_zero]
  have e : rByte bs at_ 0 0 = (0, at_ + 1, 0) := by
    unfold rByte
    rw [hd2]
    rfl
  unfold emptS
  rw [e]
  unfold rEnd
  rw [decide_eq_true_eq]
  split
  · exact .inr rfl
  · exact .inl rfl
/-- what the project asks beside it comes to the same -/
theorem read_is {bs : List UInt8} {at_ bad m a1 b1 k a2 b2 a3 b3 : Nat} {x y : List UInt8} (h1 : rText bs at_ bad m = (x, a1, b1)) (h2 : rByte bs a1 b1 3 = (k, a2, b2)) (h3 : rText bs a2 b2 2048 = (y, a3, b3)) :
    readS m bs at_ bad = ((if y = [] ∧ emptS bs a2 b2 = false then zeroS else ⟨x, decide (k % 2 = 1), decide (k / 2 = 1), y⟩), a3, b3) := by
  unfold readS
  simp only [h1, h2, h3]
  congr 1
  by_cases hb3 : b3 = 0
  · subst hb3
    rw [if_pos rfl]
    by_cases hy : y = []
    · subst hy
      rw [if_neg (by rw [empt_of h3]; simp)]
    · rw [if_neg (fun h => hy h.1)]
  · rw [if_neg hb3]
    have hy : y = [] := by have := text_bad (bs := bs) (at_ := a2) (bad := b2) (m := 2048) (by rw [h3]; exact hb3); rw [h3] at this; exact this
    cases he : emptS bs a2 b2 with
    | false => rw [if_pos ⟨hy, rfl⟩]
    | true =>
      rw [if_neg (by simp)]
      unfold emptS at he
      rw [decide_eq_true_eq] at he
      by_cases hb2 : b2 = 0
      · subst hb2
        exfalso
        by_cases hc : (rByte bs a2 0 0).2.2 = 0
        · -- a byte 0 stands there: then the text is empty, and nothing is wrong
          have hd : bs.drop a2 ≠ [] ∧ ((bs.drop a2).getD 0 0).toNat = 0 := by
            unfold rByte at hc
            rw [if_neg (by simp)] at hc
            split at hc
            · cases hc
            · split at hc
              · cases hc
              · rename_i g1 g2
                exact ⟨g1, by omega⟩
          obtain ⟨hd1, hd2⟩ := hd
          cases hq : bs.drop a2 with
          | nil => exact hd1 hq
          | cons z q =>
            rw [hq] at hd2
            have hz : z = 0 := UInt8.toNat_inj.1 hd2
            have e1 : rNum bs a2 0 2048 = (0, a2 + 1, 0) := by
              unfold rNum
              rw [hq, hz]
              rfl
            have e2 : (rText bs a2 0 2048).2.2 = 0 := by
              unfold rText
              rw [e1]
              simp
            rw [h3] at e2
            exact hb3 e2
        · rcases byte_bad hc with e | e
          · rw [e] at he
            unfold rEnd at he
            simp at he
          · rw [e] at he
            unfold rEnd at he
            simp at he
      · rw [byte_keeps hb2] at he
        have e0 : rEnd bs a2 b2 = b2 := if_neg (fun h => hb2 h.1)
        simp only [e0] at he
        have hb11 : b2 = 11 := by omega
        -- it came of the first Text
        have hb1 : b1 ≠ 0 := by
          intro e
          subst e
          have := byte_bad (bs := bs) (at_ := a1) (m := 3) (by rw [h2]; exact hb2)
          rw [h2] at this
          simp only at this
          omega
        have hx : x = [] := by have := text_bad (bs := bs) (at_ := at_) (bad := bad) (m := m) (by rw [h1]; exact hb1); rw [h1] at this; exact this
        rw [byte_keeps hb1] at h2
        have hk : k = 0 := (congrArg Prod.fst h2).symm
        rw [hx, hy, hk]
        rfl

end Go.Proofs.YtpfpnlhihnfahaaDoor.spl
