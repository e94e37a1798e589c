/- Text of package pack's Reader. Floats as eight bytes: package pack's Writer.Float, the reference's Float. Float of package pack's Reader. One byte turned turns the sum; what the last six bytes say. Plain whole numbers. PackTurned: the law's walk. What the statements lay: 'laid'. What the reference lays: a number, a text. A slice of slices of bytes: as it is read, as it is owned; one more of them. -/
import Derived.Test.YtpfpnlhihnfahaaDoorSealM
import Derived.Test.YtpfpnlhihnfahaaDoorRefNextM
import Derived.Deep.RegionWith
import Derived.StillTailTactics
import Derived.RegionCalls
import Derived.Test.YtpfpnlhihnfahaaDoorBaseM
import Derived.Deep.AppendLies
import Derived.Deep.RegionHeld3

namespace Go.Proofs.YtpfpnlhihnfahaaDoor.reader
open Go.RowKit Go.Proofs.YtpfpnlhihnfahaaDoor.sum Go.Proofs.YtpfpnlhihnfahaaDoor.kept Go.Proofs.YtpfpnlhihnfahaaDoor.app Go.Proofs.YtpfpnlhihnfahaaDoor.writer Go.Proofs.YtpfpnlhihnfahaaDoor.clone Go.Proofs.YtpfpnlhihnfahaaDoor.known Go.Proofs.YtpfpnlhihnfahaaDoor.unseal Go.Proofs.YtpfpnlhihnfahaaDoor.number
set_option linter.unusedVariables false

def rText (bs : List UInt8) (at_ bad most : Nat) : List UInt8 × Nat × Nat :=
  if (rNum bs at_ bad most).2.2 ≠ 0 then ([], (rNum bs at_ bad most).2.1, (rNum bs at_ bad most).2.2)
  else if (bs.drop (rNum bs at_ bad most).2.1).length < (rNum bs at_ bad most).1 then ([], at_, 10)
  else ((bs.drop (rNum bs at_ bad most).2.1).take (rNum bs at_ bad most).1, (rNum bs at_ bad most).2.1 + (rNum bs at_ bad most).1, 0)

theorem rNum_at (bs : List UInt8) (at_ bad most : Nat) (h : (rNum bs at_ bad most).2.2 ≠ 0) : (rNum bs at_ bad most).2.1 = at_ := by
  unfold rNum at h ⊢
  split
  · rfl
  · rename_i h1
    rw [if_neg h1] at h
    split
    · rfl
    · rename_i h2
      rw [if_neg h2] at h
      split
      · rfl
      · rename_i h3
        rw [if_neg h3] at h
        simp at h

set_option maxRecDepth 100000 in
set_option maxHeartbeats 2000000 in
theorem text_pos (w : World) (p : Nat) (v : Value) (bs : List UInt8) (at_ bad : Nat) (most : Nat) (hm64 : most < 9223372036854775808) (h : Rd w p v bs at_ bad) :
    Calls Tryd.prog 40 #[.pointer (some ⟨p, 0, none⟩), .int .i64 (most : Int)] w (RdPost w p v bs (.string ⟨(rText bs at_ bad most).1.toArray⟩) (rText bs at_ bad most).2.1 (rText bs at_ bad most).2.2) := by
  have c1 := h.c1
  have hle := h.le
  have hshort := h.short
  have H := Hid_mk h
  have HWr := Hid_mk (wrap_u64 (most : Int) (by omega) (by omega))
  clear hm64
  clear h
  go_enter Tryd.func40, Tryd.ntmps40
  go_wp2_with fail
  rw [HWr.out]; refine (num_any w p v bs at_ bad most H.out).mono ?_
  rintro e w1 ⟨rfl, hR1, hK1⟩
  have HR1 := Hid_mk hR1
  have HK1 := Hid_mk hK1
  have hra := rNum_at bs at_ bad most
  clear hR1 hK1 c1
  generalize hD : rNum bs at_ bad most = D at *
  have HD := Hid_mk hD
  clear hD
  obtain ⟨n, a1, b1⟩ := D
  have c2 := HR1.out.c2
  by_cases hb1 : b1 = 0
  · subst hb1
    go_wp2_with fail
    refine (left_any w1 p v bs a1 0 HR1.out).mono ?_
    rintro e w2 ⟨L, nd, rfl, hL, hLp, hw2⟩
    have hR2 := HR1.out.drewN nd
    rw [← hw2] at hR2
    have hK2 : Kp (fun k => k = p) w w2 := by rw [hw2]; exact HK1.out.drewN nd
    have HR2 := Hid_mk hR2
    have HK2 := Hid_mk hK2
    have c1' := hR2.c1
    have c2' := hR2.c2
    have f1 := hR2.warm 1
    have f2 := hR2.warm 2
    have hle2 : a1 ≤ bs.length := hR2.le
    have HL := Hid_mk hL
    obtain ⟨a, cap, rfl, hl, hm, hc⟩ := hL
    have hlen : (bs.drop a1).length = bs.length - a1 := List.length_drop
    have HLen := Hid_mk hlen
    rw [hlen] at hl HL ⊢
    unfold maxLen at hm
    have i1 : IntKind.u64.wrap ((bs.length - a1 : Nat) : Int) = ((bs.length - a1 : Nat) : Int) := wrap_u64 _ (by omega) (by omega)
    clear hw2 hR2 hK2 c2 hra hlen
    by_cases hgt : bs.length - a1 < n
    · have hr : rText bs at_ bad most = ([], at_, 10) := by
        unfold rText
        rw [HD.out, if_neg (by simp)]
        simp only
        rw [if_pos (by rw [HLen.out]; exact hgt)]
      have HRes := Hid_mk hr
      have hgi : ((bs.length - a1 : Nat) : Int) < (n : Int) := by omega
      generalize bs.length - a1 = len at *
      clear hr hl hm hc hLp
      go_wp2
      go_ret
      rw [HRes.out]
      exact ⟨rfl, (HR2.out.set_bad 10).set_at at_ hle, (HK2.out.trans' (kp_set _ _ _ _)).trans' (kp_set _ _ _ _)⟩
    · have hr : rText bs at_ bad most = ((bs.drop a1).take n, a1 + n, 0) := by
        unfold rText
        rw [HD.out, if_neg (by simp)]
        simp only
        rw [if_neg (by rw [HLen.out]; exact hgt)]
      have HRes := Hid_mk hr
      have hgi : decide (((bs.length - a1 : Nat) : Int) < (n : Int)) = false := decide_eq_false (by omega)
      have ha1 : a1 + n ≤ bs.length := by omega
      have HA := Hid_mk ha1
      have i2 : IntKind.i64.wrap (n : Int) = (n : Int) := IntWalk.i64_in _ (by omega)
      have hT := bs_take HL.out n (by omega)
      have hsh : ∀ b o, a = some ⟨b, o, none⟩ → b ≠ p := fun b o e => hLp b o _ cap (by rw [e])
      have hT2 : Bs (w2.setCell ⟨p, 1, none⟩ (.int .i64 ((a1 : Int) + n))) (.slice a n cap) ((bs.drop a1).take n) := bs_kept hT (kp_set w2 p 1 _) fun b o n' c' e => by simp only [Value.slice.injEq] at e; exact hsh b o e.1
      have hconv := conv_bs hT2
      have i3 : (n : Int) ≤ (cap : Int) := by omega
      have hai : a1 + n ≤ 140737488355328 := by omega
      have HAt := Hid_mk (HR2.out.set_at (a1 + n) ha1)
      generalize bs.length - a1 = len at *
      clear hr hl hm hT hT2 hc hsh hLp ha1
      go_wp2
      go_ret
      rw [HRes.out]
      exact ⟨rfl, HAt.out, HK2.out.trans' (kp_set _ _ _ _)⟩
  · have ha : a1 = at_ := hra hb1
    subst ha
    have hr : rText bs a1 bad most = ([], a1, b1) := by
      unfold rText
      rw [HD.out, if_pos hb1]
    have HRes := Hid_mk hr
    have hwz : ((b1 : Int) == 0) = false := by simp; omega
    have hwz2 : ((b1 : Int) != 0) = true := by simp; omega
    clear hr hra hb1
    go_wp2
    go_ret
    rw [HRes.out]
    exact ⟨rfl, HR1.out, HK1.out⟩

set_option maxRecDepth 100000 in
set_option maxHeartbeats 2000000 in
theorem text_neg (w : World) (p : Nat) (v : Value) (bs : List UInt8) (at_ bad : Nat) (mi : Int) (hmi : mi < 0) (h : Rd w p v bs at_ bad) :
    Calls Tryd.prog 40 #[.pointer (some ⟨p, 0, none⟩), .int .i64 mi] w (RdPost w p v bs (.string ⟨(rText bs at_ bad 0).1.toArray⟩) (rText bs at_ bad 0).2.1 (rText bs at_ bad 0).2.2) := by
  have c1 := h.c1
  have hle := h.le
  have hshort := h.short
  have H := Hid_mk h
  clear h
  go_enter Tryd.func40, Tryd.ntmps40
  go_wp2_with fail
  refine (num_any w p v bs at_ bad 0 H.out).mono ?_
  rintro e w1 ⟨rfl, hR1, hK1⟩
  have HR1 := Hid_mk hR1
  have HK1 := Hid_mk hK1
  have hra := rNum_at bs at_ bad 0
  clear hR1 hK1 c1
  generalize hD : rNum bs at_ bad 0 = D at *
  have HD := Hid_mk hD
  clear hD
  obtain ⟨n, a1, b1⟩ := D
  have c2 := HR1.out.c2
  by_cases hb1 : b1 = 0
  · subst hb1
    go_wp2_with fail
    refine (left_any w1 p v bs a1 0 HR1.out).mono ?_
    rintro e w2 ⟨L, nd, rfl, hL, hLp, hw2⟩
    have hR2 := HR1.out.drewN nd
    rw [← hw2] at hR2
    have hK2 : Kp (fun k => k = p) w w2 := by rw [hw2]; exact HK1.out.drewN nd
    have HR2 := Hid_mk hR2
    have HK2 := Hid_mk hK2
    have c1' := hR2.c1
    have c2' := hR2.c2
    have f1 := hR2.warm 1
    have f2 := hR2.warm 2
    have hle2 : a1 ≤ bs.length := hR2.le
    have HL := Hid_mk hL
    obtain ⟨a, cap, rfl, hl, hm, hc⟩ := hL
    have hlen : (bs.drop a1).length = bs.length - a1 := List.length_drop
    have HLen := Hid_mk hlen
    rw [hlen] at hl HL ⊢
    unfold maxLen at hm
    have i1 : IntKind.u64.wrap ((bs.length - a1 : Nat) : Int) = ((bs.length - a1 : Nat) : Int) := wrap_u64 _ (by omega) (by omega)
    clear hw2 hR2 hK2 c2 hra hlen
    by_cases hgt : bs.length - a1 < n
    · have hr : rText bs at_ bad 0 = ([], at_, 10) := by
        unfold rText
        rw [HD.out, if_neg (by simp)]
        simp only
        rw [if_pos (by rw [HLen.out]; exact hgt)]
      have HRes := Hid_mk hr
      have hgi : ((bs.length - a1 : Nat) : Int) < (n : Int) := by omega
      generalize bs.length - a1 = len at *
      clear hr hl hm hc hLp
      go_wp2
      go_ret
      rw [HRes.out]
      exact ⟨rfl, (HR2.out.set_bad 10).set_at at_ hle, (HK2.out.trans' (kp_set _ _ _ _)).trans' (kp_set _ _ _ _)⟩
    · have hr : rText bs at_ bad 0 = ((bs.drop a1).take n, a1 + n, 0) := by
        unfold rText
        rw [HD.out, if_neg (by simp)]
        simp only
        rw [if_neg (by rw [HLen.out]; exact hgt)]
      have HRes := Hid_mk hr
      have hgi : decide (((bs.length - a1 : Nat) : Int) < (n : Int)) = false := decide_eq_false (by omega)
      have ha1 : a1 + n ≤ bs.length := by omega
      have HA := Hid_mk ha1
      have i2 : IntKind.i64.wrap (n : Int) = (n : Int) := IntWalk.i64_in _ (by omega)
      have hT := bs_take HL.out n (by omega)
      have hsh : ∀ b o, a = some ⟨b, o, none⟩ → b ≠ p := fun b o e => hLp b o _ cap (by rw [e])
      have hT2 : Bs (w2.setCell ⟨p, 1, none⟩ (.int .i64 ((a1 : Int) + n))) (.slice a n cap) ((bs.drop a1).take n) := bs_kept hT (kp_set w2 p 1 _) fun b o n' c' e => by simp only [Value.slice.injEq] at e; exact hsh b o e.1
      have hconv := conv_bs hT2
      have i3 : (n : Int) ≤ (cap : Int) := by omega
      have hai : a1 + n ≤ 140737488355328 := by omega
      have HAt := Hid_mk (HR2.out.set_at (a1 + n) ha1)
      generalize bs.length - a1 = len at *
      clear hr hl hm hT hT2 hc hsh hLp ha1
      go_wp2
      go_ret
      rw [HRes.out]
      exact ⟨rfl, HAt.out, HK2.out.trans' (kp_set _ _ _ _)⟩
  · have ha : a1 = at_ := hra hb1
    subst ha
    have hr : rText bs a1 bad 0 = ([], a1, b1) := by
      unfold rText
      rw [HD.out, if_pos hb1]
    have HRes := Hid_mk hr
    have hwz : ((b1 : Int) == 0) = false := by simp; omega
    have hwz2 : ((b1 : Int) != 0) = true := by simp; omega
    clear hr hra hb1
    go_wp2
    go_ret
    rw [HRes.out]
    exact ⟨rfl, HR1.out, HK1.out⟩

theorem text_any (w : World) (p : Nat) (v : Value) (bs : List UInt8) (at_ bad : Nat) (mi : Int) (hm64 : mi < 9223372036854775808) (h : Rd w p v bs at_ bad) :
    Calls Tryd.prog 40 #[.pointer (some ⟨p, 0, none⟩), .int .i64 mi] w (RdPost w p v bs (.string ⟨(rText bs at_ bad mi.toNat).1.toArray⟩) (rText bs at_ bad mi.toNat).2.1 (rText bs at_ bad mi.toNat).2.2) := by
  by_cases h0 : mi < 0
  · rw [show mi.toNat = 0 by omega]
    exact text_neg w p v bs at_ bad mi h0 h
  · have e : ((mi.toNat : Nat) : Int) = mi := by omega
    have := text_pos w p v bs at_ bad mi.toNat (by omega) h
    rwa [e] at this

end Go.Proofs.YtpfpnlhihnfahaaDoor.reader

namespace Go.Proofs.YtpfpnlhihnfahaaDoor.words
open Go.RowKit Go.Proofs.YtpfpnlhihnfahaaDoor.sum Go.Proofs.YtpfpnlhihnfahaaDoor.kept Go.Proofs.YtpfpnlhihnfahaaDoor.app Go.Proofs.YtpfpnlhihnfahaaDoor.writer Go.Proofs.YtpfpnlhihnfahaaDoor.clone Go.Proofs.YtpfpnlhihnfahaaDoor.seal Go.Proofs.YtpfpnlhihnfahaaDoor.unseal
set_option linter.unusedVariables false

/-- is this word no number? -/
def nanB (b : Nat) : Bool := FloatKind.f64.format.order b b != some .eq
def nanW : Nat := 9221120237041090561
theorem nanB_nanW : nanB nanW = true := by decide +kernel
theorem nanW_int : ((nanW : Nat) : Int) = 9221120237041090561 := rfl
/-- the word that stands for all of those that are none -/
def canon (b : Nat) : Nat := if nanB b = true then nanW else b
def bytesN : Nat → Nat → List UInt8
  | 0, _ => []
  | k + 1, b => b.toUInt8 :: bytesN k (b / 256)
theorem bytesN_len (k b : Nat) : (bytesN k b).length = k := by
  induction k generalizing b with
  | zero => rfl
  | succ k ih => simp [bytesN, ih]

theorem u8_mod (d : Nat) : (d % 256).toUInt8 = d.toUInt8 := by apply UInt8.toNat_inj.1; rw [u8_toNat, u8_toNat]; omega

theorem neq_yes {b : Nat} (h : nanB b = true) : (FloatKind.f64.format.order b b != some .eq) = true := h
theorem neq_no {b : Nat} (h : nanB b = false) : (FloatKind.f64.format.order b b != some .eq) = false := h

def FlRel (base p : Nat) (v : Value) (bs : List UInt8) (b : Nat) (w : World) (t i : Value) (wr : World) : Prop :=
  ∃ (k c : Nat) (pre : List UInt8), k ≤ 8 ∧ i = .int .i64 k ∧ t = .int .u64 c ∧ c < U64 ∧ pre.length = k ∧ pre ++ bytesN (8 - k) c = bytesN 8 b ∧ WrPost base p v (bs ++ pre) w (.returned (.tuple #[])) wr

end Go.Proofs.YtpfpnlhihnfahaaDoor.words

namespace Go.Proofs.YtpfpnlhihnfahaaDoor.reader
open Go.RowKit Go.Proofs.YtpfpnlhihnfahaaDoor.sum Go.Proofs.YtpfpnlhihnfahaaDoor.kept Go.Proofs.YtpfpnlhihnfahaaDoor.app Go.Proofs.YtpfpnlhihnfahaaDoor.writer Go.Proofs.YtpfpnlhihnfahaaDoor.clone Go.Proofs.YtpfpnlhihnfahaaDoor.known Go.Proofs.YtpfpnlhihnfahaaDoor.unseal Go.Proofs.YtpfpnlhihnfahaaDoor.number Go.Proofs.YtpfpnlhihnfahaaDoor.words
set_option linter.unusedVariables false

/-- the number of the first k bytes, the lowest first -/
def leN (bs : List UInt8) : Nat → Nat
  | 0 => 0
  | k + 1 => leN bs k + (bs.getD k 0).toNat * 256 ^ k
theorem leN_lt (bs : List UInt8) (k : Nat) : leN bs k < 256 ^ k := by
  induction k with
  | zero => simp [leN]
  | succ k ih =>
    have hx : (bs.getD k 0).toNat < 256 := UInt8.toNat_lt _
    have : (bs.getD k 0).toNat * 256 ^ k ≤ 255 * 256 ^ k := Nat.mul_le_mul_right _ (by omega)
    rw [leN, Nat.pow_succ]; omega

def rFloat (bs : List UInt8) (at_ bad : Nat) : Nat × Nat × Nat :=
  if bad ≠ 0 then (0, at_, bad)
  else if (bs.drop at_).length < 8 then (0, at_, 10)
  else if nanB (leN (bs.drop at_) 8) = true ∧ leN (bs.drop at_) 8 ≠ nanW then (0, at_, 11)
  else (leN (bs.drop at_) 8, at_ + 8, 0)

theorem pow256 (i : Nat) : (256 : Nat) ^ i = 2 ^ (8 * i) := by rw [show 256 = 2 ^ 8 by decide, ← Nat.pow_mul]
theorem pow_le8 {i : Nat} (h : i ≤ 7) : 256 ^ i ≤ 72057594037927936 := by
  have : 256 ^ i ≤ 256 ^ 7 := Nat.pow_le_pow_right (by omega) h
  have e : 256 ^ 7 = 72057594037927936 := by decide
  omega

theorem or_byte (n i : Nat) (d : UInt8) (hn : n < 256 ^ i) (hi : i ≤ 7) :
    bits .or .u64 (n : Int) (IntKind.u64.wrap ((d.toNat : Int) * 2 ^ (8 * i))) = ((n + d.toNat * 256 ^ i : Nat) : Int) := by
  have hp := pow_le8 hi
  have hx : d.toNat < 256 := UInt8.toNat_lt _
  have hlt : d.toNat * 256 ^ i < 18446744073709551616 := by
    have : d.toNat * 256 ^ i ≤ 255 * 72057594037927936 := Nat.mul_le_mul (by omega) hp
    omega
  have e0 : (d.toNat : Int) * 2 ^ (8 * i) = ((d.toNat * 256 ^ i : Nat) : Int) := by
    rw [pow256]; simp
  rw [e0, wrap_u64 _ (by omega) (by omega), u64_or_nat _ _ (by omega) hlt]
  rw [Nat.or_comm, nat_join (8 * i) (d.toNat * 256 ^ i) n (by rw [pow256, Nat.mul_mod_left]) (by rw [← pow256]; exact hn), Nat.add_comm]

end Go.Proofs.YtpfpnlhihnfahaaDoor.reader

namespace Go.Proofs.YtpfpnlhihnfahaaDoor.turnedPlain
open Go.Proofs.YtpfpnlhihnfahaaDoor.seal Go.Proofs.YtpfpnlhihnfahaaDoor.unseal

theorem run_lt (s : Nat × Nat) (hs : s.1 < pl.P ∧ s.2 < pl.P) (bs : List UInt8) : (bs.foldl pl.step s).1 < pl.P ∧ (bs.foldl pl.step s).2 < pl.P := by
  induction bs generalizing s with
  | nil => exact hs
  | cons x bs ih => exact ih _ (pl.step_lt _ _)

theorem run_inj {s t : Nat × Nat} (hs : s.1 < pl.P ∧ s.2 < pl.P) (ht : t.1 < pl.P ∧ t.2 < pl.P) (bs : List UInt8) (h : bs.foldl pl.step s = bs.foldl pl.step t) : s = t := by
  induction bs generalizing s t with
  | nil => exact h
  | cons x bs ih => exact pl.step_inj x hs ht (ih (pl.step_lt _ _) (pl.step_lt _ _) h)

theorem step_byte {s : Nat × Nat} {x y : UInt8} (h : pl.step s x = pl.step s y) : x = y := by
  unfold pl.step at h
  simp only [Prod.mk.injEq, and_true] at h
  obtain ⟨k, hk⟩ := pl.mod_eq h
  have hx : x.toNat < 256 := UInt8.toNat_lt _
  have hy : y.toNat < 256 := UInt8.toNat_lt _
  apply UInt8.toNat_inj.1
  have hP : (pl.P : Int) = 16777199 := rfl
  rw [hP] at hk
  generalize pl.P - s.2 = c at hk
  omega

theorem sum_set (bs : List UInt8) (k : Nat) (hk : k < bs.length) (y : UInt8) (hy : bs[k] ≠ y) : pl.sum (bs.set k y) ≠ pl.sum bs := by
  intro h
  have e1 : bs = bs.take k ++ bs[k] :: bs.drop (k + 1) := by
    conv => lhs; rw [← List.take_append_drop k bs]
    rw [List.drop_eq_getElem_cons hk]
  have e2 : bs.set k y = bs.take k ++ y :: bs.drop (k + 1) := List.set_eq_take_append_cons_drop (l := bs) (i := k) (a := y) |>.trans (if_pos hk)
  rw [e2] at h
  conv at h => rhs; rw [e1]
  unfold pl.sum at h
  rw [List.foldl_append, List.foldl_append] at h
  simp only [List.foldl_cons] at h
  have := run_inj (pl.step_lt _ _) (pl.step_lt _ _) _ h
  exact hy (step_byte this).symm

theorem num3_part (n : Nat) (r : List UInt8) (hn : n < 16777216) : num3 (seal.part n ++ r) = n := by
  unfold num3 seal.part
  simp [u8_toNat]
  omega

theorem said_tail (s : Nat × Nat) (hs : s.1 < pl.P ∧ s.2 < pl.P) : said (tail s) = s := by
  unfold said tail
  unfold pl.P at hs
  rw [num3_part _ _ (by omega)]
  have e : (seal.part s.1 ++ seal.part s.2).drop 3 = seal.part s.2 ++ [] := by simp [seal.part]
  rw [e, num3_part _ _ (by omega)]

theorem said_inj {a b : List UInt8} (ha : a.length = 6) (hb : b.length = 6) (h : said a = said b) : a = b := by
  match a, ha with
  | [a0, a1, a2, a3, a4, a5], _ =>
  match b, hb with
  | [b0, b1, b2, b3, b4, b5], _ =>
  unfold said num3 at h
  simp at h
  have l := fun x : UInt8 => UInt8.toNat_lt x
  have := l a0; have := l a1; have := l a2; have := l a3; have := l a4; have := l a5
  have := l b0; have := l b1; have := l b2; have := l b3; have := l b4; have := l b5
  simp only [List.cons.injEq, and_true, ← UInt8.toNat_inj]
  omega

/-- What was sealed is unsealed as it was. -/
theorem sealed_ok (bs : List UInt8) : (sealed bs).length = bs.length + 6 ∧ (sealed bs).take bs.length = bs ∧ said ((sealed bs).drop bs.length) = pl.sum bs := by
  unfold sealed
  refine ⟨by simp [tail_len], by simp, ?_⟩
  rw [List.drop_left]
  exact said_tail _ (pl.sum_lt bs)

/-- .. and with one byte turned it is not. -/
theorem turned_bad (bs : List UInt8) (k : Nat) (hk : k < bs.length + 6) (y : UInt8) (hy : (sealed bs).getD k 0 ≠ y) :
    pl.sum (((sealed bs).set k y).take bs.length) ≠ said (((sealed bs).set k y).drop bs.length) := by
  have so := sealed_ok bs
  have hks : k < (sealed bs).length := by omega
  by_cases h : k < bs.length
  · rw [List.take_set, List.drop_set_of_lt h, so.2.1, so.2.2]
    refine sum_set bs k h y ?_
    intro e
    apply hy
    simp only [List.getD, List.getElem?_eq_getElem hks, Option.getD_some]
    rw [← e]
    have h2 : k < ((sealed bs).take bs.length).length := by rw [so.2.1]; exact h
    have := List.getElem_take (xs := sealed bs) (j := bs.length) (i := k) (h := h2)
    rw [← this]
    simp only [so.2.1]
  · rw [List.take_set, so.2.1, List.set_eq_of_length_le (by omega), List.drop_set, if_neg h]
    intro e
    rw [← so.2.2] at e
    have l1 : ((sealed bs).drop bs.length).length = 6 := by rw [List.length_drop, so.1]; omega
    have e2 := said_inj l1 (by rw [List.length_set]; exact l1) e
    apply hy
    have h3 : k - bs.length < ((sealed bs).drop bs.length).length := by omega
    have e3 : (((sealed bs).drop bs.length).set (k - bs.length) y)[k - bs.length]? = some y := by rw [List.getElem?_set, if_pos rfl, if_pos h3]
    rw [← e2, List.getElem?_drop, show bs.length + (k - bs.length) = k by omega] at e3
    simp [List.getD, e3]

end Go.Proofs.YtpfpnlhihnfahaaDoor.turnedPlain

namespace Go.Proofs.YtpfpnlhihnfahaaDoor.turned
open Go.RowKit Go.Proofs.YtpfpnlhihnfahaaDoor.sum Go.Proofs.YtpfpnlhihnfahaaDoor.kept Go.Proofs.YtpfpnlhihnfahaaDoor.app Go.Proofs.YtpfpnlhihnfahaaDoor.writer Go.Proofs.YtpfpnlhihnfahaaDoor.clone Go.Proofs.YtpfpnlhihnfahaaDoor.known Go.Proofs.YtpfpnlhihnfahaaDoor.fl Go.Proofs.YtpfpnlhihnfahaaDoor.seal Go.Proofs.YtpfpnlhihnfahaaDoor.unseal Go.Proofs.YtpfpnlhihnfahaaDoor.turnedPlain
set_option linter.unusedVariables false

theorem xor_byte (x : UInt8) (J : Nat) (hJ : J < 255) : ∃ y : UInt8, bits .xor .u8 (x.toNat : Int) (1 + (J : Int)) = (y.toNat : Int) ∧ x ≠ y := by
  refine ⟨x ^^^ (1 + J).toUInt8, ?_, ?_⟩
  · have e : (1 + J).toUInt8.toNat = 1 + J := by rw [u8_toNat]; omega
    have hx : x.toNat < 256 := UInt8.toNat_lt _
    have := u8_xor_nat x.toNat (1 + J) hx (by omega)
    rw [show (1 : Int) + (J : Int) = ((1 + J : Nat) : Int) by omega, this, UInt8.toNat_xor, e]
  · intro h
    have h2 : (1 + J).toUInt8 = 0 := by
      have := congrArg (fun z => x ^^^ z) h
      simp only [UInt8.xor_self, ← UInt8.xor_assoc, UInt8.zero_xor] at this
      exact this.symm
    have := congrArg UInt8.toNat h2
    rw [u8_toNat] at this
    simp at this
    omega

end Go.Proofs.YtpfpnlhihnfahaaDoor.turned

namespace Go.Proofs.YtpfpnlhihnfahaaDoor.laid
open Go.RowKit Go.Proofs.YtpfpnlhihnfahaaDoor.sum Go.Proofs.YtpfpnlhihnfahaaDoor.kept Go.Proofs.YtpfpnlhihnfahaaDoor.app Go.Proofs.YtpfpnlhihnfahaaDoor.writer Go.Proofs.YtpfpnlhihnfahaaDoor.clone Go.Proofs.YtpfpnlhihnfahaaDoor.known Go.Proofs.YtpfpnlhihnfahaaDoor.unseal Go.Proofs.YtpfpnlhihnfahaaDoor.number Go.Proofs.YtpfpnlhihnfahaaDoor.words Go.Proofs.YtpfpnlhihnfahaaDoor.turned
set_option linter.unusedVariables false

structure LayD where
  what : Int
  b : UInt8
  n : Nat
  x : Nat
  t : ByteArray

def LayD.ok (d : LayD) : Prop := d.n < U64 ∧ d.x < U64 ∧ d.t.size < 140737488355328

/-- A slice value that reads, in this world, as these. -/
def Lays (w : World) (v : Value) (ls : List LayD) : Prop :=
  ∃ a cap, v = .slice a ls.length cap ∧ ls.length ≤ cap ∧ cap ≤ maxLen ∧
    (ls ≠ [] → ∃ b o, a = some ⟨b, o, none⟩ ∧ ∀ k (hk : k < ls.length),
      w.cell? ⟨b, o + k * 5, none⟩ = some (.int .i64 ls[k].what) ∧ w.cell? ⟨b, o + k * 5 + 1, none⟩ = some (.int .u8 (ls[k].b.toNat : Int)) ∧
      w.cell? ⟨b, o + k * 5 + 2, none⟩ = some (.int .u64 (ls[k].n : Int)) ∧ w.cell? ⟨b, o + k * 5 + 3, none⟩ = some (.float .f64 ls[k].x) ∧
      w.cell? ⟨b, o + k * 5 + 4, none⟩ = some (.string ls[k].t))

theorem lays_kept {S : Nat → Prop} {w w' : World} {v : Value} {ls : List LayD} (h : Lays w v ls) (hk : Kp S w w') (hn : ∀ b o n c, v = .slice (some ⟨b, o, none⟩) n c → ¬ S b) : Lays w' v ls := by
  obtain ⟨a, cap, rfl, h1, h2, h3⟩ := h
  refine ⟨a, cap, rfl, h1, h2, fun hne => ?_⟩
  obtain ⟨b, o, rfl, hc⟩ := h3 hne
  have hb := hn b o _ _ rfl
  refine ⟨b, o, rfl, fun k hkk => ?_⟩
  obtain ⟨c0, c1, c2, c3, c4⟩ := hc k hkk
  exact ⟨hk.cell' c0 hb, hk.cell' c1 hb, hk.cell' c2 hb, hk.cell' c3 hb, hk.cell' c4 hb⟩

/-- what one lays -/
def layOne (d : LayD) : List UInt8 :=
  if d.what % 4 = 0 then [d.b] else if d.what % 4 = 1 then num d.n else if d.what % 4 = 3 then bytesN 8 (canon d.x) else num d.t.size ++ d.t.data.toList
def layAll (ls : List LayD) : List UInt8 := ls.flatMap layOne

theorem layAll_snoc {ls : List LayD} {k : Nat} (h : k < ls.length) : layAll (ls.take (k + 1)) = layAll (ls.take k) ++ layOne ls[k] := by
  unfold layAll
  rw [List.take_succ_eq_append_getElem h, List.flatMap_append]
  simp

/-- the room that they take -/
def roomOf : List LayD → Nat
  | [] => 0
  | d :: r => d.t.size + 10 + roomOf r
theorem roomOf_append (a b : List LayD) : roomOf (a ++ b) = roomOf a + roomOf b := by
  induction a with
  | nil => simp [roomOf]
  | cons d a ih => simp only [List.cons_append, roomOf, ih]; omega
theorem roomOf_get {ls : List LayD} {k : Nat} (h : k < ls.length) : ls[k].t.size + 10 + roomOf (ls.take k) ≤ roomOf ls := by
  have e : ls = ls.take k ++ ls[k] :: ls.drop (k + 1) := by
    conv => lhs; rw [← List.take_append_drop k ls]
    rw [List.drop_eq_getElem_cons h]
  have e2 : roomOf ls = roomOf (ls.take k) + (ls[k].t.size + 10 + roomOf (ls.drop (k + 1))) := by
    conv => lhs; rw [e]
    rw [roomOf_append]
    rfl
  omega
theorem layOne_len (d : LayD) (h : d.ok) : (layOne d).length ≤ d.t.size + 10 := by
  obtain ⟨h1, h2, h3⟩ := h
  rw [u64_eq] at h1 h2
  unfold layOne
  split
  · simp
  · split
    · have := num_len d.n 10 (by omega) (by omega); omega
    · split
      · rw [bytesN_len]; omega
      · rw [List.length_append, Array.length_toList]
        have := num_len d.t.size 10 (by omega) (by omega)
        show (num d.t.size).length + d.t.size ≤ _
        omega
theorem layAll_len (ls : List LayD) (h : ∀ d ∈ ls, d.ok) : (layAll ls).length ≤ roomOf ls := by
  induction ls with
  | nil => simp [layAll, roomOf]
  | cons d ls ih =>
    have h1 := layOne_len d (h d (by simp))
    have h2 := ih (fun e he => h e (by simp [he]))
    unfold layAll at *
    simp only [List.flatMap_cons, List.length_append, roomOf]
    omega

def LaidRel (w : World) (p : Nat) (ls : List LayD) (i : Value) (wr : World) : Prop :=
  ∃ k v1, k ≤ ls.length ∧ i = .int .i64 ((k : Nat) : Int) ∧ Wr w.heap.size wr p v1 (layAll (ls.take k)) ∧ Kp No w wr

theorem layfin {w wr : World} {ls : List LayD} {k : Nat} {v1 : Value} {d : LayD} {add : List UInt8} (hwr : Wr w.heap.size wr w.heap.size v1 (layAll (ls.take k))) (hkp : Kp No w wr)
    (hsn : layAll (ls.take (k + 1)) = layAll (ls.take k) ++ layOne d) (hone : layOne d = add) (hlt : k < ls.length) (e : Ending) (w2 : World) (h : WrPost w.heap.size w.heap.size v1 (layAll (ls.take k) ++ add) wr e w2) :
    LaidRel w w.heap.size ls (.int .i64 ((k + 1 : Nat) : Int)) w2 := by
  obtain ⟨-, v2, h1, h2, h3⟩ := h
  refine ⟨k + 1, v2, hlt, rfl, by rw [hsn, hone]; exact h1, hkp.trans h2 ?_⟩
  rintro i hi (e | e)
  · omega
  · have := (hwr.owns.lt i e.symm).1; omega

end Go.Proofs.YtpfpnlhihnfahaaDoor.laid

namespace Go.Proofs.YtpfpnlhihnfahaaDoor.ref
open Go.RowKit Go.Proofs.YtpfpnlhihnfahaaDoor.sum Go.Proofs.YtpfpnlhihnfahaaDoor.kept Go.Proofs.YtpfpnlhihnfahaaDoor.app Go.Proofs.YtpfpnlhihnfahaaDoor.writer Go.Proofs.YtpfpnlhihnfahaaDoor.clone Go.Proofs.YtpfpnlhihnfahaaDoor.known Go.Proofs.YtpfpnlhihnfahaaDoor.unseal Go.Proofs.YtpfpnlhihnfahaaDoor.number Go.Proofs.YtpfpnlhihnfahaaDoor.words
set_option linter.unusedVariables false

def LayRel (n : Nat) (w : World) (t out : Value) (wr : World) : Prop :=
  ∃ (m : Nat) (pre : List UInt8), t = .int .u64 m ∧ m < U64 ∧ pre ++ num m = num n ∧ wr.ownsRow w.heap.size 5 1 out pre.length (pre.map B) ∧ Kp No w wr

theorem LayRel.next {n : Nat} {w w1 : World} {m : Nat} {pre : List UInt8} {v1 : Value} (hm : m < U64) (hbig : ¬ m < 128) (hpre : pre ++ num m = num n)
    (how : w1.ownsRow w.heap.size 5 1 v1 (pre ++ [(m % 128 + 128).toUInt8]).length ((pre ++ [(m % 128 + 128).toUInt8]).map B)) (hk : Kp No w w1) :
    LayRel n w (.int .u64 ((m / 128 : Nat) : Int)) v1 w1 := by
  refine ⟨m / 128, pre ++ [(m % 128 + 128).toUInt8], rfl, by omega, ?_, how, hk⟩
  rw [List.append_assoc, ← hpre, num_big hbig]; rfl

/-- what an append to a row of one's own leaves of what was there -/
theorem own_kept {w wr w1 : World} {v v' : Value} {bs cs : List UInt8} (hk : Kp No w wr) (ho : wr.ownsRow w.heap.size 5 1 v bs.length (bs.map B)) {o : Obj} (happ : App w.heap.size (wr.alloc o) v bs cs v' w1) : Kp No w w1 := by
  refine (hk.alloc _).grown happ.2.1 fun k hk e => ?_
  rcases owns_any ho with ⟨rfl, _⟩ | ⟨g, cap, rfl, hg1, hg2⟩
  · simp [Value.ownBlock] at e
  · simp [Value.ownBlock] at e; omega
theorem own_kept0 {w wr w1 : World} {v v' : Value} {bs cs : List UInt8} (hk : Kp No w wr) (ho : wr.ownsRow w.heap.size 5 1 v bs.length (bs.map B)) (happ : App w.heap.size wr v bs cs v' w1) : Kp No w w1 := by
  refine hk.grown happ.2.1 fun k hk e => ?_
  rcases owns_any ho with ⟨rfl, _⟩ | ⟨g, cap, rfl, hg1, hg2⟩
  · simp [Value.ownBlock] at e
  · simp [Value.ownBlock] at e; omega

theorem small_u8 (m : Nat) (h : m < 128) : (m : Int) % 256 = ((m.toUInt8.toNat : Nat) : Int) := by rw [seal.u8_toNat]; omega
theorem small_u8' (m : Nat) (h : m < 128) : (Value.int .u8 (m : Int)) = Value.int .u8 ((m.toUInt8.toNat : Nat) : Int) := by rw [seal.u8_toNat]; congr 1; omega
theorem big_u8 (m : Nat) : (m : Int) % 128 + 128 = (((m % 128 + 128).toUInt8.toNat : Nat) : Int) := by rw [seal.u8_toNat]; omega

theorem num_pos (n : Nat) : 0 < (num n).length := by rw [num]; split <;> simp

set_option maxRecDepth 100000 in
set_option maxHeartbeats 2000000 in
theorem lay_num (w : World) (n : Nat) (hn : n < U64) : Calls Tryd.prog 39 #[.int .u64 (n : Int)] w (NewBs w (num n)) := by
  have HN := Hid_mk hn
  clear hn
  go_enter Tryd.func39, Tryd.ntmps39
  go_wp2
  go_loopw [0, 3] (fun t out wr => LayRel n w t out wr) (fun t _ _ => (intOf t).toNat)
  case atStart => exact ⟨n, [], rfl, HN.out, rfl, World.ownsRow_nil _ _ _ _, Kp.refl _ _⟩
  case round =>
    obtain ⟨m, pre, rfl, hm, hpre, how, hkp⟩ := hrel
    have hlen : pre.length + (num m).length ≤ 10 := by rw [← List.length_append, hpre]; exact num_len n 10 (by have hn := HN.out; rw [u64_eq] at hn; omega) (by omega)
    have HPre := Hid_mk hpre
    have HOw := Hid_mk how
    have HK := Hid_mk hkp
    have HLen := Hid_mk hlen
    have HM := Hid_mk hm
    have hsz := hkp.size
    clear hpre how hkp hlen hm
    by_cases hlt : m < 128
    · have hml : (m : Int) < 128 := by omega
      go_wp2_with (at_builtin; ((first | rw [small_u8 m hlt] | rw [small_u8' m hlt]); refine wpList_append_bs _ rfl _ _ rfl w.heap.size _ pre rfl (HOw.out.alloc _) _ [m.toUInt8] rfl (bs_one wr _) ?c1 ?c2 ?_))
      case c1 => have := HLen.out; simp; omega
      case c2 => simp; omega
      intro v' w1 happ
      have hfin : NewBs w (num n) (.returned v') w1 := by
        refine ⟨v', rfl, ?_, own_kept HK.out HOw.out happ⟩
        rw [← HPre.out, num_small hlt]
        exact happ.1
      have HF := Hid_mk hfin
      obtain ⟨g, cap, rfl, hg1, hg2⟩ := owns_some happ.1 (by simp)
      generalize (pre ++ [m.toUInt8]).length = L at *
      clear happ hfin
      go_wp2
      go_ret
      exact HF.out
    · have hml : ¬ (m : Int) < 128 := by omega
      obtain ⟨X, hX⟩ : ∃ X, (m % 128 + 128).toUInt8 = X := ⟨_, rfl⟩
      have hw : IntKind.u64.wrap ((m : Int) / 128) = (m : Int) / 128 := wrap_u64 _ (by omega) (by have := HM.out; rw [u64_eq] at this; omega)
      go_wp2_with (at_builtin; (rw [big_u8 m, hX]; refine wpList_append_bs _ rfl _ _ rfl w.heap.size _ pre rfl (HOw.out.alloc _) _ [X] rfl (bs_one wr _) ?c1 ?c2 ?_))
      case c1 => have := HLen.out; omega
      case c2 => have := HK.out.size; (try simp); omega
      intro v' w1 happ
      have hfin := LayRel.next HM.out hlt HPre.out (hX ▸ happ.1) (own_kept HK.out HOw.out happ)
      have HF := Hid_mk hfin
      obtain ⟨g, cap, rfl, hg1, hg2⟩ := owns_some happ.1 (by simp)
      generalize (pre ++ [X]).length = L at *
      clear happ hfin
      go_wp2
      go_roundw
      case rel => exact HF.out
      case measure => simp [intOf]; omega

set_option maxRecDepth 100000 in
set_option maxHeartbeats 2000000 in
theorem lay_text (w : World) (s : ByteArray) (hs : s.size + 10 < 140737488355328) : Calls Tryd.prog 21 #[.string s] w (NewBs w (num s.size ++ s.data.toList)) := by
  go_enter Tryd.func21, Tryd.ntmps21
  go_wp2_with fail
  refine (lay_num w s.size (by rw [u64_eq]; omega)).mono ?_
  rintro e w1 ⟨v1, rfl, ho, hk⟩
  have HO := Hid_mk ho
  have HK := Hid_mk hk
  have hlen : (num s.size).length ≤ 10 := num_len _ _ (by omega) (by omega)
  have HL := Hid_mk hlen
  have hsz := hk.size
  clear ho hk hlen
  go_wp2_with (at_builtin; (refine wpList_append_str _ rfl _ _ rfl w.heap.size _ (num s.size) rfl HO.out s rfl ?c1 hsz ?_))
  case c1 => have := HL.out; omega
  intro v' w2 happ
  have hfin : NewBs w (num s.size ++ s.data.toList) (.returned v') w2 := ⟨v', rfl, happ.1, own_kept0 HK.out HO.out happ⟩
  have HF := Hid_mk hfin
  obtain ⟨g, cap, rfl, hg1, hg2⟩ := owns_some happ.1 (by have := num_pos s.size; simp; omega)
  generalize (num s.size ++ s.data.toList).length = L at *
  clear happ hfin
  go_wp2
  go_ret
  exact HF.out

end Go.Proofs.YtpfpnlhihnfahaaDoor.ref

namespace Go.Proofs.YtpfpnlhihnfahaaDoor.lst
open Go.RowKit Go.Proofs.YtpfpnlhihnfahaaDoor.sum Go.Proofs.YtpfpnlhihnfahaaDoor.kept Go.Proofs.YtpfpnlhihnfahaaDoor.app Go.Proofs.YtpfpnlhihnfahaaDoor.writer Go.Proofs.YtpfpnlhihnfahaaDoor.clone
set_option linter.unusedVariables false

abbrev Els := List (Value × List UInt8)
def Els.vals (ps : Els) : List Value := ps.map (·.1)
def Els.texts (ps : Els) : List (List UInt8) := ps.map (·.2)
theorem vals_length (ps : Els) : ps.vals.length = ps.length := List.length_map _
theorem texts_length (ps : Els) : ps.texts.length = ps.length := List.length_map _

/-- read: a slice of these elements, each of these bytes -/
def Ls (w : World) (v : Value) (ps : Els) : Prop :=
  (∃ a cap, v = .slice a ps.length cap ∧ ps.length ≤ cap ∧ cap ≤ maxLen ∧ (ps ≠ [] → ∃ b o, a = some ⟨b, o, none⟩ ∧ ∀ k (h : k < ps.length), w.cell? ⟨b, o + k, none⟩ = some ps[k].1)) ∧ ∀ q ∈ ps, Bs w q.1 q.2

theorem Ls.no {w w' : World} {v : Value} {ps : Els} (h : Ls w v ps) (hk : Kp No w w') : Ls w' v ps := by
  obtain ⟨⟨a, cap, rfl, h1, h2, h3⟩, h4⟩ := h
  refine ⟨⟨a, cap, rfl, h1, h2, fun hne => ?_⟩, fun q hq => bs_no (h4 q hq) hk⟩
  obtain ⟨b, o, rfl, hc⟩ := h3 hne
  exact ⟨b, o, rfl, fun k hkk => hk.cell' (hc k hkk) id⟩

/-- owned: a row of one's own, each element a row of bytes of one's own -/
structure Lo (w : World) (base : Nat) (v : Value) (ps : Els) : Prop where
  row : w.ownsRow base 30 1 v ps.length ps.vals
  each : ∀ q ∈ ps, w.ownsRow base 5 1 q.1 q.2.length (q.2.map B)

theorem Lo.nil (w : World) (base : Nat) : Lo w base (.slice none 0 0) [] := ⟨World.ownsRow_nil _ _ _ _, fun q hq => by cases hq⟩
theorem Lo.low {w : World} {base base' : Nat} {v : Value} {ps : Els} (h : Lo w base v ps) (hb : base' ≤ base) : Lo w base' v ps := ⟨owns_base h.row hb, fun q hq => owns_base (h.each q hq) hb⟩
theorem Lo.kept {S : Nat → Prop} {w w' : World} {base : Nat} {v : Value} {ps : Els} (h : Lo w base v ps) (hk : Kp S w w') (hs : ∀ k, base ≤ k → k < w.heap.size → ¬ S k) : Lo w' base v ps :=
  ⟨owns_kept h.row hk fun k hkk => hs k (h.row.lt k hkk).1 (h.row.lt k hkk).2, fun q hq => owns_kept (h.each q hq) hk fun k hkk => hs k ((h.each q hq).lt k hkk).1 ((h.each q hq).lt k hkk).2⟩
theorem Lo.no {w w' : World} {base : Nat} {v : Value} {ps : Els} (h : Lo w base v ps) (hk : Kp No w w') : Lo w' base v ps := h.kept hk fun _ _ _ => id

theorem Lo.ls {w : World} {base : Nat} {v : Value} {ps : Els} (h : Lo w base v ps) : Ls w v ps := by
  refine ⟨?_, fun q hq => owns_bs (h.each q hq)⟩
  rcases h.row.2 with ⟨rfl, h0⟩ | ⟨g, cap, cur, rfl, hb, hg, r1, r2, r3, r4⟩
  · have : ps = [] := List.eq_nil_of_length_eq_zero h0
    subst this
    exact ⟨none, 0, rfl, Nat.le_refl _, Nat.zero_le _, fun h => absurd rfl h⟩
  · refine ⟨_, cap, rfl, r1, r2, fun _ => ⟨g, 0, rfl, fun k hk => ?_⟩⟩
    have := h.row.cells (g := g) rfl k ps[k].1 (by simp [Els.vals, hk])
    rw [addr_add] at this
    exact this

/-- a row of bytes is no row of slices -/
theorem rows_apart {w : World} {base base' : Nat} {v x : Value} {n m : Nat} {xs ys : List Value} (h : w.ownsRow base 30 1 v n xs) (k : w.ownsRow base' 5 1 x m ys) : ∀ g, x.ownBlock = some g → v.ownBlock ≠ some g := by
  intro g hg e
  rcases h.2 with ⟨rfl, _⟩ | ⟨g1, cap, cur, rfl, _, h1, _⟩
  · cases e
  · rcases k.2 with ⟨rfl, _⟩ | ⟨g2, cap2, cur2, rfl, _, h2, _⟩
    · cases hg
    · simp [Value.ownBlock] at e hg
      subst e hg
      rw [h1] at h2
      injection h2 with h2
      injection h2 with _ h3
      cases h3

theorem infoS : (Tryd.prog.info? 30).map (fun i => (i.zero, i.size, i.bytes)) = some (some (.slice none 0 0), 1, 24) := by kernel_rfl

/-- what an append of one element leaves -/
def Push (base : Nat) (w : World) (v : Value) (ps : Els) (x : Value) (bs : List UInt8) (v' : Value) (w' : World) : Prop :=
  Lo w' base v' (ps ++ [(x, bs)]) ∧ Kp (fun k => some k = v.ownBlock) w w' ∧ (v'.ownBlock = v.ownBlock ∨ v'.ownBlock = some w.heap.size) ∧ ∃ g cap, v' = .slice (some ⟨g, 0, none⟩) (ps.length + 1) cap

theorem step_append_bs (w : World) {ops : Array Oper} {o : Oper} {a : Act} {K : Act → World → Prop} {Q : Exit → Act → World → Prop} {E : Prop} (hgd : o.guard = none) (s x : Operand)
    (ho : o.op = .call { callee := .builtin .append, args := #[s, x], argTypes := #[30, 30] })
    (base : Nat) (v : Value) (bs : List UInt8) (hs : a.eval s = v) (hown : w.ownsRow base 5 1 v bs.length (bs.map B)) (xv : Value) (cs : List UInt8) (hx : a.eval x = xv) (hxs : Bs w xv cs)
    (hb : bs.length + cs.length ≤ 140737488355328) (hbase : base ≤ w.heap.size)
    (h : ∀ v' w', App base w v bs cs v' w' → K (a.put o.dst v') w') : if Region.wanted o (yielded ops a.tmps) = true then Oper.wp Tryd.prog o a w K Q else E := by
  have hw : Region.wanted o (yielded ops a.tmps) = true := by simp [Region.wanted, hgd]
  rw [if_pos hw]
  obtain ⟨v', w', hr, h2⟩ := run_append_bs w o.type base v bs hown xv cs hxs hb hbase
  unfold Oper.wp execOp
  simp only [ho, resolve, invoke, builtin, Sem.run_bind, Sem.run_pure, Result.andThen_ok, List.map_toArray, List.map_cons, List.map_nil, hs, hx, hr]
  exact h v' w' h2

theorem app_some {base : Nat} {w w' : World} {b n c : Nat} {bs cs : List UInt8} {v' : Value} (h : App base w (.slice (some ⟨b, 0, none⟩) n c) bs cs v' w') : ∃ g cap, v' = .slice (some ⟨g, 0, none⟩) (bs ++ cs).length cap ∧ (g = b ∨ g = w.heap.size) := by
  obtain ⟨h1, h2, h3, h4⟩ := h
  rcases h1.2 with ⟨e, h0⟩ | ⟨g, cap, cur, rfl, _⟩
  · have := h3.1 e
    simp at this
  · refine ⟨g, cap, rfl, ?_⟩
    simp [Value.ownBlock] at h4
    exact h4

theorem app_new {base : Nat} {w w' : World} {b n c : Nat} {cs : List UInt8} {v' : Value} (h : App base w (.slice (some ⟨b, 0, none⟩) n c) [] cs v' w') : ∃ g cap, v' = .slice (some ⟨g, 0, none⟩) cs.length cap ∧ w'.ownsRow base 5 1 v' cs.length (cs.map B) := by
  obtain ⟨g, cap, e, -⟩ := app_some h
  exact ⟨g, cap, e, by simpa using h.1⟩

/-- what a call leaves that makes a list -/
def NewLs (w : World) (l : List (List UInt8)) (e : Ending) (w' : World) : Prop := ∃ v' ps, e = .returned v' ∧ Lo w' w.heap.size v' ps ∧ ps.texts = l ∧ Kp No w w'

end Go.Proofs.YtpfpnlhihnfahaaDoor.lst
