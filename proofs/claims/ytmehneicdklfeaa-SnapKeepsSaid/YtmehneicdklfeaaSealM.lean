/- Seal and Unseal of package pack. Unseal of package pack. One byte turned turns the sum; what the last six bytes say. Plain whole numbers. frame.Frame. frame.first: the frame that bytes begin with. What a list of frames is: plain lists. A snapshot's calls in plain words: what Save and Open do to a disk, and answer. -/
import Derived.Test.YtmehneicdklfeaaFloatM
import Derived.Test.YtmehneicdklfeaaFsDoM
import Derived.OwnWalk
import Derived.Deep.QuietTactic
import Derived.BigQuiet
import Derived.RegionTactic
import Derived.Laws.BitsAllLaws
import Derived.IntWalk
import Derived.Test.YtmehneicdklfeaaR2RelM

namespace Go.Proofs.Ytmehneicdklfeaa.seal
open Go.RowKit Go.Proofs.Ytmehneicdklfeaa.sum Go.Proofs.Ytmehneicdklfeaa.kept Go.Proofs.Ytmehneicdklfeaa.app Go.Proofs.Ytmehneicdklfeaa.writer Go.Proofs.Ytmehneicdklfeaa.clone Go.Proofs.Ytmehneicdklfeaa.known Go.Proofs.Ytmehneicdklfeaa.fl
set_option linter.unusedVariables false

/-- a number's three bytes, the lowest first -/
def part (n : Nat) : List UInt8 := [n.toUInt8, (n / 256).toUInt8, (n / 65536).toUInt8]
def tail (s : Nat × Nat) : List UInt8 := part s.1 ++ part s.2
def sealed (bs : List UInt8) : List UInt8 := bs ++ tail (pl.sum bs)

theorem part_len (n : Nat) : (part n).length = 3 := rfl
theorem tail_len (s : Nat × Nat) : (tail s).length = 6 := rfl
theorem u8_toNat (n : Nat) : n.toUInt8.toNat = n % 256 := by simp [Nat.toUInt8]

/-- What an append by a callee leaves: the row, of old memory only the old row. -/
def Onto (base : Nat) (v : Value) (bs : List UInt8) (w : World) (e : Ending) (w' : World) : Prop :=
  ∃ v', e = .returned v' ∧ w'.ownsRow base 5 1 v' bs.length (bs.map B) ∧ Kp (fun k => some k = v.ownBlock) w w'

/-- a literal of three bytes, as laid by the call -/
theorem bs_part (w : World) (n : Nat) (hn : n < 16777216) : Bs (w.alloc (.cells #[.int .u8 ((n : Int) % 256), .int .u8 ((n : Int) / 256 % 256), .int .u8 ((n : Int) / 65536)] 5)) (.slice (some ⟨w.heap.size, 0, none⟩) 3 3) (part n) := by
  have e1 : (n : Int) % 256 = ((n % 256 : Nat) : Int) := by omega
  have e2 : (n : Int) / 256 % 256 = ((n / 256 % 256 : Nat) : Int) := by omega
  have e3 : (n : Int) / 65536 = ((n / 65536 % 256 : Nat) : Int) := by omega
  rw [e1, e2, e3]
  refine ⟨_, 3, rfl, Nat.le_refl _, by decide, fun _ => ⟨_, _, rfl, fun k hk => ?_⟩⟩
  rw [part_len] at hk
  match k, hk with
  | 0, _ => simp [B, part, u8_toNat]
  | 1, _ => simp [B, part, u8_toNat]
  | 2, _ => simp [B, part, u8_toNat]

theorem conv_u32 (n : Nat) (hn : n < 16777216) (w : World) : (convert 80 74 (.float .f64 (fl n))).run Try.prog w = .ok (.int .u32 n) w := by
  refine run_convert_float_int w 80 74 .f64 .u32 _ n (by kernel_rfl) Try.underlying74 (fl_int n ?_ .u32 ?_ ?_)
  · unfold Small
    have : (2 : Nat) ^ 53 = 9007199254740992 := by decide
    omega
  · have : IntKind.min .u32 = 0 := by decide
    omega
  · have : IntKind.max .u32 = 4294967295 := by decide
    omega

set_option maxRecDepth 100000 in
set_option maxHeartbeats 1000000 in
theorem lay_any (base : Nat) (w : World) (v : Value) (bs : List UInt8) (n : Nat) (hn : n < 16777216) (h : w.ownsRow base 5 1 v bs.length (bs.map B)) (hb : base ≤ w.heap.size) (hl : bs.length + 3 ≤ 140737488355328) :
    Calls Try.prog 41 #[v, .float .f64 (fl n)] w (Onto base v (bs ++ part n) w) := by
  have hq := conv_u32 n hn
  have H := Hid_mk h
  clear h
  go_enter Try.func41, Try.ntmps41
  go_wp2_with (at_builtin; (refine wpList_append_bs _ rfl _ _ rfl base _ bs rfl (H.out.alloc _) _ (part n) rfl (bs_part w n hn) ?c1 ?c2 ?_))
  case c1 => rw [part_len]; exact hl
  case c2 => simp; omega
  · intro v' w1 happ
    have hfin : Onto base v (bs ++ part n) w (.returned v') w1 := ⟨v', rfl, happ.1, app_kept happ fun k _ e => e.symm⟩
    have HF := Hid_mk hfin
    clear happ hfin hq
    go_wp2
    go_ret
    exact HF.out

set_option maxRecDepth 100000 in
set_option maxHeartbeats 1000000 in
theorem seal_any (w : World) (v : Value) (bs : List UInt8) (h : Bs w v bs) (hl : bs.length + 6 ≤ 140737488355328) :
    Calls Try.prog 34 #[v] w (NewBs w (sealed bs)) := by
  obtain ⟨i0, hi, hz0, hz1, hz2⟩ := info_parts info5
  have H := Hid_mk h
  obtain ⟨a, cap, rfl, hlc, hm, -⟩ := h
  have sl := pl.sum_lt bs
  have s1 : (pl.sum bs).1 < 16777216 := by have := sl.1; unfold pl.P at this; omega
  have s2 : (pl.sum bs).2 < 16777216 := by have := sl.2; unfold pl.P at this; omega
  have hml : bs.length + 6 ≤ maxLen := by unfold maxLen; omega
  unfold maxLen at hm
  clear sl
  go_enter Try.func34, Try.ntmps34
  go_wp2_with fail
  refine (sum_any _ _ _ H.out).mono ?_
  rintro e w' ⟨rfl, rfl⟩
  unfold cx
  go_wp2_with (at_make; refine wpList_make_own _ rfl _ _ 26 rfl w.heap.size 5 i0 (.int .u8 0) 1 Try.underlying26 hi hz0 hz1 _ _ _ (bs.length + 6) rfl rfl (by omega) ?b1 ?b2 (Nat.le_refl _) ?_)
  case b1 => rw [hz2]; omega
  case b2 => exact hml
  · intro w1 hown1 hgr1
    have k1 : Kp No w w1 := (Kp.refl No w).grown hgr1 fun k hk e => by cases e
    have K1 := Hid_mk k1
    have hx := bs_no H.out k1
    have HX := Hid_mk hx
    have hz : w.heap.size ≤ w1.heap.size := k1.size
    clear hgr1 k1 hx
    go_wp2_with (at_builtin; (refine wpList_append_bs _ rfl _ _ rfl w.heap.size _ [] rfl hown1 _ bs rfl HX.out ?c1 ?c2 ?_))
    case c1 => simp; omega
    case c2 => exact hz
    · intro v2 w2 happ2
      have k2 : Kp No w w2 := K1.out.grown happ2.2.1 fun k hk e => by have := (hown1.lt k e).1; omega
      have hz2' := k2.size
      have K2 := Hid_mk k2
      have O2 := Hid_mk happ2.1
      clear hown1 happ2 k2
      go_wp2_with fail
      refine (lay_any w.heap.size w2 _ _ (pl.sum bs).1 s1 O2.out hz2' (by simp; omega)).mono ?_
      rintro e w3 ⟨v3, rfl, o3, k3⟩
      have O3 := Hid_mk o3
      have k3' : Kp No w w3 := K2.out.trans k3 fun i hi e => by have := (O2.out.lt i e.symm).1; omega
      have hz3 := k3'.size
      have K3 := Hid_mk k3'
      clear o3 k3 k3'
      go_wp2_with fail
      refine (lay_any w.heap.size w3 _ _ (pl.sum bs).2 s2 O3.out hz3 (by simp [part_len]; omega)).mono ?_
      rintro e w4 ⟨v4, rfl, o4, k4⟩
      have hfin : NewBs w (sealed bs) (.returned v4) w4 := by
        refine ⟨v4, rfl, ?_, K3.out.trans k4 fun i hi e => by have := (O3.out.lt i e.symm).1; omega⟩
        have e : sealed bs = [] ++ bs ++ part (pl.sum bs).1 ++ part (pl.sum bs).2 := by unfold sealed tail; simp
        rw [e]; exact o4
      have HF := Hid_mk hfin
      clear o4 k4 hfin
      go_wp2
      go_ret
      exact HF.out

end Go.Proofs.Ytmehneicdklfeaa.seal

namespace Go.Proofs.Ytmehneicdklfeaa.unseal
open Go.RowKit Go.Proofs.Ytmehneicdklfeaa.sum Go.Proofs.Ytmehneicdklfeaa.kept Go.Proofs.Ytmehneicdklfeaa.app Go.Proofs.Ytmehneicdklfeaa.writer Go.Proofs.Ytmehneicdklfeaa.clone Go.Proofs.Ytmehneicdklfeaa.known Go.Proofs.Ytmehneicdklfeaa.fl Go.Proofs.Ytmehneicdklfeaa.seal
set_option linter.unusedVariables false

/-- the number of three bytes -/
def num3 (bs : List UInt8) : Nat := (bs.getD 0 0).toNat + 256 * (bs.getD 1 0).toNat + 65536 * (bs.getD 2 0).toNat

theorem or3 (p q r : Nat) (hp : p < 256) (hq : q < 256) (hr : r < 256) : bits .or .u32 (bits .or .u32 (p : Int) ((q : Int) * 256)) ((r : Int) * 65536) = ((p + 256 * q + 65536 * r : Nat) : Int) := by
  have e1 : bits .or .u32 (p : Int) ((q : Int) * 256) = ((p + 256 * q : Nat) : Int) := by
    rw [u32_or _ _ (by omega) (by omega) (by omega) (by omega), show ((p : Int)).toNat = p by omega, show ((q : Int) * 256).toNat = q * 256 by omega, Nat.or_comm, nat_join 8 (q * 256) p (by omega) (by omega)]
    congr 1; omega
  rw [e1, u32_or _ _ (by omega) (by omega) (by omega) (by omega), show (((p + 256 * q : Nat) : Int)).toNat = p + 256 * q by omega, show ((r : Int) * 65536).toNat = r * 65536 by omega, Nat.or_comm, nat_join 16 (r * 65536) (p + 256 * q) (by omega) (by omega)]
  congr 1; omega

set_option maxRecDepth 100000 in
set_option maxHeartbeats 1000000 in
theorem read_any (w : World) (v : Value) (bs : List UInt8) (h : Bs w v bs) (hl : 3 ≤ bs.length) :
    Calls Try.prog 45 #[v] w fun e w' => e = .returned (.float .f64 (fl (num3 bs))) ∧ ∃ n, w' = w.drewN n := by
  obtain ⟨a, cap, rfl, hlc, hm, hc⟩ := h
  obtain ⟨b, o, rfl, hcell⟩ := hc (by intro e; subst e; simp at hl)
  have c0 : w.cell? ⟨b, o, none⟩ = some (.int .u8 ((bs.getD 0 0).toNat : Int)) := hcell 0 (by omega)
  have c1 : w.cell? ⟨b, o + 1, none⟩ = some (.int .u8 ((bs.getD 1 0).toNat : Int)) := hcell 1 (by omega)
  have c2 : w.cell? ⟨b, o + 2, none⟩ = some (.int .u8 ((bs.getD 2 0).toNat : Int)) := hcell 2 (by omega)
  have l0 : (0 : Int) < (bs.length : Int) := by omega
  have l1 : (1 : Int) < (bs.length : Int) := by omega
  have l2 : (2 : Int) < (bs.length : Int) := by omega
  unfold num3
  have x0 : (bs.getD 0 0).toNat < 256 := UInt8.toNat_lt _
  have x1 : (bs.getD 1 0).toNat < 256 := UInt8.toNat_lt _
  have x2 : (bs.getD 2 0).toNat < 256 := UInt8.toNat_lt _
  generalize (bs.getD 0 0).toNat = p at *
  generalize (bs.getD 1 0).toNat = q at *
  generalize (bs.getD 2 0).toNat = r at *
  generalize bs.length = len at *
  clear hcell hc
  go_enter Try.func45, Try.ntmps45
  go_wp2
  go_quiet (fail)
  rw [or3 p q r x0 x1 x2]
  go_wp2
  go_ret
  exact ⟨rfl, _, rfl⟩

set_option maxRecDepth 100000 in
set_option maxHeartbeats 1000000 in
theorem unseal_short (w : World) (v : Value) (bs : List UInt8) (h : Bs w v bs) (hl : bs.length < 6) :
    Calls Try.prog 39 #[v] w fun e w' => e = .returned (.tuple #[.slice none 0 0, .int .i64 10]) ∧ w = w' := by
  obtain ⟨a, cap, rfl, hlc, hm, hc⟩ := h
  have hlt : (bs.length : Int) < 6 := by omega
  generalize bs.length = len at *
  clear hc
  go_enter Try.func39, Try.ntmps39
  go_wp2
  go_ret2
  exact ⟨rfl, rfl⟩

theorem quiet_sum {w : World} {v : Value} {bs : List UInt8} {n : Nat} (h : Bs w v bs) :
    Calls Try.prog 40 #[v] (w.drewN n) fun e w'' => e = .returned (cx (pl.sum bs)) ∧ ∃ m, w'' = w.drewN m :=
  (sum_any _ _ _ (bs_drewN n h)).mono fun _ _ ⟨he, hm⟩ => ⟨he, n, hm.symm⟩
theorem quiet_read {w : World} {v : Value} {bs : List UInt8} {n : Nat} (h : Bs w v bs) (hl : 3 ≤ bs.length) :
    Calls Try.prog 45 #[v] (w.drewN n) fun e w'' => e = .returned (.float .f64 (fl (num3 bs))) ∧ ∃ m, w'' = w.drewN m :=
  Calls.quiet_of (read_any _ _ _ (bs_drewN n h) hl)

/-- the pair that the last six bytes say -/
def said (tl : List UInt8) : Nat × Nat := (num3 tl, num3 (tl.drop 3))
theorem num3_lt (bs : List UInt8) : num3 bs < 16777216 := by
  unfold num3
  have x0 : (bs.getD 0 0).toNat < 256 := UInt8.toNat_lt _
  have x1 : (bs.getD 1 0).toNat < 256 := UInt8.toNat_lt _
  have x2 : (bs.getD 2 0).toNat < 256 := UInt8.toNat_lt _
  omega

theorem neq_said (s : Nat × Nat) (hs : s.1 < pl.P ∧ s.2 < pl.P) (tl : List UInt8) (ty : TypeId) (w : World) :
    (binOp .neq ty (cx s) (.complex .f64 (fl (num3 tl)) (fl (num3 (tl.drop 3))))).run Try.prog w = .ok (.bool (!decide (s = said tl))) w := by
  have sm : ∀ n : Nat, n < 16777216 → Small (n : Int) := fun n h => by
    unfold Small
    have : (2 : Nat) ^ 53 = 9007199254740992 := by decide
    omega
  unfold pl.P at hs
  unfold cx said
  rw [run_neq_complex, fl_eql _ _ (sm _ (by omega)) (sm _ (num3_lt _)), fl_eql _ _ (sm _ (by omega)) (sm _ (num3_lt _))]
  congr 3
  rw [Bool.eq_iff_iff]
  simp [Prod.ext_iff]
  omega

def Unsealed (w : World) (bs : List UInt8) (e : Ending) (w' : World) : Prop :=
  Kp No w w' ∧ ∃ v', e = .returned (.tuple #[v', .int .i64 0]) ∧ w'.ownsRow w.heap.size 5 1 v' bs.length (bs.map B)
def Broken (w : World) (c : Int) (e : Ending) (w' : World) : Prop := Kp No w w' ∧ e = .returned (.tuple #[.slice none 0 0, .int .i64 c])

set_option maxRecDepth 100000 in
set_option maxHeartbeats 1000000 in
theorem unseal_core (w : World) (b o k cap : Nat) (hk : k + 6 ≤ cap) (hkm : k ≤ 140737488355328) (xs tl : List UInt8) (hx : Bs w (.slice (some ⟨b, o, none⟩) k cap) xs) (ht : Bs w (.slice (some ⟨b, o + k, none⟩) 6 (cap - k)) tl)
    (ht2 : Bs w (.slice (some ⟨b, o + k + 3, none⟩) 3 (cap - k - 3)) (tl.drop 3)) :
    Calls Try.prog 39 #[.slice (some ⟨b, o, none⟩) (k + 6) cap] w fun e w' => if pl.sum xs = said tl then Unsealed w xs e w' else Broken w 13 e w' := by
  have l6 : tl.length = 6 := by obtain ⟨_, _, e, _⟩ := ht; simp only [Value.slice.injEq] at e; exact e.2.1.symm
  have lx : xs.length = k := by obtain ⟨_, _, e, _⟩ := hx; simp only [Value.slice.injEq] at e; exact e.2.1.symm
  have HX := Hid_mk hx
  have HT := Hid_mk ht
  have HT2 := Hid_mk ht2
  have HL := Hid_mk l6
  have HLX := Hid_mk lx
  have hneq := fun t w => neq_said (pl.sum xs) (pl.sum_lt xs) tl t w
  clear hx ht ht2 l6 lx
  by_cases hs : pl.sum xs = said tl
  · simp only [hs, decide_true, Bool.not_true] at hneq
    simp only [hs, if_true]
    rw [← hs] at hneq
    have HS := Hid_mk hs
    clear hs
    go_enter Try.func39, Try.ntmps39
    go_wp2
    go_quiet (fail)
    obtain ⟨w0, hw0⟩ : ∃ w0, w0 = w.drewN nq := ⟨_, rfl⟩
    rw [← hw0]
    have HW := Hid_mk hw0
    clear hw0
    have HX0 : Hid (Bs w0 _ _) := Hid_mk (HW.out ▸ bs_drewN nq HX.out)
    have HT0 : Hid (Bs w0 _ _) := Hid_mk (HW.out ▸ bs_drewN nq HT.out)
    have HT20 : Hid (Bs w0 _ _) := Hid_mk (HW.out ▸ bs_drewN nq HT2.out)
    go_wp2
    go_quiet ((first | (go_at_call 40; exact quiet_sum HX0.out) | (go_at_call 45; first | exact quiet_read HT0.out (by rw [HL.out]; omega) | exact quiet_read HT20.out (by rw [List.length_drop, HL.out]; omega))))
    go_wp2_with fail
    refine (clone_any _ _ xs (bs_drewN _ HX0.out) (by rw [HLX.out]; exact hkm)).mono ?_
    rintro e w1 ⟨v1, rfl, ho, hk1⟩
    have hfin : Unsealed w xs (.returned (.tuple #[v1, .int .i64 0])) w1 := by
      have h0 := HW.out
      subst h0
      exact ⟨(((Kp.refl No w).drewN _).drewN _).trans' hk1, v1, rfl, owns_base ho (Nat.le_refl _)⟩
    have HF := Hid_mk hfin
    clear ho hk1 hfin hneq
    go_wp2
    go_ret2
    exact HF.out
  · simp only [hs, decide_false, Bool.not_false] at hneq
    simp only [hs, if_false]
    have HS := Hid_mk hs
    clear hs
    go_enter Try.func39, Try.ntmps39
    go_wp2
    go_quiet (fail)
    obtain ⟨w0, hw0⟩ : ∃ w0, w0 = w.drewN nq := ⟨_, rfl⟩
    rw [← hw0]
    have HW := Hid_mk hw0
    clear hw0
    have HX0 : Hid (Bs w0 _ _) := Hid_mk (HW.out ▸ bs_drewN nq HX.out)
    have HT0 : Hid (Bs w0 _ _) := Hid_mk (HW.out ▸ bs_drewN nq HT.out)
    have HT20 : Hid (Bs w0 _ _) := Hid_mk (HW.out ▸ bs_drewN nq HT2.out)
    go_wp2
    go_quiet ((first | (go_at_call 40; exact quiet_sum HX0.out) | (go_at_call 45; first | exact quiet_read HT0.out (by rw [HL.out]; omega) | exact quiet_read HT20.out (by rw [List.length_drop, HL.out]; omega))))
    go_wp2
    go_ret2
    have h0 := HW.out
    subst h0
    exact ⟨((Kp.refl No w).drewN _).drewN _, rfl⟩

theorem unseal_any (w : World) (v : Value) (bs : List UInt8) (h : Bs w v bs) (hl : 6 ≤ bs.length) (hm : bs.length ≤ 140737488355328) :
    Calls Try.prog 39 #[v] w fun e w' => if pl.sum (bs.take (bs.length - 6)) = said (bs.drop (bs.length - 6)) then Unsealed w (bs.take (bs.length - 6)) e w' else Broken w 13 e w' := by
  have H := h
  obtain ⟨a, cap, rfl, hlc, hmx, hc⟩ := h
  obtain ⟨b, o, rfl, hcell⟩ := hc (by intro e; subst e; simp at hl)
  obtain ⟨k, hk⟩ : ∃ k, bs.length = k + 6 := ⟨bs.length - 6, by omega⟩
  have hx := bs_take H k (by omega)
  have ht := bs_drop H k (by omega) (some ⟨b, o + k, none⟩) (fun _ => rfl)
  have ht2 := bs_drop ht 3 (by omega) (some ⟨b, o + k + 3, none⟩) (fun _ => rfl)
  rw [hk] at ht ht2 ⊢
  rw [show k + 6 - k = 6 by omega] at ht ht2
  rw [show k + 6 - 6 = k by omega]
  exact unseal_core w b o k cap (by omega) (by omega) _ _ hx ht ht2

/-- What Unseal answers. -/
def UnsealPost (w : World) (bs : List UInt8) (e : Ending) (w' : World) : Prop :=
  if bs.length < 6 then Broken w 10 e w'
  else if pl.sum (bs.take (bs.length - 6)) = said (bs.drop (bs.length - 6)) then Unsealed w (bs.take (bs.length - 6)) e w' else Broken w 13 e w'

theorem unseal_all (w : World) (v : Value) (bs : List UInt8) (h : Bs w v bs) (hm : bs.length ≤ 140737488355328) :
    Calls Try.prog 39 #[v] w (UnsealPost w bs) := by
  by_cases hl : bs.length < 6
  · refine (unseal_short w v bs h hl).mono fun e w' ⟨he, hw⟩ => ?_
    unfold UnsealPost
    rw [if_pos hl]
    subst hw
    exact ⟨Kp.refl _ _, he⟩
  · refine (unseal_any w v bs h (by omega) hm).mono fun e w' hp => ?_
    unfold UnsealPost
    rw [if_neg hl]
    exact hp

end Go.Proofs.Ytmehneicdklfeaa.unseal

namespace Go.Proofs.Ytmehneicdklfeaa.turnedPlain
open Go.Proofs.Ytmehneicdklfeaa.seal Go.Proofs.Ytmehneicdklfeaa.unseal

theorem run_lt (s : Nat × Nat) (hs : s.1 < pl.P ∧ s.2 < pl.P) (bs : List UInt8) : (bs.foldl pl.step s).1 < pl.P ∧ (bs.foldl pl.step s).2 < pl.P := by
  induction bs generalizing s with
  | nil => exact hs
  | cons x bs ih => exact ih _ (pl.step_lt _ _)

theorem run_inj {s t : Nat × Nat} (hs : s.1 < pl.P ∧ s.2 < pl.P) (ht : t.1 < pl.P ∧ t.2 < pl.P) (bs : List UInt8) (h : bs.foldl pl.step s = bs.foldl pl.step t) : s = t := by
  induction bs generalizing s t with
  | nil => exact h
  | cons x bs ih => exact pl.step_inj x hs ht (ih (pl.step_lt _ _) (pl.step_lt _ _) h)

theorem step_byte {s : Nat × Nat} {x y : UInt8} (h : pl.step s x = pl.step s y) : x = y := by
  unfold pl.step at h
  simp only [Prod.mk.injEq, and_true] at h
  obtain ⟨k, hk⟩ := pl.mod_eq h
  have hx : x.toNat < 256 := UInt8.toNat_lt _
  have hy : y.toNat < 256 := UInt8.toNat_lt _
  apply UInt8.toNat_inj.1
  have hP : (pl.P : Int) = 16777199 := rfl
  rw [hP] at hk
  generalize pl.P - s.2 = c at hk
  omega

theorem sum_set (bs : List UInt8) (k : Nat) (hk : k < bs.length) (y : UInt8) (hy : bs[k] ≠ y) : pl.sum (bs.set k y) ≠ pl.sum bs := by
  intro h
  have e1 : bs = bs.take k ++ bs[k] :: bs.drop (k + 1) := by
    conv => lhs; rw [← List.take_append_drop k bs]
    rw [List.drop_eq_getElem_cons hk]
  have e2 : bs.set k y = bs.take k ++ y :: bs.drop (k + 1) := List.set_eq_take_append_cons_drop (l := bs) (i := k) (a := y) |>.trans (if_pos hk)
  rw [e2] at h
  conv at h => rhs; rw [e1]
  unfold pl.sum at h
  rw [List.foldl_append, List.foldl_append] at h
  simp only [List.foldl_cons] at h
  have := run_inj (pl.step_lt _ _) (pl.step_lt _ _) _ h
  exact hy (step_byte this).symm

theorem num3_part (n : Nat) (r : List UInt8) (hn : n < 16777216) : num3 (seal.part n ++ r) = n := by
  unfold num3 seal.part
  simp [u8_toNat]
  omega

theorem said_tail (s : Nat × Nat) (hs : s.1 < pl.P ∧ s.2 < pl.P) : said (tail s) = s := by
  unfold said tail
  unfold pl.P at hs
  rw [num3_part _ _ (by omega)]
  have e : (seal.part s.1 ++ seal.part s.2).drop 3 = seal.part s.2 ++ [] := by simp [seal.part]
  rw [e, num3_part _ _ (by omega)]

theorem said_inj {a b : List UInt8} (ha : a.length = 6) (hb : b.length = 6) (h : said a = said b) : a = b := by
  match a, ha with
  | [a0, a1, a2, a3, a4, a5], _ =>
  match b, hb with
  | [b0, b1, b2, b3, b4, b5], _ =>
  unfold said num3 at h
  simp at h
  have l := fun x : UInt8 => UInt8.toNat_lt x
  have := l a0; have := l a1; have := l a2; have := l a3; have := l a4; have := l a5
  have := l b0; have := l b1; have := l b2; have := l b3; have := l b4; have := l b5
  simp only [List.cons.injEq, and_true, ← UInt8.toNat_inj]
  omega

/-- What was sealed is unsealed as it was. -/
theorem sealed_ok (bs : List UInt8) : (sealed bs).length = bs.length + 6 ∧ (sealed bs).take bs.length = bs ∧ said ((sealed bs).drop bs.length) = pl.sum bs := by
  unfold sealed
  refine ⟨by simp [tail_len], by simp, ?_⟩
  rw [List.drop_left]
  exact said_tail _ (pl.sum_lt bs)

/-- .. and with one byte turned it is not. -/
theorem turned_bad (bs : List UInt8) (k : Nat) (hk : k < bs.length + 6) (y : UInt8) (hy : (sealed bs).getD k 0 ≠ y) :
    pl.sum (((sealed bs).set k y).take bs.length) ≠ said (((sealed bs).set k y).drop bs.length) := by
  have so := sealed_ok bs
  have hks : k < (sealed bs).length := by omega
  by_cases h : k < bs.length
  · rw [List.take_set, List.drop_set_of_lt h, so.2.1, so.2.2]
    refine sum_set bs k h y ?_
    intro e
    apply hy
    simp only [List.getD, List.getElem?_eq_getElem hks, Option.getD_some]
    rw [← e]
    have h2 : k < ((sealed bs).take bs.length).length := by rw [so.2.1]; exact h
    have := List.getElem_take (xs := sealed bs) (j := bs.length) (i := k) (h := h2)
    rw [← this]
    simp only [so.2.1]
  · rw [List.take_set, so.2.1, List.set_eq_of_length_le (by omega), List.drop_set, if_neg h]
    intro e
    rw [← so.2.2] at e
    have l1 : ((sealed bs).drop bs.length).length = 6 := by rw [List.length_drop, so.1]; omega
    have e2 := said_inj l1 (by rw [List.length_set]; exact l1) e
    apply hy
    have h3 : k - bs.length < ((sealed bs).drop bs.length).length := by omega
    have e3 : (((sealed bs).drop bs.length).set (k - bs.length) y)[k - bs.length]? = some y := by rw [List.getElem?_set, if_pos rfl, if_pos h3]
    rw [← e2, List.getElem?_drop, show bs.length + (k - bs.length) = k by omega] at e3
    simp [List.getD, e3]

end Go.Proofs.Ytmehneicdklfeaa.turnedPlain

namespace Go.Proofs.Ytmehneicdklfeaa.frm
open Go.RowKit Go.Proofs.Ytmehneicdklfeaa.sum Go.Proofs.Ytmehneicdklfeaa.kept Go.Proofs.Ytmehneicdklfeaa.app Go.Proofs.Ytmehneicdklfeaa.writer Go.Proofs.Ytmehneicdklfeaa.clone Go.Proofs.Ytmehneicdklfeaa.known Go.Proofs.Ytmehneicdklfeaa.fl Go.Proofs.Ytmehneicdklfeaa.seal Go.Proofs.Ytmehneicdklfeaa.unseal
set_option linter.unusedVariables false

/-- a length's four bytes, the lowest first -/
def len4 (n : Nat) : List UInt8 := [n.toUInt8, (n / 256).toUInt8, (n / 65536).toUInt8, (n / 16777216).toUInt8]
theorem len4_len (n : Nat) : (len4 n).length = 4 := rfl
def framed (bs : List UInt8) : List UInt8 := if bs.length ≤ 4194304 then len4 bs.length ++ sealed bs else []
theorem framed_some {bs : List UInt8} (h : bs.length ≤ 4194304) : framed bs = len4 bs.length ++ sealed bs := if_pos h
theorem framed_none {bs : List UInt8} (h : ¬ bs.length ≤ 4194304) : framed bs = [] := if_neg h
theorem framed_len {bs : List UInt8} (h : bs.length ≤ 4194304) : (framed bs).length = bs.length + 10 := by
  rw [framed_some h, List.length_append, len4_len, (turnedPlain.sealed_ok bs).1]; omega

theorem bs_len4 (w : World) (n : Nat) (hn : n ≤ 4194304) : Bs (w.alloc (.cells #[.int .u8 ((n : Int) % 256), .int .u8 ((n : Int) / 256 % 256), .int .u8 ((n : Int) / 65536), .int .u8 ((n : Int) / 16777216)] 5)) (.slice (some ⟨w.heap.size, 0, none⟩) 4 4) (len4 n) := by
  have e1 : (n : Int) % 256 = ((n % 256 : Nat) : Int) := by omega
  have e2 : (n : Int) / 256 % 256 = ((n / 256 % 256 : Nat) : Int) := by omega
  have e3 : (n : Int) / 65536 = ((n / 65536 % 256 : Nat) : Int) := by omega
  have e4 : (n : Int) / 16777216 = ((n / 16777216 % 256 : Nat) : Int) := by omega
  rw [e1, e2, e3, e4]
  refine ⟨_, 4, rfl, Nat.le_refl _, by decide, fun _ => ⟨_, _, rfl, fun k hk => ?_⟩⟩
  rw [len4_len] at hk
  match k, hk with
  | 0, _ => simp [B, len4, u8_toNat]
  | 1, _ => simp [B, len4, u8_toNat]
  | 2, _ => simp [B, len4, u8_toNat]
  | 3, _ => simp [B, len4, u8_toNat]

set_option maxRecDepth 100000 in
set_option maxHeartbeats 1000000 in
theorem frame_any (w : World) (v : Value) (bs : List UInt8) (h : Bs w v bs) :
    Calls Try.prog 19 #[v] w (NewBs w (framed bs)) := by
  obtain ⟨i0, hi, hz0, hz1, hz2⟩ := info_parts info5
  have H := Hid_mk h
  obtain ⟨a, cap, rfl, hlc, hm, -⟩ := h
  unfold maxLen at hm
  by_cases hb : bs.length ≤ 4194304
  · rw [framed_some hb]
    have hml : bs.length + 10 ≤ maxLen := by unfold maxLen; omega
    have hbi : ¬ (4194304 : Int) < (bs.length : Int) := by omega
    go_enter Try.func19, Try.ntmps19
    go_wp2_with (at_make; refine wpList_make_own _ rfl _ _ 26 rfl w.heap.size 5 i0 (.int .u8 0) 1 Try.underlying26 hi hz0 hz1 _ _ _ (4 + bs.length + 6) rfl rfl (by omega) ?b1 ?b2 (Nat.le_refl _) ?_)
    case b1 => omega
    case b2 => unfold maxLen; omega
    intro w1 hown1 hgr1
    have k1 : Kp No w w1 := (Kp.refl No w).grown hgr1 fun k hk e => by cases e
    have K1 := Hid_mk k1
    have hz : w.heap.size ≤ w1.heap.size := k1.size
    clear hgr1 k1
    go_wp2_with (at_builtin; (refine wpList_append_bs _ rfl _ _ rfl w.heap.size _ [] rfl (hown1.alloc _) _ (len4 bs.length) rfl (bs_len4 w1 bs.length hb) ?c1 ?c2 ?_))
    case c1 => simp [len4_len]
    case c2 => simp; omega
    intro v2 w2 happ2
    have k2 : Kp No w w2 := (K1.out.alloc _).grown happ2.2.1 fun k hk e => by have := (hown1.lt k e).1; omega
    have hz2' := k2.size
    have K2 := Hid_mk k2
    have O2 := Hid_mk happ2.1
    clear hown1 happ2 k2
    go_wp2_with fail
    with_reducible refine (seal_any w2 _ bs (bs_no H.out K2.out) (by omega)).mono ?_
    rintro e w3 ⟨v3, rfl, o3, k3⟩
    have K3 := Hid_mk (K2.out.trans' k3)
    have O3 := Hid_mk (owns_bs o3)
    have O23 := Hid_mk (owns_kept O2.out k3 fun _ _ => id)
    have hz3 := k3.size
    have hsl := (turnedPlain.sealed_ok bs).1
    have HSl := Hid_mk hsl
    clear o3 k3 hsl
    go_wp2_with (at_builtin; (refine wpList_append_bs _ rfl _ _ rfl w.heap.size _ ([] ++ len4 bs.length) rfl O23.out _ (sealed bs) rfl O3.out ?d1 ?d2 ?_))
    case d1 => rw [HSl.out]; simp [len4_len]; omega
    case d2 => omega
    intro v4 w4 happ
    have hfin : NewBs w (len4 bs.length ++ sealed bs) (.returned v4) w4 := ⟨v4, rfl, happ.1, K3.out.grown happ.2.1 fun k hk e => by have := (O23.out.lt k e).1; omega⟩
    have HF := Hid_mk hfin
    clear happ hfin
    go_wp2
    go_ret
    exact HF.out
  · rw [framed_none hb]
    have hbi : (4194304 : Int) < (bs.length : Int) := by omega
    go_enter Try.func19, Try.ntmps19
    go_wp2
    go_ret
    exact ⟨_, rfl, World.ownsRow_nil _ _ _ _, Kp.refl _ _⟩

end Go.Proofs.Ytmehneicdklfeaa.frm

namespace Go.Proofs.Ytmehneicdklfeaa.frm
open Go.RowKit Go.Proofs.Ytmehneicdklfeaa.sum Go.Proofs.Ytmehneicdklfeaa.kept Go.Proofs.Ytmehneicdklfeaa.app Go.Proofs.Ytmehneicdklfeaa.writer Go.Proofs.Ytmehneicdklfeaa.clone Go.Proofs.Ytmehneicdklfeaa.known Go.Proofs.Ytmehneicdklfeaa.fl Go.Proofs.Ytmehneicdklfeaa.seal Go.Proofs.Ytmehneicdklfeaa.unseal
set_option linter.unusedVariables false

/-- the number of four bytes -/
def num4 (bs : List UInt8) : Nat := num3 bs + 16777216 * (bs.getD 3 0).toNat

theorem or4 (p q r s : Nat) (hp : p < 256) (hq : q < 256) (hr : r < 256) (hs : s < 256) : bits .or .u32 (bits .or .u32 (bits .or .u32 (p : Int) ((q : Int) * 256)) ((r : Int) * 65536)) ((s : Int) * 16777216) = ((p + 256 * q + 65536 * r + 16777216 * s : Nat) : Int) := by
  rw [or3 p q r hp hq hr, u32_or _ _ (by omega) (by omega) (by omega) (by omega), show (((p + 256 * q + 65536 * r : Nat) : Int)).toNat = p + 256 * q + 65536 * r by omega, show ((s : Int) * 16777216).toNat = s * 16777216 by omega, Nat.or_comm, nat_join 24 (s * 16777216) (p + 256 * q + 65536 * r) (by omega) (by omega)]
  congr 1; omega

/-- what a whole frame has, if one stands at the beginning -/
def firstP (bs : List UInt8) : Option (List UInt8) :=
  if 4 ≤ bs.length ∧ num4 bs ≤ 4194304 ∧ num4 bs + 10 ≤ bs.length ∧ pl.sum (((bs.drop 4).take (num4 bs + 6)).take (num4 bs)) = said (((bs.drop 4).take (num4 bs + 6)).drop (num4 bs))
  then some (((bs.drop 4).take (num4 bs + 6)).take (num4 bs)) else none

def FirstPost (w : World) (x : Option (List UInt8)) (e : Ending) (w' : World) : Prop :=
  Kp No w w' ∧ match x with
    | none => e = .returned (.tuple #[.slice none 0 0, .bool false])
    | some xs => ∃ v', e = .returned (.tuple #[v', .bool true]) ∧ w'.ownsRow w.heap.size 5 1 v' xs.length (xs.map B)

set_option maxRecDepth 100000 in
set_option maxHeartbeats 2000000 in
theorem first_any (w : World) (v : Value) (bs : List UInt8) (h : Bs w v bs) :
    Calls Try.prog 29 #[v] w (FirstPost w (firstP bs)) := by
  have H := Hid_mk h
  obtain ⟨a, cap, rfl, hlc, hm, hc⟩ := h
  unfold maxLen at hm
  by_cases h4 : 4 ≤ bs.length
  · obtain ⟨b, o, rfl, hcell⟩ := hc (by intro e; subst e; simp at h4)
    have c0 : w.cell? ⟨b, o, none⟩ = some (.int .u8 ((bs.getD 0 0).toNat : Int)) := hcell 0 (by omega)
    have c1 : w.cell? ⟨b, o + 1, none⟩ = some (.int .u8 ((bs.getD 1 0).toNat : Int)) := hcell 1 (by omega)
    have c2 : w.cell? ⟨b, o + 2, none⟩ = some (.int .u8 ((bs.getD 2 0).toNat : Int)) := hcell 2 (by omega)
    have c3 : w.cell? ⟨b, o + 3, none⟩ = some (.int .u8 ((bs.getD 3 0).toNat : Int)) := hcell 3 (by omega)
    have l0 : (0 : Int) < (bs.length : Int) := by omega
    have l1 : (1 : Int) < (bs.length : Int) := by omega
    have l2 : (2 : Int) < (bs.length : Int) := by omega
    have l3 : (3 : Int) < (bs.length : Int) := by omega
    have l4 : ¬ (bs.length : Int) < 4 := by omega
    obtain ⟨n, hn⟩ : ∃ n, num4 bs = n := ⟨_, rfl⟩
    have hn4 := hn
    unfold num4 num3 at hn4
    have x0 : (bs.getD 0 0).toNat < 256 := UInt8.toNat_lt _
    have x1 : (bs.getD 1 0).toNat < 256 := UInt8.toNat_lt _
    have x2 : (bs.getD 2 0).toNat < 256 := UInt8.toNat_lt _
    have x3 : (bs.getD 3 0).toNat < 256 := UInt8.toNat_lt _
    generalize (bs.getD 0 0).toNat = p at *
    generalize (bs.getD 1 0).toNat = q at *
    generalize (bs.getD 2 0).toNat = r at *
    generalize (bs.getD 3 0).toNat = s at *
    have ho := or4 p q r s x0 x1 x2 x3
    rw [hn4] at ho
    have HO := Hid_mk ho
    have HN := Hid_mk hn
    have hnb : n < 4294967296 := by omega
    clear hcell hc ho hn hn4
    by_cases hbig : n ≤ 4194304
    · have hbigi : ¬ (4194304 : Int) < (n : Int) := by omega
      by_cases hlen : n + 10 ≤ bs.length
      · have hx1 := bs_take (bs_drop H.out 4 h4 (some ⟨b, o + 4, none⟩) (fun _ => rfl)) (n + 6) (by omega)
        obtain ⟨xs, hxs⟩ : ∃ xs, (bs.drop 4).take (n + 6) = xs := ⟨_, rfl⟩
        have hxl : xs.length = n + 6 := by rw [← hxs, List.length_take, List.length_drop]; omega
        have hf : firstP bs = if pl.sum (xs.take n) = said (xs.drop n) then some (xs.take n) else none := by
          unfold firstP
          rw [HN.out, hxs]
          by_cases hs : pl.sum (xs.take n) = said (xs.drop n)
          · rw [if_pos ⟨h4, hbig, hlen, hs⟩, if_pos hs]
          · rw [if_neg (fun e => hs e.2.2.2), if_neg hs]
        rw [hxs] at hx1
        have hun := fun W (hk : Kp No w W) => unseal_any W _ xs (bs_no hx1 hk) (by omega) (by omega)
        rw [hxl, show n + 6 - 6 = n by omega] at hun
        have hli : ¬ (bs.length : Int) < (n : Int) + 10 := by omega
        rw [show n + 6 = 4 + n + 2 by omega] at hun
        have HUn := Hid_mk hun
        have HXl := Hid_mk hxl
        have hz1 : (4 : Int) ≤ (cap : Int) := by omega
        have hz2 : (n : Int) + 10 ≤ (cap : Int) := by omega
        have hz3 : ¬ 4 = cap := by omega
        have hz4 : ¬ cap = 4 := by omega
        clear hxs hx1 hun hxl
        by_cases hs : pl.sum (xs.take n) = said (xs.drop n)
        · rw [if_pos hs] at hf
          simp only [if_pos hs] at HUn
          rw [hf]
          have htl : (xs.take n).length = n := by rw [List.length_take, HXl.out]; omega
          clear hs hf
          go_enter Try.func29, Try.ntmps29
          go_wp2
          go_quiet (fail)
          rw [HO.out]
          go_wp2_with fail
          with_reducible refine (HUn.out _ ((Kp.refl No w).drewN _)).mono ?_
          rintro e w2 ⟨hk2, v2, rfl, ho2⟩
          have hfin : FirstPost w (some (xs.take n)) (.returned (.tuple #[v2, .bool true])) w2 := ⟨((Kp.refl No w).drewN _).trans' hk2, v2, rfl, ho2⟩
          have HF := Hid_mk hfin
          clear hk2 ho2 hfin
          go_wp2
          go_ret2
          exact HF.out
        · rw [if_neg hs] at hf
          simp only [if_neg hs] at HUn
          rw [hf]
          clear hs hf
          go_enter Try.func29, Try.ntmps29
          go_wp2
          go_quiet (fail)
          rw [HO.out]
          go_wp2_with fail
          with_reducible refine (HUn.out _ ((Kp.refl No w).drewN _)).mono ?_
          rintro e w2 ⟨hk2, rfl⟩
          have HF := Hid_mk (((Kp.refl No w).drewN nq).trans' hk2)
          clear hk2
          go_wp2
          go_ret2
          exact ⟨HF.out, rfl⟩
      · have hf : firstP bs = none := by unfold firstP; rw [if_neg (by rw [HN.out]; omega)]
        rw [hf]
        have hli : (bs.length : Int) < (n : Int) + 10 := by omega
        go_enter Try.func29, Try.ntmps29
        go_wp2
        go_quiet (fail)
        rw [HO.out]
        go_wp2
        go_ret2
        exact ⟨(Kp.refl No w).drewN _, rfl⟩
    · have hbigi : (4194304 : Int) < (n : Int) := by omega
      have hf : FirstPost w (firstP bs) = FirstPost w none := by unfold firstP; rw [if_neg (by rw [HN.out]; omega)]
      rw [hf]
      go_enter Try.func29, Try.ntmps29
      go_wp2
      go_quiet (fail)
      rw [HO.out]
      go_wp2
      go_ret2
      exact ⟨(Kp.refl No w).drewN _, rfl⟩
  · have hf : firstP bs = none := if_neg (by omega)
    rw [hf]
    have l4 : (bs.length : Int) < 4 := by omega
    generalize bs.length = len at *
    clear hc
    go_enter Try.func29, Try.ntmps29
    go_wp2
    go_ret2
    exact ⟨Kp.refl _ _, rfl⟩

end Go.Proofs.Ytmehneicdklfeaa.frm

namespace Go.Proofs.Ytmehneicdklfeaa.frm
open Go.RowKit Go.Proofs.Ytmehneicdklfeaa.sum Go.Proofs.Ytmehneicdklfeaa.kept Go.Proofs.Ytmehneicdklfeaa.fl Go.Proofs.Ytmehneicdklfeaa.seal Go.Proofs.Ytmehneicdklfeaa.unseal Go.Proofs.Ytmehneicdklfeaa.turnedPlain
set_option linter.unusedVariables false

theorem firstP_len {bs xs : List UInt8} (h : firstP bs = some xs) : xs.length + 10 ≤ bs.length ∧ xs.length = num4 bs ∧ xs.length ≤ 4194304 := by
  unfold firstP at h
  split at h
  · rename_i hc
    obtain ⟨h1, h2, h3, -⟩ := hc
    injection h with h
    subst h
    simp only [List.length_take, List.length_drop]
    omega
  · cases h

/-- the frames that are whole from the left, and where they end -/
def listP (bs : List UInt8) : List (List UInt8) × Nat :=
  match h : firstP bs with
  | none => ([], 0)
  | some xs => (xs :: (listP (bs.drop (xs.length + 10))).1, xs.length + 10 + (listP (bs.drop (xs.length + 10))).2)
termination_by bs.length
decreasing_by all_goals (have := (firstP_len h).1; rw [List.length_drop]; omega)

theorem listP_none {bs : List UInt8} (h : firstP bs = none) : listP bs = ([], 0) := by
  rw [listP]
  split
  · rfl
  · rename_i x e; rw [h] at e; cases e
theorem listP_some {bs xs : List UInt8} (h : firstP bs = some xs) : listP bs = (xs :: (listP (bs.drop (xs.length + 10))).1, xs.length + 10 + (listP (bs.drop (xs.length + 10))).2) := by
  rw [listP]
  split
  · rename_i e; rw [h] at e; cases e
  · rename_i x e
    rw [h] at e
    injection e with e
    subst e
    rfl

/-- A frame at the beginning of bytes. -/
theorem num4_len4 (n : Nat) (hn : n < 4294967296) (t : List UInt8) : num4 (len4 n ++ t) = n := by
  unfold num4 num3 len4
  simp only [List.cons_append, List.nil_append, List.getD_cons_zero, List.getD_cons_succ, u8_toNat]
  omega
theorem firstP_framed {bs : List UInt8} (h : bs.length ≤ 4194304) (t : List UInt8) : firstP (framed bs ++ t) = some bs := by
  have so := sealed_ok bs
  have e1 : (framed bs ++ t).drop 4 = sealed bs ++ t := by
    rw [framed_some h, List.append_assoc, List.drop_append_of_le_length (by rw [len4_len]; omega)]
    simp [len4]
  have e2 : (sealed bs ++ t).take (bs.length + 6) = sealed bs := by
    rw [List.take_append_of_le_length (by rw [so.1]; omega), List.take_of_length_le (by rw [so.1]; omega)]
  have e3 : num4 (framed bs ++ t) = bs.length := by
    rw [framed_some h, List.append_assoc]
    exact num4_len4 _ (by omega) _
  unfold firstP
  rw [e3, e1, e2, so.2.1, so.2.2]
  exact if_pos ⟨by rw [List.length_append, framed_len h]; omega, h, by rw [List.length_append, framed_len h]; omega, rfl⟩
theorem listP_framed {bs : List UInt8} (h : bs.length ≤ 4194304) (t : List UInt8) : listP (framed bs ++ t) = (bs :: (listP t).1, bs.length + 10 + (listP t).2) := by
  rw [listP_some (firstP_framed h t)]
  have e : (framed bs ++ t).drop (bs.length + 10) = t := by
    rw [List.drop_append, List.drop_of_length_le (by rw [framed_len h]; omega), framed_len h]
    simp
  rw [e]
theorem firstP_short {bs : List UInt8} (h : bs.length < 10) : firstP bs = none := by
  unfold firstP
  rw [if_neg (by omega)]

/-- frames one behind the other -/
def allF (l : List (List UInt8)) : List UInt8 := (l.map framed).flatten
theorem allF_cons (b : List UInt8) (l : List (List UInt8)) : allF (b :: l) = framed b ++ allF l := rfl
theorem allF_snoc (l : List (List UInt8)) (b : List UInt8) : allF (l ++ [b]) = allF l ++ framed b := by simp [allF]
theorem listP_all (l : List (List UInt8)) (h : ∀ b ∈ l, b.length ≤ 4194304) (t : List UInt8) : listP (allF l ++ t) = (l ++ (listP t).1, (allF l).length + (listP t).2) := by
  induction l with
  | nil => simp [allF]
  | cons b l ih =>
    rw [allF_cons, List.append_assoc, listP_framed (h b (by simp)), ih fun c hc => h c (by simp [hc])]
    simp only [List.cons_append, List.length_append, framed_len (h b (by simp))]
    congr 1
    omega
theorem listP_nil : listP [] = ([], 0) := listP_none (firstP_short (by simp))

/-- at a place, with these before it -/
def At (bs : List UInt8) (l : List (List UInt8)) (k : Nat) : Prop := k ≤ bs.length ∧ listP bs = (l ++ (listP (bs.drop k)).1, k + (listP (bs.drop k)).2)
theorem At.start (bs : List UInt8) : At bs [] 0 := ⟨Nat.zero_le _, by simp⟩
theorem At.next {bs xs : List UInt8} {l : List (List UInt8)} {k : Nat} (h : At bs l k) (hf : firstP (bs.drop k) = some xs) : At bs (l ++ [xs]) (k + (xs.length + 10)) := by
  have hl := (firstP_len hf).1
  rw [List.length_drop] at hl
  have h1 := h.1
  refine ⟨by omega, ?_⟩
  rw [h.2, listP_some hf, List.drop_drop]
  simp only [List.append_assoc, List.singleton_append]
  congr 1
  omega
theorem At.done {bs : List UInt8} {l : List (List UInt8)} {k : Nat} (h : At bs l k) (hf : firstP (bs.drop k) = none) : listP bs = (l, k) := by
  rw [h.2, listP_none hf]; simp

end Go.Proofs.Ytmehneicdklfeaa.frm

namespace Go.Proofs.Ytmehneicdklfeaa.snp
open Go.RowKit Go.Proofs.Ytmehneicdklfeaa.sum Go.Proofs.Ytmehneicdklfeaa.kept Go.Proofs.Ytmehneicdklfeaa.fs Go.Proofs.Ytmehneicdklfeaa.dsk Go.Proofs.Ytmehneicdklfeaa.r2 Go.Proofs.Ytmehneicdklfeaa.pair Go.Proofs.Ytmehneicdklfeaa.frm
set_option linter.unusedVariables false

abbrev snapN : ByteArray := ⟨#[115, 110, 97, 112]⟩
abbrev newN : ByteArray := ⟨#[115, 110, 97, 112, 46, 110, 101, 119]⟩

/-- is the file there, as Read tells it? -/
def hereB (d : DSt) (n : ByteArray) : Bool := !d.down && (get d.now (nm n)).isSome
def readD (d : DSt) (n : ByteArray) : List UInt8 := if d.down = true then [] else old d.now (nm n)

/-- one call behind another: the first error -/
def seqD (r : Int × DSt) (k : DSt → Int × DSt) : Int × DSt := if r.1 = 0 then k r.2 else r
theorem seqD_ok {r : Int × DSt} (k : DSt → Int × DSt) (h : r.1 = 0) : seqD r k = k r.2 := if_pos h
theorem seqD_no {r : Int × DSt} (k : DSt → Int × DSt) (h : r.1 ≠ 0) : seqD r k = r := if_neg h

/-- snap.new is Removed, if it is there -/
def clrD (d : DSt) : Int × DSt := if hereB d newN = true then rmR d newN else (0, d)
def savD (d : DSt) (bs : List UInt8) : Int × DSt :=
  if 4194304 < bs.length then (12, d)
  else seqD (clrD d) fun d => seqD (appR d newN (framed bs)) fun d => seqD (syR d) fun d => seqD (reR d newN snapN) fun d => syR d
def opnD (d : DSt) : Int × DSt := if hereB d newN = true then seqD (rmR d newN) fun d => syR d else (0, d)
/-- what a file of one frame tells -/
def gotL (bs : List UInt8) : Option (List UInt8) := if (listP bs).1.length = 1 ∧ (listP bs).2 = bs.length then some ((listP bs).1.headD []) else none
/-- what Open tells of the disk as it is then -/
def gotD (d : DSt) : Option (List UInt8) := gotL (readD d snapN)
/-- what Open answers -/
def opnA (d : DSt) : Int × Option (List UInt8) := if (opnD d).1 = 0 then (0, gotD (opnD d).2) else ((opnD d).1, none)

theorem clrD_ok {M : Nat} {d : DSt} (h : OkN M d) : OkN (M + 1) (clrD d).2 := by
  unfold clrD; split
  · exact rmR_ok h newN (by decide)
  · exact ⟨h.1.mono (by omega), h.2⟩
theorem OkN.more {M N : Nat} {d : DSt} (h : OkN M d) (hm : M ≤ N) : OkN N d := ⟨h.1.mono hm, h.2⟩
theorem seqD_okN {M N : Nat} {r : Int × DSt} {k : DSt → Int × DSt} (h : OkN M r.2) (hm : M ≤ N) (hk : ∀ d, OkN M d → OkN N (k d).2) : OkN N (seqD r k).2 := by
  unfold seqD; split
  · exact hk _ h
  · exact OkN.more h hm
theorem savD_ok {M : Nat} {d : DSt} (h : OkN M d) (bs : List UInt8) : OkN (M + 5) (savD d bs).2 := by
  unfold savD; split
  · exact OkN.more h (by omega)
  · exact seqD_okN (clrD_ok h) (by omega) fun d h => seqD_okN (appR_ok h newN (framed bs)) (by omega) fun d h => seqD_okN (syR_ok h) (by omega) fun d h => seqD_okN (reR_ok h newN snapN (by decide)) (by omega) fun d h => syR_ok h
theorem opnD_ok {M : Nat} {d : DSt} (h : OkN M d) : OkN (M + 2) (opnD d).2 := by
  unfold opnD; split
  · exact seqD_okN (rmR_ok h newN (by decide)) (by omega) fun d h => syR_ok h
  · exact OkN.more h (by omega)

end Go.Proofs.Ytmehneicdklfeaa.snp
