/- Seal and Unseal of package pack. Cuts of a slice of bytes. Unseal of package pack. -/
import Derived.Test.YteekcbbdbciddaaGreatDoorPlainM
import Derived.Test.YteekcbbdbciddaaGreatDoorKnown0
import Derived.OwnWalk
import Derived.RegionTactic
import Derived.Laws.BitsAllLaws
import Derived.IntWalk
import Derived.Deep.QuietTactic
import Derived.BigQuiet

namespace Go.Proofs.YteekcbbdbciddaaGreatDoor.seal
open Go.RowKit Go.Proofs.YteekcbbdbciddaaGreatDoor.sum Go.Proofs.YteekcbbdbciddaaGreatDoor.kept Go.Proofs.YteekcbbdbciddaaGreatDoor.app Go.Proofs.YteekcbbdbciddaaGreatDoor.writer Go.Proofs.YteekcbbdbciddaaGreatDoor.clone Go.Proofs.YteekcbbdbciddaaGreatDoor.known Go.Proofs.YteekcbbdbciddaaGreatDoor.fl
set_option linter.unusedVariables false

/-- a number's three bytes, the lowest first -/
def part (n : Nat) : List UInt8 := [n.toUInt8, (n / 256).toUInt8, (n / 65536).toUInt8]
def tail (s : Nat × Nat) : List UInt8 := part s.1 ++ part s.2
def sealed (bs : List UInt8) : List UInt8 := bs ++ tail (pl.sum bs)

theorem part_len (n : Nat) : (part n).length = 3 := rfl
theorem tail_len (s : Nat × Nat) : (tail s).length = 6 := rfl
theorem u8_toNat (n : Nat) : n.toUInt8.toNat = n % 256 := by simp [Nat.toUInt8]

/-- What an append by a callee leaves: the row, of old memory only the old row. -/
def Onto (base : Nat) (v : Value) (bs : List UInt8) (w : World) (e : Ending) (w' : World) : Prop :=
  ∃ v', e = .returned v' ∧ w'.ownsRow base 5 1 v' bs.length (bs.map B) ∧ Kp (fun k => some k = v.ownBlock) w w'

/-- a literal of three bytes, as laid by the call -/
theorem bs_part (w : World) (n : Nat) (hn : n < 16777216) : Bs (w.alloc (.cells #[.int .u8 ((n : Int) % 256), .int .u8 ((n : Int) / 256 % 256), .int .u8 ((n : Int) / 65536)] 5)) (.slice (some ⟨w.heap.size, 0, none⟩) 3 3) (part n) := by
  have e1 : (n : Int) % 256 = ((n % 256 : Nat) : Int) := by omega
  have e2 : (n : Int) / 256 % 256 = ((n / 256 % 256 : Nat) : Int) := by omega
  have e3 : (n : Int) / 65536 = ((n / 65536 % 256 : Nat) : Int) := by omega
  rw [e1, e2, e3]
  refine ⟨_, 3, rfl, Nat.le_refl _, by decide, fun _ => ⟨_, _, rfl, fun k hk => ?_⟩⟩
  rw [part_len] at hk
  match k, hk with
  | 0, _ => simp [B, part, u8_toNat]
  | 1, _ => simp [B, part, u8_toNat]
  | 2, _ => simp [B, part, u8_toNat]

theorem conv_u32 (n : Nat) (hn : n < 16777216) (w : World) : (convert 102 135 (.float .f64 (fl n))).run Tryz.prog w = .ok (.int .u32 n) w := by
  refine run_convert_float_int w 102 135 .f64 .u32 _ n (by kernel_rfl) Tryz.underlying135 (fl_int n ?_ .u32 ?_ ?_)
  · unfold Small
    have : (2 : Nat) ^ 53 = 9007199254740992 := by decide
    omega
  · have : IntKind.min .u32 = 0 := by decide
    omega
  · have : IntKind.max .u32 = 4294967295 := by decide
    omega

set_option maxRecDepth 100000 in
set_option maxHeartbeats 1000000 in
theorem lay_any (base : Nat) (w : World) (v : Value) (bs : List UInt8) (n : Nat) (hn : n < 16777216) (h : w.ownsRow base 5 1 v bs.length (bs.map B)) (hb : base ≤ w.heap.size) (hl : bs.length + 3 ≤ 140737488355328) :
    Calls Tryz.prog 75 #[v, .float .f64 (fl n)] w (Onto base v (bs ++ part n) w) := by
  have hq := conv_u32 n hn
  have H := Hid_mk h
  clear h
  go_enter Tryz.func75, Tryz.ntmps75
  go_wp2_with (at_builtin; (refine wpList_append_bs _ rfl _ _ rfl base _ bs rfl (H.out.alloc _) _ (part n) rfl (bs_part w n hn) ?c1 ?c2 ?_))
  case c1 => rw [part_len]; exact hl
  case c2 => simp; omega
  · intro v' w1 happ
    have hfin : Onto base v (bs ++ part n) w (.returned v') w1 := ⟨v', rfl, happ.1, app_kept happ fun k _ e => e.symm⟩
    have HF := Hid_mk hfin
    clear happ hfin hq
    go_wp2
    go_ret
    exact HF.out

set_option maxRecDepth 100000 in
set_option maxHeartbeats 1000000 in
theorem seal_any (w : World) (v : Value) (bs : List UInt8) (h : Bs w v bs) (hl : bs.length + 6 ≤ 140737488355328) :
    Calls Tryz.prog 49 #[v] w (NewBs w (sealed bs)) := by
  obtain ⟨i0, hi, hz0, hz1, hz2⟩ := info_parts info5
  have H := Hid_mk h
  obtain ⟨a, cap, rfl, hlc, hm, -⟩ := h
  have sl := pl.sum_lt bs
  have s1 : (pl.sum bs).1 < 16777216 := by have := sl.1; unfold pl.P at this; omega
  have s2 : (pl.sum bs).2 < 16777216 := by have := sl.2; unfold pl.P at this; omega
  have hml : bs.length + 6 ≤ maxLen := by unfold maxLen; omega
  unfold maxLen at hm
  clear sl
  go_enter Tryz.func49, Tryz.ntmps49
  go_wp2_with fail
  refine (sum_any _ _ _ H.out).mono ?_
  rintro e w' ⟨rfl, rfl⟩
  unfold cx
  go_wp2_with (at_make; refine wpList_make_own _ rfl _ _ 34 rfl w.heap.size 5 i0 (.int .u8 0) 1 Tryz.underlying34 hi hz0 hz1 _ _ _ (bs.length + 6) rfl rfl (by omega) ?b1 ?b2 (Nat.le_refl _) ?_)
  case b1 => rw [hz2]; omega
  case b2 => exact hml
  · intro w1 hown1 hgr1
    have k1 : Kp No w w1 := (Kp.refl No w).grown hgr1 fun k hk e => by cases e
    have K1 := Hid_mk k1
    have hx := bs_no H.out k1
    have HX := Hid_mk hx
    have hz : w.heap.size ≤ w1.heap.size := k1.size
    clear hgr1 k1 hx
    go_wp2_with (at_builtin; (refine wpList_append_bs _ rfl _ _ rfl w.heap.size _ [] rfl hown1 _ bs rfl HX.out ?c1 ?c2 ?_))
    case c1 => simp; omega
    case c2 => exact hz
    · intro v2 w2 happ2
      have k2 : Kp No w w2 := K1.out.grown happ2.2.1 fun k hk e => by have := (hown1.lt k e).1; omega
      have hz2' := k2.size
      have K2 := Hid_mk k2
      have O2 := Hid_mk happ2.1
      clear hown1 happ2 k2
      go_wp2_with fail
      refine (lay_any w.heap.size w2 _ _ (pl.sum bs).1 s1 O2.out hz2' (by simp; omega)).mono ?_
      rintro e w3 ⟨v3, rfl, o3, k3⟩
      have O3 := Hid_mk o3
      have k3' : Kp No w w3 := K2.out.trans k3 fun i hi e => by have := (O2.out.lt i e.symm).1; omega
      have hz3 := k3'.size
      have K3 := Hid_mk k3'
      clear o3 k3 k3'
      go_wp2_with fail
      refine (lay_any w.heap.size w3 _ _ (pl.sum bs).2 s2 O3.out hz3 (by simp [part_len]; omega)).mono ?_
      rintro e w4 ⟨v4, rfl, o4, k4⟩
      have hfin : NewBs w (sealed bs) (.returned v4) w4 := by
        refine ⟨v4, rfl, ?_, K3.out.trans k4 fun i hi e => by have := (O3.out.lt i e.symm).1; omega⟩
        have e : sealed bs = [] ++ bs ++ part (pl.sum bs).1 ++ part (pl.sum bs).2 := by unfold sealed tail; simp
        rw [e]; exact o4
      have HF := Hid_mk hfin
      clear o4 k4 hfin
      go_wp2
      go_ret
      exact HF.out

end Go.Proofs.YteekcbbdbciddaaGreatDoor.seal

namespace Go.Proofs.YteekcbbdbciddaaGreatDoor.unseal
open Go.RowKit Go.Proofs.YteekcbbdbciddaaGreatDoor.sum Go.Proofs.YteekcbbdbciddaaGreatDoor.kept Go.Proofs.YteekcbbdbciddaaGreatDoor.app Go.Proofs.YteekcbbdbciddaaGreatDoor.writer Go.Proofs.YteekcbbdbciddaaGreatDoor.clone Go.Proofs.YteekcbbdbciddaaGreatDoor.known
set_option linter.unusedVariables false

/-- behind a draw everything reads as before -/
theorem bs_drewN {w : World} {v : Value} {bs : List UInt8} (n : Nat) (h : Bs w v bs) : Bs (w.drewN n) v bs := bs_no h ((Kp.refl _ _).drewN n)

/-- a cut of a slice of bytes -/
theorem bs_take {w : World} {b : Option Addr} {len cap : Nat} {bs : List UInt8} (h : Bs w (.slice b len cap) bs) (k : Nat) (hk : k ≤ len) : Bs w (.slice b k cap) (bs.take k) := by
  obtain ⟨a, c, e, h1, h2, h3⟩ := h
  simp only [Value.slice.injEq] at e
  obtain ⟨rfl, rfl, rfl⟩ := e
  refine ⟨b, cap, by rw [List.length_take, Nat.min_eq_left hk], by rw [List.length_take]; omega, h2, fun hne => ?_⟩
  obtain ⟨B, o, rfl, hc⟩ := h3 (by intro e; subst e; simp at hne)
  refine ⟨B, o, rfl, fun i hi => ?_⟩
  rw [List.length_take] at hi
  rw [hc i (by omega)]
  simp [List.getD, show i < k by omega]

theorem bs_drop {w : World} {b o len cap : Nat} {bs : List UInt8} (h : Bs w (.slice (some ⟨b, o, none⟩) len cap) bs) (k : Nat) (hk : k ≤ len) (ao : Option Addr) (hao : ¬ k = cap → ao = some ⟨b, o + k, none⟩) : Bs w (.slice ao (len - k) (cap - k)) (bs.drop k) := by
  obtain ⟨a, c, e, h1, h2, h3⟩ := h
  simp only [Value.slice.injEq] at e
  obtain ⟨rfl, rfl, rfl⟩ := e
  refine ⟨ao, _, by rw [List.length_drop], by rw [List.length_drop]; omega, by omega, fun hne => ?_⟩
  have hlt : k < bs.length := by
    rcases Nat.lt_or_ge k bs.length with h | h
    · exact h
    · rw [List.drop_of_length_le h] at hne; exact absurd rfl hne
  obtain ⟨B, o', e, hc⟩ := h3 (by intro e; subst e; simp at hlt)
  cases e
  refine ⟨_, _, hao (by omega), fun i hi => ?_⟩
  rw [List.length_drop] at hi
  rw [Nat.add_assoc, hc (k + i) (by omega)]
  simp [List.getD]

end Go.Proofs.YteekcbbdbciddaaGreatDoor.unseal

namespace Go.Proofs.YteekcbbdbciddaaGreatDoor.unseal
open Go.RowKit Go.Proofs.YteekcbbdbciddaaGreatDoor.sum Go.Proofs.YteekcbbdbciddaaGreatDoor.kept Go.Proofs.YteekcbbdbciddaaGreatDoor.app Go.Proofs.YteekcbbdbciddaaGreatDoor.writer Go.Proofs.YteekcbbdbciddaaGreatDoor.clone Go.Proofs.YteekcbbdbciddaaGreatDoor.known Go.Proofs.YteekcbbdbciddaaGreatDoor.fl Go.Proofs.YteekcbbdbciddaaGreatDoor.seal
set_option linter.unusedVariables false

/-- the number of three bytes -/
def num3 (bs : List UInt8) : Nat := (bs.getD 0 0).toNat + 256 * (bs.getD 1 0).toNat + 65536 * (bs.getD 2 0).toNat

theorem or3 (p q r : Nat) (hp : p < 256) (hq : q < 256) (hr : r < 256) : bits .or .u32 (bits .or .u32 (p : Int) ((q : Int) * 256)) ((r : Int) * 65536) = ((p + 256 * q + 65536 * r : Nat) : Int) := by
  have e1 : bits .or .u32 (p : Int) ((q : Int) * 256) = ((p + 256 * q : Nat) : Int) := by
    rw [u32_or _ _ (by omega) (by omega) (by omega) (by omega), show ((p : Int)).toNat = p by omega, show ((q : Int) * 256).toNat = q * 256 by omega, Nat.or_comm, nat_join 8 (q * 256) p (by omega) (by omega)]
    congr 1; omega
  rw [e1, u32_or _ _ (by omega) (by omega) (by omega) (by omega), show (((p + 256 * q : Nat) : Int)).toNat = p + 256 * q by omega, show ((r : Int) * 65536).toNat = r * 65536 by omega, Nat.or_comm, nat_join 16 (r * 65536) (p + 256 * q) (by omega) (by omega)]
  congr 1; omega

set_option maxRecDepth 100000 in
set_option maxHeartbeats 1000000 in
theorem read_any (w : World) (v : Value) (bs : List UInt8) (h : Bs w v bs) (hl : 3 ≤ bs.length) :
    Calls Tryz.prog 143 #[v] w fun e w' => e = .returned (.float .f64 (fl (num3 bs))) ∧ ∃ n, w' = w.drewN n := by
  obtain ⟨a, cap, rfl, hlc, hm, hc⟩ := h
  obtain ⟨b, o, rfl, hcell⟩ := hc (by intro e; subst e; simp at hl)
  have c0 : w.cell? ⟨b, o, none⟩ = some (.int .u8 ((bs.getD 0 0).toNat : Int)) := hcell 0 (by omega)
  have c1 : w.cell? ⟨b, o + 1, none⟩ = some (.int .u8 ((bs.getD 1 0).toNat : Int)) := hcell 1 (by omega)
  have c2 : w.cell? ⟨b, o + 2, none⟩ = some (.int .u8 ((bs.getD 2 0).toNat : Int)) := hcell 2 (by omega)
  have l0 : (0 : Int) < (bs.length : Int) := by omega
  have l1 : (1 : Int) < (bs.length : Int) := by omega
  have l2 : (2 : Int) < (bs.length : Int) := by omega
  unfold num3
  have x0 : (bs.getD 0 0).toNat < 256 := UInt8.toNat_lt _
  have x1 : (bs.getD 1 0).toNat < 256 := UInt8.toNat_lt _
  have x2 : (bs.getD 2 0).toNat < 256 := UInt8.toNat_lt _
  generalize (bs.getD 0 0).toNat = p at *
  generalize (bs.getD 1 0).toNat = q at *
  generalize (bs.getD 2 0).toNat = r at *
  generalize bs.length = len at *
  clear hcell hc
  go_enter Tryz.func143, Tryz.ntmps143
  go_wp2
  go_quiet (fail)
  rw [or3 p q r x0 x1 x2]
  go_wp2
  go_ret
  exact ⟨rfl, _, rfl⟩

set_option maxRecDepth 100000 in
set_option maxHeartbeats 1000000 in
theorem unseal_short (w : World) (v : Value) (bs : List UInt8) (h : Bs w v bs) (hl : bs.length < 6) :
    Calls Tryz.prog 122 #[v] w fun e w' => e = .returned (.tuple #[.slice none 0 0, .int .i64 10]) ∧ w = w' := by
  obtain ⟨a, cap, rfl, hlc, hm, hc⟩ := h
  have hlt : (bs.length : Int) < 6 := by omega
  generalize bs.length = len at *
  clear hc
  go_enter Tryz.func122, Tryz.ntmps122
  go_wp2
  go_ret2
  exact ⟨rfl, rfl⟩

theorem quiet_sum {w : World} {v : Value} {bs : List UInt8} {n : Nat} (h : Bs w v bs) :
    Calls Tryz.prog 74 #[v] (w.drewN n) fun e w'' => e = .returned (cx (pl.sum bs)) ∧ ∃ m, w'' = w.drewN m :=
  (sum_any _ _ _ (bs_drewN n h)).mono fun _ _ ⟨he, hm⟩ => ⟨he, n, hm.symm⟩
theorem quiet_read {w : World} {v : Value} {bs : List UInt8} {n : Nat} (h : Bs w v bs) (hl : 3 ≤ bs.length) :
    Calls Tryz.prog 143 #[v] (w.drewN n) fun e w'' => e = .returned (.float .f64 (fl (num3 bs))) ∧ ∃ m, w'' = w.drewN m :=
  Calls.quiet_of (read_any _ _ _ (bs_drewN n h) hl)

/-- the pair that the last six bytes say -/
def said (tl : List UInt8) : Nat × Nat := (num3 tl, num3 (tl.drop 3))
theorem num3_lt (bs : List UInt8) : num3 bs < 16777216 := by
  unfold num3
  have x0 : (bs.getD 0 0).toNat < 256 := UInt8.toNat_lt _
  have x1 : (bs.getD 1 0).toNat < 256 := UInt8.toNat_lt _
  have x2 : (bs.getD 2 0).toNat < 256 := UInt8.toNat_lt _
  omega

theorem neq_said (s : Nat × Nat) (hs : s.1 < pl.P ∧ s.2 < pl.P) (tl : List UInt8) (ty : TypeId) (w : World) :
    (binOp .neq ty (cx s) (.complex .f64 (fl (num3 tl)) (fl (num3 (tl.drop 3))))).run Tryz.prog w = .ok (.bool (!decide (s = said tl))) w := by
  have sm : ∀ n : Nat, n < 16777216 → Small (n : Int) := fun n h => by
    unfold Small
    have : (2 : Nat) ^ 53 = 9007199254740992 := by decide
    omega
  unfold pl.P at hs
  unfold cx said
  rw [run_neq_complex, fl_eql _ _ (sm _ (by omega)) (sm _ (num3_lt _)), fl_eql _ _ (sm _ (by omega)) (sm _ (num3_lt _))]
  congr 3
  rw [Bool.eq_iff_iff]
  simp [Prod.ext_iff]
  omega

def Unsealed (w : World) (bs : List UInt8) (e : Ending) (w' : World) : Prop :=
  Kp No w w' ∧ ∃ v', e = .returned (.tuple #[v', .int .i64 0]) ∧ w'.ownsRow w.heap.size 5 1 v' bs.length (bs.map B)
def Broken (w : World) (c : Int) (e : Ending) (w' : World) : Prop := Kp No w w' ∧ e = .returned (.tuple #[.slice none 0 0, .int .i64 c])

set_option maxRecDepth 100000 in
set_option maxHeartbeats 1000000 in
theorem unseal_core (w : World) (b o k cap : Nat) (hk : k + 6 ≤ cap) (hkm : k ≤ 140737488355328) (xs tl : List UInt8) (hx : Bs w (.slice (some ⟨b, o, none⟩) k cap) xs) (ht : Bs w (.slice (some ⟨b, o + k, none⟩) 6 (cap - k)) tl)
    (ht2 : Bs w (.slice (some ⟨b, o + k + 3, none⟩) 3 (cap - k - 3)) (tl.drop 3)) :
    Calls Tryz.prog 122 #[.slice (some ⟨b, o, none⟩) (k + 6) cap] w fun e w' => if pl.sum xs = said tl then Unsealed w xs e w' else Broken w 13 e w' := by
  have l6 : tl.length = 6 := by obtain ⟨_, _, e, _⟩ := ht; simp only [Value.slice.injEq] at e; exact e.2.1.symm
  have lx : xs.length = k := by obtain ⟨_, _, e, _⟩ := hx; simp only [Value.slice.injEq] at e; exact e.2.1.symm
  have HX := Hid_mk hx
  have HT := Hid_mk ht
  have HT2 := Hid_mk ht2
  have HL := Hid_mk l6
  have HLX := Hid_mk lx
  have hneq := fun t w => neq_said (pl.sum xs) (pl.sum_lt xs) tl t w
  clear hx ht ht2 l6 lx
  by_cases hs : pl.sum xs = said tl
  · simp only [hs, decide_true, Bool.not_true] at hneq
    simp only [hs, if_true]
    rw [← hs] at hneq
    have HS := Hid_mk hs
    clear hs
    go_enter Tryz.func122, Tryz.ntmps122
    go_wp2
    go_quiet (fail)
    obtain ⟨w0, hw0⟩ : ∃ w0, w0 = w.drewN nq := ⟨_, rfl⟩
    rw [← hw0]
    have HW := Hid_mk hw0
    clear hw0
    have HX0 : Hid (Bs w0 _ _) := Hid_mk (HW.out ▸ bs_drewN nq HX.out)
    have HT0 : Hid (Bs w0 _ _) := Hid_mk (HW.out ▸ bs_drewN nq HT.out)
    have HT20 : Hid (Bs w0 _ _) := Hid_mk (HW.out ▸ bs_drewN nq HT2.out)
    go_wp2
    go_quiet ((first | (go_at_call 74; exact quiet_sum HX0.out) | (go_at_call 143; first | exact quiet_read HT0.out (by rw [HL.out]; omega) | exact quiet_read HT20.out (by rw [List.length_drop, HL.out]; omega))))
    go_wp2_with fail
    refine (clone_any _ _ xs (bs_drewN _ HX0.out) (by rw [HLX.out]; exact hkm)).mono ?_
    rintro e w1 ⟨v1, rfl, ho, hk1⟩
    have hfin : Unsealed w xs (.returned (.tuple #[v1, .int .i64 0])) w1 := by
      have h0 := HW.out
      subst h0
      exact ⟨(((Kp.refl No w).drewN _).drewN _).trans' hk1, v1, rfl, owns_base ho (Nat.le_refl _)⟩
    have HF := Hid_mk hfin
    clear ho hk1 hfin hneq
    go_wp2
    go_ret2
    exact HF.out
  · simp only [hs, decide_false, Bool.not_false] at hneq
    simp only [hs, if_false]
    have HS := Hid_mk hs
    clear hs
    go_enter Tryz.func122, Tryz.ntmps122
    go_wp2
    go_quiet (fail)
    obtain ⟨w0, hw0⟩ : ∃ w0, w0 = w.drewN nq := ⟨_, rfl⟩
    rw [← hw0]
    have HW := Hid_mk hw0
    clear hw0
    have HX0 : Hid (Bs w0 _ _) := Hid_mk (HW.out ▸ bs_drewN nq HX.out)
    have HT0 : Hid (Bs w0 _ _) := Hid_mk (HW.out ▸ bs_drewN nq HT.out)
    have HT20 : Hid (Bs w0 _ _) := Hid_mk (HW.out ▸ bs_drewN nq HT2.out)
    go_wp2
    go_quiet ((first | (go_at_call 74; exact quiet_sum HX0.out) | (go_at_call 143; first | exact quiet_read HT0.out (by rw [HL.out]; omega) | exact quiet_read HT20.out (by rw [List.length_drop, HL.out]; omega))))
    go_wp2
    go_ret2
    have h0 := HW.out
    subst h0
    exact ⟨((Kp.refl No w).drewN _).drewN _, rfl⟩

theorem unseal_any (w : World) (v : Value) (bs : List UInt8) (h : Bs w v bs) (hl : 6 ≤ bs.length) (hm : bs.length ≤ 140737488355328) :
    Calls Tryz.prog 122 #[v] w fun e w' => if pl.sum (bs.take (bs.length - 6)) = said (bs.drop (bs.length - 6)) then Unsealed w (bs.take (bs.length - 6)) e w' else Broken w 13 e w' := by
  have H := h
  obtain ⟨a, cap, rfl, hlc, hmx, hc⟩ := h
  obtain ⟨b, o, rfl, hcell⟩ := hc (by intro e; subst e; simp at hl)
  obtain ⟨k, hk⟩ : ∃ k, bs.length = k + 6 := ⟨bs.length - 6, by omega⟩
  have hx := bs_take H k (by omega)
  have ht := bs_drop H k (by omega) (some ⟨b, o + k, none⟩) (fun _ => rfl)
  have ht2 := bs_drop ht 3 (by omega) (some ⟨b, o + k + 3, none⟩) (fun _ => rfl)
  rw [hk] at ht ht2 ⊢
  rw [show k + 6 - k = 6 by omega] at ht ht2
  rw [show k + 6 - 6 = k by omega]
  exact unseal_core w b o k cap (by omega) (by omega) _ _ hx ht ht2

/-- What Unseal answers. -/
def UnsealPost (w : World) (bs : List UInt8) (e : Ending) (w' : World) : Prop :=
  if bs.length < 6 then Broken w 10 e w'
  else if pl.sum (bs.take (bs.length - 6)) = said (bs.drop (bs.length - 6)) then Unsealed w (bs.take (bs.length - 6)) e w' else Broken w 13 e w'

theorem unseal_all (w : World) (v : Value) (bs : List UInt8) (h : Bs w v bs) (hm : bs.length ≤ 140737488355328) :
    Calls Tryz.prog 122 #[v] w (UnsealPost w bs) := by
  by_cases hl : bs.length < 6
  · refine (unseal_short w v bs h hl).mono fun e w' ⟨he, hw⟩ => ?_
    unfold UnsealPost
    rw [if_pos hl]
    subst hw
    exact ⟨Kp.refl _ _, he⟩
  · refine (unseal_any w v bs h (by omega) hm).mono fun e w' hp => ?_
    unfold UnsealPost
    rw [if_neg hl]
    exact hp

end Go.Proofs.YteekcbbdbciddaaGreatDoor.unseal
