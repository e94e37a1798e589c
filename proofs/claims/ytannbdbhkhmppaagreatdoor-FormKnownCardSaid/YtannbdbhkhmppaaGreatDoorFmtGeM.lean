/- internal/strconv.fmtEFG at 'g', where one digit stands before a great exponent: 1e+300. Decimal digits in cells, as plain numbers. The library's decimal numbers in memory; noughts at their end cut off. Package num: where a numeral stands. The library's decimals: a shift to the left. Decimals: by how many digits a shift makes a number longer. -/
import Derived.Test.YtannbdbhkhmppaaGreatDoorFmtF
import Derived.Test.YtannbdbhkhmppaaGreatDoorFmtBase
import Derived.Test.YtannbdbhkhmppaaGreatDoorRow0M

namespace Go.Proofs.YtannbdbhkhmppaaGreatDoor.fmtf
open Go.RowKit Go.Proofs.YtannbdbhkhmppaaGreatDoor.sum Go.Proofs.YtannbdbhkhmppaaGreatDoor.kept Go.Proofs.YtannbdbhkhmppaaGreatDoor.app Go.Proofs.YtannbdbhkhmppaaGreatDoor.writer
set_option linter.unusedVariables false

theorem bs_three (w : World) (a b c : UInt8) : Bs (w.alloc (.cells #[.int .u8 (a.toNat : Int), .int .u8 (b.toNat : Int), .int .u8 (c.toNat : Int)] 5)) (.slice (some ⟨w.heap.size, 0, none⟩) 3 3) [a, b, c] := by
  refine ⟨_, 3, rfl, Nat.le_refl _, by decide, fun _ => ⟨_, _, rfl, fun k hk => ?_⟩⟩
  simp only [List.length_cons, List.length_nil] at hk
  have : k = 0 ∨ k = 1 ∨ k = 2 := by omega
  rcases this with rfl | rfl | rfl <;> simp [B]

theorem Dst.pushes {base : Nat} {w0 w w1 : World} {v0 v v' : Value} {bs xs : List UInt8} {o : Obj} (h : Dst base w0 v0 w v bs) (happ : App base (w.alloc o) v bs xs v' w1) : Dst base w0 v0 w1 v' (bs ++ xs) := by
  have k2 : Kp (fun k => some k = v.ownBlock) w w1 := app_kept happ fun k _ e => e.symm
  refine ⟨happ.1, h.kp.trans k2 fun i hi e => ?_, ?_, h.room⟩
  · rcases h.fresh with h2 | h2
    · exact e.trans h2
    · have := h2 i e.symm; omega
  · rcases app_fresh happ with h2 | h2
    · rcases h.fresh with h3 | h3
      · exact .inl (h2.trans h3)
      · exact .inr fun g hg => h3 g (by rw [← h2]; exact hg)
    · exact .inr fun g hg => Nat.le_trans h.kp.size (h2 g hg)

theorem one_is (w : World) (n : Int) (x : UInt8) (h : (x.toNat : Int) = n) : Bs (w.alloc (.cells #[.int .u8 n] 5)) (.slice (some ⟨w.heap.size, 0, none⟩) 1 1) [x] := h ▸ bs_one w x

set_option maxRecDepth 100000 in
set_option maxHeartbeats 16000000 in
theorem efg_1e300 (base : Nat) (w : World) (v0 : Value) (bs : List UInt8) (gs ls cs : Nat) (f : Nat → Nat) (hd : Dst base w v0 w v0 bs) (hs : BufAt w gs 0 1 f) (hgs : some gs ≠ v0.ownBlock) (hnl : 1 ≤ ls) (hlc : ls ≤ cs) (hcs : cs ≤ 1000) (hf : f 0 = 49) (hbs : bs.length ≤ 100000) :
    Calls Tryz.prog 86 #[v0, .bool false, .slice (some ⟨gs, 0, none⟩) ls cs, .int .i64 301, .int .i64 1, .int .i64 6, .int .u8 103, .bool false] w (EfPost base w v0 (bs ++ [49, 101, 43, 51, 48, 48])) := by
  have HD := Hid_mk hd
  have HLbs : Hid (bs.length ≤ 100000) := Hid_mk hbs
  obtain ⟨R, hR⟩ : ∃ R, EfPost base w v0 (bs ++ [49, 101, 43, 51, 48, 48]) = R := ⟨_, rfl⟩
  rw [hR]
  have HR := Hid_mk hR
  have c0 := hs.cell 0 (by omega)
  simp only [Nat.zero_add, hf] at c0
  have hls1 : (1 : Int) ≤ (ls : Int) := by omega
  have hls2 : (ls : Int) ≤ 1000 := by omega
  have hcs2 : (ls : Int) ≤ (cs : Int) := by omega
  clear hd hbs hR hs hf
  go_enter Tryz.func86, Tryz.ntmps86
  go_wp2_with (at_builtin; (refine wpList_append_bs _ rfl _ _ rfl base _ _ rfl (HD.out.owns.alloc _) _ [49] rfl (one_is _ _ 49 rfl) ?c1 ?c2 ?_))
  case c1 => have h8 := HLbs.out; simp; omega
  case c2 => have h8 := HD.out.room; have h9 := HD.out.kp.size; simp; omega
  intro v1 w1 happ
  have HD1 := Hid_mk (HD.out.push happ)
  clear happ
  go_wp2_with (at_builtin; (refine wpList_append_bs _ rfl _ _ rfl base _ _ rfl (HD1.out.owns.alloc _) _ [101] rfl (one_is _ _ 101 rfl) ?c1 ?c2 ?_))
  case c1 => have h8 := HLbs.out; simp; omega
  case c2 => have h8 := HD1.out.room; have h9 := HD1.out.kp.size; simp; omega
  intro v2 w2 happ
  have HD2 : Hid (Dst base w v0 w2 v2 (bs ++ [49, 101])) := Hid_mk (by have h := HD1.out.push happ; simpa [List.append_assoc] using h)
  clear happ
  go_wp2_with (at_builtin; (refine wpList_append_bs _ rfl _ _ rfl base _ _ rfl (HD2.out.owns.alloc _) _ [43] rfl (one_is _ _ 43 rfl) ?c1 ?c2 ?_))
  case c1 => have h8 := HLbs.out; simp; omega
  case c2 => have h8 := HD2.out.room; have h9 := HD2.out.kp.size; simp; omega
  intro v3 w3 happ
  have HD3 : Hid (Dst base w v0 w3 v3 (bs ++ [49, 101, 43])) := Hid_mk (by have h := HD2.out.push happ; simpa [List.append_assoc] using h)
  clear happ
  go_wp2_with (at_builtin; (refine wpList_append_bs _ rfl _ _ rfl base _ _ rfl (HD3.out.owns.alloc _) _ [51, 48, 48] rfl (bs_three _ 51 48 48) ?c1 ?c2 ?_))
  case c1 => have h8 := HLbs.out; simp; omega
  case c2 => have h8 := HD3.out.room; have h9 := HD3.out.kp.size; simp; omega
  intro v4 w4 happ
  have HD4 := Hid_mk (HD3.out.pushes happ)
  clear happ
  go_wp2_with fail
  rw [← HR.out]
  refine ⟨v4, rfl, ?_⟩
  have h := HD4.out
  simpa [List.append_assoc] using h

end Go.Proofs.YtannbdbhkhmppaaGreatDoor.fmtf

namespace Go.Proofs.YtannbdbhkhmppaaGreatDoor.fmtf
open Go.RowKit Go.Proofs.YtannbdbhkhmppaaGreatDoor.sum Go.Proofs.YtannbdbhkhmppaaGreatDoor.kept
set_option linter.unusedVariables false

/-- what the first cells are as a number -/
def valF (f : Nat → Nat) : Nat → Nat
  | 0 => 0
  | k + 1 => 10 * valF f k + (f k - 48)
def DgF (f : Nat → Nat) (n : Nat) : Prop := ∀ i, i < n → 48 ≤ f i ∧ f i ≤ 57
theorem valF_lt {f : Nat → Nat} : ∀ {n : Nat}, DgF f n → valF f n < 10 ^ n
  | 0, _ => by rw [valF]; decide
  | n + 1, h => by
    have h1 := valF_lt (n := n) fun i hi => h i (by omega)
    have h2 := h n (by omega)
    rw [valF, Nat.pow_succ]
    omega
theorem val_dig {f : Nat → Nat} {n : Nat} (h : DgF f n) : ∀ {r : Nat}, r < n → valF f n / 10 ^ (n - 1 - r) % 10 = f r - 48 := by
  induction n with
  | zero => intro r hr; omega
  | succ n ih =>
    intro r hr
    have h2 := h n (by omega)
    rcases Nat.lt_or_ge r n with hl | hl
    · have e : n + 1 - 1 - r = (n - 1 - r) + 1 := by omega
      rw [e, Nat.pow_succ, Nat.mul_comm, ← Nat.div_div_eq_div_mul, valF, show (10 * valF f n + (f n - 48)) / 10 = valF f n by omega]
      exact ih (fun i hi => h i (by omega)) hl
    · obtain rfl : r = n := by omega
      rw [show r + 1 - 1 - r = 0 by omega, Nat.pow_zero, Nat.div_one, valF]
      omega
theorem val_of_dgt {f : Nat → Nat} {n P : Nat} (hf : ∀ i, i < n → f i = dgt P n i) (hP : P < 10 ^ n) : ∀ k, k ≤ n → valF f k = P / 10 ^ (n - k)
  | 0, _ => by rw [valF, Nat.sub_zero, Nat.div_eq_of_lt hP]
  | k + 1, hk => by
    rw [valF, hf k (by omega), val_of_dgt hf hP k (by omega)]
    unfold dgt
    rw [show n - k = (n - 1 - k) + 1 by omega, show n - (k + 1) = n - 1 - k by omega, Nat.pow_succ, ← Nat.div_div_eq_div_mul]
    omega
/-- what is carried, t digits from the right being done -/
def carN (V k t : Nat) : Nat := V % 10 ^ t * 2 ^ k / 10 ^ t
theorem car_zero (V k : Nat) : carN V k 0 = 0 := by unfold carN; rw [Nat.pow_zero, Nat.mod_one, Nat.zero_mul]
theorem car_lt (V k t : Nat) : carN V k t < 2 ^ k := by
  unfold carN
  have hp : 0 < 10 ^ t := Nat.pow_pos (by omega)
  rw [Nat.div_lt_iff_lt_mul hp, Nat.mul_comm (2 ^ k)]
  exact Nat.mul_lt_mul_of_pos_right (Nat.mod_lt _ hp) (Nat.pow_pos (by omega))
theorem car_step (V k t : Nat) : carN V k t + V / 10 ^ t % 10 * 2 ^ k = V % 10 ^ (t + 1) * 2 ^ k / 10 ^ t := by
  unfold carN
  have hp : 0 < 10 ^ t := Nat.pow_pos (by omega)
  have e : V % 10 ^ (t + 1) = V % 10 ^ t + 10 ^ t * (V / 10 ^ t % 10) := by rw [Nat.pow_succ, Nat.mod_mul]
  rw [e, Nat.add_mul, Nat.mul_assoc, Nat.add_mul_div_left _ _ hp]
theorem car_quo (V k t : Nat) : (carN V k t + V / 10 ^ t % 10 * 2 ^ k) / 10 = carN V k (t + 1) := by
  rw [car_step, Nat.div_div_eq_div_mul, ← Nat.pow_succ]
  rfl
theorem car_rem (V k t : Nat) : (carN V k t + V / 10 ^ t % 10 * 2 ^ k) % 10 = V * 2 ^ k / 10 ^ t % 10 := by
  rw [car_step]
  have hp : 0 < 10 ^ t := Nat.pow_pos (by omega)
  have e : V = V % 10 ^ (t + 1) + 10 ^ t * (10 * (V / 10 ^ (t + 1))) := by
    have := Nat.mod_add_div V (10 ^ (t + 1))
    rw [← Nat.mul_assoc, ← Nat.pow_succ]
    exact this.symm
  conv => rhs; rw [e, Nat.add_mul, Nat.mul_assoc, Nat.add_mul_div_left _ _ hp, Nat.mul_assoc, Nat.add_mul_mod_self_left]
theorem car_end {V n : Nat} (k : Nat) (h : V < 10 ^ n) : carN V k n = V * 2 ^ k / 10 ^ n := by unfold carN; rw [Nat.mod_eq_of_lt h]
/-- how many decimal digits -/
def dlF : Nat → Nat → Nat
  | 0, _ => 0
  | f + 1, v => if v = 0 then 0 else dlF f (v / 10) + 1
def dlen (v : Nat) : Nat := dlF (v + 1) v
theorem dlF_is : ∀ (f v : Nat), v < f → (v < 10 ^ dlF f v ∧ (0 < v → 10 ^ (dlF f v - 1) ≤ v ∧ 0 < dlF f v))
  | 0, v, h => by omega
  | f + 1, v, h => by
    rw [dlF]
    split
    · rename_i e; subst e; exact ⟨by decide, fun h => absurd h (by omega)⟩
    · rename_i e
      obtain ⟨h1, h2⟩ := dlF_is f (v / 10) (by omega)
      refine ⟨by rw [Nat.pow_succ]; omega, fun _ => ⟨?_, by omega⟩⟩
      rw [Nat.add_sub_cancel]
      rcases Nat.eq_zero_or_pos (v / 10) with e0 | e0
      · have : dlF f (v / 10) = 0 := by rw [e0]; cases f with | zero => rfl | succ f => rw [dlF, if_pos rfl]
        rw [this]; omega
      · obtain ⟨h3, h4⟩ := h2 e0
        rw [show dlF f (v / 10) = (dlF f (v / 10) - 1) + 1 by omega, Nat.pow_succ]
        omega
theorem dlen_lt (v : Nat) : v < 10 ^ dlen v := (dlF_is (v + 1) v (by omega)).1
theorem dlen_ge {v : Nat} (h : 0 < v) : 10 ^ (dlen v - 1) ≤ v ∧ 0 < dlen v := (dlF_is (v + 1) v (by omega)).2 h
theorem dlen_uniq {v n : Nat} (h1 : v < 10 ^ n) (h2 : 10 ^ (n - 1) ≤ v) (h3 : 0 < n) : dlen v = n := by
  have hv : 0 < v := Nat.lt_of_lt_of_le (Nat.pow_pos (by omega)) h2
  obtain ⟨a, b⟩ := dlen_ge hv
  have c := dlen_lt v
  rcases Nat.lt_trichotomy (dlen v) n with h | h | h
  · have := Nat.pow_le_pow_right (show 0 < 10 by omega) (show dlen v ≤ n - 1 by omega)
    omega
  · exact h
  · have := Nat.pow_le_pow_right (show 0 < 10 by omega) (show n ≤ dlen v - 1 by omega)
    omega
theorem dlen_mul {v : Nat} (h : 0 < v) (z : Nat) : dlen (v * 10 ^ z) = dlen v + z := by
  obtain ⟨a, b⟩ := dlen_ge h
  refine dlen_uniq ?_ ?_ (by omega)
  · rw [Nat.pow_add]
    exact Nat.mul_lt_mul_of_pos_right (dlen_lt v) (Nat.pow_pos (by omega))
  · rw [show dlen v + z - 1 = (dlen v - 1) + z by omega, Nat.pow_add]
    exact Nat.mul_le_mul_right _ a
theorem dgt_mul (P n z i : Nat) (h : i < n) : dgt (P * 10 ^ z) (n + z) i = dgt P n i := by
  unfold dgt
  rw [show n + z - 1 - i = z + (n - 1 - i) by omega, Nat.pow_add, ← Nat.div_div_eq_div_mul, Nat.mul_div_cancel _ (Nat.pow_pos (by omega))]
theorem dgt_tail (P n z i : Nat) (h1 : n ≤ i) (h2 : i < n + z) : dgt (P * 10 ^ z) (n + z) i = 48 := by
  unfold dgt
  obtain ⟨y, hy⟩ : ∃ y, z = (n + z - 1 - i) + (y + 1) := ⟨z - (n + z - 1 - i) - 1, by omega⟩
  have : P * 10 ^ z / 10 ^ (n + z - 1 - i) = P * 10 ^ (y + 1) := by
    conv => lhs; arg 1; rw [hy, Nat.pow_add, Nat.mul_comm (10 ^ (n + z - 1 - i)), ← Nat.mul_assoc]
    exact Nat.mul_div_cancel _ (Nat.pow_pos (by omega))
  rw [this, Nat.pow_succ, ← Nat.mul_assoc, Nat.mul_mod_left]
theorem trim_congr {f g : Nat → Nat} : ∀ {n : Nat}, (∀ i, i < n → f i = g i) → trimN f n = trimN g n
  | 0, _ => rfl
  | n + 1, h => by rw [trimN, trimN, h n (by omega), trim_congr fun i hi => h i (by omega)]
theorem trim_tail {f : Nat → Nat} {n : Nat} : ∀ {z : Nat}, (∀ i, n ≤ i → i < n + z → f i = 48) → trimN f (n + z) = trimN f n
  | 0, _ => rfl
  | z + 1, h => by
    show trimN f (n + z + 1) = _
    rw [trimN, if_pos (h _ (by omega) (by omega)), trim_tail fun i h1 h2 => h i h1 (by omega)]
theorem trim_zeros {f : Nat → Nat} : ∀ {n i : Nat}, trimN f n ≤ i → i < n → f i = 48
  | 0, i, _, h => by omega
  | n + 1, i, h1, h2 => by
    rw [trimN] at h1
    split at h1
    · rename_i e
      rcases Nat.lt_or_ge i n with hl | hl
      · exact trim_zeros h1 hl
      · obtain rfl : i = n := by omega
        exact e
    · omega
theorem trim_pos {f : Nat → Nat} {n : Nat} (h : 0 < n) (h0 : f 0 ≠ 48) : 0 < trimN f n := by
  rcases Nat.eq_zero_or_pos (trimN f n) with e | e
  · exact absurd (trim_zeros (n := n) (i := 0) (by omega) h) h0
  · exact e
/-- without the noughts behind it -/
theorem val_trim {f : Nat → Nat} : ∀ (n z : Nat), (∀ i, n ≤ i → i < n + z → f i = 48) → valF f (n + z) = valF f n * 10 ^ z
  | n, 0, _ => by simp
  | n, z + 1, h => by
    show valF f (n + z + 1) = _
    rw [valF, h _ (by omega) (by omega), val_trim n z fun i h1 h2 => h i h1 (by omega), Nat.pow_succ, Nat.sub_self, Nat.add_zero, Nat.mul_comm 10, Nat.mul_assoc]

end Go.Proofs.YtannbdbhkhmppaaGreatDoor.fmtf

namespace Go.Proofs.YtannbdbhkhmppaaGreatDoor.fmtf
open Go.RowKit Go.Proofs.YtannbdbhkhmppaaGreatDoor.sum Go.Proofs.YtannbdbhkhmppaaGreatDoor.kept
set_option linter.unusedVariables false

/-- a decimal: its cells, how many count, where the point stands, its sign, whether something was left out -/
structure DecAt (w : World) (q : Nat) (f : Nat → Nat) (nd : Nat) (dp : Int) (ng tr : Bool) : Prop where
  buf : BufAt w q 0 800 f
  c0 : w.cell? ⟨q, 800, none⟩ = some (.int .i64 (nd : Int))
  c1 : w.cell? ⟨q, 801, none⟩ = some (.int .i64 dp)
  c2 : w.cell? ⟨q, 802, none⟩ = some (.bool ng)
  c3 : w.cell? ⟨q, 803, none⟩ = some (.bool tr)
variable {w : World} {q : Nat} {f : Nat → Nat} {nd : Nat} {dp : Int} {ng tr : Bool}
theorem DecAt.at (h : DecAt w q f nd dp ng tr) (i : Nat) (hi : i < 800) : w.cell? ⟨q, i, none⟩ = some (.int .u8 (f i : Int)) := by
  have := h.buf.cell i hi
  rwa [Nat.zero_add] at this
theorem DecAt.warm (h : DecAt w q f nd dp ng tr) (i : Nat) : w.frozen? ⟨q, i, none⟩ = false := h.buf.warm i
theorem ne_addr {q i j : Nat} (h : i ≠ j) : (⟨q, i, none⟩ : Addr) ≠ ⟨q, j, none⟩ := by intro e; injection e with _ e; exact h e
theorem cell_set {w : World} {q i : Nat} {v x : Value} (h : w.cell? ⟨q, i, none⟩ = some x) : (w.setCell ⟨q, i, none⟩ v).cell? ⟨q, i, none⟩ = some v := World.cell?_setCell_same _ _ _ h
theorem cell_oth {w : World} {q i j : Nat} {v x : Value} (h : w.cell? ⟨q, j, none⟩ = some x) (hij : j ≠ i) : (w.setCell ⟨q, i, none⟩ v).cell? ⟨q, j, none⟩ = some x := by
  rw [World.cell?_setCell_other _ _ _ _ (ne_addr (Ne.symm hij))]
  exact h
theorem warm_set {w : World} {q i : Nat} {v : Value} (h : ∀ i, w.frozen? ⟨q, i, none⟩ = false) : ∀ j, (w.setCell ⟨q, i, none⟩ v).frozen? ⟨q, j, none⟩ = false := fun j => by simp only [World.frozen?_setCell]; exact h j
theorem DecAt.setD (h : DecAt w q f nd dp ng tr) (i v : Nat) (hi : i < 800) : DecAt (w.setCell ⟨q, i, none⟩ (.int .u8 (v : Int))) q (upd f i v) nd dp ng tr := by
  have hb := h.buf.set i v
  rw [Nat.zero_add] at hb
  exact ⟨hb, cell_oth h.c0 (by omega), cell_oth h.c1 (by omega), cell_oth h.c2 (by omega), cell_oth h.c3 (by omega)⟩
theorem buf_oth {w : World} {q i : Nat} {f : Nat → Nat} {v : Value} (h : BufAt w q 0 800 f) (hi : 800 ≤ i) : BufAt (w.setCell ⟨q, i, none⟩ v) q 0 800 f :=
  ⟨fun j hj => cell_oth (h.cell j hj) (by omega), warm_set h.warm⟩
theorem DecAt.setNd (h : DecAt w q f nd dp ng tr) (m : Nat) : DecAt (w.setCell ⟨q, 800, none⟩ (.int .i64 (m : Int))) q f m dp ng tr :=
  ⟨buf_oth h.buf (by omega), cell_set h.c0, cell_oth h.c1 (by omega), cell_oth h.c2 (by omega), cell_oth h.c3 (by omega)⟩
theorem DecAt.setDp (h : DecAt w q f nd dp ng tr) (m : Int) : DecAt (w.setCell ⟨q, 801, none⟩ (.int .i64 m)) q f nd m ng tr :=
  ⟨buf_oth h.buf (by omega), cell_oth h.c0 (by omega), cell_set h.c1, cell_oth h.c2 (by omega), cell_oth h.c3 (by omega)⟩
theorem DecAt.setTr (h : DecAt w q f nd dp ng tr) (b : Bool) : DecAt (w.setCell ⟨q, 803, none⟩ (.bool b)) q f nd dp ng b :=
  ⟨buf_oth h.buf (by omega), cell_oth h.c0 (by omega), cell_oth h.c1 (by omega), cell_oth h.c2 (by omega), cell_set h.c3⟩
theorem DecAt.drew (h : DecAt w q f nd dp ng tr) : DecAt w.drew q f nd dp ng tr :=
  have k := (Kp.refl No w).drew
  ⟨h.buf.drew, k.cell' h.c0 id, k.cell' h.c1 id, k.cell' h.c2 id, k.cell' h.c3 id⟩
theorem DecAt.drewN (h : DecAt w q f nd dp ng tr) (n : Nat) : DecAt (w.drewN n) q f nd dp ng tr :=
  have k := (Kp.refl No w).drewN n
  ⟨⟨fun i hi => k.cell' (h.buf.cell i hi) id, fun i => by have := h.buf.warm i; simpa using this⟩, k.cell' h.c0 id, k.cell' h.c1 id, k.cell' h.c2 id, k.cell' h.c3 id⟩
theorem DecAt.no {w' : World} {S : Nat → Prop} (h : DecAt w q f nd dp ng tr) (hk : Kp S w w') (hq : q < w.heap.size) (hS : ¬ S q) : DecAt w' q f nd dp ng tr :=
  ⟨⟨fun i hi => hk.cell' (h.buf.cell i hi) hS, fun i => (hk.frozen (p := ⟨q, i, none⟩) hq hS).trans (h.buf.warm i)⟩, hk.cell' h.c0 hS, hk.cell' h.c1 hS, hk.cell' h.c2 hS, hk.cell' h.c3 hS⟩
/-- how many count, read from memory -/
def ndOf (w : World) (q : Nat) : Nat := match w.cell? ⟨q, 800, none⟩ with
  | some (.int _ z) => z.toNat
  | _ => 0
theorem DecAt.ndIs (h : DecAt w q f nd dp ng tr) : ndOf w q = nd := by unfold ndOf; rw [h.c0]; simp
theorem kq_set {a w : World} {q i : Nat} {v : Value} (h : Kp (fun b => b = q) a w) : Kp (fun b => b = q) a (w.setCell ⟨q, i, none⟩ v) := h.setCell (p := ⟨q, i, none⟩) (fun _ => rfl) _
theorem buf_else {w : World} {q i g o n : Nat} {f : Nat → Nat} {v : Value} (h : BufAt w g o n f) (hg : g ≠ q) : BufAt (w.setCell ⟨q, i, none⟩ v) g o n f :=
  ⟨fun j hj => by rw [World.cell?_setCell_other _ _ _ _ (by intro e; injection e with e _; exact hg e.symm)]; exact h.cell j hj, fun j => by simp only [World.frozen?_setCell]; exact h.warm j⟩
/-- what a call of a decimal leaves -/
def DcPost (q : Nat) (w : World) (f : Nat → Nat) (nd : Nat) (dp : Int) (ng tr : Bool) (e : Ending) (w' : World) : Prop := e = .returned (.tuple #[]) ∧ Kp (fun b => b = q) w w' ∧ DecAt w' q f nd dp ng tr

set_option maxRecDepth 100000 in
set_option maxHeartbeats 4000000 in
theorem trim_any (w : World) (q : Nat) (f : Nat → Nat) (nd : Nat) (dp : Int) (ng tr : Bool) (h : DecAt w q f nd dp ng tr) (hnd : nd ≤ 800) :
    Calls Tryz.prog 116 #[.pointer (some ⟨q, 0, none⟩)] w (DcPost q w f (trimN f nd) (if trimN f nd = 0 then 0 else dp) ng tr) := by
  obtain ⟨R, hR⟩ : ∃ R, trimN f nd = R := ⟨_, rfl⟩
  obtain ⟨D, hD⟩ : ∃ D : Int, (if trimN f nd = 0 then 0 else dp) = D := ⟨_, rfl⟩
  rw [hD, hR]
  rw [hR] at hD
  have HD := Hid_mk hD
  have HR := Hid_mk hR
  have HH := Hid_mk h
  have HN := Hid_mk hnd
  clear hR hD h hnd
  go_enter Tryz.func116, Tryz.ntmps116
  go_wp2_with fail
  go_loopw [2] (fun _ wr => ∃ k : Nat, k ≤ nd ∧ trimN f k = R ∧ DecAt wr q f k dp ng tr ∧ Kp (fun b => b = q) w wr) (fun _ wr => ndOf wr q)
  case atStart => exact ⟨nd, Nat.le_refl _, HR.out, HH.out, Kp.refl _ _⟩
  case round =>
    obtain ⟨k, hk, ht, hd, hkp⟩ := hrel
    have HKd := Hid_mk hd
    have HKp := Hid_mk hkp
    have HT := Hid_mk ht
    have HKn := Hid_mk hk
    have hk0 : (0 : Int) ≤ (k : Int) := Int.natCast_nonneg _
    have hk8 : (k : Int) ≤ 800 := by have := HN.out; omega
    have c0 := hd.c0
    have hqs : q < wr.heap.size := World.block_lt_of_cell? wr _ hd.c0
    have cw := hd.warm
    have hm := hd.ndIs
    have HM := Hid_mk hm
    rcases k with _ | k
    · have hz : ¬ (0 : Int) < 0 := by omega
      have ht0 : R = 0 := ht.symm
      have c1 := hd.c1
      have hD0 : D = 0 := by rw [← HD.out, if_pos ht0]
      have HT0 := Hid_mk ht0
      have HD0 := Hid_mk hD0
      clear ht hk ht0 hD0 hd hkp hm
      rw [show ((0 : Nat) : Int) = 0 from rfl] at c0
      go_wp2_with fail
      go_quiet (fail)
      go_wp2
      go_end0
      exact ⟨rfl, (HKp.out.drewN nq).setCell (p := ⟨q, 801, none⟩) (fun _ => rfl) _, by rw [HT0.out, HD0.out]; exact (HKd.out.drewN nq).setDp 0⟩
    · have hpos : (0 : Int) < ((k + 1 : Nat) : Int) := by omega
      have hsub : ((k + 1 : Nat) : Int) - 1 = (k : Int) := by omega
      have hlt8 : (k : Int) < 800 := by omega
      have cd := hd.at k (by omega)
      obtain ⟨y, hy⟩ : ∃ y, f k = y := ⟨_, rfl⟩
      rw [hy] at cd
      have ht2 := ht
      rw [trimN, hy] at ht2
      by_cases h48 : y = 48
      · rw [if_pos h48] at ht2
        have h48i : (y : Int) = 48 := by omega
        have HT2 := Hid_mk ht2
        clear ht hk ht2 hy h48 hd hkp hm
        go_wp2_with fail
        go_quiet (fail)
        go_wp2
        go_roundw
        case rel => exact ⟨k, by have := HKn.out; omega, HT2.out, (HKd.out.drewN nq).setNd k, (HKp.out.drewN nq).setCell (p := ⟨q, 800, none⟩) (fun _ => rfl) _⟩
        case measure => rw [((HKd.out.drewN nq).setNd k).ndIs, HM.out]; omega
      · rw [if_neg h48] at ht2
        have h48i : ((y : Int) == 48) = false := by simp; omega
        have hne : ¬ ((k + 1 : Nat) : Int) = 0 := by omega
        have hD1 : D = dp := by rw [← HD.out, if_neg (by omega)]
        have HT2 := Hid_mk ht2
        have HD1 := Hid_mk hD1
        clear ht hk ht2 hy h48 hd hkp hm hD1
        go_wp2_with fail
        go_quiet (fail)
        go_wp2
        go_end0
        exact ⟨rfl, HKp.out.drewN nq, by rw [← HT2.out, HD1.out]; exact HKd.out.drewN nq⟩

end Go.Proofs.YtannbdbhkhmppaaGreatDoor.fmtf

namespace Go.Proofs.YtannbdbhkhmppaaGreatDoor.nums
open Go.RowKit Go.Proofs.YtannbdbhkhmppaaGreatDoor.sum Go.Proofs.YtannbdbhkhmppaaGreatDoor.kept Go.Proofs.YtannbdbhkhmppaaGreatDoor.str
set_option linter.unusedVariables false

def dgB (b : Nat) : Bool := decide (48 ≤ b) && decide (b ≤ 57)
def blB (b : Nat) : Bool := (decide (9 ≤ b) && decide (b ≤ 13)) || decide (b = 32)
def bt (l : List UInt8) (k : Nat) : Nat := (l.getD k 0).toNat
/-- past all that are such -/
def pastS (p : Nat → Bool) (l : List UInt8) : Nat → Nat → Nat
  | 0, k => k
  | f + 1, k => if k < l.length ∧ p (bt l k) = true then pastS p l f (k + 1) else k
def past (p : Nat → Bool) (l : List UInt8) (k : Nat) : Nat := pastS p l (l.length - k) k
theorem pastS_le (p : Nat → Bool) (l : List UInt8) : ∀ f k, k ≤ l.length → k ≤ pastS p l f k ∧ pastS p l f k ≤ l.length
  | 0, k, h => ⟨Nat.le_refl _, h⟩
  | f + 1, k, h => by
    rw [pastS]
    split
    · rename_i hc
      obtain ⟨h1, h2⟩ := pastS_le p l f (k + 1) hc.1
      exact ⟨by omega, h2⟩
    · exact ⟨Nat.le_refl _, h⟩
theorem past_le (p : Nat → Bool) (l : List UInt8) (k : Nat) (h : k ≤ l.length) : k ≤ past p l k ∧ past p l k ≤ l.length := pastS_le p l _ k h
theorem past_yes {p : Nat → Bool} {l : List UInt8} {k : Nat} (h : k < l.length) (hp : p (bt l k) = true) : past p l k = past p l (k + 1) := by
  unfold past
  obtain ⟨m, hm⟩ : ∃ m, l.length - k = m + 1 := ⟨l.length - k - 1, by omega⟩
  rw [hm, pastS, if_pos ⟨h, hp⟩, show l.length - (k + 1) = m by omega]
theorem past_no {p : Nat → Bool} {l : List UInt8} {k : Nat} (h : k < l.length → p (bt l k) = false) : past p l k = k := by
  unfold past
  rcases hm : l.length - k with _ | m
  · rfl
  · rw [pastS, if_neg]
    rintro ⟨h1, h2⟩
    rw [h h1] at h2
    cases h2
theorem bt_get (l : List UInt8) (k : Nat) (h : k < (st l).size) : ((st l)[k]'h).toNat = bt l k := by
  unfold bt
  have hk : k < l.length := by rw [st_size] at h; exact h
  have e : ((st l)[k]'h) = l[k] := by
    show l.toArray[k] = l[k]
    simp
  exact (congrArg UInt8.toNat e).trans (by simp [List.getD, hk])
theorem bt_lt (l : List UInt8) (k : Nat) : bt l k < 256 := UInt8.toNat_lt _
def RInt (w : World) (r : Nat) (e : Ending) (w' : World) : Prop := e = .returned (.int .i64 (r : Int)) ∧ w = w'

def signS (l : List UInt8) (k : Nat) : Nat := if k < l.length ∧ (bt l k = 43 ∨ bt l k = 45) then k + 1 else k
def mantS (l : List UInt8) (k : Nat) : Nat :=
  if past dgB l k = l.length ∨ bt l (past dgB l k) ≠ 46 then past dgB l k else if past dgB l (past dgB l k + 1) = k + 1 then k else past dgB l (past dgB l k + 1)
def expS (l : List UInt8) (k : Nat) : Nat :=
  if k = l.length ∨ (bt l k ≠ 101 ∧ bt l k ≠ 69) then k else if past dgB l (signS l (k + 1)) = signS l (k + 1) then k else past dgB l (signS l (k + 1))
def findS (l : List UInt8) : Nat × Nat :=
  if mantS l (signS l (past blB l 0)) = signS l (past blB l 0) then (0, 0) else (past blB l 0, expS l (mantS l (signS l (past blB l 0))))
def looksS (l : List UInt8) : Bool := decide (0 < (findS l).2) && decide (past blB l (findS l).2 = l.length)
theorem sign_le {l : List UInt8} {k : Nat} (h : k ≤ l.length) : k ≤ signS l k ∧ signS l k ≤ l.length := by
  unfold signS
  split
  · rename_i h1; exact ⟨by omega, h1.1⟩
  · exact ⟨Nat.le_refl _, h⟩
theorem mant_le {l : List UInt8} {k : Nat} (h : k ≤ l.length) : k ≤ mantS l k ∧ mantS l k ≤ l.length := by
  have h1 := past_le dgB l k h
  unfold mantS
  split
  · exact h1
  · rename_i h2
    have h3 := past_le dgB l (past dgB l k + 1) (by omega)
    split
    · exact ⟨Nat.le_refl _, h⟩
    · exact ⟨by omega, h3.2⟩
theorem exp_le {l : List UInt8} {k : Nat} (h : k ≤ l.length) : k ≤ expS l k ∧ expS l k ≤ l.length := by
  unfold expS
  split
  · exact ⟨Nat.le_refl _, h⟩
  · rename_i h2
    have h3 := sign_le (l := l) (k := k + 1) (by omega)
    have h4 := past_le dgB l (signS l (k + 1)) h3.2
    split
    · exact ⟨Nat.le_refl _, h⟩
    · exact ⟨by omega, h4.2⟩
theorem find_le (l : List UInt8) : (findS l).1 ≤ (findS l).2 ∧ (findS l).2 ≤ l.length := by
  unfold findS
  split
  · exact ⟨Nat.le_refl _, Nat.zero_le _⟩
  · have h1 := past_le blB l 0 (Nat.zero_le _)
    have h2 := sign_le h1.2
    have h3 := mant_le h2.2
    have h4 := exp_le h3.2
    exact ⟨by show past blB l 0 ≤ expS l _; omega, h4.2⟩

end Go.Proofs.YtannbdbhkhmppaaGreatDoor.nums

namespace Go.Proofs.YtannbdbhkhmppaaGreatDoor.fmtf
open Go.RowKit Go.Proofs.YtannbdbhkhmppaaGreatDoor.sum Go.Proofs.YtannbdbhkhmppaaGreatDoor.kept Go.Proofs.YtannbdbhkhmppaaGreatDoor.str Go.Proofs.YtannbdbhkhmppaaGreatDoor.nums
set_option linter.unusedVariables false

/-- is the one less than a text, place by place? -/
def lexF (f : Nat → Nat) (nd : Nat) (s : List UInt8) : Nat → Nat → Bool
  | 0, _ => false
  | m + 1, i => if nd ≤ i then true else if f i = bt s i then lexF f nd s m (i + 1) else decide (f i < bt s i)
def lexS (f : Nat → Nat) (nd : Nat) (s : List UInt8) : Bool := lexF f nd s s.length 0

theorem drews (w : World) (m n : Nat) : ∃ k, (w.drewN m).drewN n = w.drewN k := ⟨m + n, by unfold World.drewN; simp [Nat.add_assoc]⟩

set_option maxRecDepth 100000 in
set_option maxHeartbeats 4000000 in
theorem prefix_any (w : World) (q nd c : Nat) (f : Nat → Nat) (s : List UInt8) (hc : ∀ i, i < nd → w.cell? ⟨q, i, none⟩ = some (.int .u8 (f i : Int))) (hnd : nd ≤ 800) (hcap : nd ≤ c) (hs : s.length ≤ 1000) :
    Calls Tryz.prog 126 #[.slice (some ⟨q, 0, none⟩) nd c, .string (st s)] w (QV w (.bool (lexS f nd s))) := by
  have hsz := st_size s
  obtain ⟨R, hR⟩ : ∃ R, lexS f nd s = R := ⟨_, rfl⟩
  rw [hR]
  have HR := Hid_mk hR
  have HC := Hid_mk hc
  have HS := Hid_mk hs
  have HN := Hid_mk hnd
  have hnd8 : (nd : Int) ≤ 800 := by omega
  have hndc : (nd : Int) ≤ (c : Int) := by omega
  have hnd0 : (0 : Int) ≤ (nd : Int) := Int.natCast_nonneg _
  clear hR hc hs hnd
  go_enter Tryz.func126, Tryz.ntmps126
  go_wp2_with fail
  go_loopw [5] (fun a wr => ∃ i m : Nat, a = .int .i64 (i : Int) ∧ i ≤ s.length ∧ lexF f nd s (s.length - i) i = R ∧ wr = w.drewN m) (fun a _ => s.length - (intOf a).toNat)
  case atStart => exact ⟨0, 0, rfl, Nat.zero_le _, HR.out, rfl⟩
  case round =>
    obtain ⟨i, m, rfl, hi, hl, hwr⟩ := hrel
    have HW := Hid_mk hwr
    have HI := Hid_mk hi
    have hi0 : (0 : Int) ≤ (i : Int) := Int.natCast_nonneg _
    have hil : (i : Int) ≤ 1000 := by have := HS.out; omega
    rcases Nat.lt_or_ge i s.length with hlt | hge
    · have hlt2 : i < (st s).size := by rw [hsz]; exact hlt
      have hlti : (i : Int) < (s.length : Int) := by omega
      have hg := bt_get s i hlt2
      rw [show s.length - i = (s.length - (i + 1)) + 1 by omega, lexF] at hl
      have HLt := Hid_mk hlt
      rcases Nat.lt_or_ge i nd with hin | hin
      · rw [if_neg (by omega)] at hl
        have hini : ¬ (nd : Int) ≤ (i : Int) := by omega
        have hini2 : (i : Int) < (nd : Int) := by omega
        have cd : wr.cell? ⟨q, i, none⟩ = some (.int .u8 (f i : Int)) := by rw [hwr]; exact ((Kp.refl No w).drewN m).cell' (HC.out i hin) id
        have hqs : q < wr.heap.size := World.block_lt_of_cell? wr _ cd
        obtain ⟨b, hb⟩ : ∃ b, bt s i = b := ⟨_, rfl⟩
        obtain ⟨x, hx⟩ : ∃ x, f i = x := ⟨_, rfl⟩
        rw [hb] at hg hl
        rw [hx] at cd hl
        have HB := Hid_mk hb
        have HX := Hid_mk hx
        by_cases e : x = b
        · rw [if_pos e] at hl
          have ei : ((x : Int) != (b : Int)) = false := by simp; omega
          have HL := Hid_mk hl
          clear hl hi hlt hin hb hx e hwr
          go_wp2_with fail
          go_quiet (fail)
          go_wp2
          go_roundw
          case rel => obtain ⟨m2, hm2⟩ := drews w m nq; exact ⟨i + 1, m2, by go_num, HLt.out, HL.out, by rw [HW.out, hm2]⟩
          case measure => have := HLt.out; simp [intOf]; omega
        · rw [if_neg e] at hl
          have ei : ((x : Int) != (b : Int)) = true := by simp; omega
          have el : decide (x < b) = R := hl
          have HL := Hid_mk el
          clear hl hi hlt hin hb hx e el hwr
          go_wp2_with fail
          go_quiet (fail)
          go_wp2_with fail
          obtain ⟨W2, hW2⟩ : ∃ W2, wr.drewN nq = W2 := ⟨_, rfl⟩
          rw [hW2]
          have HW2 : Hid (∃ m2, W2 = w.drewN m2) := Hid_mk (by obtain ⟨m2, hm2⟩ := drews w m nq; exact ⟨m2, by rw [← hW2, HW.out, hm2]⟩)
          have cd2 : W2.cell? ⟨q, i, none⟩ = some (.int .u8 (x : Int)) := by rw [← hW2]; exact ((Kp.refl No wr).drewN nq).cell' cd id
          have hqs2 : q < W2.heap.size := World.block_lt_of_cell? W2 _ cd2
          clear hW2
          go_quiet (fail)
          go_wp2
          go_ret
          obtain ⟨m2, hm2⟩ := HW2.out
          obtain ⟨m3, hm3⟩ := drews w m2 nq
          exact ⟨by rw [HL.out]; rfl, m3, by rw [hm2, hm3]⟩
      · rw [if_pos hin] at hl
        have hini : (nd : Int) ≤ (i : Int) := by omega
        have HL := Hid_mk hl
        clear hl hi hlt hin hwr
        go_wp2
        go_ret
        exact ⟨by rw [← HL.out]; rfl, m, HW.out⟩
    · obtain rfl : i = s.length := by omega
      have hlti : ¬ (s.length : Int) < (s.length : Int) := by omega
      rw [Nat.sub_self, lexF] at hl
      have HL := Hid_mk hl
      clear hl hi hge hwr
      go_wp2
      go_ret
      exact ⟨by rw [← HL.out]; rfl, m, HW.out⟩

end Go.Proofs.YtannbdbhkhmppaaGreatDoor.fmtf

namespace Go.Proofs.YtannbdbhkhmppaaGreatDoor.fmtf
open Go.RowKit Go.Proofs.YtannbdbhkhmppaaGreatDoor.sum Go.Proofs.YtannbdbhkhmppaaGreatDoor.kept Go.Proofs.YtannbdbhkhmppaaGreatDoor.str Go.Proofs.YtannbdbhkhmppaaGreatDoor.nums
set_option linter.unusedVariables false

theorem val_bd {f : Nat → Nat} {n : Nat} (h : DgF f n) {i : Nat} : ∀ {m : Nat}, i + m ≤ n → valF f i * 10 ^ m ≤ valF f (i + m) ∧ valF f (i + m) < (valF f i + 1) * 10 ^ m
  | 0, _ => by simp
  | m + 1, hm => by
    obtain ⟨a, b⟩ := val_bd h (i := i) (m := m) (by omega)
    have hd := h (i + m) (by omega)
    show _ ≤ valF f (i + m + 1) ∧ valF f (i + m + 1) < _
    rw [valF, Nat.pow_succ, ← Nat.mul_assoc, ← Nat.mul_assoc]
    omega
/-- what a text of the table is -/
structure Cheat (k dl : Nat) (s : List UInt8) : Prop where
  dg : DgF (bt s) s.length
  pos : 0 < s.length
  last : 48 < bt s (s.length - 1)
  val : valF (bt s) s.length = 5 ^ k
  sum : dl + s.length = k + 1
  low : 10 ^ (dl - 1) ≤ 2 ^ k
  high : 2 ^ k < 10 ^ dl
  one : 1 ≤ dl
def cheatB (k dl : Nat) (s : List UInt8) : Bool :=
  ((List.range s.length).all fun i => decide (48 ≤ bt s i) && decide (bt s i ≤ 57)) && decide (0 < s.length) && decide (48 < bt s (s.length - 1)) && decide (valF (bt s) s.length = 5 ^ k) && decide (dl + s.length = k + 1) && decide (10 ^ (dl - 1) ≤ 2 ^ k) && decide (2 ^ k < 10 ^ dl) && decide (1 ≤ dl)
theorem cheat_of {k dl : Nat} {s : List UInt8} (h : cheatB k dl s = true) : Cheat k dl s := by
  unfold cheatB at h
  simp only [Bool.and_eq_true, decide_eq_true_eq, List.all_eq_true, List.mem_range] at h
  obtain ⟨⟨⟨⟨⟨⟨⟨h1, h2⟩, h3⟩, h4⟩, h5⟩, h6⟩, h7⟩, h8⟩ := h
  exact ⟨h1, h2, h3, h4, h5, h6, h7, h8⟩
theorem lex_iff {f : Nat → Nat} {nd : Nat} {s : List UInt8} (hf : DgF f nd) (hc : DgF (bt s) s.length) (hl : 48 < bt s (s.length - 1)) : ∀ (m i : Nat), m + i = s.length → i ≤ nd → valF f i = valF (bt s) i →
    (lexF f nd s m i = true ↔ valF f nd * 10 ^ s.length < valF (bt s) s.length * 10 ^ nd)
  | 0, i, hm, hi, hv => by
    obtain rfl : i = s.length := by omega
    obtain ⟨a, b⟩ := val_bd hf (i := s.length) (m := nd - s.length) (by omega)
    rw [show s.length + (nd - s.length) = nd by omega, hv] at a
    rw [lexF]
    constructor
    · intro h; cases h
    · intro h
      exfalso
      have h2 := Nat.mul_le_mul_right (10 ^ s.length) a
      rw [Nat.mul_assoc, ← Nat.pow_add, show nd - s.length + s.length = nd by omega] at h2
      omega
  | m + 1, i, hm, hi, hv => by
    rw [lexF]
    by_cases h1 : nd ≤ i
    · rw [if_pos h1]
      obtain rfl : i = nd := by omega
      refine ⟨fun _ => ?_, fun _ => rfl⟩
      obtain ⟨a, b⟩ := val_bd hc (i := i) (m := s.length - 1 - i) (by omega)
      rw [show i + (s.length - 1 - i) = s.length - 1 by omega] at a
      have hlast : valF (bt s) s.length = 10 * valF (bt s) (s.length - 1) + (bt s (s.length - 1) - 48) := by
        rw [show s.length = (s.length - 1) + 1 by omega, valF, Nat.add_sub_cancel]
      have h2 : valF (bt s) i * 10 ^ (s.length - i) < valF (bt s) s.length := by
        rw [show s.length - i = (s.length - 1 - i) + 1 by omega, Nat.pow_succ, ← Nat.mul_assoc, hlast]
        omega
      have h3 := Nat.mul_lt_mul_of_pos_right h2 (show 0 < 10 ^ i from Nat.pow_pos (by omega))
      rw [Nat.mul_assoc, ← Nat.pow_add, show s.length - i + i = s.length by omega] at h3
      rw [hv]
      exact h3
    · rw [if_neg h1]
      have hfi := hf i (by omega)
      have hci := hc i (by omega)
      by_cases h2 : f i = bt s i
      · rw [if_pos h2]
        exact lex_iff hf hc hl m (i + 1) (by omega) (by omega) (by rw [valF, valF, hv, h2])
      · rw [if_neg h2, decide_eq_true_eq]
        obtain ⟨a1, b1⟩ := val_bd hf (i := i + 1) (m := nd - (i + 1)) (by omega)
        obtain ⟨a2, b2⟩ := val_bd hc (i := i + 1) (m := s.length - (i + 1)) (by omega)
        rw [show i + 1 + (nd - (i + 1)) = nd by omega] at a1 b1
        rw [show i + 1 + (s.length - (i + 1)) = s.length by omega] at a2 b2
        rw [valF] at a1 b1 a2 b2
        rw [hv] at a1 b1
        have hp1 : 10 ^ nd = 10 ^ (nd - (i + 1)) * 10 ^ (i + 1) := by rw [← Nat.pow_add]; congr 1; omega
        have hp2 : 10 ^ s.length = 10 ^ (s.length - (i + 1)) * 10 ^ (i + 1) := by rw [← Nat.pow_add]; congr 1; omega
        generalize valF (bt s) i = v at *
        generalize valF f nd = V at *
        generalize valF (bt s) s.length = C at *
        have q1 : 0 < 10 ^ (nd - (i + 1)) := Nat.pow_pos (by omega)
        have q2 : 0 < 10 ^ (s.length - (i + 1)) := Nat.pow_pos (by omega)
        have q3 : 0 < 10 ^ (i + 1) := Nat.pow_pos (by omega)
        rw [hp1, hp2]
        generalize 10 ^ (nd - (i + 1)) = A at *
        generalize 10 ^ (s.length - (i + 1)) = B at *
        generalize 10 ^ (i + 1) = E at *
        constructor
        · intro h3
          have h4 : (10 * v + (f i - 48) + 1) * A ≤ (10 * v + (bt s i - 48)) * A := Nat.mul_le_mul_right _ (by omega)
          have h5 : V < (10 * v + (bt s i - 48)) * A := Nat.lt_of_lt_of_le b1 h4
          have h6 : V * B < (10 * v + (bt s i - 48)) * A * B := Nat.mul_lt_mul_of_pos_right h5 q2
          have h7 : (10 * v + (bt s i - 48)) * B * A ≤ C * A := Nat.mul_le_mul_right _ a2
          have h8 : V * B < C * A := by
            rw [Nat.mul_right_comm] at h6
            omega
          rw [← Nat.mul_assoc, ← Nat.mul_assoc]
          exact Nat.mul_lt_mul_of_pos_right h8 q3
        · intro h3
          rw [← Nat.mul_assoc, ← Nat.mul_assoc] at h3
          have h8 := Nat.lt_of_mul_lt_mul_right h3
          rcases Nat.lt_or_ge (f i) (bt s i) with h9 | h9
          · exact h9
          · exfalso
            have h4 : (10 * v + (bt s i - 48) + 1) * A ≤ (10 * v + (f i - 48)) * A := Nat.mul_le_mul_right _ (by omega)
            have h5 : (10 * v + (bt s i - 48) + 1) * A ≤ V := Nat.le_trans h4 a1
            have h6 := Nat.mul_le_mul_right B h5
            have h7 := Nat.mul_lt_mul_of_pos_right b2 q1
            rw [Nat.mul_right_comm] at h6
            omega
/-- how long a shifted number is -/
theorem cheat_bd {k dl : Nat} {s : List UInt8} (hc : Cheat k dl s) {f : Nat → Nat} {nd : Nat} (hf : DgF f nd) (hnd : 0 < nd) (h0 : 10 ^ (nd - 1) ≤ valF f nd) :
    (if lexS f nd s = true then valF f nd * 2 ^ k < 10 ^ (nd + (dl - 1)) ∧ 10 ^ (nd + (dl - 1) - 1) ≤ valF f nd * 2 ^ k else valF f nd * 2 ^ k < 10 ^ (nd + dl) ∧ 10 ^ (nd + dl - 1) ≤ valF f nd * 2 ^ k) := by
  have hi := lex_iff hf hc.dg hc.last s.length 0 (by omega) (by omega) (by rw [valF, valF])
  have hlt := valF_lt hf
  rw [hc.val] at hi
  have h10 : (10 : Nat) ^ k = 2 ^ k * 5 ^ k := by rw [← Nat.mul_pow]
  have hsum := hc.sum
  have hone := hc.one
  have hpos := hc.pos
  have hlow := hc.low
  have hhigh := hc.high
  unfold lexS
  generalize valF f nd = V at *
  split
  · rename_i h
    have h1 := hi.1 h
    constructor
    · have h2 := Nat.mul_lt_mul_of_pos_right h1 (show 0 < 2 ^ k from Nat.pow_pos (by omega))
      rw [Nat.mul_right_comm, Nat.mul_right_comm (5 ^ k), Nat.mul_comm (5 ^ k), ← h10, ← Nat.pow_add, show k + nd = nd + (dl - 1) + s.length by omega, Nat.pow_add] at h2
      exact Nat.lt_of_mul_lt_mul_right h2
    · have h2 := Nat.mul_le_mul h0 hlow
      rw [← Nat.pow_add] at h2
      rw [show nd + (dl - 1) - 1 = nd - 1 + (dl - 1) by omega]
      exact h2
  · rename_i h
    have h1 : ¬ V * 10 ^ s.length < 5 ^ k * 10 ^ nd := fun h9 => h (hi.2 h9)
    constructor
    · have h2 := Nat.mul_lt_mul_of_lt_of_lt hlt hhigh
      rw [← Nat.pow_add] at h2
      exact h2
    · have h2 := Nat.mul_le_mul_right (2 ^ k) (Nat.not_lt.1 h1)
      rw [Nat.mul_right_comm, Nat.mul_right_comm V, Nat.mul_comm (5 ^ k), ← h10, ← Nat.pow_add, show k + nd = nd + dl - 1 + s.length by omega, Nat.pow_add] at h2
      exact Nat.le_of_mul_le_mul_right h2 (Nat.pow_pos (by omega))

end Go.Proofs.YtannbdbhkhmppaaGreatDoor.fmtf
