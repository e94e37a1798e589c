/- append onto a row of bytes of the call's own: of bytes that are read in whatever slice, of a string; where the row lies behind it. What package pack's Writer and an append of a callee leave: plain facts. bytes.Clone. Bytes as a text. Cuts of a slice of bytes. A remainder; a byte that is turned. tailracehand.Pick; a byte of a slice turned. -/
import Derived.Test.YtpfpnlhihnfahaaDoorBaseM
import Derived.Maps.AppendAt
import Derived.Lib.AppendStr
import Derived.Deep.AppendSrc
import Derived.Laws.IdiomStrings
import Derived.Laws.BytesArg
import Derived.Laws.Pointers
import Derived.OwnWalk
import Derived.RegionTactic
import Derived.Laws.BitsAllLaws
import Derived.IntWalk
import Derived.Deep.RegionWith
import Derived.StillTailTactics
import Derived.RegionCalls

namespace Go.Proofs.YtpfpnlhihnfahaaDoor.app
open Go.RowKit Go.Proofs.YtpfpnlhihnfahaaDoor.sum Go.Proofs.YtpfpnlhihnfahaaDoor.kept
set_option linter.unusedVariables false

theorem info5 : (Tryd.prog.info? 5).map (fun i => (i.zero, i.size, i.bytes)) = some (some (.int .u8 0), 1, 1) := by kernel_rfl

/-- what append leaves -/
def App (base : Nat) (w : World) (v : Value) (bs cs : List UInt8) (v' : Value) (w' : World) : Prop :=
  w'.ownsRow base 5 1 v' (bs ++ cs).length ((bs ++ cs).map B) ∧ w.grownBy w' v.ownBlock ∧ (v' = .slice none 0 0 ↔ v = .slice none 0 0 ∧ cs = []) ∧ (v'.ownBlock = v.ownBlock ∨ v'.ownBlock = some w.heap.size)

theorem run_append_zero (w : World) (ty : TypeId) (v : Value) (base n : Nat) (xs : List Value) (hown : w.ownsRow base 5 1 v n xs) (a : Option Addr) (c : Nat) :
    (Builtin.append_ #[30, 30] ty #[v, .slice a 0 c]).run Tryd.prog w = .ok v w := by
  obtain ⟨i0, hi, hz0, hz1, hz2⟩ := info_parts info5
  have hf : ∀ w : World, (Builtin.firstCells 1 0 (.slice a 0 c)).run Tryd.prog w = .ok #[] w := by
    intro w
    cases a with
    | none => exact run_firstCells_none w 1 0 0 c
    | some a => exact run_firstCells_some w 1 0 a 0 c [] rfl (fun j u h => by simp at h)
  rcases hown.2 with ⟨rfl, rfl⟩ | ⟨g, cap, cur, rfl, _, hg, h1, _⟩
  · simp [Builtin.append_, run_underlying Tryd.underlying30, sizeOf, typeInfo, hi, hz1, Builtin.lenOf, hf]
  · simp [Builtin.append_, run_underlying Tryd.underlying30, sizeOf, typeInfo, hi, hz1, Builtin.lenOf, hf, h1, storeCells]

theorem run_append_bs (w : World) (ty : TypeId) (base : Nat) (v : Value) (bs : List UInt8) (hown : w.ownsRow base 5 1 v bs.length (bs.map B)) (xv : Value) (cs : List UInt8) (hx : Bs w xv cs)
    (hb : bs.length + cs.length ≤ 140737488355328) (hbase : base ≤ w.heap.size) :
    ∃ v' w', (Builtin.append_ #[30, 30] ty #[v, xv]).run Tryd.prog w = .ok v' w' ∧ App base w v bs cs v' w' := by
  obtain ⟨i0, hi, hz0, hz1, hz2⟩ := info_parts info5
  obtain ⟨a, cap, rfl, h1, h2, h3⟩ := hx
  by_cases hcs : cs = []
  · subst hcs
    refine ⟨v, w, run_append_zero w ty v base _ _ hown a cap, ?_, World.grownBy.refl _ _, by simp, .inl rfl⟩
    simpa using hown
  · obtain ⟨b, o, rfl, hc⟩ := h3 hcs
    have hmx : bs.length + cs.length ≤ maxLen := by unfold maxLen; omega
    obtain ⟨v', w', hr, k1, k2, k3, k4⟩ := run_append_own_at (P := Tryd.prog) w base 30 ty 5 i0 (.int .u8 0) 1 1 Tryd.underlying30 hi hz0 hz1 hz2 rfl (by decide) v bs.length _ hown ⟨b, o, none⟩ cs.length cap (cs.map B)
      (by simp) (fun j u hu => by
        rw [addr_add]
        have hj : j < cs.length := by simpa using (List.getElem?_eq_some_iff.1 hu).1
        rw [hc j hj]
        simpa [List.getD, hj] using hu) (fun u hu => by obtain ⟨_, _, rfl⟩ := List.mem_map.1 hu; rfl) hmx (by omega) hbase
    refine ⟨v', w', hr, by simpa using k1, k2, ?_, k4⟩
    rw [k3]
    simp [List.length_eq_zero_iff]

theorem wpList_append_bs (w : World) {ops : Array Oper} {rest : List Oper} {o : Oper} {a : Act} {Q : Exit → Act → World → Prop} (hgd : o.guard = none) (s x : Operand)
    (ho : o.op = .call { callee := .builtin .append, args := #[s, x], argTypes := #[30, 30] })
    (base : Nat) (v : Value) (bs : List UInt8) (hs : a.eval s = v) (hown : w.ownsRow base 5 1 v bs.length (bs.map B)) (xv : Value) (cs : List UInt8) (hx : a.eval x = xv) (hxs : Bs w xv cs)
    (hb : bs.length + cs.length ≤ 140737488355328) (hbase : base ≤ w.heap.size)
    (h : ∀ v' w', App base w v bs cs v' w' → wpList Tryd.prog ops Q rest (a.put o.dst v') w') :
    wpList Tryd.prog ops Q (o :: rest) a w := by
  refine wpList_plain hgd fun K hK => ?_
  obtain ⟨v', w', hr, h2⟩ := run_append_bs w o.type base v bs hown xv cs hxs hb hbase
  unfold Oper.wp execOp
  simp only [ho, resolve, invoke, builtin, Sem.run_bind, Sem.run_pure, Result.andThen_ok, List.map_toArray, List.map_cons, List.map_nil, hs, hx, hr]
  exact hK _ _ (h v' w' h2)

theorem strCells_bs (s : ByteArray) : Lib.strCells s = s.data.toList.map B := rfl

theorem run_append_str (w : World) (ty : TypeId) (base : Nat) (v : Value) (bs : List UInt8) (hown : w.ownsRow base 5 1 v bs.length (bs.map B)) (s : ByteArray)
    (hb : bs.length + s.size ≤ 140737488355328) (hbase : base ≤ w.heap.size) :
    ∃ v' w', (Builtin.append_ #[30, 9] ty #[v, .string s]).run Tryd.prog w = .ok v' w' ∧ App base w v bs s.data.toList v' w' := by
  obtain ⟨i0, hi, hz0, hz1, hz2⟩ := info_parts info5
  have hmx : bs.length + s.size ≤ maxLen := by unfold maxLen; omega
  obtain ⟨v', w', hr, k1, k2, k3⟩ := Lib.run_append_own_string (P := Tryd.prog) w base 30 9 ty 5 i0 Tryd.underlying30 Tryd.underlying9 hi hz0 hz1 hz2 v bs.length _ hown s hmx hb hbase
  have hsz : s.data.toList.length = s.size := by rw [Array.length_toList]; rfl
  refine ⟨v', w', hr, ?_, k2, ?_, ?_⟩
  · rw [List.length_append, hsz, List.map_append, ← strCells_bs]; exact k1
  · rw [k3]
    constructor
    · rintro ⟨h1, h2⟩; exact ⟨h1, List.eq_nil_of_length_eq_zero (by omega)⟩
    · rintro ⟨h1, h2⟩; rw [h2] at hsz; exact ⟨h1, by simpa using hsz.symm⟩
  · have hS : Src Tryd.prog i0.size 9 (.string s) s.size (Go.byteCells s) w := by rw [hz1]; exact Src.ofString w Tryd.underlying9 s
    have hsl : (Go.byteCells s).length = s.size := byteCells_length s
    rcases hown.2 with ⟨rfl, h0⟩ | ⟨g, cap, cur, rfl, _, hg, r1, r2, r3, r4⟩
    · by_cases hs0 : s.size = 0
      · left; rw [k3.2 ⟨rfl, hs0⟩]
      · have hgr := run_append_grow_src (P := Tryd.prog) w 30 9 ty 5 i0 (.int .u8 0) Tryd.underlying30 hi hz0 none 0 0 [] (run_firstCells_none w.drew i0.size 0 0 0) (.string s) s.size _ hS (by omega) (by omega)
          (by rw [hz2]; exact growslice_fits (by omega) (by omega))
        rw [hgr] at hr
        injection hr with e1 e2
        right; rw [← e1]; rfl
    · by_cases hroom : bs.length + s.size ≤ cap
      · have hrm := run_append_room_src (P := Tryd.prog) w 30 9 ty 5 i0 Tryd.underlying30 hi g 0 bs.length cap (.string s) s.size _ hS hroom
          (by
            intro j hj
            rw [hz1, cell_of_row w g _ cur _ (0, 0) hg]
            have hlt : 0 + bs.length * 1 + j < cur.size := by omega
            simp; omega)
          (by
            intro j hj
            rw [hz1]
            simp [World.frozen?, hg])
        rw [hrm] at hr
        injection hr with e1 e2
        left; rw [← e1]; rfl
      · have holds : ∀ j u, (bs.map B)[j]? = some u → w.drew.cell? ((⟨g, 0, none⟩ : Addr).add j) = some u := hown.cells (g := g) rfl
        have hgr := run_append_grow_src (P := Tryd.prog) w 30 9 ty 5 i0 (.int .u8 0) Tryd.underlying30 hi hz0 (some ⟨g, 0, none⟩) bs.length cap (bs.map B)
          (run_firstCells_some w.drew i0.size bs.length ⟨g, 0, none⟩ bs.length cap _ (by rw [hz1]; simp) holds) (.string s) s.size _ hS (by omega) (by omega) (by rw [hz2]; exact growslice_fits (by omega) (by omega))
        rw [hgr] at hr
        injection hr with e1 e2
        right; rw [← e1]; rfl

theorem wpList_append_str (w : World) {ops : Array Oper} {rest : List Oper} {o : Oper} {a : Act} {Q : Exit → Act → World → Prop} (hgd : o.guard = none) (sl x : Operand)
    (ho : o.op = .call { callee := .builtin .append, args := #[sl, x], argTypes := #[30, 9] })
    (base : Nat) (v : Value) (bs : List UInt8) (hs : a.eval sl = v) (hown : w.ownsRow base 5 1 v bs.length (bs.map B)) (s : ByteArray) (hx : a.eval x = .string s)
    (hb : bs.length + s.size ≤ 140737488355328) (hbase : base ≤ w.heap.size)
    (h : ∀ v' w', App base w v bs s.data.toList v' w' → wpList Tryd.prog ops Q rest (a.put o.dst v') w') :
    wpList Tryd.prog ops Q (o :: rest) a w := by
  refine wpList_plain hgd fun K hK => ?_
  obtain ⟨v', w', hr, h2⟩ := run_append_str w o.type base v bs hown s hb hbase
  unfold Oper.wp execOp
  simp only [ho, resolve, invoke, builtin, Sem.run_bind, Sem.run_pure, Result.andThen_ok, List.map_toArray, List.map_cons, List.map_nil, hs, hx, hr]
  exact hK _ _ (h v' w' h2)

end Go.Proofs.YtpfpnlhihnfahaaDoor.app

namespace Go.Proofs.YtpfpnlhihnfahaaDoor.writer
open Go.RowKit Go.Proofs.YtpfpnlhihnfahaaDoor.sum Go.Proofs.YtpfpnlhihnfahaaDoor.kept Go.Proofs.YtpfpnlhihnfahaaDoor.app
set_option linter.unusedVariables false

theorem getD_lt {bs : List UInt8} {k : Nat} (h : k < bs.length) : bs.getD k 0 = bs[k] := by simp [List.getD, h]

/-- a literal of one byte, as laid by the call -/
theorem bs_one (w : World) (x : UInt8) : Bs (w.alloc (.cells #[.int .u8 (x.toNat : Int)] 5)) (.slice (some ⟨w.heap.size, 0, none⟩) 1 1) [x] := by
  refine ⟨_, 1, rfl, Nat.le_refl _, by decide, fun _ => ⟨_, _, rfl, fun k hk => ?_⟩⟩
  simp only [List.length_singleton] at hk
  obtain rfl : k = 0 := by omega
  simp [B]

theorem app_kept {S : Nat → Prop} {base : Nat} {w w1 : World} {o : Obj} {v v' : Value} {bs cs : List UInt8} (h : App base (w.alloc o) v bs cs v' w1) (hs : ∀ k, k < w.heap.size → v.ownBlock = some k → S k) : Kp S w w1 :=
  ((Kp.refl _ w).alloc _).grown h.2.1 fun k hk e => hs k hk e
theorem app_kept0 {S : Nat → Prop} {base : Nat} {w w1 : World} {v v' : Value} {bs cs : List UInt8} (h : App base w v bs cs v' w1) (hs : ∀ k, k < w.heap.size → v.ownBlock = some k → S k) : Kp S w w1 :=
  (Kp.refl _ w).grown h.2.1 fun k hk e => hs k hk e
theorem app_fresh {base : Nat} {w w1 : World} {o : Obj} {v v' : Value} {bs cs : List UInt8} (h : App base (w.alloc o) v bs cs v' w1) : v'.ownBlock = v.ownBlock ∨ ∀ g, v'.ownBlock = some g → w.heap.size ≤ g := by
  rcases h.2.2.2 with h | h
  · exact .inl h
  · right; intro g hg; rw [h] at hg; simp at hg; omega
theorem app_fresh0 {base : Nat} {w w1 : World} {v v' : Value} {bs cs : List UInt8} (h : App base w v bs cs v' w1) : v'.ownBlock = v.ownBlock ∨ ∀ g, v'.ownBlock = some g → w.heap.size ≤ g := by
  rcases h.2.2.2 with h | h
  · exact .inl h
  · right; intro g hg; rw [h] at hg; simp at hg; omega

/-- the Writer's one cell behind the append, and the store into it -/
theorem wr_store {base p : Nat} {w w1 : World} {v v' : Value} {bs cs : List UInt8} (h : Wr base w p v bs) (hb : base ≤ w1.heap.size) (hw : w1.ownsRow base 5 1 v' (bs ++ cs).length ((bs ++ cs).map B)) (hk : Kp (fun k => some k = v.ownBlock) w w1)
    (hf : v'.ownBlock = v.ownBlock ∨ ∀ g, v'.ownBlock = some g → w.heap.size ≤ g) :
    WrPost base p v (bs ++ cs) w (.returned (.tuple #[])) (w1.setCell ⟨p, 0, none⟩ v') := by
  have hp := World.block_lt_of_cell? w _ h.cell
  simp only at hp
  have hc1 : w1.cell? ⟨p, 0, none⟩ = some v := hk.cell' h.cell (fun e => h.apart e.symm)
  have hf1 : w1.frozen? ⟨p, 0, none⟩ = false := (hk.frozen hp (fun e => h.apart e.symm)).trans h.warm
  have hap : v'.ownBlock ≠ some p := by
    rcases hf with e | e
    · rw [e]; exact h.apart
    · intro e2; have := e p e2; omega
  have hk2 : Kp (fun k => k = p) w1 (w1.setCell ⟨p, 0, none⟩ v') := (Kp.refl (fun k => k = p) _).setCell (fun _ => rfl) _
  refine ⟨rfl, v', ⟨World.cell?_setCell_same w1 _ v' hc1, ?_, owns_kept hw hk2 ?_, hap, ?_⟩, ?_, hf⟩
  · rw [World.frozen?_setCell]; exact hf1
  · rintro k e rfl; exact hap e
  · simp [World.setCell]; exact hb
  · exact (hk.mono (fun k _ e => Or.inr e)).trans hk2 (fun i _ e => Or.inl e)

theorem WrPost.refl {base p : Nat} {w : World} {v : Value} {bs : List UInt8} (h : Wr base w p v bs) : WrPost base p v bs w (.returned (.tuple #[])) w := ⟨rfl, v, h, Kp.refl _ _, .inl rfl⟩

/-- A Writer call behind another. -/
theorem wr_join {base p : Nat} {w w1 w2 : World} {v v1 : Value} {bs cs : List UInt8} {e : Ending} (h : WrAt base p v bs w v1 w1) (k : WrPost base p v1 cs w1 e w2) : WrPost base p v cs w e w2 := by
  obtain ⟨h1, h2, h3⟩ := h
  obtain ⟨rfl, v2, k1, k2, k3⟩ := k
  refine ⟨rfl, v2, k1, h2.trans k2 ?_, ?_⟩
  · rintro i hi (e | e)
    · exact .inl e
    · rcases h3 with h3 | h3
      · right; rw [← h3]; exact e
      · have := h3 i e.symm; omega
  · rcases k3 with k3 | k3
    · rw [k3]
      rcases h3 with h3 | h3
      · exact .inl h3
      · exact .inr h3
    · right; intro g hg; have := k3 g hg; have := h2.size; omega

/-- how many numbers a uint64 has: behind a name, for the walk's sake -/
def U64 : Nat := 18446744073709551616
theorem u64_eq : U64 = 18446744073709551616 := rfl

/-- a number's bytes -/
def num (n : Nat) : List UInt8 := if h : n < 128 then [n.toUInt8] else (n % 128 + 128).toUInt8 :: num (n / 128)
termination_by n
decreasing_by omega

theorem num_small {n : Nat} (h : n < 128) : num n = [n.toUInt8] := by rw [num]; simp [h]
theorem num_big {n : Nat} (h : ¬ n < 128) : num n = (n % 128 + 128).toUInt8 :: num (n / 128) := by rw [num]; simp [h]
theorem num_len (n k : Nat) (hk : n < 128 ^ k) (h1 : 0 < k) : (num n).length ≤ k := by
  induction k generalizing n with
  | zero => omega
  | succ k ih =>
    by_cases h : n < 128
    · rw [num_small h]; simp
    · rw [num_big h]
      have h2 : n / 128 < 128 ^ k := by rw [Nat.pow_succ] at hk; omega
      have hk0 : 0 < k := by
        rcases Nat.eq_zero_or_pos k with rfl | h3
        · simp at h2; omega
        · exact h3
      have := ih (n / 128) h2 hk0
      simp; omega

theorem or128_fin : ∀ k : Fin 256, bits .or .u8 ((k.val : Nat) : Int) 128 = ((k.val % 128 + 128 : Nat) : Int) := by decide +kernel
theorem or128 (m : Nat) : bits .or .u8 ((m : Int) % 256) 128 = ((m % 128 + 128 : Nat) : Int) := by
  have h := or128_fin ⟨m % 256, by omega⟩
  simp only at h
  rw [show ((m : Int) % 256) = ((m % 256 : Nat) : Int) by omega, h]
  congr 1
  omega

def NumRel (base p : Nat) (v : Value) (bs : List UInt8) (n : Nat) (w : World) (t : Value) (wr : World) : Prop :=
  ∃ (m : Nat) (pre : List UInt8), t = .int .u64 m ∧ m < U64 ∧ pre ++ num m = num n ∧ WrPost base p v (bs ++ pre) w (.returned (.tuple #[])) wr

end Go.Proofs.YtpfpnlhihnfahaaDoor.writer

namespace Go.Proofs.YtpfpnlhihnfahaaDoor.clone
open Go.RowKit Go.Proofs.YtpfpnlhihnfahaaDoor.sum Go.Proofs.YtpfpnlhihnfahaaDoor.kept Go.Proofs.YtpfpnlhihnfahaaDoor.app Go.Proofs.YtpfpnlhihnfahaaDoor.writer
set_option linter.unusedVariables false

/-- A new row of these bytes, in new memory. -/
def NewBs (w : World) (bs : List UInt8) (e : Ending) (w' : World) : Prop :=
  ∃ v', e = .returned v' ∧ w'.ownsRow w.heap.size 5 1 v' bs.length (bs.map B) ∧ Kp No w w'

set_option maxHeartbeats 1000000 in
theorem clone_any (w : World) (v : Value) (bs : List UInt8) (h : Bs w v bs) (hl : bs.length ≤ 140737488355328) :
    Calls Tryd.prog 38 #[v] w (NewBs w bs) := by
  have H := Hid_mk h
  obtain ⟨a, cap, rfl, h1, h2, h3⟩ := h
  cases a with
  | none =>
    have hbs : bs = [] := Decidable.byContradiction fun hne => by obtain ⟨_, _, e, _⟩ := h3 hne; cases e
    subst hbs
    have hq : ∀ w, (binOp .eql 30 (.slice none 0 cap) (.slice none 0 0)).run Tryd.prog w = .ok (.bool true) w := fun w => Lib.run_eql_slice_nil w 30 5 none 0 cap 0 0 Tryd.underlying30
    clear h1 h2 h3
    go_enter Tryd.func38, Tryd.ntmps38
    go_wp2
    go_ret
    exact ⟨_, rfl, World.ownsRow_nil _ _ _ _, Kp.refl _ _⟩
  | some ad =>
    have hq : ∀ w, (binOp .eql 30 (.slice (some ad) bs.length cap) (.slice none 0 0)).run Tryd.prog w = .ok (.bool false) w := fun w => Lib.run_eql_slice_nil w 30 5 (some ad) bs.length cap 0 0 Tryd.underlying30
    have k0 : Kp No w (w.alloc (.cells #[] 5)) := (Kp.refl _ _).alloc _
    have h0 : (w.alloc (.cells #[] 5)).ownsRow w.heap.size 5 1 (.slice (some ⟨w.heap.size, 0, none⟩) 0 0) 0 [] := World.ownsRow_made w #[] 0 (Nat.le_refl _) (by decide) rfl
    have hx := bs_no H.out k0
    have HX := Hid_mk hx
    clear hx h1 h2 h3
    go_enter Tryd.func38, Tryd.ntmps38
    go_wp2_with (at_builtin; (refine wpList_append_bs _ rfl _ _ rfl w.heap.size _ [] rfl h0 _ bs rfl HX.out ?c1 ?c2 ?_))
    case c1 => simpa using hl
    case c2 => simp
    · intro v' w1 happ
      have hfin : NewBs w bs (.returned v') w1 := ⟨v', rfl, by simpa using happ.1, k0.grown happ.2.1 fun k hk e => by simp [Value.ownBlock] at e; omega⟩
      have HF := Hid_mk hfin
      clear h0 k0 happ hfin
      go_wp2
      go_ret
      exact HF.out

end Go.Proofs.YtpfpnlhihnfahaaDoor.clone

namespace Go.Proofs.YtpfpnlhihnfahaaDoor.known
open Go.RowKit Go.Proofs.YtpfpnlhihnfahaaDoor.sum Go.Proofs.YtpfpnlhihnfahaaDoor.kept Go.Proofs.YtpfpnlhihnfahaaDoor.app Go.Proofs.YtpfpnlhihnfahaaDoor.writer Go.Proofs.YtpfpnlhihnfahaaDoor.clone
set_option linter.unusedVariables false

/-- bytes as a text -/
theorem conv_bs {w : World} {v : Value} {bs : List UInt8} (h : Bs w v bs) : (convert 30 9 v).run Tryd.prog w = .ok (.string ⟨bs.toArray⟩) w := by
  obtain ⟨a, cap, rfl, h1, h2, h3⟩ := h
  by_cases hbs : bs = []
  · subst hbs
    cases a with
    | none => exact run_convert_bytes_nil w 30 5 Tryd.underlying30 Tryd.underlying5 _ _ _ Tryd.underlying9
    | some ad => exact run_convert_bytes_back w 30 9 5 ad cap [] Tryd.underlying30 Tryd.underlying5 Tryd.underlying9 (fun j hj => by simp at hj)
  · obtain ⟨b, o, rfl, hc⟩ := h3 hbs
    refine run_convert_bytes_back w 30 9 5 ⟨b, o, none⟩ cap bs Tryd.underlying30 Tryd.underlying5 Tryd.underlying9 (fun j hj => ?_)
    rw [addr_add, hc j hj]
    simp [B, List.getD, hj]

/-- a literal of bytes, as laid by the call -/
theorem bs_lit (w : World) (bs : List UInt8) (fr : Nat × Nat) (hl : bs.length ≤ maxLen) : Bs (w.alloc (.cells (bs.map B).toArray 5 fr)) (.slice (some ⟨w.heap.size, 0, none⟩) bs.length bs.length) bs := by
  refine ⟨_, _, rfl, Nat.le_refl _, hl, fun _ => ⟨_, _, rfl, fun k hk => ?_⟩⟩
  rw [World.cell?_alloc_mark]
  simp [List.getD, hk]

end Go.Proofs.YtpfpnlhihnfahaaDoor.known

namespace Go.Proofs.YtpfpnlhihnfahaaDoor.unseal
open Go.RowKit Go.Proofs.YtpfpnlhihnfahaaDoor.sum Go.Proofs.YtpfpnlhihnfahaaDoor.kept Go.Proofs.YtpfpnlhihnfahaaDoor.app Go.Proofs.YtpfpnlhihnfahaaDoor.writer Go.Proofs.YtpfpnlhihnfahaaDoor.clone Go.Proofs.YtpfpnlhihnfahaaDoor.known
set_option linter.unusedVariables false

/-- behind a draw everything reads as before -/
theorem bs_drewN {w : World} {v : Value} {bs : List UInt8} (n : Nat) (h : Bs w v bs) : Bs (w.drewN n) v bs := bs_no h ((Kp.refl _ _).drewN n)

/-- a cut of a slice of bytes -/
theorem bs_take {w : World} {b : Option Addr} {len cap : Nat} {bs : List UInt8} (h : Bs w (.slice b len cap) bs) (k : Nat) (hk : k ≤ len) : Bs w (.slice b k cap) (bs.take k) := by
  obtain ⟨a, c, e, h1, h2, h3⟩ := h
  simp only [Value.slice.injEq] at e
  obtain ⟨rfl, rfl, rfl⟩ := e
  refine ⟨b, cap, by rw [List.length_take, Nat.min_eq_left hk], by rw [List.length_take]; omega, h2, fun hne => ?_⟩
  obtain ⟨B, o, rfl, hc⟩ := h3 (by intro e; subst e; simp at hne)
  refine ⟨B, o, rfl, fun i hi => ?_⟩
  rw [List.length_take] at hi
  rw [hc i (by omega)]
  simp [List.getD, show i < k by omega]

theorem bs_drop {w : World} {b o len cap : Nat} {bs : List UInt8} (h : Bs w (.slice (some ⟨b, o, none⟩) len cap) bs) (k : Nat) (hk : k ≤ len) (ao : Option Addr) (hao : ¬ k = cap → ao = some ⟨b, o + k, none⟩) : Bs w (.slice ao (len - k) (cap - k)) (bs.drop k) := by
  obtain ⟨a, c, e, h1, h2, h3⟩ := h
  simp only [Value.slice.injEq] at e
  obtain ⟨rfl, rfl, rfl⟩ := e
  refine ⟨ao, _, by rw [List.length_drop], by rw [List.length_drop]; omega, by omega, fun hne => ?_⟩
  have hlt : k < bs.length := by
    rcases Nat.lt_or_ge k bs.length with h | h
    · exact h
    · rw [List.drop_of_length_le h] at hne; exact absurd rfl hne
  obtain ⟨B, o', e, hc⟩ := h3 (by intro e; subst e; simp at hlt)
  cases e
  refine ⟨_, _, hao (by omega), fun i hi => ?_⟩
  rw [List.length_drop] at hi
  rw [Nat.add_assoc, hc (k + i) (by omega)]
  simp [List.getD]

end Go.Proofs.YtpfpnlhihnfahaaDoor.unseal

namespace Go.Proofs.YtpfpnlhihnfahaaDoor.turned
open Go.RowKit Go.Proofs.YtpfpnlhihnfahaaDoor.sum Go.Proofs.YtpfpnlhihnfahaaDoor.kept Go.Proofs.YtpfpnlhihnfahaaDoor.app Go.Proofs.YtpfpnlhihnfahaaDoor.writer Go.Proofs.YtpfpnlhihnfahaaDoor.clone Go.Proofs.YtpfpnlhihnfahaaDoor.known Go.Proofs.YtpfpnlhihnfahaaDoor.unseal
set_option linter.unusedVariables false

theorem tmod_pos (n m : Int) (hm : 0 < m) : -m < n.tmod m ∧ n.tmod m < m ∧ (0 ≤ n.tmod m → n.tmod m = n % m) ∧ (n.tmod m < 0 → n.tmod m + m = n % m) := by
  have h1 := Int.tmod_lt_of_pos n hm
  have h2 := Int.tmod_lt_of_pos (-n) hm
  rw [Int.neg_tmod] at h2
  have h3 := Int.tmod_add_mul_tdiv n m
  refine ⟨by omega, h1, ?_, ?_⟩
  · intro h
    have e : n % m = (n.tmod m + m * n.tdiv m) % m := by rw [h3]
    rw [e, Int.add_mul_emod_self_left, Int.emod_eq_of_lt h h1]
  · intro h
    have e : n % m = (n.tmod m + m + m * (n.tdiv m - 1)) % m := by rw [Int.mul_sub]; congr 1; omega
    rw [e, Int.add_mul_emod_self_left, Int.emod_eq_of_lt (by omega) (by omega)]

theorem bs_set {w : World} {b o len cap : Nat} {bs : List UInt8} (h : Bs w (.slice (some ⟨b, o, none⟩) len cap) bs) (k : Nat) (hk : k < len) (y : UInt8) : Bs (w.setCell ⟨b, o + k, none⟩ (B y)) (.slice (some ⟨b, o, none⟩) len cap) (bs.set k y) := by
  obtain ⟨a, c, e, h1, h2, h3⟩ := h
  simp only [Value.slice.injEq] at e
  obtain ⟨rfl, rfl, rfl⟩ := e
  refine ⟨_, cap, by rw [List.length_set], by rw [List.length_set]; exact h1, h2, fun _ => ⟨b, o, rfl, fun i hi => ?_⟩⟩
  rw [List.length_set] at hi
  obtain ⟨b', o', e, hc⟩ := h3 (by intro e; subst e; simp at hk)
  cases e
  by_cases hik : i = k
  · subst hik
    rw [World.cell?_setCell_same w _ _ (hc i hi)]
    simp [List.getD, hi]
  · rw [World.cell?_setCell_other w _ _ _ (by simp <;> omega), hc i hi]
    simp [List.getD, List.getElem?_set, Ne.symm hik]

end Go.Proofs.YtpfpnlhihnfahaaDoor.turned

namespace Go.Proofs.YtpfpnlhihnfahaaDoor.turned
open Go.RowKit Go.Proofs.YtpfpnlhihnfahaaDoor.sum Go.Proofs.YtpfpnlhihnfahaaDoor.kept Go.Proofs.YtpfpnlhihnfahaaDoor.app Go.Proofs.YtpfpnlhihnfahaaDoor.writer Go.Proofs.YtpfpnlhihnfahaaDoor.clone Go.Proofs.YtpfpnlhihnfahaaDoor.known Go.Proofs.YtpfpnlhihnfahaaDoor.unseal
set_option linter.unusedVariables false

set_option maxRecDepth 100000 in
set_option maxHeartbeats 1000000 in
theorem pick_any (n m : Int) (hm : 0 < m) (hm2 : m ≤ 1000000000000000) (w : World) :
    Calls Tryd.prog 6 #[.int .i64 n, .int .i64 m] w fun e w' => e = .returned (.int .i64 (n % m)) ∧ w = w' := by
  obtain ⟨h1, h2, h3, h4⟩ := tmod_pos n m hm
  obtain ⟨t, ht⟩ : ∃ t, n.tmod m = t := ⟨_, rfl⟩
  rw [ht] at h1 h2 h3 h4
  have H3 := Hid_mk h3
  have H4 := Hid_mk h4
  clear h3 h4
  have hne : ¬ m = 0 := by omega
  have hne1 : ¬ m = -1 := by omega
  by_cases hneg : t < 0
  · go_enter Tryd.func6, Tryd.ntmps6
    go_wp2
    go_ret
    rw [H4.out hneg]
    exact ⟨rfl, rfl⟩
  · go_enter Tryd.func6, Tryd.ntmps6
    go_wp2
    go_ret
    rw [H3.out (by omega)]
    exact ⟨rfl, rfl⟩

end Go.Proofs.YtpfpnlhihnfahaaDoor.turned
