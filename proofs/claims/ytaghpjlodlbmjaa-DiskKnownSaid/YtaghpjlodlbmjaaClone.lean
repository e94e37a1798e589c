/- bytes.Clone, and what a Writer hands out. -/
import Derived.Test.YtaghpjlodlbmjaaWriter
namespace Go.Proofs.Ytaghpjlodlbmjaa.clone
open Go.RowKit Go.Proofs.Ytaghpjlodlbmjaa.sum Go.Proofs.Ytaghpjlodlbmjaa.kept Go.Proofs.Ytaghpjlodlbmjaa.app Go.Proofs.Ytaghpjlodlbmjaa.writer
set_option linter.unusedVariables false

/-- A new row of these bytes, in new memory. -/
def NewBs (w : World) (bs : List UInt8) (e : Ending) (w' : World) : Prop :=
  ∃ v', e = .returned v' ∧ w'.ownsRow w.heap.size 5 1 v' bs.length (bs.map B) ∧ Kp No w w'

set_option maxHeartbeats 1000000 in
theorem clone_any (w : World) (v : Value) (bs : List UInt8) (h : Bs w v bs) (hl : bs.length ≤ 140737488355328) :
    Calls Try.prog 53 #[v] w (NewBs w bs) := by
  have H := Hid_mk h
  obtain ⟨a, cap, rfl, h1, h2, h3⟩ := h
  cases a with
  | none =>
    have hbs : bs = [] := Decidable.byContradiction fun hne => by obtain ⟨_, _, e, _⟩ := h3 hne; cases e
    subst hbs
    have hq : ∀ w, (binOp .eql 28 (.slice none 0 cap) (.slice none 0 0)).run Try.prog w = .ok (.bool true) w := fun w => Lib.run_eql_slice_nil w 28 5 none 0 cap 0 0 Try.underlying28
    clear h1 h2 h3
    go_enter Try.func53, Try.ntmps53
    go_wp2
    go_ret
    exact ⟨_, rfl, World.ownsRow_nil _ _ _ _, Kp.refl _ _⟩
  | some ad =>
    have hq : ∀ w, (binOp .eql 28 (.slice (some ad) bs.length cap) (.slice none 0 0)).run Try.prog w = .ok (.bool false) w := fun w => Lib.run_eql_slice_nil w 28 5 (some ad) bs.length cap 0 0 Try.underlying28
    have k0 : Kp No w (w.alloc (.cells #[] 5)) := (Kp.refl _ _).alloc _
    have h0 : (w.alloc (.cells #[] 5)).ownsRow w.heap.size 5 1 (.slice (some ⟨w.heap.size, 0, none⟩) 0 0) 0 [] := World.ownsRow_made w #[] 0 (Nat.le_refl _) (by decide) rfl
    have hx := bs_no H.out k0
    have HX := Hid_mk hx
    clear hx h1 h2 h3
    go_enter Try.func53, Try.ntmps53
    go_wp2_with (at_builtin; (refine wpList_append_bs _ rfl _ _ rfl w.heap.size _ [] rfl h0 _ bs rfl HX.out ?c1 ?c2 ?_))
    case c1 => simpa using hl
    case c2 => simp
    · intro v' w1 happ
      have hfin : NewBs w bs (.returned v') w1 := ⟨v', rfl, by simpa using happ.1, k0.grown happ.2.1 fun k hk e => by simp [Value.ownBlock] at e; omega⟩
      have HF := Hid_mk hfin
      clear h0 k0 happ hfin
      go_wp2
      go_ret
      exact HF.out

set_option maxHeartbeats 1000000 in
theorem bytes_any (base p : Nat) (w : World) (v : Value) (bs : List UInt8) (h : Wr base w p v bs) (hl : bs.length ≤ 140737488355328) :
    Calls Try.prog 34 #[.pointer (some ⟨p, 0, none⟩)] w (NewBs w bs) := by
  have hcell := h.cell
  have H := Hid_mk h
  clear h
  go_enter Try.func34, Try.ntmps34
  go_wp2_with fail
  refine (clone_any w v bs (owns_bs H.out.owns) hl).mono ?_
  rintro e w1 ⟨v', rfl, hn⟩
  have hfin : NewBs w bs (.returned v') w1 := ⟨v', rfl, hn⟩
  have HF := Hid_mk hfin
  clear hn hfin hcell
  go_wp2
  go_ret
  exact HF.out

set_option maxRecDepth 100000 in
set_option maxHeartbeats 1000000 in
theorem text_any (base p : Nat) (w : World) (v : Value) (bs : List UInt8) (s : ByteArray) (h : Wr base w p v bs) (hl : bs.length + 10 + s.size < 140737488355328) :
    Calls Try.prog 32 #[.pointer (some ⟨p, 0, none⟩), .string s] w (WrPost base p v (bs ++ (num s.size ++ s.data.toList)) w) := by
  have H := Hid_mk h
  clear h
  go_enter Try.func32, Try.ntmps32
  go_wp2_with fail
  refine (num_any base p w v bs s.size (by rw [u64_eq]; omega) H.out (by omega)).mono ?_
  rintro e w1 ⟨rfl, v1, hat⟩
  have HA := Hid_mk hat
  have hcell := hat.1.cell
  have hwarm := hat.1.warm
  have hroom := hat.1.room
  have hlen : (num s.size).length ≤ 10 := num_len _ _ (by omega) (by omega)
  have HL := Hid_mk hlen
  clear hat hlen
  go_wp2_with (at_builtin; (refine wpList_append_str _ rfl _ _ rfl base _ (bs ++ num s.size) rfl HA.out.1.owns s rfl ?c1 hroom ?_))
  case c1 => have := HL.out; simp; omega
  · intro v' w2 happ
    have h := HA.out.1
    have kp : Kp (fun k => some k = v1.ownBlock) w1 w2 := app_kept0 happ fun k _ e => e.symm
    have hp := World.block_lt_of_cell? w1 _ hcell
    have hc1 : w2.cell? ⟨p, 0, none⟩ = some v1 := kp.cell' hcell (fun e => h.apart e.symm)
    have hf1 : w2.frozen? ⟨p, 0, none⟩ = false := (kp.frozen hp (fun e => h.apart e.symm)).trans hwarm
    have hfin := wr_join HA.out (wr_store h (Nat.le_trans hroom kp.size) happ.1 kp (app_fresh0 happ))
    rw [List.append_assoc] at hfin
    have HF := Hid_mk hfin
    rcases owns_any happ.1 with ⟨rfl, _⟩ | ⟨g, cap, rfl, hg1, hg2⟩
    · clear hcell hwarm kp hfin happ h hp
      go_wp2
      go_end0
      exact HF.out
    · generalize (bs ++ num s.size ++ s.data.toList).length = L at *
      clear hcell hwarm kp hfin happ h hp
      go_wp2
      go_end0
      exact HF.out

end Go.Proofs.Ytaghpjlodlbmjaa.clone
