/- What a Writer hands out; its Text. -/
import Derived.Test.YteekcbbdbciddaaGreatDoorClone
import Derived.Test.YteekcbbdbciddaaGreatDoorWriter0M

namespace Go.Proofs.YteekcbbdbciddaaGreatDoor.clone
open Go.RowKit Go.Proofs.YteekcbbdbciddaaGreatDoor.sum Go.Proofs.YteekcbbdbciddaaGreatDoor.kept Go.Proofs.YteekcbbdbciddaaGreatDoor.app Go.Proofs.YteekcbbdbciddaaGreatDoor.writer
set_option linter.unusedVariables false

set_option maxHeartbeats 1000000 in
theorem bytes_any (base p : Nat) (w : World) (v : Value) (bs : List UInt8) (h : Wr base w p v bs) (hl : bs.length ≤ 140737488355328) :
    Calls Tryz.prog 48 #[.pointer (some ⟨p, 0, none⟩)] w (NewBs w bs) := by
  have hcell := h.cell
  have H := Hid_mk h
  clear h
  go_enter Tryz.func48, Tryz.ntmps48
  go_wp2_with fail
  refine (clone_any w v bs (owns_bs H.out.owns) hl).mono ?_
  rintro e w1 ⟨v', rfl, hn⟩
  have hfin : NewBs w bs (.returned v') w1 := ⟨v', rfl, hn⟩
  have HF := Hid_mk hfin
  clear hn hfin hcell
  go_wp2
  go_ret
  exact HF.out

set_option maxRecDepth 100000 in
set_option maxHeartbeats 1000000 in
theorem text_any (base p : Nat) (w : World) (v : Value) (bs : List UInt8) (s : ByteArray) (h : Wr base w p v bs) (hl : bs.length + 10 + s.size < 140737488355328) :
    Calls Tryz.prog 47 #[.pointer (some ⟨p, 0, none⟩), .string s] w (WrPost base p v (bs ++ (num s.size ++ s.data.toList)) w) := by
  have H := Hid_mk h
  clear h
  go_enter Tryz.func47, Tryz.ntmps47
  go_wp2_with fail
  refine (num_any base p w v bs s.size (by rw [u64_eq]; omega) H.out (by omega)).mono ?_
  rintro e w1 ⟨rfl, v1, hat⟩
  have HA := Hid_mk hat
  have hcell := hat.1.cell
  have hwarm := hat.1.warm
  have hroom := hat.1.room
  have hlen : (num s.size).length ≤ 10 := num_len _ _ (by omega) (by omega)
  have HL := Hid_mk hlen
  clear hat hlen
  go_wp2_with (at_builtin; (refine wpList_append_str _ rfl _ _ rfl base _ (bs ++ num s.size) rfl HA.out.1.owns s rfl ?c1 hroom ?_))
  case c1 => have := HL.out; simp; omega
  · intro v' w2 happ
    have h := HA.out.1
    have kp : Kp (fun k => some k = v1.ownBlock) w1 w2 := app_kept0 happ fun k _ e => e.symm
    have hp := World.block_lt_of_cell? w1 _ hcell
    have hc1 : w2.cell? ⟨p, 0, none⟩ = some v1 := kp.cell' hcell (fun e => h.apart e.symm)
    have hf1 : w2.frozen? ⟨p, 0, none⟩ = false := (kp.frozen hp (fun e => h.apart e.symm)).trans hwarm
    have hfin := wr_join HA.out (wr_store h (Nat.le_trans hroom kp.size) happ.1 kp (app_fresh0 happ))
    rw [List.append_assoc] at hfin
    have HF := Hid_mk hfin
    rcases owns_any happ.1 with ⟨rfl, _⟩ | ⟨g, cap, rfl, hg1, hg2⟩
    · clear hcell hwarm kp hfin happ h hp
      go_wp2
      go_end0
      exact HF.out
    · generalize (bs ++ num s.size ++ s.data.toList).length = L at *
      clear hcell hwarm kp hfin happ h hp
      go_wp2
      go_end0
      exact HF.out

end Go.Proofs.YteekcbbdbciddaaGreatDoor.clone
