/- The marks of whole numbers as bytes: mark.Lay, mark.Read. -/
import Derived.Test.YteekcbbdbciddaaGreatDoorMarkM
import Derived.Test.YteekcbbdbciddaaGreatDoorWriter0M
import Derived.Test.YteekcbbdbciddaaGreatDoorReaderM

namespace Go.Proofs.YteekcbbdbciddaaGreatDoor.mrk
open Go.RowKit Go.Proofs.YteekcbbdbciddaaGreatDoor.fl Go.Proofs.YteekcbbdbciddaaGreatDoor.sum Go.Proofs.YteekcbbdbciddaaGreatDoor.kept Go.Proofs.YteekcbbdbciddaaGreatDoor.app Go.Proofs.YteekcbbdbciddaaGreatDoor.writer Go.Proofs.YteekcbbdbciddaaGreatDoor.clone Go.Proofs.YteekcbbdbciddaaGreatDoor.number
set_option linter.unusedVariables false

set_option maxRecDepth 100000 in
set_option maxHeartbeats 2000000 in
theorem lay_any (base p : Nat) (w : World) (v : Value) (bs : List UInt8) (a b : Nat) (ha : a ≤ 1099511627776) (hb : b ≤ 1099511627776) (h : Wr base w p v bs) (hl : bs.length + 20 < 140737488355328) :
    Calls Tryz.prog 44 #[.pointer (some ⟨p, 0, none⟩), C (a : Int) (b : Int)] w (WrPost base p v (bs ++ (num a ++ num b)) w) := by
  have HP := Hid_mk (parts_any (a : Int) (b : Int) (by unfold Is mw; omega) (by unfold Is mw; omega))
  have hla := num_len a 10 (by omega) (by omega)
  have H := Hid_mk (writer.num_any base p w v bs a (by rw [u64_eq]; omega) h (by omega))
  have HB := Hid_mk (show b < U64 by rw [u64_eq]; omega)
  have HL := Hid_mk (show (bs ++ num a).length + 10 < 140737488355328 by rw [List.length_append]; omega)
  clear h ha hb hl hla
  go_enter Tryz.func44, Tryz.ntmps44
  go_wp2_with (first
    | (go_at_call 73; refine (HP.out _).mono ?_; rintro e w' ⟨rfl, rfl⟩)
    | fail)
  with_reducible refine H.out.mono ?_
  rintro e w1 ⟨rfl, v1, hat⟩
  have HA := Hid_mk hat
  clear hat
  go_wp2_with fail
  refine (writer.num_any base p w1 v1 _ b HB.out HA.out.1 HL.out).mono ?_
  rintro e w2 hpost
  have hfin : WrPost base p v (bs ++ (num a ++ num b)) w e w2 := by rw [← List.append_assoc]; exact wr_join HA.out hpost
  have HF := Hid_mk hfin
  have he := hpost.1
  subst he
  clear hfin hpost
  go_wp2
  go_end0
  exact HF.out

def rMark (bs : List UInt8) (at_ bad : Nat) : (Nat × Nat) × Nat × Nat :=
  (((reader.rNum bs at_ bad 1099511627776).1, (reader.rNum bs (reader.rNum bs at_ bad 1099511627776).2.1 (reader.rNum bs at_ bad 1099511627776).2.2 1099511627776).1),
    (reader.rNum bs (reader.rNum bs at_ bad 1099511627776).2.1 (reader.rNum bs at_ bad 1099511627776).2.2 1099511627776).2)

set_option maxRecDepth 100000 in
set_option maxHeartbeats 2000000 in
theorem read_any (w : World) (p : Nat) (v : Value) (bs : List UInt8) (at_ bad : Nat) (h : reader.Rd w p v bs at_ bad) :
    Calls Tryz.prog 97 #[.pointer (some ⟨p, 0, none⟩)] w (reader.RdPost w p v bs (C ((rMark bs at_ bad).1.1 : Int) ((rMark bs at_ bad).1.2 : Int)) (rMark bs at_ bad).2.1 (rMark bs at_ bad).2.2) := by
  have H0 := reader.num_any w p v bs at_ bad 1099511627776 h
  rw [show ((1099511627776 : Nat) : Int) = 1099511627776 from rfl] at H0
  have H := Hid_mk H0
  clear H0
  unfold rMark
  simp only
  generalize reader.rNum bs at_ bad 1099511627776 = x at *
  clear h
  go_enter Tryz.func97, Tryz.ntmps97
  go_wp2_with fail
  with_reducible refine H.out.mono ?_
  rintro e w1 ⟨rfl, hR, hK⟩
  have H0 := reader.num_any w1 p v bs x.2.1 x.2.2 1099511627776 hR
  rw [show ((1099511627776 : Nat) : Int) = 1099511627776 from rfl] at H0
  have H2 := Hid_mk H0
  clear H0
  have HK := Hid_mk hK
  generalize reader.rNum bs x.2.1 x.2.2 1099511627776 = y at *
  clear hR hK
  go_wp2_with fail
  with_reducible refine H2.out.mono ?_
  rintro e w2 ⟨rfl, hR2, hK2⟩
  have HR2 := Hid_mk hR2
  have HK2 := Hid_mk hK2
  clear hR2 hK2
  go_wp2
  go_ret
  exact ⟨rfl, HR2.out, HK.out.trans' HK2.out⟩

end Go.Proofs.YteekcbbdbciddaaGreatDoor.mrk
