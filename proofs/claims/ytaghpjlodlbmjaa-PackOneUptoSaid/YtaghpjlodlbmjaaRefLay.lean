/- What the reference lays: a number, a text. -/
import Derived.Test.YtaghpjlodlbmjaaRefSeal
import Derived.Test.YtaghpjlodlbmjaaLaid
namespace Go.Proofs.Ytaghpjlodlbmjaa.ref
open Go.RowKit Go.Proofs.Ytaghpjlodlbmjaa.sum Go.Proofs.Ytaghpjlodlbmjaa.kept Go.Proofs.Ytaghpjlodlbmjaa.app Go.Proofs.Ytaghpjlodlbmjaa.writer Go.Proofs.Ytaghpjlodlbmjaa.clone Go.Proofs.Ytaghpjlodlbmjaa.known Go.Proofs.Ytaghpjlodlbmjaa.unseal Go.Proofs.Ytaghpjlodlbmjaa.number Go.Proofs.Ytaghpjlodlbmjaa.words
set_option linter.unusedVariables false

def LayRel (n : Nat) (w : World) (t out : Value) (wr : World) : Prop :=
  ∃ (m : Nat) (pre : List UInt8), t = .int .u64 m ∧ m < U64 ∧ pre ++ num m = num n ∧ wr.ownsRow w.heap.size 5 1 out pre.length (pre.map B) ∧ Kp No w wr

theorem LayRel.next {n : Nat} {w w1 : World} {m : Nat} {pre : List UInt8} {v1 : Value} (hm : m < U64) (hbig : ¬ m < 128) (hpre : pre ++ num m = num n)
    (how : w1.ownsRow w.heap.size 5 1 v1 (pre ++ [(m % 128 + 128).toUInt8]).length ((pre ++ [(m % 128 + 128).toUInt8]).map B)) (hk : Kp No w w1) :
    LayRel n w (.int .u64 ((m / 128 : Nat) : Int)) v1 w1 := by
  refine ⟨m / 128, pre ++ [(m % 128 + 128).toUInt8], rfl, by omega, ?_, how, hk⟩
  rw [List.append_assoc, ← hpre, num_big hbig]; rfl

/-- what an append to a row of one's own leaves of what was there -/
theorem own_kept {w wr w1 : World} {v v' : Value} {bs cs : List UInt8} (hk : Kp No w wr) (ho : wr.ownsRow w.heap.size 5 1 v bs.length (bs.map B)) {o : Obj} (happ : App w.heap.size (wr.alloc o) v bs cs v' w1) : Kp No w w1 := by
  refine (hk.alloc _).grown happ.2.1 fun k hk e => ?_
  rcases owns_any ho with ⟨rfl, _⟩ | ⟨g, cap, rfl, hg1, hg2⟩
  · simp [Value.ownBlock] at e
  · simp [Value.ownBlock] at e; omega
theorem own_kept0 {w wr w1 : World} {v v' : Value} {bs cs : List UInt8} (hk : Kp No w wr) (ho : wr.ownsRow w.heap.size 5 1 v bs.length (bs.map B)) (happ : App w.heap.size wr v bs cs v' w1) : Kp No w w1 := by
  refine hk.grown happ.2.1 fun k hk e => ?_
  rcases owns_any ho with ⟨rfl, _⟩ | ⟨g, cap, rfl, hg1, hg2⟩
  · simp [Value.ownBlock] at e
  · simp [Value.ownBlock] at e; omega

theorem small_u8 (m : Nat) (h : m < 128) : (m : Int) % 256 = ((m.toUInt8.toNat : Nat) : Int) := by rw [seal.u8_toNat]; omega
theorem small_u8' (m : Nat) (h : m < 128) : (Value.int .u8 (m : Int)) = Value.int .u8 ((m.toUInt8.toNat : Nat) : Int) := by rw [seal.u8_toNat]; congr 1; omega
theorem big_u8 (m : Nat) : (m : Int) % 128 + 128 = (((m % 128 + 128).toUInt8.toNat : Nat) : Int) := by rw [seal.u8_toNat]; omega

theorem num_pos (n : Nat) : 0 < (num n).length := by rw [num]; split <;> simp

set_option maxRecDepth 100000 in
set_option maxHeartbeats 2000000 in
theorem lay_num (w : World) (n : Nat) (hn : n < U64) : Calls Try.prog 29 #[.int .u64 (n : Int)] w (NewBs w (num n)) := by
  have HN := Hid_mk hn
  clear hn
  go_enter Try.func29, Try.ntmps29
  go_wp2
  go_loopw [0, 3] (fun t out wr => LayRel n w t out wr) (fun t _ _ => (intOf t).toNat)
  case atStart => exact ⟨n, [], rfl, HN.out, rfl, World.ownsRow_nil _ _ _ _, Kp.refl _ _⟩
  case round =>
    obtain ⟨m, pre, rfl, hm, hpre, how, hkp⟩ := hrel
    have hlen : pre.length + (num m).length ≤ 10 := by rw [← List.length_append, hpre]; exact num_len n 10 (by have hn := HN.out; rw [u64_eq] at hn; omega) (by omega)
    have HPre := Hid_mk hpre
    have HOw := Hid_mk how
    have HK := Hid_mk hkp
    have HLen := Hid_mk hlen
    have HM := Hid_mk hm
    have hsz := hkp.size
    clear hpre how hkp hlen hm
    by_cases hlt : m < 128
    · have hml : (m : Int) < 128 := by omega
      go_wp2_with (at_builtin; ((first | rw [small_u8 m hlt] | rw [small_u8' m hlt]); refine wpList_append_bs _ rfl _ _ rfl w.heap.size _ pre rfl (HOw.out.alloc _) _ [m.toUInt8] rfl (bs_one wr _) ?c1 ?c2 ?_))
      case c1 => have := HLen.out; simp; omega
      case c2 => simp; omega
      intro v' w1 happ
      have hfin : NewBs w (num n) (.returned v') w1 := by
        refine ⟨v', rfl, ?_, own_kept HK.out HOw.out happ⟩
        rw [← HPre.out, num_small hlt]
        exact happ.1
      have HF := Hid_mk hfin
      obtain ⟨g, cap, rfl, hg1, hg2⟩ := owns_some happ.1 (by simp)
      generalize (pre ++ [m.toUInt8]).length = L at *
      clear happ hfin
      go_wp2
      go_ret
      exact HF.out
    · have hml : ¬ (m : Int) < 128 := by omega
      obtain ⟨X, hX⟩ : ∃ X, (m % 128 + 128).toUInt8 = X := ⟨_, rfl⟩
      have hw : IntKind.u64.wrap ((m : Int) / 128) = (m : Int) / 128 := wrap_u64 _ (by omega) (by have := HM.out; rw [u64_eq] at this; omega)
      go_wp2_with (at_builtin; (rw [big_u8 m, hX]; refine wpList_append_bs _ rfl _ _ rfl w.heap.size _ pre rfl (HOw.out.alloc _) _ [X] rfl (bs_one wr _) ?c1 ?c2 ?_))
      case c1 => have := HLen.out; omega
      case c2 => have := HK.out.size; (try simp); omega
      intro v' w1 happ
      have hfin := LayRel.next HM.out hlt HPre.out (hX ▸ happ.1) (own_kept HK.out HOw.out happ)
      have HF := Hid_mk hfin
      obtain ⟨g, cap, rfl, hg1, hg2⟩ := owns_some happ.1 (by simp)
      generalize (pre ++ [X]).length = L at *
      clear happ hfin
      go_wp2
      go_roundw
      case rel => exact HF.out
      case measure => simp [intOf]; omega

set_option maxRecDepth 100000 in
set_option maxHeartbeats 2000000 in
theorem lay_text (w : World) (s : ByteArray) (hs : s.size + 10 < 140737488355328) : Calls Try.prog 33 #[.string s] w (NewBs w (num s.size ++ s.data.toList)) := by
  go_enter Try.func33, Try.ntmps33
  go_wp2_with fail
  refine (lay_num w s.size (by rw [u64_eq]; omega)).mono ?_
  rintro e w1 ⟨v1, rfl, ho, hk⟩
  have HO := Hid_mk ho
  have HK := Hid_mk hk
  have hlen : (num s.size).length ≤ 10 := num_len _ _ (by omega) (by omega)
  have HL := Hid_mk hlen
  have hsz := hk.size
  clear ho hk hlen
  go_wp2_with (at_builtin; (refine wpList_append_str _ rfl _ _ rfl w.heap.size _ (num s.size) rfl HO.out s rfl ?c1 hsz ?_))
  case c1 => have := HL.out; omega
  intro v' w2 happ
  have hfin : NewBs w (num s.size ++ s.data.toList) (.returned v') w2 := ⟨v', rfl, happ.1, own_kept0 HK.out HO.out happ⟩
  have HF := Hid_mk hfin
  obtain ⟨g, cap, rfl, hg1, hg2⟩ := owns_some happ.1 (by have := num_pos s.size; simp; omega)
  generalize (num s.size ++ s.data.toList).length = L at *
  clear happ hfin
  go_wp2
  go_ret
  exact HF.out

end Go.Proofs.Ytaghpjlodlbmjaa.ref
