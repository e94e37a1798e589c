/- Floats as eight bytes: package pack's Writer.Float, the reference's Float. -/
import Derived.Test.YtaghpjlodlbmjaaReaderText
namespace Go.Proofs.Ytaghpjlodlbmjaa.words
open Go.RowKit Go.Proofs.Ytaghpjlodlbmjaa.sum Go.Proofs.Ytaghpjlodlbmjaa.kept Go.Proofs.Ytaghpjlodlbmjaa.app Go.Proofs.Ytaghpjlodlbmjaa.writer Go.Proofs.Ytaghpjlodlbmjaa.clone Go.Proofs.Ytaghpjlodlbmjaa.seal Go.Proofs.Ytaghpjlodlbmjaa.unseal
set_option linter.unusedVariables false

theorem run_bits (b : Nat) (w : World) : (callFunc 63 #[.float .f64 b]).run Try.prog w = .ok (.value (.int .u64 (b : Int))) w := by
  rw [run_callFunc_extern Try.func63 (by kernel_rfl) (by kernel_rfl) (by kernel_rfl) (show Extern.find _ = some Extern.MathFloatBits.float64bits by kernel_rfl)]
  rfl
theorem run_from (n : Nat) (w : World) : (callFunc 72 #[.int .u64 (n : Int)]).run Try.prog w = .ok (.value (.float .f64 n)) w := by
  rw [run_callFunc_extern Try.func72 (by kernel_rfl) (by kernel_rfl) (by kernel_rfl) (show Extern.find _ = some Extern.MathFloatBits.float64frombits by kernel_rfl)]
  show Result.ok _ _ = _
  simp

/-- is this word no number? -/
def nanB (b : Nat) : Bool := FloatKind.f64.format.order b b != some .eq
def nanW : Nat := 9221120237041090561
theorem nanB_nanW : nanB nanW = true := by decide +kernel
theorem nanW_int : ((nanW : Nat) : Int) = 9221120237041090561 := rfl
/-- the word that stands for all of those that are none -/
def canon (b : Nat) : Nat := if nanB b = true then nanW else b
def bytesN : Nat → Nat → List UInt8
  | 0, _ => []
  | k + 1, b => b.toUInt8 :: bytesN k (b / 256)
theorem bytesN_len (k b : Nat) : (bytesN k b).length = k := by
  induction k generalizing b with
  | zero => rfl
  | succ k ih => simp [bytesN, ih]

theorem u8_mod (d : Nat) : (d % 256).toUInt8 = d.toUInt8 := by apply UInt8.toNat_inj.1; rw [u8_toNat, u8_toNat]; omega

theorem neq_yes {b : Nat} (h : nanB b = true) : (FloatKind.f64.format.order b b != some .eq) = true := h
theorem neq_no {b : Nat} (h : nanB b = false) : (FloatKind.f64.format.order b b != some .eq) = false := h

theorem isnan_any (b : Nat) (w : World) : Calls Try.prog 61 #[.float .f64 b] w fun e w' => e = .returned (.bool (nanB b)) ∧ w = w' := by
  go_enter Try.func61, Try.ntmps61
  go_wp2
  go_ret
  exact ⟨rfl, rfl⟩

theorem nan_any (w : World) : Calls Try.prog 62 #[] w fun e w' => e = .returned (.float .f64 nanW) ∧ w = w' := by
  have h : ∀ w, (callFunc 72 #[.int .u64 9221120237041090561]).run Try.prog w = .ok (.value (.float .f64 nanW)) w := fun w => run_from nanW w
  go_enter Try.func62, Try.ntmps62
  go_wp2
  go_ret
  exact ⟨rfl, rfl⟩

def FlRel (base p : Nat) (v : Value) (bs : List UInt8) (b : Nat) (w : World) (t i : Value) (wr : World) : Prop :=
  ∃ (k c : Nat) (pre : List UInt8), k ≤ 8 ∧ i = .int .i64 k ∧ t = .int .u64 c ∧ c < U64 ∧ pre.length = k ∧ pre ++ bytesN (8 - k) c = bytesN 8 b ∧ WrPost base p v (bs ++ pre) w (.returned (.tuple #[])) wr

set_option maxRecDepth 100000 in
set_option maxHeartbeats 2000000 in
theorem float_any (base p : Nat) (w : World) (v : Value) (bs : List UInt8) (b : Nat) (hb : b < U64) (h : Wr base w p v bs) (hl : bs.length + 8 < 140737488355328) :
    Calls Try.prog 30 #[.pointer (some ⟨p, 0, none⟩), .float .f64 b] w (WrPost base p v (bs ++ bytesN 8 (canon b)) w) := by
  have H := Hid_mk h
  have hq := run_bits
  have hcan : canon b < U64 := by unfold canon; split; · decide
                                  · exact hb
  have HC := Hid_mk hcan
  clear h hcan hb
  by_cases hn : nanB b = true
  all_goals
    go_enter Try.func30, Try.ntmps30
    go_wp2_with fail
    refine (isnan_any b w).mono ?_
    rintro e w' ⟨rfl, rfl⟩
  · have hc : canon b = nanW := by unfold canon; rw [if_pos hn]
    rw [hn]
    have HCan := Hid_mk hc
    rw [hc] at HC
    clear hn hc
    go_wp2_with fail
    refine (nan_any w).mono ?_
    rintro e w' ⟨rfl, rfl⟩
    generalize nanW = c at *
    go_wp2
    go_loopw [4, 10] (fun t i wr => FlRel base p v bs c w t i wr) (fun _ i _ => 8 - (intOf i).toNat)
    case atStart => exact ⟨0, c, [], by omega, rfl, rfl, HC.out, rfl, rfl, by simpa using WrPost.refl H.out⟩
    case round =>
      obtain ⟨k, d, pre, hk, rfl, rfl, hd, hpl, hpre, hpost⟩ := hrel
      have HPre := Hid_mk hpre
      have HPl := Hid_mk hpl
      have HD := Hid_mk hd
      obtain ⟨-, v1, hat⟩ := hpost
      have HA := Hid_mk hat
      clear hpre hpl hd hat
      by_cases hlt : k < 8
      · have hki : (k : Int) < 8 := by omega
        go_wp2_with fail
        have hmod : ((d : Int) % 256) = ((d % 256 : Nat) : Int) := by omega
        rw [hmod]
        refine (byte_nat base p wr v1 _ (d % 256) (by omega) HA.out.1 (by have := HPl.out; simp; omega)).mono ?_
        rintro e w1 hpost
        have hfin : FlRel base p v bs c w (.int .u64 ((d / 256 : Nat) : Int)) (.int .i64 ((k + 1 : Nat) : Int)) w1 := by
          refine ⟨k + 1, d / 256, pre ++ [(d % 256).toUInt8], by omega, rfl, rfl, ?_, ?_, ?_, ?_⟩
          · have := HD.out; omega
          · have := HPl.out; simp; omega
          · rw [← HPre.out, List.append_assoc, show 8 - k = (8 - (k + 1)) + 1 by omega]
            show _ = pre ++ (d.toUInt8 :: bytesN (8 - (k + 1)) (d / 256))
            rw [u8_mod]; rfl
          · rw [← List.append_assoc]; exact wr_join HA.out (hpost.1 ▸ hpost)
        have he := hpost.1
        subst he
        clear hpost hmod
        have HF := Hid_mk hfin
        clear hfin
        go_wp2
        go_roundw
        case rel => exact HF.out
        case measure => simp [intOf]; omega
      · have hki : ¬ (k : Int) < 8 := by omega
        obtain rfl : k = 8 := by omega
        have hfin : WrPost base p v (bs ++ bytesN 8 c) w (.returned (.tuple #[])) wr := by
          refine ⟨rfl, v1, ?_⟩
          have this : pre ++ [] = bytesN 8 c := HPre.out
          rw [List.append_nil] at this
          rw [← this]
          exact HA.out
        have HF := Hid_mk hfin
        clear hfin
        go_wp2
        go_end0
        rw [HCan.out]
        exact HF.out
  · have hc : canon b = b := by unfold canon; rw [if_neg hn]
    have hn' : nanB b = false := by simpa using hn
    rw [hn']
    have HCan := Hid_mk hc
    rw [hc] at HC
    clear hn hn' hc
    generalize b = c at *
    go_wp2
    go_loopw [4, 10] (fun t i wr => FlRel base p v bs c w t i wr) (fun _ i _ => 8 - (intOf i).toNat)
    case atStart => exact ⟨0, c, [], by omega, rfl, rfl, HC.out, rfl, rfl, by simpa using WrPost.refl H.out⟩
    case round =>
      obtain ⟨k, d, pre, hk, rfl, rfl, hd, hpl, hpre, hpost⟩ := hrel
      have HPre := Hid_mk hpre
      have HPl := Hid_mk hpl
      have HD := Hid_mk hd
      obtain ⟨-, v1, hat⟩ := hpost
      have HA := Hid_mk hat
      clear hpre hpl hd hat
      by_cases hlt : k < 8
      · have hki : (k : Int) < 8 := by omega
        go_wp2_with fail
        have hmod : ((d : Int) % 256) = ((d % 256 : Nat) : Int) := by omega
        rw [hmod]
        refine (byte_nat base p wr v1 _ (d % 256) (by omega) HA.out.1 (by have := HPl.out; simp; omega)).mono ?_
        rintro e w1 hpost
        have hfin : FlRel base p v bs c w (.int .u64 ((d / 256 : Nat) : Int)) (.int .i64 ((k + 1 : Nat) : Int)) w1 := by
          refine ⟨k + 1, d / 256, pre ++ [(d % 256).toUInt8], by omega, rfl, rfl, ?_, ?_, ?_, ?_⟩
          · have := HD.out; omega
          · have := HPl.out; simp; omega
          · rw [← HPre.out, List.append_assoc, show 8 - k = (8 - (k + 1)) + 1 by omega]
            show _ = pre ++ (d.toUInt8 :: bytesN (8 - (k + 1)) (d / 256))
            rw [u8_mod]; rfl
          · rw [← List.append_assoc]; exact wr_join HA.out (hpost.1 ▸ hpost)
        have he := hpost.1
        subst he
        clear hpost hmod
        have HF := Hid_mk hfin
        clear hfin
        go_wp2
        go_roundw
        case rel => exact HF.out
        case measure => simp [intOf]; omega
      · have hki : ¬ (k : Int) < 8 := by omega
        obtain rfl : k = 8 := by omega
        have hfin : WrPost base p v (bs ++ bytesN 8 c) w (.returned (.tuple #[])) wr := by
          refine ⟨rfl, v1, ?_⟩
          have this : pre ++ [] = bytesN 8 c := HPre.out
          rw [List.append_nil] at this
          rw [← this]
          exact HA.out
        have HF := Hid_mk hfin
        clear hfin
        go_wp2
        go_end0
        rw [HCan.out]
        exact HF.out

end Go.Proofs.Ytaghpjlodlbmjaa.words
