/- Rows of texts; the law's strs. -/
import Derived.Test.YtpmmjihkgfmbhaaDoorTx
import Derived.Test.YtpmmjihkgfmbhaaDoorClone
import Derived.Test.YtpmmjihkgfmbhaaDoorCuts0
namespace Go.Proofs.YtpmmjihkgfmbhaaDoor.spl
open Go.RowKit Go.Maps Go.Proofs.YtpmmjihkgfmbhaaDoor.sum Go.Proofs.YtpmmjihkgfmbhaaDoor.kept Go.Proofs.YtpmmjihkgfmbhaaDoor.app Go.Proofs.YtpmmjihkgfmbhaaDoor.writer Go.Proofs.YtpmmjihkgfmbhaaDoor.clone Go.Proofs.YtpmmjihkgfmbhaaDoor.known Go.Proofs.YtpmmjihkgfmbhaaDoor.unseal Go.Proofs.YtpmmjihkgfmbhaaDoor.snp
set_option linter.unusedVariables false

theorem infoT : (Tryd.prog.info? 9).map (fun i => (i.zero, i.size, i.bytes)) = some (some (.string ByteArray.empty), 1, 16) := by kernel_rfl

/-- a row of texts of the call's own -/
def TRow (w : World) (base : Nat) (v : Value) (l : List (List UInt8)) : Prop := w.ownsRow base 9 1 v l.length (l.map fun x => Value.string (tx x))
theorem TRow.no {w w' : World} {base : Nat} {v : Value} {l : List (List UInt8)} (h : TRow w base v l) (hk : Kp No w w') : TRow w' base v l := owns_kept h hk fun _ _ => id
theorem TRow.kept {S : Nat → Prop} {w w' : World} {base : Nat} {v : Value} {l : List (List UInt8)} (h : TRow w base v l) (hk : Kp S w w') (hn : ∀ g, v.ownBlock = some g → ¬ S g) : TRow w' base v l := owns_kept h hk hn
theorem TRow.nil (w : World) (base : Nat) : TRow w base (.slice none 0 0) [] := World.ownsRow_nil _ _ _ _

theorem wpList_catT (w : World) {ops : Array Oper} {rest : List Oper} {o : Oper} {a : Act} {Q : Exit → Act → World → Prop} (hgd : o.guard = none) (s e : Operand)
    (ho : o.op = .call { callee := .builtin .append, args := #[s, e], argTypes := #[48, 48] })
    (base : Nat) (v : Value) (l : List (List UInt8)) (y : List UInt8) (hs : a.eval s = v) (h : TRow w base v l) (hbase : base ≤ w.heap.size) (b c : Nat) (he : a.eval e = .slice (some ⟨b, 0, none⟩) 1 c) (hc : w.cell? ⟨b, 0, none⟩ = some (.string (tx y))) (hn : l.length ≤ 1000000000000)
    (hK : ∀ v' w', TRow w' base v' (l ++ [y]) ∧ Kp (fun k => v.ownBlock = some k) w w' ∧ (v'.ownBlock = v.ownBlock ∨ v'.ownBlock = some w.heap.size) → wpList Tryd.prog ops Q rest (a.put o.dst v') w') : wpList Tryd.prog ops Q (o :: rest) a w := by
  obtain ⟨i0, hi, hz0, hz1, hz2⟩ := info_parts infoT
  obtain ⟨v', w', hr, k1, k2, k3, k4⟩ := run_append_own_at (P := Tryd.prog) w base 48 o.type 9 i0 (.string ByteArray.empty) 1 16 Tryd.underlying48 hi hz0 hz1 hz2 rfl (by decide) v l.length _ h ⟨b, 0, none⟩ 1 c [.string (tx y)]
    rfl (fun j u hj => by
      rw [addr_add]
      match j, hj with
      | 0, hj => simp at hj; subst hj; exact hc) (fun u hu => by simp at hu; subst hu; rfl) (by unfold maxLen; omega) (by omega) hbase
  refine wpList_plain hgd fun K hK2 => ?_
  unfold Oper.wp execOp
  simp only [ho, resolve, invoke, builtin, Sem.run_bind, Sem.run_pure, Result.andThen_ok, List.map_toArray, List.map_cons, List.map_nil, hs, he, hr]
  refine hK2 _ _ (hK v' w' ⟨?_, (Kp.refl _ _).grown k2 fun k _ e => e, k4⟩)
  unfold TRow
  rw [List.length_append, List.map_append]
  exact k1

/-- read: a slice of texts -/
def Tr (w : World) (v : Value) (l : List (List UInt8)) : Prop :=
  ∃ a cap, v = .slice a l.length cap ∧ l.length ≤ cap ∧ cap ≤ 9223372036854775807 ∧ (l ≠ [] → ∃ b, a = some ⟨b, 0, none⟩ ∧ ∀ k (h : k < l.length), w.cell? ⟨b, k, none⟩ = some (.string (tx l[k])))
theorem TRow.tr {w : World} {base : Nat} {v : Value} {l : List (List UInt8)} (h : TRow w base v l) : Tr w v l := by
  have h' : w.ownsRow base 9 1 v l.length (l.map fun x => Value.string (tx x)) := h
  rcases h'.2 with ⟨rfl, h0⟩ | ⟨g, cap, cur, rfl, hb, hg, r1, r2, r3, r4⟩
  · have : l = [] := List.eq_nil_of_length_eq_zero h0
    subst this
    exact ⟨none, 0, rfl, Nat.le_refl _, by decide, fun h => absurd rfl h⟩
  · refine ⟨_, cap, rfl, r1, by unfold maxLen at r2; omega, fun _ => ⟨g, rfl, fun k hk => ?_⟩⟩
    have := h'.cells (g := g) rfl k (.string (tx l[k])) (by simp [hk])
    rw [addr_add, Nat.zero_add] at this
    exact this
theorem Tr.no {w w' : World} {v : Value} {l : List (List UInt8)} (h : Tr w v l) (hk : Kp No w w') : Tr w' v l := by
  obtain ⟨a, cap, rfl, h1, h2, h3⟩ := h
  refine ⟨a, cap, rfl, h1, h2, fun hne => ?_⟩
  obtain ⟨b, rfl, hc⟩ := h3 hne
  exact ⟨b, rfl, fun k hk2 => hk.cell' (hc k hk2) id⟩

def SsRel (n : Nat) (w : World) (i : Value) (wr : World) : Prop := ∃ k : Nat, i = .int .i64 (k : Int) ∧ k ≤ n ∧ Kp No w wr

set_option maxRecDepth 100000 in
set_option maxHeartbeats 4000000 in
theorem strs_any (w : World) (va vb : Value) (l : List (List UInt8)) (ha : Tr w va l) (hb : Tr w vb l) :
    Calls Tryd.prog 22 #[va, vb] w fun e w' => e = .returned (.bool true) ∧ Kp No w w' := by
  obtain ⟨aa, ca, rfl, a1, a2, a3⟩ := ha
  obtain ⟨ab, cb, rfl, b1, b2, b3⟩ := hb
  have HA := Hid_mk a3
  have HB := Hid_mk b3
  clear a3 b3
  go_enter Tryd.func22, Tryd.ntmps22
  go_wp2
  go_loopw [5] (fun i wr => SsRel l.length w i wr) (fun i _ => l.length - (intOf i).toNat)
  case atStart => exact ⟨0, rfl, Nat.zero_le _, Kp.refl _ _⟩
  case round =>
    obtain ⟨k, rfl, hk, hkp⟩ := hrel
    have HK := Hid_mk hkp
    by_cases hlt : k < l.length
    · have hki : (k : Int) < (l.length : Int) := by omega
      have hk0 : (0 : Int) ≤ (k : Int) := Int.natCast_nonneg _
      have hne : l ≠ [] := by intro e; rw [e] at hlt; simp at hlt
      obtain ⟨ga, rfl, hca⟩ := HA.out hne
      obtain ⟨gb, rfl, hcb⟩ := HB.out hne
      obtain ⟨X, hX⟩ : ∃ X, tx l[k] = X := ⟨_, rfl⟩
      have z1 := hkp.cell' (hca k hlt) id
      have z2 := hkp.cell' (hcb k hlt) id
      rw [hX] at z1 z2
      have HLt := Hid_mk hlt
      clear hca hcb hX hkp hne hlt
      go_wp2_with fail
      go_region_held3 (fun V => V.cell? ⟨ga, k, none⟩ = some (.string X) ∧ V.cell? ⟨gb, k, none⟩ = some (.string X)) (first | (dsimp only; exact ⟨z1, z2⟩) | go_keep) (fail)
      all_goals
        go_wp2
        go_roundw
        case rel => exact ⟨k + 1, by push_cast; rfl, HLt.out, HK.out.drew⟩
        case measure => have := HLt.out; simp only [intOf]; omega
    · have hki : ¬ (k : Int) < (l.length : Int) := by omega
      clear hlt hkp
      go_wp2
      go_ret
      exact ⟨rfl, HK.out⟩

end Go.Proofs.YtpmmjihkgfmbhaaDoor.spl
