/- A disk with one file, to which parts are appended; a list of parts that is not the disk's. -/
import Derived.Test.YtbhhmbbldbgdnaaDiskOne
import Derived.Test.YtbhhmbbldbgdnaaDiskTell
import Derived.Test.YtbhhmbbldbgdnaaDiskKnown2
import Derived.Test.YtbhhmbbldbgdnaaShort
namespace Go.Proofs.Ytbhhmbbldbgdnaa.dsk
open Go.RowKit Go.Maps Go.Proofs.Ytbhhmbbldbgdnaa.sum Go.Proofs.Ytbhhmbbldbgdnaa.kept Go.Proofs.Ytbhhmbbldbgdnaa.app Go.Proofs.Ytbhhmbbldbgdnaa.writer Go.Proofs.Ytbhhmbbldbgdnaa.clone Go.Proofs.Ytbhhmbbldbgdnaa.unseal Go.Proofs.Ytbhhmbbldbgdnaa.fs Go.Proofs.Ytbhhmbbldbgdnaa.fsMem Go.Proofs.Ytbhhmbbldbgdnaa.fsDo Go.Proofs.Ytbhhmbbldbgdnaa.fsUsed Go.Proofs.Ytbhhmbbldbgdnaa.turned Go.Proofs.Ytbhhmbbldbgdnaa.lst
set_option linter.unusedVariables false

/-- a list of parts that is not the disk's -/
def LsR (ρ : Nat → Role) (w : World) (v : Value) (ps : Els) : Prop :=
  Ls w v ps ∧ (∀ b o n c, v = .slice (some ⟨b, o, none⟩) n c → ρ b = .other ∧ b < w.heap.size) ∧ ∀ q ∈ ps, ∀ b o n c, q.1 = .slice (some ⟨b, o, none⟩) n c → ρ b = .other ∧ b < w.heap.size

theorem LsR.no {ρ : Nat → Role} {w w' : World} {v : Value} {ps : Els} (h : LsR ρ w v ps) (hk : Kp No w w') : LsR ρ w' v ps :=
  ⟨h.1.no hk, fun b o n c e => ⟨(h.2.1 b o n c e).1, Nat.lt_of_lt_of_le (h.2.1 b o n c e).2 hk.size⟩, fun q hq b o n c e => ⟨(h.2.2 q hq b o n c e).1, Nat.lt_of_lt_of_le (h.2.2 q hq b o n c e).2 hk.size⟩⟩

theorem LsR.fr {ρ ρ' : Nat → Role} {w w' : World} {v : Value} {ps : Els} (h : LsR ρ w v ps) (hf : Fr ρ w ρ' w') : LsR ρ' w' v ps := by
  obtain ⟨⟨⟨a, cap, rfl, h1, h2, h3⟩, h4⟩, h5, h6⟩ := h
  refine ⟨⟨⟨a, cap, rfl, h1, h2, fun hne => ?_⟩, fun q hq => bs_kept (h4 q hq) hf.1 fun b o n c e e2 => e2 (h6 q hq b o n c e).1⟩, fun b o n c e => ?_, fun q hq b o n c e => ?_⟩
  · obtain ⟨b, o, rfl, hc⟩ := h3 hne
    exact ⟨b, o, rfl, fun k hk => hf.1.cell' (hc k hk) fun e2 => e2 (h5 b o _ _ rfl).1⟩
  · have := h5 b o n c e
    exact ⟨hf.2 b this.2 this.1, Nat.lt_of_lt_of_le this.2 hf.1.size⟩
  · have := h6 q hq b o n c e
    exact ⟨hf.2 b this.2 this.1, Nat.lt_of_lt_of_le this.2 hf.1.size⟩

theorem owns_block {w : World} {base : Nat} {e : TypeId} {size : Nat} {v : Value} {n : Nat} {xs : List Value} (h : w.ownsRow base e size v n xs) : ∀ b o m c, v = .slice (some ⟨b, o, none⟩) m c → base ≤ b ∧ b < w.heap.size := by
  rintro b o m c rfl
  exact h.lt b rfl

theorem LsR.of_lo {ρ : Nat → Role} {w : World} {base : Nat} {v : Value} {ps : Els} (h : Lo w base v ps) (hr : ∀ k, base ≤ k → k < w.heap.size → ρ k = .other) : LsR ρ w v ps :=
  ⟨h.ls, fun b o n c e => ⟨hr b (owns_block h.row b o n c e).1 (owns_block h.row b o n c e).2, (owns_block h.row b o n c e).2⟩,
    fun q hq b o n c e => ⟨hr b (owns_block (h.each q hq) b o n c e).1 (owns_block (h.each q hq) b o n c e).2, (owns_block (h.each q hq) b o n c e).2⟩⟩

/-- element k, at the world at hand -/
theorem LsR.at {ρ : Nat → Role} {w : World} {a : Option Addr} {len cap : Nat} {ps : Els} (h : LsR ρ w (.slice a len cap) ps) {k : Nat} (hk : k < ps.length) :
    ∃ b o x bs, a = some ⟨b, o, none⟩ ∧ len = ps.length ∧ len ≤ cap ∧ (x, bs) ∈ ps ∧ ps.texts[k]? = some bs ∧ w.cell? ⟨b, o + k, none⟩ = some x ∧ Bs w x bs ∧ ∀ b o m c, x = .slice (some ⟨b, o, none⟩) m c → ρ b = .other := by
  obtain ⟨⟨⟨a', cap', e, h1, h2, h3⟩, h4⟩, h5, h6⟩ := h
  simp only [Value.slice.injEq] at e
  obtain ⟨rfl, rfl, rfl⟩ := e
  obtain ⟨b, o, rfl, hc⟩ := h3 (by intro e; rw [e] at hk; simp at hk)
  have hmem : ps[k] ∈ ps := List.getElem_mem hk
  refine ⟨b, o, ps[k].1, ps[k].2, rfl, rfl, h1, hmem, ?_, hc k hk, h4 _ hmem, fun b o m c e => (h6 _ hmem b o m c e).1⟩
  simp [Els.texts, hk]

/-- a disk of the greatest room, with fuse f: file n has x, these parts are pending -/
def apD (n : ByteArray) (f : Int) (x : Option (List UInt8)) (parts : List (List UInt8)) : DSt := ⟨8388608, f, false, oneF (nm n) x, parts.map (appC n)⟩
theorem apD_now (n : ByteArray) (f : Int) (x : Option (List UInt8)) (parts : List (List UInt8)) : (apD n f x parts).now = oneF (nm n) (after x parts) := all_oneF n x parts
theorem apD_new (n : ByteArray) : newD 8388608 = apD n (-1) none [] := rfl
theorem apD_free (n : ByteArray) (x : Option (List UInt8)) (parts : List (List UInt8)) : stopB (apD n (-1) x parts) = false ∧ stopD (apD n (-1) x parts) = apD n (-1) x parts := ⟨rfl, rfl⟩
theorem apD_snoc (n : ByteArray) (f : Int) (x : Option (List UInt8)) (parts : List (List UInt8)) (bs : List UInt8) : ({ apD n f x parts with cs := (apD n f x parts).cs ++ [appC n bs] } : DSt) = apD n f x (parts ++ [bs]) := by
  unfold apD; simp
theorem after_len (x : Option (List UInt8)) (parts : List (List UInt8)) : ((after x parts).getD []).length = (x.getD []).length + parts.flatten.length := by
  unfold after
  by_cases h : parts = []
  · subst h; simp
  · rw [if_neg h]; simp
theorem after_getD (x : Option (List UInt8)) (parts : List (List UInt8)) : (after x parts).getD [] = x.getD [] ++ parts.flatten := by
  unfold after
  by_cases h : parts = []
  · subst h; simp
  · rw [if_neg h]; simp

/-- Append on such a disk, with no fuse -/
theorem append_ap (w : World) (base p M : Nat) (ρ : Nat → Role) (n : ByteArray) (x : Option (List UInt8)) (parts : List (List UInt8)) (vb : Value) (bs : List UInt8) (h : Dk w base p ρ (apD n (-1) x parts)) (hok : DOk M (apD n (-1) x parts)) (hM : M ≤ 1000000)
    (hname : nameB n = true) (hb : Bs w vb bs) (hvo : ∀ x o m c, vb = .slice (some ⟨x, o, none⟩) m c → ρ x = .other) (hroom : (x.getD []).length + parts.flatten.length + bs.length ≤ 8388608) :
    Calls Try.prog 15 #[.pointer (some ⟨p, 0, none⟩), .string n, vb] w (StPost base p ρ (apD n (-1) x (parts ++ [bs])) w (.int .i64 0)) ∧ DOk (M + 1) (apD n (-1) x (parts ++ [bs])) := by
  have e := apD_snoc n (-1) x parts bs
  have hu : used (apD n (-1) x parts).now = (x.getD []).length + parts.flatten.length := by rw [apD_now, oneF_used, after_len]
  have hl := oneF_length (nm n) (after x parts)
  have ha := append_any w base p M ρ (apD n (-1) x parts) n vb bs h hok hM rfl hname hb hvo (by rw [hu]; show _ ≤ (8388608 : Int); omega) (by rw [apD_now]; omega)
  have ho := append_ok (bs := bs) hok hname (by omega)
  rw [(apD_free n x parts).2, e] at ha ho
  exact ⟨ha, ho⟩

theorem new_ap (n : ByteArray) : DOk 0 (apD n (-1) none []) := apD_new n ▸ new_ok 8388608 (by omega) (by omega)

/-- Read of the file -/
theorem read_ap (w : World) (base p : Nat) (ρ : Nat → Role) (n : ByteArray) (f : Int) (x : Option (List UInt8)) (parts : List (List UInt8)) (h : Dk w base p ρ (apD n f x parts)) (hn : n.size ≤ maxLen) (hu : (x.getD []).length + parts.flatten.length ≤ 8388608) :
    Calls Try.prog 18 #[.pointer (some ⟨p, 0, none⟩), .string n] w fun e w' => ∃ v, e = .returned (.tuple #[v, .bool (after x parts).isSome]) ∧ w'.ownsRow w.heap.size 5 1 v (x.getD [] ++ parts.flatten).length ((x.getD [] ++ parts.flatten).map B) ∧ Kp No w w' := by
  obtain ⟨s, nn, vp, ps, h⟩ := h
  have hr := read_any w base p ρ _ _ s nn vp ps n h rfl hn (by rw [apD_now, oneF_used, after_len]; omega)
  rw [apD_now, oneF_get, oneF_old, after_getD] at hr
  exact hr

theorem run_str_add (xs ys : List UInt8) (h : xs.length + ys.length ≤ 1000000000) (W : World) : (Op.stringOp .add ⟨xs.toArray⟩ ⟨ys.toArray⟩).run Try.prog W = .ok (.string ⟨(xs ++ ys).toArray⟩) W := by
  have e : (⟨xs.toArray⟩ : ByteArray) ++ ⟨ys.toArray⟩ = ⟨(xs ++ ys).toArray⟩ := by
    apply ByteArray.ext
    simp
  rw [← e]
  refine run_string_add_sum (P := Try.prog) (w := W) _ _ ?_
  show xs.toArray.size + ys.toArray.size ≤ _
  simp
  omega

theorem run_str_to (xs : List UInt8) (g : Nat) (hg : g ≤ xs.length) (W : World) : (Instr.sliceAt 9 (.string ⟨xs.toArray⟩) none (some (.int .i64 (g : Int))) none).run Try.prog W = .ok (.string ⟨(xs.take g).toArray⟩) W := by
  have hsz : (⟨xs.toArray⟩ : ByteArray).size = xs.length := by show xs.toArray.size = _; simp
  have hu : Try.prog.underlying 9 = some .string := Try.underlying9
  rw [run_sliceAt_string W _ _ _ _ _ hu]
  have hh := run_slice_string_to_if (P := Try.prog) (w := W) 9 ⟨xs.toArray⟩ .i64 (g : Int) hu
  rw [hh, if_pos ⟨by omega, by rw [hsz]; omega⟩]
  congr 2
  apply ByteArray.ext
  simp [ByteArray.extract, ByteArray.copySlice]

theorem str_add (xs ys : List UInt8) : (⟨xs.toArray⟩ : ByteArray) ++ ⟨ys.toArray⟩ = ⟨(xs ++ ys).toArray⟩ := by
  apply ByteArray.ext
  simp

end Go.Proofs.Ytbhhmbbldbgdnaa.dsk
