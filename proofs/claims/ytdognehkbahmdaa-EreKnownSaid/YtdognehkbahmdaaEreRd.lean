/- Package ere: the reader; does one of these bytes stand next; numbers. -/
import Derived.Test.YtdognehkbahmdaaErePart2
import Derived.Lib.IndexAny
import Derived.BigQuiet
namespace Go.Proofs.Ytdognehkbahmdaa.ere
open Go.RowKit Go.Proofs.Ytdognehkbahmdaa.sum Go.Proofs.Ytdognehkbahmdaa.kept Go.Proofs.Ytdognehkbahmdaa.pop Go.Proofs.Ytdognehkbahmdaa.cls Go.Proofs.Ytdognehkbahmdaa.tre Go.Proofs.Ytdognehkbahmdaa.str
set_option linter.unusedVariables false

/-- a reader at block q, at place k, with o brackets open -/
structure RdAt (w0 w : World) (q : Nat) (l : List UInt8) (k o : Nat) : Prop where
  c0 : w.cell? ⟨q, 0, none⟩ = some (.string (st l))
  c1 : w.cell? ⟨q, 1, none⟩ = some (.int .i64 (k : Int))
  c2 : w.cell? ⟨q, 2, none⟩ = some (.int .i64 (o : Int))
  warm : ∀ i, w.frozen? ⟨q, i, none⟩ = false
  ge : w0.heap.size ≤ q
  kp : Kp No w0 w
theorem RdAt.lt {w0 w : World} {q : Nat} {l : List UInt8} {k o : Nat} (h : RdAt w0 w q l k o) : q < w.heap.size := World.block_lt_of_cell? w ⟨q, 0, none⟩ h.c0
theorem RdAt.kept {S : Nat → Prop} {w0 w w' : World} {q : Nat} {l : List UInt8} {k o : Nat} (h : RdAt w0 w q l k o) (hk : Kp S w w') (hq : ¬ S q) (h0 : ∀ i, S i → i < w.heap.size → w0.heap.size ≤ i) : RdAt w0 w' q l k o :=
  ⟨hk.cell' h.c0 hq, hk.cell' h.c1 hq, hk.cell' h.c2 hq, fun i => (hk.frozen (p := ⟨q, i, none⟩) h.lt hq).trans (h.warm i), h.ge, h.kp.trans hk fun i hi e => by
    have := h0 i e (Nat.lt_of_lt_of_le hi h.kp.size)
    omega⟩
theorem RdAt.no {w0 w w' : World} {q : Nat} {l : List UInt8} {k o : Nat} (h : RdAt w0 w q l k o) (hk : Kp No w w') : RdAt w0 w' q l k o := h.kept hk id fun _ e => e.elim
theorem RdAt.at' {w0 w : World} {q : Nat} {l : List UInt8} {k o : Nat} (h : RdAt w0 w q l k o) (k' : Nat) : RdAt w0 (w.setCell ⟨q, 1, none⟩ (.int .i64 (k' : Int))) q l k' o :=
  ⟨by rw [World.cell?_setCell_other _ _ _ _ (by intro e; cases e)]; exact h.c0, World.cell?_setCell_same _ _ _ h.c1, by rw [World.cell?_setCell_other _ _ _ _ (by intro e; cases e)]; exact h.c2, fun i => by simp only [World.frozen?_setCell]; exact h.warm i, h.ge, h.kp.setCell (p := ⟨q, 1, none⟩) (fun e => by have := h.ge; simp only at e; omega) _⟩
theorem RdAt.open' {w0 w : World} {q : Nat} {l : List UInt8} {k o : Nat} (h : RdAt w0 w q l k o) (o' : Nat) : RdAt w0 (w.setCell ⟨q, 2, none⟩ (.int .i64 (o' : Int))) q l k o' :=
  ⟨by rw [World.cell?_setCell_other _ _ _ _ (by intro e; cases e)]; exact h.c0, by rw [World.cell?_setCell_other _ _ _ _ (by intro e; cases e)]; exact h.c1, World.cell?_setCell_same _ _ _ h.c2, fun i => by simp only [World.frozen?_setCell]; exact h.warm i, h.ge, h.kp.setCell (p := ⟨q, 2, none⟩) (fun e => by have := h.ge; simp only at e; omega) _⟩

theorem contains_nat (bs : List UInt8) (b : UInt8) : (bs.map UInt8.toNat).contains b.toNat = bs.contains b := by
  rw [Bool.eq_iff_iff]
  simp only [List.contains_iff_exists_mem_beq, List.mem_map, beq_iff_eq]
  constructor
  · rintro ⟨_, ⟨a, ha, rfl⟩, e⟩
    exact ⟨a, ha, UInt8.toNat_inj.1 e⟩
  · rintro ⟨a, ha, rfl⟩
    exact ⟨_, ⟨_, ha, rfl⟩, rfl⟩
theorem byte_back (b : UInt8) : ((b.toNat : Int)).toNat.toUInt8 = b := by
  simp

set_option maxRecDepth 100000 in
set_option maxHeartbeats 1000000 in
/-- does one of these bytes come next? -/
theorem sees_any {w0 w : World} {q : Nat} {l : List UInt8} {k o : Nat} (h : RdAt w0 w q l k o) (hl : l.length < 4294967281) (hk : k ≤ l.length) (p : ByteArray) (bs : List Nat) (hp : p.data.toList.map UInt8.toNat = bs) :
    Calls Try.prog 45 #[.pointer (some ⟨q, 0, none⟩), .string p] w fun e w' => e = .returned (.bool (seesB l k bs)) ∧ ∃ n, w' = w.drewN n := by
  have hsz := st_size l
  have hk0 : (0 : Int) ≤ (k : Int) := Int.natCast_nonneg _
  obtain ⟨c0, c1, c2, hw, -, -⟩ := h
  by_cases hlt : k < l.length
  · have hki : (k : Int) < (l.length : Int) := by omega
    have hg := fun h => st_get l k h
    obtain ⟨x, hx⟩ : ∃ x, l.getD k 0 = x := ⟨_, rfl⟩
    have hb : seesB l k bs = (p.data.toList.contains x) := by
      unfold seesB atB
      rw [decide_eq_true hlt, Bool.true_and, ← hp, hx, contains_nat]
    rw [hb]
    rw [hx] at hg
    have HIx := Hid_mk fun n => Calls.quiet_of_same (Try.strings_IndexByte p (x.toNat : Int) (w.drewN n))
    simp only [byte_back] at HIx
    have hdec : ∀ J, Lib.indexByte p.data.toList x = J → p.data.toList.contains x = decide (0 ≤ J) := fun J e => by rw [Lib.contains_iff_indexByte, e]
    obtain ⟨J, hJ⟩ : ∃ J, Lib.indexByte p.data.toList x = J := ⟨_, rfl⟩
    rw [hdec J hJ]
    rw [hJ] at HIx
    clear hdec hJ hb hx hp
    go_enter Try.func45, Try.ntmps45
    go_wp2
    go_quiet ((go_at_call 62; exact HIx.out _))
    go_wp2
    go_ret
    exact ⟨rfl, _, rfl⟩
  · have hki : ¬ (k : Int) < (l.length : Int) := by omega
    have hb : seesB l k bs = false := by unfold seesB; rw [decide_eq_false hlt, Bool.false_and]
    rw [hb]
    go_enter Try.func45, Try.ntmps45
    go_wp2
    go_quiet (fail)
    go_wp2
    go_ret
    exact ⟨rfl, _, rfl⟩

theorem octB_iff (l : List UInt8) (k : Nat) : octB l k = true ↔ k < l.length ∧ 48 ≤ atB l k ∧ atB l k ≤ 55 := by
  unfold octB
  simp only [Bool.and_eq_true, decide_eq_true_eq, and_assoc]
theorem digB_iff (l : List UInt8) (k : Nat) : digB l k = true ↔ k < l.length ∧ 48 ≤ atB l k ∧ atB l k ≤ 57 := by
  unfold digB
  simp only [Bool.and_eq_true, decide_eq_true_eq, and_assoc]
theorem octN_le (l : List UInt8) (k : Nat) : octN l k ≤ 3 := by unfold octN; split <;> (try split) <;> (try split) <;> omega
theorem octN_lt (l : List UInt8) (k j : Nat) (hj : j < octN l k) : octB l (k + j) = true := by
  unfold octN at hj
  split at hj
  · rename_i h0
    split at hj
    · rename_i h1
      split at hj
      · rename_i h2
        have : j = 0 ∨ j = 1 ∨ j = 2 := by omega
        rcases this with rfl | rfl | rfl <;> assumption
      · have : j = 0 ∨ j = 1 := by omega
        rcases this with rfl | rfl <;> assumption
    · have : j = 0 := by omega
      subst this
      assumption
  · omega
theorem octN_end (l : List UInt8) (k : Nat) : octN l k = 3 ∨ octB l (k + octN l k) = false := by
  unfold octN
  split
  · split
    · split
      · exact .inl rfl
      · rename_i h; exact .inr (by simpa using h)
    · rename_i h; exact .inr (by simpa using h)
  · rename_i h; exact .inr (by simpa using h)
theorem octN_room (l : List UInt8) (k : Nat) (hk : k ≤ l.length) : k + octN l k ≤ l.length := by
  by_cases h : octN l k = 0
  · omega
  · have := (octB_iff l _).1 (octN_lt l k (octN l k - 1) (by omega))
    omega
theorem digN_lt (l : List UInt8) (k j : Nat) (hj : j < digN l k) : digB l (k + j) = true := by
  unfold digN at hj
  split at hj
  · rename_i h0
    split at hj
    · rename_i h1
      have : j = 0 ∨ j = 1 := by omega
      rcases this with rfl | rfl <;> assumption
    · have : j = 0 := by omega
      subst this
      assumption
  · omega
theorem digN_end (l : List UInt8) (k : Nat) : digN l k = 2 ∨ digB l (k + digN l k) = false := by
  unfold digN
  split
  · split
    · exact .inl rfl
    · rename_i h; exact .inr (by simpa using h)
  · rename_i h; exact .inr (by simpa using h)
theorem digN_le (l : List UInt8) (k : Nat) : digN l k ≤ 2 := by unfold digN; split <;> (try split) <;> omega
theorem digN_room (l : List UInt8) (k : Nat) (hk : k ≤ l.length) : k + digN l k ≤ l.length := by
  by_cases h : digN l k = 0
  · omega
  · have := (digB_iff l _).1 (digN_lt l k (digN l k - 1) (by omega))
    omega
theorem octV_lt (l : List UInt8) (k : Nat) : ∀ j, octV l k j < 256
  | 0 => by simp [octV]
  | j + 1 => Nat.mod_lt _ (by decide)
theorem digV_le (l : List UInt8) (k : Nat) : ∀ j, j ≤ digN l k → digV l k j < 10 ^ j
  | 0, _ => by simp [digV]
  | j + 1, h => by
    have := digV_le l k j (by omega)
    have h2 := (digB_iff l _).1 (digN_lt l k j (by omega))
    rw [digV, Nat.pow_succ]
    omega

def OcRel (l : List UInt8) (k : Nat) (b e : Value) : Prop := ∃ j : Nat, j ≤ octN l k ∧ b = .int .u8 (octV l k j : Nat) ∧ e = .int .i64 ((k + j : Nat) : Int)

set_option maxRecDepth 100000 in
set_option maxHeartbeats 1000000 in
theorem octal_any (w : World) (l : List UInt8) (k : Nat) (hk : k ≤ l.length) (hl : l.length < 4294967281) :
    Calls Try.prog 92 #[.string (st l), .int .i64 (k : Int)] w fun e w' => e = .returned (.tuple #[.int .u8 (octV l k (octN l k) : Nat), .int .i64 ((k + octN l k : Nat) : Int)]) ∧ w' = w := by
  have hsz := st_size l
  have hk0 : (0 : Int) ≤ (k : Int) := Int.natCast_nonneg _
  have hw3 : IntKind.i64.wrap ((k : Int) + 3) = (k : Int) + 3 := IntWalk.i64_in _ (by omega)
  have hon := octN_le l k
  have hro := octN_room l k hk
  go_enter Try.func92, Try.ntmps92
  go_wp2
  go_loopw [4, 5] (fun b e wr => OcRel l k b e ∧ wr = w) (fun _ e _ => l.length - (intOf e).toNat)
  case atStart => exact ⟨⟨0, Nat.zero_le _, rfl, rfl⟩, rfl⟩
  case round =>
    obtain ⟨⟨j, hj, rfl, rfl⟩, rfl⟩ := hrel
    have hwi : IntKind.i64.wrap (((k + j : Nat) : Int) + 1) = ((k + (j + 1) : Nat) : Int) := by rw [IntWalk.i64_in _ (by omega)]; push_cast; omega
    have hv := octV_lt l k j
    by_cases hlt : k + j < l.length
    · have hki : ((k + j : Nat) : Int) < (l.length : Int) := by omega
      have hg := fun h => st_get l (k + j) h
      obtain ⟨x, hx⟩ : ∃ x, (l.getD (k + j) 0).toNat = x := ⟨_, rfl⟩
      have hxl := (l.getD (k + j) 0).toNat_lt
      rw [hx] at hg hxl
      by_cases h3 : j < 3
      · have h3i : ((k + j : Nat) : Int) < (k : Int) + 3 := by omega
        by_cases hlo : 48 ≤ x
        · have hloi : (48 : Int) ≤ (x : Int) := by omega
          by_cases hhi : x ≤ 55
          · have hhii : (x : Int) ≤ 55 := by omega
            have hjn : j < octN l k := by
              rcases octN_end l k with h | h
              · omega
              · refine Decidable.byContradiction fun hn => ?_
                obtain rfl : j = octN l k := by omega
                rw [(octB_iff l _).2 ⟨hlt, by unfold atB; omega, by unfold atB; omega⟩] at h
                cases h
            have hstep : octV l k (j + 1) = (octV l k j * 8 + (x - 48)) % 256 := by rw [octV, atB, hx]
            obtain ⟨V, hV⟩ : ∃ V, octV l k j = V := ⟨_, rfl⟩
            obtain ⟨V2, hV2⟩ : ∃ V, octV l k (j + 1) = V := ⟨_, rfl⟩
            rw [hV] at hstep hv
            rw [hV2] at hstep
            rw [hV]
            have HN := Hid_mk hjn
            have HV2 := Hid_mk hV2
            have HM := Hid_mk hk
            clear hjn hV hV2 hon
            have hval : IntKind.u8.wrap (IntKind.u8.wrap (IntKind.u8.wrap ((V : Int) * 8) + (x : Int)) - 48) = ((V2 : Nat) : Int) := by
              rw [hstep]
              simp only [IntKind.wrap, IntKind.bits, IntKind.signed]
              simp
              omega
            have hval2 : (((V : Int) * 8 + (x : Int)) % 256 - 48) % 256 = ((V2 : Nat) : Int) := by rw [hstep]; omega
            have HVal := Hid_mk hval2
            clear hstep hx hval2
            obtain ⟨K, hK⟩ : ∃ K, k + j = K := ⟨_, rfl⟩
            obtain ⟨K2, hK2⟩ : ∃ K, k + (j + 1) = K := ⟨_, rfl⟩
            rw [hK] at hg hlt hki h3i hwi ⊢
            rw [hK2] at hwi
            have HK2 := Hid_mk hK2
            have HK := Hid_mk hK
            clear hK hK2
            go_wp2
            go_roundw
            case rel => exact ⟨⟨j + 1, HN.out, by rw [HV2.out]; exact congrArg _ HVal.out, by rw [HK2.out]⟩, by trivial⟩
            case measure => have := HK.out; have := HK2.out; simp only [intOf]; omega
          · have hhii : ¬ (x : Int) ≤ 55 := by omega
            have hjn : j = octN l k := by
              refine Decidable.byContradiction fun hn => ?_
              have := (octB_iff l _).1 (octN_lt l k j (by omega))
              unfold atB at this
              omega
            have HJ := Hid_mk hjn
            clear hjn hon hro hwi
            obtain ⟨K, hK⟩ : ∃ K, k + j = K := ⟨_, rfl⟩
            rw [hK] at hg hlt hki h3i ⊢
            obtain ⟨V, hV⟩ : ∃ V, octV l k j = V := ⟨_, rfl⟩
            rw [hV]
            have HK := Hid_mk hK
            have HV := Hid_mk hV
            clear hK hV
            go_wp2
            go_ret2
            exact ⟨by rw [← HJ.out, HV.out, show (k : Int) + (j : Int) = (K : Int) by have := HK.out; omega]; rfl, rfl⟩
        · have hloi : ¬ (48 : Int) ≤ (x : Int) := by omega
          have hjn : j = octN l k := by
            refine Decidable.byContradiction fun hn => ?_
            have := (octB_iff l _).1 (octN_lt l k j (by omega))
            unfold atB at this
            omega
          have HJ := Hid_mk hjn
          clear hjn hon hro hwi
          obtain ⟨K, hK⟩ : ∃ K, k + j = K := ⟨_, rfl⟩
          rw [hK] at hg hlt hki h3i ⊢
          obtain ⟨V, hV⟩ : ∃ V, octV l k j = V := ⟨_, rfl⟩
          rw [hV]
          have HK := Hid_mk hK
          have HV := Hid_mk hV
          clear hK hV
          go_wp2
          go_ret2
          exact ⟨by rw [← HJ.out, HV.out, show (k : Int) + (j : Int) = (K : Int) by have := HK.out; omega]; rfl, rfl⟩
      · have h3i : ¬ ((k + j : Nat) : Int) < (k : Int) + 3 := by omega
        have hjn : j = octN l k := by omega
        have HJ := Hid_mk hjn
        clear hjn hon hro hwi
        obtain ⟨K, hK⟩ : ∃ K, k + j = K := ⟨_, rfl⟩
        rw [hK] at hg hlt hki h3i ⊢
        obtain ⟨V, hV⟩ : ∃ V, octV l k j = V := ⟨_, rfl⟩
        rw [hV]
        have HK := Hid_mk hK
        have HV := Hid_mk hV
        clear hK hV
        go_wp2
        go_ret2
        exact ⟨by rw [← HJ.out, HV.out, show (k : Int) + (j : Int) = (K : Int) by have := HK.out; omega]; rfl, rfl⟩
    · have hki : ¬ ((k + j : Nat) : Int) < (l.length : Int) := by omega
      have hjn : j = octN l k := by
        refine Decidable.byContradiction fun hn => ?_
        have := (octB_iff l _).1 (octN_lt l k j (by omega))
        omega
      have HJ := Hid_mk hjn
      clear hjn hon hro hwi
      obtain ⟨K, hK⟩ : ∃ K, k + j = K := ⟨_, rfl⟩
      rw [hK] at hlt hki ⊢
      obtain ⟨V, hV⟩ : ∃ V, octV l k j = V := ⟨_, rfl⟩
      rw [hV]
      have HK := Hid_mk hK
      have HV := Hid_mk hV
      clear hK hV
      go_wp2
      go_ret2
      exact ⟨by rw [← HJ.out, HV.out, show (k : Int) + (j : Int) = (K : Int) by have := HK.out; omega]; rfl, rfl⟩

end Go.Proofs.Ytdognehkbahmdaa.ere
