/- internal/strconv: digits with a point among them. -/
import Derived.Test.YtannbdbhkhmppaaGreatDoorFmtFixedM
import Derived.Test.YtannbdbhkhmppaaGreatDoorRow0M

namespace Go.Proofs.YtannbdbhkhmppaaGreatDoor.fmtf
open Go.RowKit Go.Proofs.YtannbdbhkhmppaaGreatDoor.sum Go.Proofs.YtannbdbhkhmppaaGreatDoor.kept Go.Proofs.YtannbdbhkhmppaaGreatDoor.app Go.Proofs.YtannbdbhkhmppaaGreatDoor.writer
set_option linter.unusedVariables false

/-- what is put together: a row of one's own -/
structure Dst (base : Nat) (w0 : World) (v0 : Value) (w : World) (v : Value) (bs : List UInt8) : Prop where
  owns : w.ownsRow base 5 1 v bs.length (bs.map B)
  kp : Kp (fun k => some k = v0.ownBlock) w0 w
  fresh : v.ownBlock = v0.ownBlock ∨ ∀ g, v.ownBlock = some g → w0.heap.size ≤ g
  room : base ≤ w0.heap.size
theorem Dst.push {base : Nat} {w0 w w1 : World} {v0 v v' : Value} {bs : List UInt8} {x : UInt8} {o : Obj} (h : Dst base w0 v0 w v bs) (happ : App base (w.alloc o) v bs [x] v' w1) : Dst base w0 v0 w1 v' (bs ++ [x]) := by
  have k2 : Kp (fun k => some k = v.ownBlock) w w1 := app_kept happ fun k _ e => e.symm
  refine ⟨happ.1, h.kp.trans k2 fun i hi e => ?_, ?_, h.room⟩
  · rcases h.fresh with h2 | h2
    · exact e.trans h2
    · have := h2 i e.symm; omega
  · rcases app_fresh happ with h2 | h2
    · rcases h.fresh with h3 | h3
      · exact .inl (h2.trans h3)
      · exact .inr fun g hg => h3 g (by rw [← h2]; exact hg)
    · exact .inr fun g hg => Nat.le_trans h.kp.size (h2 g hg)
theorem Dst.refl {base : Nat} {w : World} {v : Value} {bs : List UInt8} (h : w.ownsRow base 5 1 v bs.length (bs.map B)) (hr : base ≤ w.heap.size) : Dst base w v w v bs := ⟨h, Kp.refl _ _, .inl rfl, hr⟩
theorem bs_byte (w : World) (b : Nat) (hb : b < 256) : Bs (w.alloc (.cells #[.int .u8 (b : Int)] 5)) (.slice (some ⟨w.heap.size, 0, none⟩) 1 1) [UInt8.ofNat b] := by
  have h := bs_one w (UInt8.ofNat b)
  have e : (UInt8.ofNat b).toNat = b := by simp; omega
  rw [e] at h
  exact h
def intF (f : Nat → Nat) (dp : Int) (nd : Nat) : List UInt8 := if 0 < dp then (List.range (min (nd : Int) dp).toNat).map (fun i => UInt8.ofNat (f i)) ++ List.replicate (dp - min (nd : Int) dp).toNat 48 else [48]
def lzF (dp prec : Int) : Int := min prec (max 0 (-dp))
def midF (dp : Int) (nd : Nat) (prec : Int) : Int := min (prec - lzF dp prec) (max 0 ((nd : Int) - (dp + lzF dp prec)))
def fracF (f : Nat → Nat) (dp : Int) (nd : Nat) (prec : Int) : List UInt8 :=
  if 0 < prec then 46 :: (List.replicate (lzF dp prec).toNat 48 ++ (List.range (midF dp nd prec).toNat).map (fun i => UInt8.ofNat (f ((dp + lzF dp prec).toNat + i))) ++ List.replicate (max 0 (prec - lzF dp prec - midF dp nd prec)).toNat 48) else []
/-- after the sign: whole part, fraction -/
def outF (neg : Bool) (f : Nat → Nat) (dp : Int) (nd : Nat) (prec : Int) : List UInt8 := (if neg = true then [45] else []) ++ intF f dp nd ++ fracF f dp nd prec
def EfPost (base : Nat) (w0 : World) (v0 : Value) (bs : List UInt8) (e : Ending) (w' : World) : Prop := ∃ v, e = .returned v ∧ Dst base w0 v0 w' v bs

set_option maxRecDepth 100000 in
set_option maxHeartbeats 16000000 in
theorem efg_f (base : Nat) (w : World) (v0 : Value) (bs : List UInt8) (neg sh : Bool) (gs ls cs : Nat) (dp prec : Int) (nd : Nat) (f : Nat → Nat) (hd : Dst base w v0 w v0 bs) (hs : BufAt w gs 0 nd f) (hgs : some gs ≠ v0.ownBlock) (hnl : nd ≤ ls) (hlc : ls ≤ cs) (hcs : cs ≤ 1000) (hf : ∀ i, i < nd → f i < 256) (hnd : nd ≤ 800) (hdp1 : -1000 ≤ dp) (hdp2 : dp ≤ 1000) (hp1 : 0 ≤ prec) (hp2 : prec ≤ 1000) (hbs : bs.length ≤ 100000) :
    Calls Tryz.prog 86 #[v0, .bool neg, .slice (some ⟨gs, 0, none⟩) ls cs, .int .i64 dp, .int .i64 (nd : Int), .int .i64 prec, .int .u8 102, .bool sh] w (EfPost base w v0 (bs ++ outF neg f dp nd prec)) := by
  have HD := Hid_mk hd
  have HS := Hid_mk hs
  have HGs := Hid_mk hgs
  have HF := Hid_mk hf
  have HNl := Hid_mk (And.intro hnl (And.intro hlc (And.intro hcs hnd)))
  have HLbs : Hid (bs.length ≤ 100000) := Hid_mk hbs
  obtain ⟨R, hR⟩ : ∃ R, bs ++ outF neg f dp nd prec = R := ⟨_, rfl⟩
  rw [hR]
  unfold outF at hR
  have HR := Hid_mk hR
  have hnd0 : (0 : Int) ≤ (nd : Int) := Int.natCast_nonneg _
  have hnd18 : (nd : Int) ≤ 800 := by omega
  clear hd hs hgs hf hnl hlc hcs hnd hbs hR
  go_enter Tryz.func86, Tryz.ntmps86
  rcases neg with _ | _
  · have HD0 := HD
    by_cases hdp : 0 < dp
    · have hdp0 : (0 : Int) < dp := hdp
      have HDp := Hid_mk hdp
      obtain ⟨M, hM⟩ : ∃ M : Nat, min (nd : Int) dp = (M : Int) := ⟨(min (nd : Int) dp).toNat, by omega⟩
      have hNl := HNl.out
      have hM0 : (0 : Int) ≤ (M : Int) := Int.natCast_nonneg _
      have hMd : (M : Int) ≤ dp := by omega
      have hMn : (M : Int) ≤ (nd : Int) := by omega
      have hMls : (M : Int) ≤ (ls : Int) := by omega
      have hMcs : (M : Int) ≤ (cs : Int) := by omega
      have hls : (ls : Int) ≤ 1000 := by omega
      obtain ⟨ZR, hZR⟩ : ∃ ZR : Nat, dp - (M : Int) = (ZR : Int) := ⟨(dp - (M : Int)).toNat, by omega⟩
      have hZRb : (ZR : Int) ≤ 1000 := by omega
      have HM := Hid_mk hM
      clear hNl
      go_wp2_with fail
      go_loopw [0, 191] (fun v i wr => ∃ k : Nat, i = .int .i64 (k : Int) ∧ k ≤ M ∧ Dst base w v0 wr v (bs ++ (List.range k).map (fun i => UInt8.ofNat (f i)))) (fun _ i _ => M - (intOf i).toNat)
      case atStart => exact ⟨0, rfl, Nat.zero_le _, by simpa using HD0.out⟩
      case round =>
        obtain ⟨k, rfl, hk, hd⟩ := hrel
        have HDk := Hid_mk hd
        have hk0 : (0 : Int) ≤ (k : Int) := Int.natCast_nonneg _
        have hk9 : (k : Int) ≤ 800 := by omega
        by_cases hlt : (k : Int) < (M : Int)
        · have HLt := Hid_mk hlt
          have c1 := hd.kp.cell' (HS.out.cell (k) (by have h7 := HNl.out; omega)) (fun e => HGs.out e)
          simp only [Nat.zero_add] at c1
          obtain ⟨y, hy⟩ : ∃ y, f (k) = y := ⟨_, rfl⟩
          have hy2 := HF.out (k) (by have h7 := HNl.out; omega)
          rw [hy] at c1 hy2
          have HY := Hid_mk hy
          have HY2 := Hid_mk hy2
          skip
          clear hd hk hy hy2
          go_wp2_with (at_builtin; (refine wpList_append_bs _ rfl _ _ rfl base _ _ rfl (HDk.out.owns.alloc _) _ [UInt8.ofNat y] rfl (bs_byte _ y HY2.out) ?c1 ?c2 ?_))
          case c1 => have h8 := HLbs.out; simp; omega
          case c2 => have h8 := HDk.out.room; have h9 := HDk.out.kp.size; simp; omega
          intro v1 w1 happ
          have HD1x := Hid_mk (HDk.out.push happ)
          clear happ
          clear c1
          go_wp2
          go_roundw
          case rel => exact ⟨k + 1, by go_num, by have := HLt.out; omega, by rw [List.range_succ, List.map_append, List.map_singleton, HY.out]; simpa [List.append_assoc] using HD1x.out⟩
          case measure => have := HLt.out; simp [intOf]; omega
        · have hke : M = k := by omega
          subst hke
          clear hd hk
          obtain ⟨b2, hn2⟩ : ∃ l, bs ++ (List.range M).map (fun i => UInt8.ofNat (f i)) = l := ⟨_, rfl⟩
          have hl2 : b2.length ≤ 101618 := by have h8 := HLbs.out; rw [← hn2]; simp; omega
          have HN2 := Hid_mk hn2
          have HLb2 := Hid_mk hl2
          have HDn2 := Hid_mk (show Dst base w v0 _ _ b2 by rw [← hn2]; exact HDk.out)
          clear hn2 hl2
          go_wp2_with fail
          go_loopw [0, 203] (fun v i wr => ∃ k : Nat, i = .int .i64 (k : Int) ∧ (k = 0 ∨ k ≤ ZR) ∧ Dst base w v0 wr v (b2 ++ List.replicate k 48)) (fun _ i _ => ZR - (intOf i).toNat)
          case atStart => exact ⟨0, rfl, .inl rfl, by simpa using HDn2.out⟩
          case round =>
            obtain ⟨k, rfl, hk, hd⟩ := hrel
            have HDk := Hid_mk hd
            have hk0 : (0 : Int) ≤ (k : Int) := Int.natCast_nonneg _
            have hk9 : (k : Int) ≤ 3000 := by omega
            by_cases hlt : (k : Int) < (ZR : Int)
            · have HLt := Hid_mk hlt
              clear hd hk
              go_wp2_with (at_builtin; (refine wpList_append_bs _ rfl _ _ rfl base _ _ rfl (HDk.out.owns.alloc _) _ [48] rfl (bs_one _ 48) ?c1 ?c2 ?_))
              case c1 => have h8 := HLb2.out; simp; omega
              case c2 => have h8 := HDk.out.room; have h9 := HDk.out.kp.size; simp; omega
              intro v3 w3 happ
              have HD3x := Hid_mk (HDk.out.push happ)
              clear happ
              go_wp2
              go_roundw
              case rel => exact ⟨k + 1, by go_num, by have := HLt.out; omega, by rw [List.replicate_succ']; simpa [List.append_assoc] using HD3x.out⟩
              case measure => have := HLt.out; simp [intOf]; omega
            · have hke : ZR = k := by omega
              subst hke
              clear hd hk
              obtain ⟨b4, hn4⟩ : ∃ l, b2 ++ List.replicate ZR 48 = l := ⟨_, rfl⟩
              have hl4 : b4.length ≤ 102618 := by have h8 := HLb2.out; rw [← hn4]; simp; omega
              have HN4 := Hid_mk hn4
              have HLb4 := Hid_mk hl4
              have HDn4 := Hid_mk (show Dst base w v0 _ _ b4 by rw [← hn4]; exact HDk.out)
              clear hn4 hl4
              by_cases hpr : 0 < prec
              · have hpr1 : (0 : Int) < prec := hpr
                have HPr := Hid_mk hpr
                obtain ⟨LZ, hLZ⟩ : ∃ LZ : Nat, lzF dp prec = (LZ : Int) := ⟨(lzF dp prec).toNat, by unfold lzF; omega⟩
                obtain ⟨MD, hMD⟩ : ∃ MD : Nat, midF dp nd prec = (MD : Int) := ⟨(midF dp nd prec).toNat, by unfold midF lzF; omega⟩
                obtain ⟨TZ, hTZ⟩ : ∃ TZ : Nat, max 0 (prec - lzF dp prec - midF dp nd prec) = (TZ : Int) := ⟨(max 0 (prec - lzF dp prec - midF dp nd prec)).toNat, by omega⟩
                have HLzs := Hid_mk (And.intro hLZ (And.intro hMD hTZ))
                rw [hLZ] at hTZ
                have hMD2 := hMD
                unfold midF at hMD2
                rw [hLZ] at hMD2
                rw [hMD] at hTZ
                have hLZ2 := hLZ
                unfold lzF at hLZ2
                have hLZb : (LZ : Int) ≤ 1000 := by omega
                have hLZ0 : (0 : Int) ≤ (LZ : Int) := Int.natCast_nonneg _
                have hTZb : (TZ : Int) ≤ 1000 := by omega
                have hMDb : (MD : Int) ≤ 800 := by omega
                have hoff : MD = 0 ∨ ((0 : Int) ≤ dp + LZ ∧ dp + LZ + MD ≤ nd) := by omega
                have HOff := Hid_mk hoff
                clear hoff hLZ hMD
                go_wp2_with (at_builtin; (refine wpList_append_bs _ rfl _ _ rfl base _ _ rfl (HDn4.out.owns.alloc _) _ [46] rfl (bs_one _ 46) ?c1 ?c2 ?_))
                case c1 => have h8 := HLb4.out; simp; omega
                case c2 => have h8 := HDn4.out.room; have h9 := HDn4.out.kp.size; simp; omega
                intro v5 w5 happ
                have HD5x := Hid_mk (HDn4.out.push happ)
                clear happ
                obtain ⟨b6, hn6⟩ : ∃ l, b4 ++ [46] = l := ⟨_, rfl⟩
                have hl6 : b6.length ≤ 102619 := by have h8 := HLb4.out; rw [← hn6]; simp; omega
                have HN6 := Hid_mk hn6
                have HLb6 := Hid_mk hl6
                have HDn6 := Hid_mk (show Dst base w v0 _ _ b6 by rw [← hn6]; exact HD5x.out)
                clear hn6 hl6
                go_wp2_with fail
                go_loopw [0, 240] (fun v i wr => ∃ k : Nat, i = .int .i64 (k : Int) ∧ (k = 0 ∨ k ≤ LZ) ∧ Dst base w v0 wr v (b6 ++ List.replicate k 48)) (fun _ i _ => LZ - (intOf i).toNat)
                case atStart => exact ⟨0, rfl, .inl rfl, by simpa using HDn6.out⟩
                case round =>
                  obtain ⟨k, rfl, hk, hd⟩ := hrel
                  have HDk := Hid_mk hd
                  have hk0 : (0 : Int) ≤ (k : Int) := Int.natCast_nonneg _
                  have hk9 : (k : Int) ≤ 3000 := by omega
                  by_cases hlt : (k : Int) < (LZ : Int)
                  · exfalso
                    omega
                  · have hke : LZ = k := by omega
                    subst hke
                    clear hd hk
                    obtain ⟨b7, hn7⟩ : ∃ l, b6 ++ List.replicate LZ 48 = l := ⟨_, rfl⟩
                    have hl7 : b7.length ≤ 105019 := by have h8 := HLb6.out; rw [← hn7]; simp; omega
                    have HN7 := Hid_mk hn7
                    have HLb7 := Hid_mk hl7
                    have HDn7 := Hid_mk (show Dst base w v0 _ _ b7 by rw [← hn7]; exact HDk.out)
                    clear hn7 hl7
                    obtain ⟨OF, hOF⟩ : ∃ OF : Nat, MD = 0 ∨ dp + LZ = (OF : Int) := ⟨(dp + LZ).toNat, by have := HOff.out; omega⟩
                    go_wp2_with fail
                    go_loopw [0, 30, 247] (fun v _ i wr => ∃ k : Nat, i = .int .i64 (k : Int) ∧ k ≤ MD ∧ Dst base w v0 wr v (b7 ++ (List.range k).map (fun i => UInt8.ofNat (f (OF + i))))) (fun _ _ i _ => MD - (intOf i).toNat)
                    case atStart => exact ⟨0, rfl, Nat.zero_le _, by simpa using HDn7.out⟩
                    case round =>
                      obtain ⟨k, rfl, hk, hd⟩ := hrel
                      have HDk := Hid_mk hd
                      have hk0 : (0 : Int) ≤ (k : Int) := Int.natCast_nonneg _
                      have hk9 : (k : Int) ≤ 800 := by omega
                      by_cases hlt : (k : Int) < (MD : Int)
                      · have HLt := Hid_mk hlt
                        have c1 := hd.kp.cell' (HS.out.cell ((OF + k)) (by have h7 := HOff.out; omega)) (fun e => HGs.out e)
                        simp only [Nat.zero_add] at c1
                        obtain ⟨y, hy⟩ : ∃ y, f ((OF + k)) = y := ⟨_, rfl⟩
                        have hy2 := HF.out ((OF + k)) (by have h7 := HOff.out; omega)
                        rw [hy] at c1 hy2
                        have HY := Hid_mk hy
                        have HY2 := Hid_mk hy2
                        have hof : dp + LZ = (OF : Int) := by have := HLt.out; omega
                        have hofk : (OF : Int) + (k : Int) < (ls : Int) := by have := HLt.out; have := HOff.out; have := HNl.out; omega
                        have hofc : (OF : Int) + (k : Int) ≤ 1000 := by have := HLt.out; have := HOff.out; have := HNl.out; omega
                        have hon : ((OF : Int) + (k : Int)).toNat = OF + k := by omega
                        clear hd hk hy hy2
                        go_wp2_with (at_builtin; (refine wpList_append_bs _ rfl _ _ rfl base _ _ rfl (HDk.out.owns.alloc _) _ [UInt8.ofNat y] rfl (bs_byte _ y HY2.out) ?c1 ?c2 ?_))
                        case c1 => have h8 := HLb7.out; simp; omega
                        case c2 => have h8 := HDk.out.room; have h9 := HDk.out.kp.size; simp; omega
                        intro v8 w8 happ
                        have HD8x := Hid_mk (HDk.out.push happ)
                        clear happ
                        clear c1
                        go_wp2
                        go_roundw
                        case rel => simp only [← hof]; exact ⟨_, _, _, _, _, _, _, _, _, _, _, _, _, _, _, ⟨k + 1, by go_num, by have := HLt.out; omega, by rw [List.range_succ, List.map_append, List.map_singleton, HY.out]; simpa [List.append_assoc] using HD8x.out⟩, rfl⟩
                        case measure => have := HLt.out; simp [intOf]; omega
                      · have hke : MD = k := by omega
                        subst hke
                        clear hd hk
                        obtain ⟨b9, hn9⟩ : ∃ l, b7 ++ (List.range MD).map (fun i => UInt8.ofNat (f (OF + i))) = l := ⟨_, rfl⟩
                        have hl9 : b9.length ≤ 107037 := by have h8 := HLb7.out; rw [← hn9]; simp; omega
                        have HN9 := Hid_mk hn9
                        have HLb9 := Hid_mk hl9
                        have HDn9 := Hid_mk (show Dst base w v0 _ _ b9 by rw [← hn9]; exact HDk.out)
                        clear hn9 hl9
                        go_wp2_with fail
                        go_loopw [0, 261] (fun v i wr => ∃ k : Nat, i = .int .i64 (k : Int) ∧ (k = 0 ∨ k ≤ TZ) ∧ Dst base w v0 wr v (b9 ++ List.replicate k 48)) (fun _ i _ => TZ - (intOf i).toNat)
                        case atStart => exact ⟨0, rfl, .inl rfl, by simpa using HDn9.out⟩
                        case round =>
                          obtain ⟨k, rfl, hk, hd⟩ := hrel
                          have HDk := Hid_mk hd
                          have hk0 : (0 : Int) ≤ (k : Int) := Int.natCast_nonneg _
                          have hk9 : (k : Int) ≤ 3000 := by omega
                          by_cases hlt : (k : Int) < (TZ : Int)
                          · have HLt := Hid_mk hlt
                            clear hd hk
                            go_wp2_with (at_builtin; (refine wpList_append_bs _ rfl _ _ rfl base _ _ rfl (HDk.out.owns.alloc _) _ [48] rfl (bs_one _ 48) ?c1 ?c2 ?_))
                            case c1 => have h8 := HLb9.out; simp; omega
                            case c2 => have h8 := HDk.out.room; have h9 := HDk.out.kp.size; simp; omega
                            intro v10 w10 happ
                            have HD10x := Hid_mk (HDk.out.push happ)
                            clear happ
                            go_wp2
                            go_roundw
                            case rel => exact ⟨k + 1, by go_num, by have := HLt.out; omega, by rw [List.replicate_succ']; simpa [List.append_assoc] using HD10x.out⟩
                            case measure => have := HLt.out; simp [intOf]; omega
                          · have hke : TZ = k := by omega
                            subst hke
                            clear hd hk
                            obtain ⟨b11, hn11⟩ : ∃ l, b9 ++ List.replicate TZ 48 = l := ⟨_, rfl⟩
                            have hl11 : b11.length ≤ 109037 := by have h8 := HLb9.out; rw [← hn11]; simp; omega
                            have HN11 := Hid_mk hn11
                            have HLb11 := Hid_mk hl11
                            have HDn11 := Hid_mk (show Dst base w v0 _ _ b11 by rw [← hn11]; exact HDk.out)
                            clear hn11 hl11
                            go_wp2
                            go_ret
                            refine ⟨_, rfl, ?_⟩
                            have h9 := HDn11.out
                            rw [← HN11.out, ← HN9.out, ← HN7.out, ← HN6.out, ← HN4.out, ← HN2.out] at h9
                            have hr := HR.out
                            try rw [show (if (false : Bool) = true then ([45] : List UInt8) else []) = [] from rfl] at hr
                            obtain ⟨h1, h2, h3⟩ := HLzs.out
                            unfold fracF at hr
                            rw [if_pos (show (0 : Int) < prec by have := HPr.out; omega), h1, h2] at hr
                            rw [h1, h2] at h3
                            rw [h3] at hr
                            unfold intF at hr
                            rw [if_pos (show (0 : Int) < dp by have := HDp.out; omega), HM.out, hZR] at hr
                            simp only [Int.toNat_natCast] at hr
                            try simp only [Int.toNat_natCast] at hr
                            rcases hOF with hz | hz
                            · subst hz
                              simp only [List.range_zero, List.map_nil] at hr h9
                              rw [← hr]
                              simpa [List.append_assoc] using h9
                            rw [hz] at hr
                            try simp only [Int.toNat_natCast] at hr
                            rw [← hr]
                            simpa [List.append_assoc] using h9
              · have hpr1 : ¬ (0 : Int) < prec := hpr
                have HPr := Hid_mk hpr
                clear hpr
                go_wp2
                go_ret
                refine ⟨_, rfl, ?_⟩
                have h9 := HDn4.out
                rw [← HN4.out, ← HN2.out] at h9
                have hr := HR.out
                try rw [show (if (false : Bool) = true then ([45] : List UInt8) else []) = [] from rfl] at hr
                unfold fracF at hr
                rw [if_neg (show ¬ (0 : Int) < prec by have := HPr.out; omega)] at hr
                unfold intF at hr
                rw [if_pos (show (0 : Int) < dp by have := HDp.out; omega), HM.out, hZR] at hr
                simp only [Int.toNat_natCast] at hr
                rw [← hr]
                simpa [List.append_assoc] using h9
    · have hdp0 : ¬ (0 : Int) < dp := hdp
      have HDp := Hid_mk hdp
      clear hdp
      go_wp2_with (at_builtin; (refine wpList_append_bs _ rfl _ _ rfl base _ _ rfl (HD0.out.owns.alloc _) _ [48] rfl (bs_one _ 48) ?c1 ?c2 ?_))
      case c1 => have h8 := HLbs.out; simp; omega
      case c2 => have h8 := HD0.out.room; have h9 := HD0.out.kp.size; simp; omega
      intro v12 w12 happ
      have HD12x := Hid_mk (HD0.out.push happ)
      clear happ
      obtain ⟨b13, hn13⟩ : ∃ l, bs ++ [48] = l := ⟨_, rfl⟩
      have hl13 : b13.length ≤ 100801 := by have h8 := HLbs.out; rw [← hn13]; simp; omega
      have HN13 := Hid_mk hn13
      have HLb13 := Hid_mk hl13
      have HDn13 := Hid_mk (show Dst base w v0 _ _ b13 by rw [← hn13]; exact HD12x.out)
      clear hn13 hl13
      by_cases hpr : 0 < prec
      · have hpr1 : (0 : Int) < prec := hpr
        have HPr := Hid_mk hpr
        obtain ⟨LZ, hLZ⟩ : ∃ LZ : Nat, lzF dp prec = (LZ : Int) := ⟨(lzF dp prec).toNat, by unfold lzF; omega⟩
        obtain ⟨MD, hMD⟩ : ∃ MD : Nat, midF dp nd prec = (MD : Int) := ⟨(midF dp nd prec).toNat, by unfold midF lzF; omega⟩
        obtain ⟨TZ, hTZ⟩ : ∃ TZ : Nat, max 0 (prec - lzF dp prec - midF dp nd prec) = (TZ : Int) := ⟨(max 0 (prec - lzF dp prec - midF dp nd prec)).toNat, by omega⟩
        have HLzs := Hid_mk (And.intro hLZ (And.intro hMD hTZ))
        rw [hLZ] at hTZ
        have hMD2 := hMD
        unfold midF at hMD2
        rw [hLZ] at hMD2
        rw [hMD] at hTZ
        have hLZ2 := hLZ
        unfold lzF at hLZ2
        have hLZb : (LZ : Int) ≤ 1000 := by omega
        have hLZ0 : (0 : Int) ≤ (LZ : Int) := Int.natCast_nonneg _
        have hTZb : (TZ : Int) ≤ 1000 := by omega
        have hMDb : (MD : Int) ≤ 800 := by omega
        have hoff : MD = 0 ∨ ((0 : Int) ≤ dp + LZ ∧ dp + LZ + MD ≤ nd) := by omega
        have HOff := Hid_mk hoff
        clear hoff hLZ hMD
        go_wp2_with (at_builtin; (refine wpList_append_bs _ rfl _ _ rfl base _ _ rfl (HDn13.out.owns.alloc _) _ [46] rfl (bs_one _ 46) ?c1 ?c2 ?_))
        case c1 => have h8 := HLb13.out; simp; omega
        case c2 => have h8 := HDn13.out.room; have h9 := HDn13.out.kp.size; simp; omega
        intro v14 w14 happ
        have HD14x := Hid_mk (HDn13.out.push happ)
        clear happ
        obtain ⟨b15, hn15⟩ : ∃ l, b13 ++ [46] = l := ⟨_, rfl⟩
        have hl15 : b15.length ≤ 100802 := by have h8 := HLb13.out; rw [← hn15]; simp; omega
        have HN15 := Hid_mk hn15
        have HLb15 := Hid_mk hl15
        have HDn15 := Hid_mk (show Dst base w v0 _ _ b15 by rw [← hn15]; exact HD14x.out)
        clear hn15 hl15
        go_wp2_with fail
        go_loopw [0, 240] (fun v i wr => ∃ k : Nat, i = .int .i64 (k : Int) ∧ (k = 0 ∨ k ≤ LZ) ∧ Dst base w v0 wr v (b15 ++ List.replicate k 48)) (fun _ i _ => LZ - (intOf i).toNat)
        case atStart => exact ⟨0, rfl, .inl rfl, by simpa using HDn15.out⟩
        case round =>
          obtain ⟨k, rfl, hk, hd⟩ := hrel
          have HDk := Hid_mk hd
          have hk0 : (0 : Int) ≤ (k : Int) := Int.natCast_nonneg _
          have hk9 : (k : Int) ≤ 3000 := by omega
          by_cases hlt : (k : Int) < (LZ : Int)
          · have HLt := Hid_mk hlt
            clear hd hk
            go_wp2_with (at_builtin; (refine wpList_append_bs _ rfl _ _ rfl base _ _ rfl (HDk.out.owns.alloc _) _ [48] rfl (bs_one _ 48) ?c1 ?c2 ?_))
            case c1 => have h8 := HLb15.out; simp; omega
            case c2 => have h8 := HDk.out.room; have h9 := HDk.out.kp.size; simp; omega
            intro v16 w16 happ
            have HD16x := Hid_mk (HDk.out.push happ)
            clear happ
            go_wp2
            go_roundw
            case rel => exact ⟨k + 1, by go_num, by have := HLt.out; omega, by rw [List.replicate_succ']; simpa [List.append_assoc] using HD16x.out⟩
            case measure => have := HLt.out; simp [intOf]; omega
          · have hke : LZ = k := by omega
            subst hke
            clear hd hk
            obtain ⟨b17, hn17⟩ : ∃ l, b15 ++ List.replicate LZ 48 = l := ⟨_, rfl⟩
            have hl17 : b17.length ≤ 101802 := by have h8 := HLb15.out; rw [← hn17]; simp; omega
            have HN17 := Hid_mk hn17
            have HLb17 := Hid_mk hl17
            have HDn17 := Hid_mk (show Dst base w v0 _ _ b17 by rw [← hn17]; exact HDk.out)
            clear hn17 hl17
            obtain ⟨OF, hOF⟩ : ∃ OF : Nat, MD = 0 ∨ dp + LZ = (OF : Int) := ⟨(dp + LZ).toNat, by have := HOff.out; omega⟩
            go_wp2_with fail
            go_loopw [0, 30, 247] (fun v _ i wr => ∃ k : Nat, i = .int .i64 (k : Int) ∧ k ≤ MD ∧ Dst base w v0 wr v (b17 ++ (List.range k).map (fun i => UInt8.ofNat (f (OF + i))))) (fun _ _ i _ => MD - (intOf i).toNat)
            case atStart => exact ⟨0, rfl, Nat.zero_le _, by simpa using HDn17.out⟩
            case round =>
              obtain ⟨k, rfl, hk, hd⟩ := hrel
              have HDk := Hid_mk hd
              have hk0 : (0 : Int) ≤ (k : Int) := Int.natCast_nonneg _
              have hk9 : (k : Int) ≤ 800 := by omega
              by_cases hlt : (k : Int) < (MD : Int)
              · have HLt := Hid_mk hlt
                have c1 := hd.kp.cell' (HS.out.cell ((OF + k)) (by have h7 := HOff.out; omega)) (fun e => HGs.out e)
                simp only [Nat.zero_add] at c1
                obtain ⟨y, hy⟩ : ∃ y, f ((OF + k)) = y := ⟨_, rfl⟩
                have hy2 := HF.out ((OF + k)) (by have h7 := HOff.out; omega)
                rw [hy] at c1 hy2
                have HY := Hid_mk hy
                have HY2 := Hid_mk hy2
                have hof : dp + LZ = (OF : Int) := by have := HLt.out; omega
                have hofk : (OF : Int) + (k : Int) < (ls : Int) := by have := HLt.out; have := HOff.out; have := HNl.out; omega
                have hofc : (OF : Int) + (k : Int) ≤ 1000 := by have := HLt.out; have := HOff.out; have := HNl.out; omega
                have hon : ((OF : Int) + (k : Int)).toNat = OF + k := by omega
                clear hd hk hy hy2
                go_wp2_with (at_builtin; (refine wpList_append_bs _ rfl _ _ rfl base _ _ rfl (HDk.out.owns.alloc _) _ [UInt8.ofNat y] rfl (bs_byte _ y HY2.out) ?c1 ?c2 ?_))
                case c1 => have h8 := HLb17.out; simp; omega
                case c2 => have h8 := HDk.out.room; have h9 := HDk.out.kp.size; simp; omega
                intro v18 w18 happ
                have HD18x := Hid_mk (HDk.out.push happ)
                clear happ
                clear c1
                go_wp2
                go_roundw
                case rel => simp only [← hof]; exact ⟨_, _, _, _, _, _, _, _, _, _, _, _, _, _, _, ⟨k + 1, by go_num, by have := HLt.out; omega, by rw [List.range_succ, List.map_append, List.map_singleton, HY.out]; simpa [List.append_assoc] using HD18x.out⟩, rfl⟩
                case measure => have := HLt.out; simp [intOf]; omega
              · have hke : MD = k := by omega
                subst hke
                clear hd hk
                obtain ⟨b19, hn19⟩ : ∃ l, b17 ++ (List.range MD).map (fun i => UInt8.ofNat (f (OF + i))) = l := ⟨_, rfl⟩
                have hl19 : b19.length ≤ 102620 := by have h8 := HLb17.out; rw [← hn19]; simp; omega
                have HN19 := Hid_mk hn19
                have HLb19 := Hid_mk hl19
                have HDn19 := Hid_mk (show Dst base w v0 _ _ b19 by rw [← hn19]; exact HDk.out)
                clear hn19 hl19
                go_wp2_with fail
                go_loopw [0, 261] (fun v i wr => ∃ k : Nat, i = .int .i64 (k : Int) ∧ (k = 0 ∨ k ≤ TZ) ∧ Dst base w v0 wr v (b19 ++ List.replicate k 48)) (fun _ i _ => TZ - (intOf i).toNat)
                case atStart => exact ⟨0, rfl, .inl rfl, by simpa using HDn19.out⟩
                case round =>
                  obtain ⟨k, rfl, hk, hd⟩ := hrel
                  have HDk := Hid_mk hd
                  have hk0 : (0 : Int) ≤ (k : Int) := Int.natCast_nonneg _
                  have hk9 : (k : Int) ≤ 3000 := by omega
                  by_cases hlt : (k : Int) < (TZ : Int)
                  · have HLt := Hid_mk hlt
                    clear hd hk
                    go_wp2_with (at_builtin; (refine wpList_append_bs _ rfl _ _ rfl base _ _ rfl (HDk.out.owns.alloc _) _ [48] rfl (bs_one _ 48) ?c1 ?c2 ?_))
                    case c1 => have h8 := HLb19.out; simp; omega
                    case c2 => have h8 := HDk.out.room; have h9 := HDk.out.kp.size; simp; omega
                    intro v20 w20 happ
                    have HD20x := Hid_mk (HDk.out.push happ)
                    clear happ
                    go_wp2
                    go_roundw
                    case rel => exact ⟨k + 1, by go_num, by have := HLt.out; omega, by rw [List.replicate_succ']; simpa [List.append_assoc] using HD20x.out⟩
                    case measure => have := HLt.out; simp [intOf]; omega
                  · have hke : TZ = k := by omega
                    subst hke
                    clear hd hk
                    obtain ⟨b21, hn21⟩ : ∃ l, b19 ++ List.replicate TZ 48 = l := ⟨_, rfl⟩
                    have hl21 : b21.length ≤ 105020 := by have h8 := HLb19.out; rw [← hn21]; simp; omega
                    have HN21 := Hid_mk hn21
                    have HLb21 := Hid_mk hl21
                    have HDn21 := Hid_mk (show Dst base w v0 _ _ b21 by rw [← hn21]; exact HDk.out)
                    clear hn21 hl21
                    go_wp2
                    go_ret
                    refine ⟨_, rfl, ?_⟩
                    have h9 := HDn21.out
                    rw [← HN21.out, ← HN19.out, ← HN17.out, ← HN15.out, ← HN13.out] at h9
                    have hr := HR.out
                    try rw [show (if (false : Bool) = true then ([45] : List UInt8) else []) = [] from rfl] at hr
                    obtain ⟨h1, h2, h3⟩ := HLzs.out
                    unfold fracF at hr
                    rw [if_pos (show (0 : Int) < prec by have := HPr.out; omega), h1, h2] at hr
                    rw [h1, h2] at h3
                    rw [h3] at hr
                    unfold intF at hr
                    rw [if_neg (show ¬ (0 : Int) < dp by have := HDp.out; omega)] at hr
                    try simp only [Int.toNat_natCast] at hr
                    rcases hOF with hz | hz
                    · subst hz
                      simp only [List.range_zero, List.map_nil] at hr h9
                      rw [← hr]
                      simpa [List.append_assoc] using h9
                    rw [hz] at hr
                    try simp only [Int.toNat_natCast] at hr
                    rw [← hr]
                    simpa [List.append_assoc] using h9
      · have hpr1 : ¬ (0 : Int) < prec := hpr
        have HPr := Hid_mk hpr
        clear hpr
        go_wp2
        go_ret
        refine ⟨_, rfl, ?_⟩
        have h9 := HDn13.out
        rw [← HN13.out] at h9
        have hr := HR.out
        try rw [show (if (false : Bool) = true then ([45] : List UInt8) else []) = [] from rfl] at hr
        unfold fracF at hr
        rw [if_neg (show ¬ (0 : Int) < prec by have := HPr.out; omega)] at hr
        unfold intF at hr
        rw [if_neg (show ¬ (0 : Int) < dp by have := HDp.out; omega)] at hr
        rw [← hr]
        simpa [List.append_assoc] using h9
  · skip
    go_wp2_with (at_builtin; (refine wpList_append_bs _ rfl _ _ rfl base _ _ rfl (HD.out.owns.alloc _) _ [45] rfl (bs_one _ 45) ?c1 ?c2 ?_))
    case c1 => have h8 := HLbs.out; simp; omega
    case c2 => have h8 := HD.out.room; have h9 := HD.out.kp.size; simp; omega
    intro v22 w22 happ
    have HD22x := Hid_mk (HD.out.push happ)
    clear happ
    obtain ⟨b23, hn23⟩ : ∃ l, bs ++ [45] = l := ⟨_, rfl⟩
    have hl23 : b23.length ≤ 100801 := by have h8 := HLbs.out; rw [← hn23]; simp; omega
    have HN23 := Hid_mk hn23
    have HLb23 := Hid_mk hl23
    have HDn23 := Hid_mk (show Dst base w v0 _ _ b23 by rw [← hn23]; exact HD22x.out)
    clear hn23 hl23
    by_cases hdp : 0 < dp
    · have hdp0 : (0 : Int) < dp := hdp
      have HDp := Hid_mk hdp
      obtain ⟨M, hM⟩ : ∃ M : Nat, min (nd : Int) dp = (M : Int) := ⟨(min (nd : Int) dp).toNat, by omega⟩
      have hNl := HNl.out
      have hM0 : (0 : Int) ≤ (M : Int) := Int.natCast_nonneg _
      have hMd : (M : Int) ≤ dp := by omega
      have hMn : (M : Int) ≤ (nd : Int) := by omega
      have hMls : (M : Int) ≤ (ls : Int) := by omega
      have hMcs : (M : Int) ≤ (cs : Int) := by omega
      have hls : (ls : Int) ≤ 1000 := by omega
      obtain ⟨ZR, hZR⟩ : ∃ ZR : Nat, dp - (M : Int) = (ZR : Int) := ⟨(dp - (M : Int)).toNat, by omega⟩
      have hZRb : (ZR : Int) ≤ 1000 := by omega
      have HM := Hid_mk hM
      clear hNl
      go_wp2_with fail
      go_loopw [0, 191] (fun v i wr => ∃ k : Nat, i = .int .i64 (k : Int) ∧ k ≤ M ∧ Dst base w v0 wr v (b23 ++ (List.range k).map (fun i => UInt8.ofNat (f i)))) (fun _ i _ => M - (intOf i).toNat)
      case atStart => exact ⟨0, rfl, Nat.zero_le _, by simpa using HDn23.out⟩
      case round =>
        obtain ⟨k, rfl, hk, hd⟩ := hrel
        have HDk := Hid_mk hd
        have hk0 : (0 : Int) ≤ (k : Int) := Int.natCast_nonneg _
        have hk9 : (k : Int) ≤ 800 := by omega
        by_cases hlt : (k : Int) < (M : Int)
        · have HLt := Hid_mk hlt
          have c1 := hd.kp.cell' (HS.out.cell (k) (by have h7 := HNl.out; omega)) (fun e => HGs.out e)
          simp only [Nat.zero_add] at c1
          obtain ⟨y, hy⟩ : ∃ y, f (k) = y := ⟨_, rfl⟩
          have hy2 := HF.out (k) (by have h7 := HNl.out; omega)
          rw [hy] at c1 hy2
          have HY := Hid_mk hy
          have HY2 := Hid_mk hy2
          skip
          clear hd hk hy hy2
          go_wp2_with (at_builtin; (refine wpList_append_bs _ rfl _ _ rfl base _ _ rfl (HDk.out.owns.alloc _) _ [UInt8.ofNat y] rfl (bs_byte _ y HY2.out) ?c1 ?c2 ?_))
          case c1 => have h8 := HLb23.out; simp; omega
          case c2 => have h8 := HDk.out.room; have h9 := HDk.out.kp.size; simp; omega
          intro v24 w24 happ
          have HD24x := Hid_mk (HDk.out.push happ)
          clear happ
          clear c1
          go_wp2
          go_roundw
          case rel => exact ⟨k + 1, by go_num, by have := HLt.out; omega, by rw [List.range_succ, List.map_append, List.map_singleton, HY.out]; simpa [List.append_assoc] using HD24x.out⟩
          case measure => have := HLt.out; simp [intOf]; omega
        · have hke : M = k := by omega
          subst hke
          clear hd hk
          obtain ⟨b25, hn25⟩ : ∃ l, b23 ++ (List.range M).map (fun i => UInt8.ofNat (f i)) = l := ⟨_, rfl⟩
          have hl25 : b25.length ≤ 101619 := by have h8 := HLb23.out; rw [← hn25]; simp; omega
          have HN25 := Hid_mk hn25
          have HLb25 := Hid_mk hl25
          have HDn25 := Hid_mk (show Dst base w v0 _ _ b25 by rw [← hn25]; exact HDk.out)
          clear hn25 hl25
          go_wp2_with fail
          go_loopw [0, 203] (fun v i wr => ∃ k : Nat, i = .int .i64 (k : Int) ∧ (k = 0 ∨ k ≤ ZR) ∧ Dst base w v0 wr v (b25 ++ List.replicate k 48)) (fun _ i _ => ZR - (intOf i).toNat)
          case atStart => exact ⟨0, rfl, .inl rfl, by simpa using HDn25.out⟩
          case round =>
            obtain ⟨k, rfl, hk, hd⟩ := hrel
            have HDk := Hid_mk hd
            have hk0 : (0 : Int) ≤ (k : Int) := Int.natCast_nonneg _
            have hk9 : (k : Int) ≤ 3000 := by omega
            by_cases hlt : (k : Int) < (ZR : Int)
            · have HLt := Hid_mk hlt
              clear hd hk
              go_wp2_with (at_builtin; (refine wpList_append_bs _ rfl _ _ rfl base _ _ rfl (HDk.out.owns.alloc _) _ [48] rfl (bs_one _ 48) ?c1 ?c2 ?_))
              case c1 => have h8 := HLb25.out; simp; omega
              case c2 => have h8 := HDk.out.room; have h9 := HDk.out.kp.size; simp; omega
              intro v26 w26 happ
              have HD26x := Hid_mk (HDk.out.push happ)
              clear happ
              go_wp2
              go_roundw
              case rel => exact ⟨k + 1, by go_num, by have := HLt.out; omega, by rw [List.replicate_succ']; simpa [List.append_assoc] using HD26x.out⟩
              case measure => have := HLt.out; simp [intOf]; omega
            · have hke : ZR = k := by omega
              subst hke
              clear hd hk
              obtain ⟨b27, hn27⟩ : ∃ l, b25 ++ List.replicate ZR 48 = l := ⟨_, rfl⟩
              have hl27 : b27.length ≤ 102619 := by have h8 := HLb25.out; rw [← hn27]; simp; omega
              have HN27 := Hid_mk hn27
              have HLb27 := Hid_mk hl27
              have HDn27 := Hid_mk (show Dst base w v0 _ _ b27 by rw [← hn27]; exact HDk.out)
              clear hn27 hl27
              by_cases hpr : 0 < prec
              · have hpr1 : (0 : Int) < prec := hpr
                have HPr := Hid_mk hpr
                obtain ⟨LZ, hLZ⟩ : ∃ LZ : Nat, lzF dp prec = (LZ : Int) := ⟨(lzF dp prec).toNat, by unfold lzF; omega⟩
                obtain ⟨MD, hMD⟩ : ∃ MD : Nat, midF dp nd prec = (MD : Int) := ⟨(midF dp nd prec).toNat, by unfold midF lzF; omega⟩
                obtain ⟨TZ, hTZ⟩ : ∃ TZ : Nat, max 0 (prec - lzF dp prec - midF dp nd prec) = (TZ : Int) := ⟨(max 0 (prec - lzF dp prec - midF dp nd prec)).toNat, by omega⟩
                have HLzs := Hid_mk (And.intro hLZ (And.intro hMD hTZ))
                rw [hLZ] at hTZ
                have hMD2 := hMD
                unfold midF at hMD2
                rw [hLZ] at hMD2
                rw [hMD] at hTZ
                have hLZ2 := hLZ
                unfold lzF at hLZ2
                have hLZb : (LZ : Int) ≤ 1000 := by omega
                have hLZ0 : (0 : Int) ≤ (LZ : Int) := Int.natCast_nonneg _
                have hTZb : (TZ : Int) ≤ 1000 := by omega
                have hMDb : (MD : Int) ≤ 800 := by omega
                have hoff : MD = 0 ∨ ((0 : Int) ≤ dp + LZ ∧ dp + LZ + MD ≤ nd) := by omega
                have HOff := Hid_mk hoff
                clear hoff hLZ hMD
                go_wp2_with (at_builtin; (refine wpList_append_bs _ rfl _ _ rfl base _ _ rfl (HDn27.out.owns.alloc _) _ [46] rfl (bs_one _ 46) ?c1 ?c2 ?_))
                case c1 => have h8 := HLb27.out; simp; omega
                case c2 => have h8 := HDn27.out.room; have h9 := HDn27.out.kp.size; simp; omega
                intro v28 w28 happ
                have HD28x := Hid_mk (HDn27.out.push happ)
                clear happ
                obtain ⟨b29, hn29⟩ : ∃ l, b27 ++ [46] = l := ⟨_, rfl⟩
                have hl29 : b29.length ≤ 102620 := by have h8 := HLb27.out; rw [← hn29]; simp; omega
                have HN29 := Hid_mk hn29
                have HLb29 := Hid_mk hl29
                have HDn29 := Hid_mk (show Dst base w v0 _ _ b29 by rw [← hn29]; exact HD28x.out)
                clear hn29 hl29
                go_wp2_with fail
                go_loopw [0, 240] (fun v i wr => ∃ k : Nat, i = .int .i64 (k : Int) ∧ (k = 0 ∨ k ≤ LZ) ∧ Dst base w v0 wr v (b29 ++ List.replicate k 48)) (fun _ i _ => LZ - (intOf i).toNat)
                case atStart => exact ⟨0, rfl, .inl rfl, by simpa using HDn29.out⟩
                case round =>
                  obtain ⟨k, rfl, hk, hd⟩ := hrel
                  have HDk := Hid_mk hd
                  have hk0 : (0 : Int) ≤ (k : Int) := Int.natCast_nonneg _
                  have hk9 : (k : Int) ≤ 3000 := by omega
                  by_cases hlt : (k : Int) < (LZ : Int)
                  · exfalso
                    omega
                  · have hke : LZ = k := by omega
                    subst hke
                    clear hd hk
                    obtain ⟨b30, hn30⟩ : ∃ l, b29 ++ List.replicate LZ 48 = l := ⟨_, rfl⟩
                    have hl30 : b30.length ≤ 105020 := by have h8 := HLb29.out; rw [← hn30]; simp; omega
                    have HN30 := Hid_mk hn30
                    have HLb30 := Hid_mk hl30
                    have HDn30 := Hid_mk (show Dst base w v0 _ _ b30 by rw [← hn30]; exact HDk.out)
                    clear hn30 hl30
                    obtain ⟨OF, hOF⟩ : ∃ OF : Nat, MD = 0 ∨ dp + LZ = (OF : Int) := ⟨(dp + LZ).toNat, by have := HOff.out; omega⟩
                    go_wp2_with fail
                    go_loopw [0, 30, 247] (fun v _ i wr => ∃ k : Nat, i = .int .i64 (k : Int) ∧ k ≤ MD ∧ Dst base w v0 wr v (b30 ++ (List.range k).map (fun i => UInt8.ofNat (f (OF + i))))) (fun _ _ i _ => MD - (intOf i).toNat)
                    case atStart => exact ⟨0, rfl, Nat.zero_le _, by simpa using HDn30.out⟩
                    case round =>
                      obtain ⟨k, rfl, hk, hd⟩ := hrel
                      have HDk := Hid_mk hd
                      have hk0 : (0 : Int) ≤ (k : Int) := Int.natCast_nonneg _
                      have hk9 : (k : Int) ≤ 800 := by omega
                      by_cases hlt : (k : Int) < (MD : Int)
                      · have HLt := Hid_mk hlt
                        have c1 := hd.kp.cell' (HS.out.cell ((OF + k)) (by have h7 := HOff.out; omega)) (fun e => HGs.out e)
                        simp only [Nat.zero_add] at c1
                        obtain ⟨y, hy⟩ : ∃ y, f ((OF + k)) = y := ⟨_, rfl⟩
                        have hy2 := HF.out ((OF + k)) (by have h7 := HOff.out; omega)
                        rw [hy] at c1 hy2
                        have HY := Hid_mk hy
                        have HY2 := Hid_mk hy2
                        have hof : dp + LZ = (OF : Int) := by have := HLt.out; omega
                        have hofk : (OF : Int) + (k : Int) < (ls : Int) := by have := HLt.out; have := HOff.out; have := HNl.out; omega
                        have hofc : (OF : Int) + (k : Int) ≤ 1000 := by have := HLt.out; have := HOff.out; have := HNl.out; omega
                        have hon : ((OF : Int) + (k : Int)).toNat = OF + k := by omega
                        clear hd hk hy hy2
                        go_wp2_with (at_builtin; (refine wpList_append_bs _ rfl _ _ rfl base _ _ rfl (HDk.out.owns.alloc _) _ [UInt8.ofNat y] rfl (bs_byte _ y HY2.out) ?c1 ?c2 ?_))
                        case c1 => have h8 := HLb30.out; simp; omega
                        case c2 => have h8 := HDk.out.room; have h9 := HDk.out.kp.size; simp; omega
                        intro v31 w31 happ
                        have HD31x := Hid_mk (HDk.out.push happ)
                        clear happ
                        clear c1
                        go_wp2
                        go_roundw
                        case rel => simp only [← hof]; exact ⟨_, _, _, _, _, _, _, _, _, _, _, _, _, _, _, ⟨k + 1, by go_num, by have := HLt.out; omega, by rw [List.range_succ, List.map_append, List.map_singleton, HY.out]; simpa [List.append_assoc] using HD31x.out⟩, rfl⟩
                        case measure => have := HLt.out; simp [intOf]; omega
                      · have hke : MD = k := by omega
                        subst hke
                        clear hd hk
                        obtain ⟨b32, hn32⟩ : ∃ l, b30 ++ (List.range MD).map (fun i => UInt8.ofNat (f (OF + i))) = l := ⟨_, rfl⟩
                        have hl32 : b32.length ≤ 107038 := by have h8 := HLb30.out; rw [← hn32]; simp; omega
                        have HN32 := Hid_mk hn32
                        have HLb32 := Hid_mk hl32
                        have HDn32 := Hid_mk (show Dst base w v0 _ _ b32 by rw [← hn32]; exact HDk.out)
                        clear hn32 hl32
                        go_wp2_with fail
                        go_loopw [0, 261] (fun v i wr => ∃ k : Nat, i = .int .i64 (k : Int) ∧ (k = 0 ∨ k ≤ TZ) ∧ Dst base w v0 wr v (b32 ++ List.replicate k 48)) (fun _ i _ => TZ - (intOf i).toNat)
                        case atStart => exact ⟨0, rfl, .inl rfl, by simpa using HDn32.out⟩
                        case round =>
                          obtain ⟨k, rfl, hk, hd⟩ := hrel
                          have HDk := Hid_mk hd
                          have hk0 : (0 : Int) ≤ (k : Int) := Int.natCast_nonneg _
                          have hk9 : (k : Int) ≤ 3000 := by omega
                          by_cases hlt : (k : Int) < (TZ : Int)
                          · have HLt := Hid_mk hlt
                            clear hd hk
                            go_wp2_with (at_builtin; (refine wpList_append_bs _ rfl _ _ rfl base _ _ rfl (HDk.out.owns.alloc _) _ [48] rfl (bs_one _ 48) ?c1 ?c2 ?_))
                            case c1 => have h8 := HLb32.out; simp; omega
                            case c2 => have h8 := HDk.out.room; have h9 := HDk.out.kp.size; simp; omega
                            intro v33 w33 happ
                            have HD33x := Hid_mk (HDk.out.push happ)
                            clear happ
                            go_wp2
                            go_roundw
                            case rel => exact ⟨k + 1, by go_num, by have := HLt.out; omega, by rw [List.replicate_succ']; simpa [List.append_assoc] using HD33x.out⟩
                            case measure => have := HLt.out; simp [intOf]; omega
                          · have hke : TZ = k := by omega
                            subst hke
                            clear hd hk
                            obtain ⟨b34, hn34⟩ : ∃ l, b32 ++ List.replicate TZ 48 = l := ⟨_, rfl⟩
                            have hl34 : b34.length ≤ 109038 := by have h8 := HLb32.out; rw [← hn34]; simp; omega
                            have HN34 := Hid_mk hn34
                            have HLb34 := Hid_mk hl34
                            have HDn34 := Hid_mk (show Dst base w v0 _ _ b34 by rw [← hn34]; exact HDk.out)
                            clear hn34 hl34
                            go_wp2
                            go_ret
                            refine ⟨_, rfl, ?_⟩
                            have h9 := HDn34.out
                            rw [← HN34.out, ← HN32.out, ← HN30.out, ← HN29.out, ← HN27.out, ← HN25.out, ← HN23.out] at h9
                            have hr := HR.out
                            try rw [show (if (true : Bool) = true then ([45] : List UInt8) else []) = [45] from rfl] at hr
                            obtain ⟨h1, h2, h3⟩ := HLzs.out
                            unfold fracF at hr
                            rw [if_pos (show (0 : Int) < prec by have := HPr.out; omega), h1, h2] at hr
                            rw [h1, h2] at h3
                            rw [h3] at hr
                            unfold intF at hr
                            rw [if_pos (show (0 : Int) < dp by have := HDp.out; omega), HM.out, hZR] at hr
                            simp only [Int.toNat_natCast] at hr
                            try simp only [Int.toNat_natCast] at hr
                            rcases hOF with hz | hz
                            · subst hz
                              simp only [List.range_zero, List.map_nil] at hr h9
                              rw [← hr]
                              simpa [List.append_assoc] using h9
                            rw [hz] at hr
                            try simp only [Int.toNat_natCast] at hr
                            rw [← hr]
                            simpa [List.append_assoc] using h9
              · have hpr1 : ¬ (0 : Int) < prec := hpr
                have HPr := Hid_mk hpr
                clear hpr
                go_wp2
                go_ret
                refine ⟨_, rfl, ?_⟩
                have h9 := HDn27.out
                rw [← HN27.out, ← HN25.out, ← HN23.out] at h9
                have hr := HR.out
                try rw [show (if (true : Bool) = true then ([45] : List UInt8) else []) = [45] from rfl] at hr
                unfold fracF at hr
                rw [if_neg (show ¬ (0 : Int) < prec by have := HPr.out; omega)] at hr
                unfold intF at hr
                rw [if_pos (show (0 : Int) < dp by have := HDp.out; omega), HM.out, hZR] at hr
                simp only [Int.toNat_natCast] at hr
                rw [← hr]
                simpa [List.append_assoc] using h9
    · have hdp0 : ¬ (0 : Int) < dp := hdp
      have HDp := Hid_mk hdp
      clear hdp
      go_wp2_with (at_builtin; (refine wpList_append_bs _ rfl _ _ rfl base _ _ rfl (HDn23.out.owns.alloc _) _ [48] rfl (bs_one _ 48) ?c1 ?c2 ?_))
      case c1 => have h8 := HLb23.out; simp; omega
      case c2 => have h8 := HDn23.out.room; have h9 := HDn23.out.kp.size; simp; omega
      intro v35 w35 happ
      have HD35x := Hid_mk (HDn23.out.push happ)
      clear happ
      obtain ⟨b36, hn36⟩ : ∃ l, b23 ++ [48] = l := ⟨_, rfl⟩
      have hl36 : b36.length ≤ 100802 := by have h8 := HLb23.out; rw [← hn36]; simp; omega
      have HN36 := Hid_mk hn36
      have HLb36 := Hid_mk hl36
      have HDn36 := Hid_mk (show Dst base w v0 _ _ b36 by rw [← hn36]; exact HD35x.out)
      clear hn36 hl36
      by_cases hpr : 0 < prec
      · have hpr1 : (0 : Int) < prec := hpr
        have HPr := Hid_mk hpr
        obtain ⟨LZ, hLZ⟩ : ∃ LZ : Nat, lzF dp prec = (LZ : Int) := ⟨(lzF dp prec).toNat, by unfold lzF; omega⟩
        obtain ⟨MD, hMD⟩ : ∃ MD : Nat, midF dp nd prec = (MD : Int) := ⟨(midF dp nd prec).toNat, by unfold midF lzF; omega⟩
        obtain ⟨TZ, hTZ⟩ : ∃ TZ : Nat, max 0 (prec - lzF dp prec - midF dp nd prec) = (TZ : Int) := ⟨(max 0 (prec - lzF dp prec - midF dp nd prec)).toNat, by omega⟩
        have HLzs := Hid_mk (And.intro hLZ (And.intro hMD hTZ))
        rw [hLZ] at hTZ
        have hMD2 := hMD
        unfold midF at hMD2
        rw [hLZ] at hMD2
        rw [hMD] at hTZ
        have hLZ2 := hLZ
        unfold lzF at hLZ2
        have hLZb : (LZ : Int) ≤ 1000 := by omega
        have hLZ0 : (0 : Int) ≤ (LZ : Int) := Int.natCast_nonneg _
        have hTZb : (TZ : Int) ≤ 1000 := by omega
        have hMDb : (MD : Int) ≤ 800 := by omega
        have hoff : MD = 0 ∨ ((0 : Int) ≤ dp + LZ ∧ dp + LZ + MD ≤ nd) := by omega
        have HOff := Hid_mk hoff
        clear hoff hLZ hMD
        go_wp2_with (at_builtin; (refine wpList_append_bs _ rfl _ _ rfl base _ _ rfl (HDn36.out.owns.alloc _) _ [46] rfl (bs_one _ 46) ?c1 ?c2 ?_))
        case c1 => have h8 := HLb36.out; simp; omega
        case c2 => have h8 := HDn36.out.room; have h9 := HDn36.out.kp.size; simp; omega
        intro v37 w37 happ
        have HD37x := Hid_mk (HDn36.out.push happ)
        clear happ
        obtain ⟨b38, hn38⟩ : ∃ l, b36 ++ [46] = l := ⟨_, rfl⟩
        have hl38 : b38.length ≤ 100803 := by have h8 := HLb36.out; rw [← hn38]; simp; omega
        have HN38 := Hid_mk hn38
        have HLb38 := Hid_mk hl38
        have HDn38 := Hid_mk (show Dst base w v0 _ _ b38 by rw [← hn38]; exact HD37x.out)
        clear hn38 hl38
        go_wp2_with fail
        go_loopw [0, 240] (fun v i wr => ∃ k : Nat, i = .int .i64 (k : Int) ∧ (k = 0 ∨ k ≤ LZ) ∧ Dst base w v0 wr v (b38 ++ List.replicate k 48)) (fun _ i _ => LZ - (intOf i).toNat)
        case atStart => exact ⟨0, rfl, .inl rfl, by simpa using HDn38.out⟩
        case round =>
          obtain ⟨k, rfl, hk, hd⟩ := hrel
          have HDk := Hid_mk hd
          have hk0 : (0 : Int) ≤ (k : Int) := Int.natCast_nonneg _
          have hk9 : (k : Int) ≤ 3000 := by omega
          by_cases hlt : (k : Int) < (LZ : Int)
          · have HLt := Hid_mk hlt
            clear hd hk
            go_wp2_with (at_builtin; (refine wpList_append_bs _ rfl _ _ rfl base _ _ rfl (HDk.out.owns.alloc _) _ [48] rfl (bs_one _ 48) ?c1 ?c2 ?_))
            case c1 => have h8 := HLb38.out; simp; omega
            case c2 => have h8 := HDk.out.room; have h9 := HDk.out.kp.size; simp; omega
            intro v39 w39 happ
            have HD39x := Hid_mk (HDk.out.push happ)
            clear happ
            go_wp2
            go_roundw
            case rel => exact ⟨k + 1, by go_num, by have := HLt.out; omega, by rw [List.replicate_succ']; simpa [List.append_assoc] using HD39x.out⟩
            case measure => have := HLt.out; simp [intOf]; omega
          · have hke : LZ = k := by omega
            subst hke
            clear hd hk
            obtain ⟨b40, hn40⟩ : ∃ l, b38 ++ List.replicate LZ 48 = l := ⟨_, rfl⟩
            have hl40 : b40.length ≤ 101803 := by have h8 := HLb38.out; rw [← hn40]; simp; omega
            have HN40 := Hid_mk hn40
            have HLb40 := Hid_mk hl40
            have HDn40 := Hid_mk (show Dst base w v0 _ _ b40 by rw [← hn40]; exact HDk.out)
            clear hn40 hl40
            obtain ⟨OF, hOF⟩ : ∃ OF : Nat, MD = 0 ∨ dp + LZ = (OF : Int) := ⟨(dp + LZ).toNat, by have := HOff.out; omega⟩
            go_wp2_with fail
            go_loopw [0, 30, 247] (fun v _ i wr => ∃ k : Nat, i = .int .i64 (k : Int) ∧ k ≤ MD ∧ Dst base w v0 wr v (b40 ++ (List.range k).map (fun i => UInt8.ofNat (f (OF + i))))) (fun _ _ i _ => MD - (intOf i).toNat)
            case atStart => exact ⟨0, rfl, Nat.zero_le _, by simpa using HDn40.out⟩
            case round =>
              obtain ⟨k, rfl, hk, hd⟩ := hrel
              have HDk := Hid_mk hd
              have hk0 : (0 : Int) ≤ (k : Int) := Int.natCast_nonneg _
              have hk9 : (k : Int) ≤ 800 := by omega
              by_cases hlt : (k : Int) < (MD : Int)
              · have HLt := Hid_mk hlt
                have c1 := hd.kp.cell' (HS.out.cell ((OF + k)) (by have h7 := HOff.out; omega)) (fun e => HGs.out e)
                simp only [Nat.zero_add] at c1
                obtain ⟨y, hy⟩ : ∃ y, f ((OF + k)) = y := ⟨_, rfl⟩
                have hy2 := HF.out ((OF + k)) (by have h7 := HOff.out; omega)
                rw [hy] at c1 hy2
                have HY := Hid_mk hy
                have HY2 := Hid_mk hy2
                have hof : dp + LZ = (OF : Int) := by have := HLt.out; omega
                have hofk : (OF : Int) + (k : Int) < (ls : Int) := by have := HLt.out; have := HOff.out; have := HNl.out; omega
                have hofc : (OF : Int) + (k : Int) ≤ 1000 := by have := HLt.out; have := HOff.out; have := HNl.out; omega
                have hon : ((OF : Int) + (k : Int)).toNat = OF + k := by omega
                clear hd hk hy hy2
                go_wp2_with (at_builtin; (refine wpList_append_bs _ rfl _ _ rfl base _ _ rfl (HDk.out.owns.alloc _) _ [UInt8.ofNat y] rfl (bs_byte _ y HY2.out) ?c1 ?c2 ?_))
                case c1 => have h8 := HLb40.out; simp; omega
                case c2 => have h8 := HDk.out.room; have h9 := HDk.out.kp.size; simp; omega
                intro v41 w41 happ
                have HD41x := Hid_mk (HDk.out.push happ)
                clear happ
                clear c1
                go_wp2
                go_roundw
                case rel => simp only [← hof]; exact ⟨_, _, _, _, _, _, _, _, _, _, _, _, _, _, _, ⟨k + 1, by go_num, by have := HLt.out; omega, by rw [List.range_succ, List.map_append, List.map_singleton, HY.out]; simpa [List.append_assoc] using HD41x.out⟩, rfl⟩
                case measure => have := HLt.out; simp [intOf]; omega
              · have hke : MD = k := by omega
                subst hke
                clear hd hk
                obtain ⟨b42, hn42⟩ : ∃ l, b40 ++ (List.range MD).map (fun i => UInt8.ofNat (f (OF + i))) = l := ⟨_, rfl⟩
                have hl42 : b42.length ≤ 102621 := by have h8 := HLb40.out; rw [← hn42]; simp; omega
                have HN42 := Hid_mk hn42
                have HLb42 := Hid_mk hl42
                have HDn42 := Hid_mk (show Dst base w v0 _ _ b42 by rw [← hn42]; exact HDk.out)
                clear hn42 hl42
                go_wp2_with fail
                go_loopw [0, 261] (fun v i wr => ∃ k : Nat, i = .int .i64 (k : Int) ∧ (k = 0 ∨ k ≤ TZ) ∧ Dst base w v0 wr v (b42 ++ List.replicate k 48)) (fun _ i _ => TZ - (intOf i).toNat)
                case atStart => exact ⟨0, rfl, .inl rfl, by simpa using HDn42.out⟩
                case round =>
                  obtain ⟨k, rfl, hk, hd⟩ := hrel
                  have HDk := Hid_mk hd
                  have hk0 : (0 : Int) ≤ (k : Int) := Int.natCast_nonneg _
                  have hk9 : (k : Int) ≤ 3000 := by omega
                  by_cases hlt : (k : Int) < (TZ : Int)
                  · have HLt := Hid_mk hlt
                    clear hd hk
                    go_wp2_with (at_builtin; (refine wpList_append_bs _ rfl _ _ rfl base _ _ rfl (HDk.out.owns.alloc _) _ [48] rfl (bs_one _ 48) ?c1 ?c2 ?_))
                    case c1 => have h8 := HLb42.out; simp; omega
                    case c2 => have h8 := HDk.out.room; have h9 := HDk.out.kp.size; simp; omega
                    intro v43 w43 happ
                    have HD43x := Hid_mk (HDk.out.push happ)
                    clear happ
                    go_wp2
                    go_roundw
                    case rel => exact ⟨k + 1, by go_num, by have := HLt.out; omega, by rw [List.replicate_succ']; simpa [List.append_assoc] using HD43x.out⟩
                    case measure => have := HLt.out; simp [intOf]; omega
                  · have hke : TZ = k := by omega
                    subst hke
                    clear hd hk
                    obtain ⟨b44, hn44⟩ : ∃ l, b42 ++ List.replicate TZ 48 = l := ⟨_, rfl⟩
                    have hl44 : b44.length ≤ 105021 := by have h8 := HLb42.out; rw [← hn44]; simp; omega
                    have HN44 := Hid_mk hn44
                    have HLb44 := Hid_mk hl44
                    have HDn44 := Hid_mk (show Dst base w v0 _ _ b44 by rw [← hn44]; exact HDk.out)
                    clear hn44 hl44
                    go_wp2
                    go_ret
                    refine ⟨_, rfl, ?_⟩
                    have h9 := HDn44.out
                    rw [← HN44.out, ← HN42.out, ← HN40.out, ← HN38.out, ← HN36.out, ← HN23.out] at h9
                    have hr := HR.out
                    try rw [show (if (true : Bool) = true then ([45] : List UInt8) else []) = [45] from rfl] at hr
                    obtain ⟨h1, h2, h3⟩ := HLzs.out
                    unfold fracF at hr
                    rw [if_pos (show (0 : Int) < prec by have := HPr.out; omega), h1, h2] at hr
                    rw [h1, h2] at h3
                    rw [h3] at hr
                    unfold intF at hr
                    rw [if_neg (show ¬ (0 : Int) < dp by have := HDp.out; omega)] at hr
                    try simp only [Int.toNat_natCast] at hr
                    rcases hOF with hz | hz
                    · subst hz
                      simp only [List.range_zero, List.map_nil] at hr h9
                      rw [← hr]
                      simpa [List.append_assoc] using h9
                    rw [hz] at hr
                    try simp only [Int.toNat_natCast] at hr
                    rw [← hr]
                    simpa [List.append_assoc] using h9
      · have hpr1 : ¬ (0 : Int) < prec := hpr
        have HPr := Hid_mk hpr
        clear hpr
        go_wp2
        go_ret
        refine ⟨_, rfl, ?_⟩
        have h9 := HDn36.out
        rw [← HN36.out, ← HN23.out] at h9
        have hr := HR.out
        try rw [show (if (true : Bool) = true then ([45] : List UInt8) else []) = [45] from rfl] at hr
        unfold fracF at hr
        rw [if_neg (show ¬ (0 : Int) < prec by have := HPr.out; omega)] at hr
        unfold intF at hr
        rw [if_neg (show ¬ (0 : Int) < dp by have := HDp.out; omega)] at hr
        rw [← hr]
        simpa [List.append_assoc] using h9

end Go.Proofs.YtannbdbhkhmppaaGreatDoor.fmtf
