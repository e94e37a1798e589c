/- The law's all: the records of bytes that are fed in pieces, over what is asked of the project's Splitter. -/
import Derived.Test.YtpmmjihkgfmbhaaDoorSplitRecs
import Derived.Test.YtpmmjihkgfmbhaaDoorSplitC
import Derived.Test.YtpmmjihkgfmbhaaDoorTxRow
import Derived.Test.YtpmmjihkgfmbhaaDoorPick
namespace Go.Proofs.YtpmmjihkgfmbhaaDoor.spl
open Go.RowKit Go.Maps Go.Proofs.YtpmmjihkgfmbhaaDoor.sum Go.Proofs.YtpmmjihkgfmbhaaDoor.kept Go.Proofs.YtpmmjihkgfmbhaaDoor.app Go.Proofs.YtpmmjihkgfmbhaaDoor.writer Go.Proofs.YtpmmjihkgfmbhaaDoor.clone Go.Proofs.YtpmmjihkgfmbhaaDoor.known Go.Proofs.YtpmmjihkgfmbhaaDoor.unseal Go.Proofs.YtpmmjihkgfmbhaaDoor.snp
set_option linter.unusedVariables false

/-- read: a slice of whole numbers -/
def Cu (w : World) (v : Value) (ns : List Int) : Prop :=
  ∃ a cap, v = .slice a ns.length cap ∧ ns.length ≤ cap ∧ cap ≤ 9223372036854775807 ∧ (ns ≠ [] → ∃ b o, a = some ⟨b, o, none⟩ ∧ ∀ k (h : k < ns.length), w.cell? ⟨b, o + k, none⟩ = some (.int .i64 ns[k]))
def lenOf : Value → Nat
  | .slice _ n _ => n
  | _ => 0
theorem TRow.len {w : World} {base : Nat} {v : Value} {l : List (List UInt8)} (h : TRow w base v l) : lenOf v = l.length := by
  rcases owns_any h with ⟨rfl, h0⟩ | ⟨g, cap, rfl, -⟩
  · exact h0.symm
  · rfl

/-- the records so far, beside the splitter -/
structure OutS (Sp : SpT) (w wr : World) (base p m : Nat) (rs : List UInt8) (out : Value) (ρ : Nat → Bool) (t : SpS) (l : List (List UInt8)) : Prop where
  sp : Sp wr base p ρ m t
  dry : DryS rs t
  ok : OkS m t
  row : TRow wr base out l
  apart : ∀ g, out.ownBlock = some g → ρ g = false
  kp : Kp No w wr
  low : w.heap.size ≤ base
  up : base ≤ wr.heap.size

section
variable {Sp : SpT} {w wr w' : World} {base p m : Nat} {rs : List UInt8} {out : Value} {ρ : Nat → Bool} {t t' : SpS} {l : List (List UInt8)}
/-- behind a call of the splitter -/
theorem OutS.call (C : SplitC Sp) (h : OutS Sp w wr base p m rs out ρ t l) {res : Value} {e : Ending} (hp : SpPost Sp wr base p ρ m t' res e w') (hd : DryS rs t') (ho : OkS m t') : e = .returned res ∧ ∃ ρ', OutS Sp w w' base p m rs out ρ' t' l := by
  obtain ⟨he, ρ', h1, h2⟩ := hp
  refine ⟨he, ρ', h1, hd, ho, h.row.kept h2.1 fun g hg e2 => ?_, fun g hg => h2.2 g (World.ownsRow.lt h.row g hg).2 (h.apart g hg), h.kp.trans h2.1 fun i hi e2 => ?_, h.low, Nat.le_trans h.up h2.1.size⟩
  · have e3 : ρ g = true := e2
    rw [h.apart g hg] at e3; cases e3
  · have := (C.low h.sp i e2).1
    have := h.low
    omega
/-- behind a text that was added -/
theorem OutS.add (C : SplitC Sp) (h : OutS Sp w wr base p m rs out ρ t l) {o : Obj} {out' : Value} {y : List UInt8} (hr : TRow w' base out' (l ++ [y])) (hk : Kp (fun k => out.ownBlock = some k) (wr.alloc o) w') (hb : out'.ownBlock = out.ownBlock ∨ out'.ownBlock = some (wr.alloc o).heap.size) : OutS Sp w w' base p m rs out' ρ t (l ++ [y]) := by
  have hk2 : Kp (fun k => out.ownBlock = some k) wr w' := (((Kp.refl No wr).alloc o).to).trans' hk
  refine ⟨C.kept h.sp hk2 fun k hk3 e => ?_, h.dry, h.ok, hr, fun g hg => ?_, h.kp.trans hk2 fun i hi e => ?_, h.low, Nat.le_trans h.up hk2.size⟩
  · rw [h.apart k e] at hk3; cases hk3
  · rcases hb with e | e
    · rw [e] at hg; exact h.apart g hg
    · rw [e] at hg
      cases hρ : ρ g with
      | false => rfl
      | true =>
        have h1 := (C.low h.sp g hρ).2
        cases hg
        simp at h1
        omega
  · have := (World.ownsRow.lt h.row i e).1
    have := h.low
    omega
end

def AlRel (Sp : SpT) (w : World) (base p m : Nat) (rs bs : List UInt8) (nc : Nat) (bv out iv : Value) (wr : World) : Prop :=
  ∃ (n i : Nat) (ρ : Nat → Bool) (t : SpS) (l : List (List UInt8)), Bs w bv (bs.drop n) ∧ n ≤ bs.length ∧ iv = .int .i64 (i : Int) ∧ i ≤ nc + 1 ∧ (i = nc + 1 → n = bs.length) ∧ (i = 0 → n = 0) ∧ t.rest = [] ∧ eatS m rs (bs.take n) zeroS = (l, t) ∧ OutS Sp w wr base p m rs out ρ t l
def AiRel (Sp : SpT) (w : World) (base p m : Nat) (rs : List UInt8) (E : List (List UInt8) × SpS) (out : Value) (wr : World) : Prop :=
  ∃ (ρ : Nat → Bool) (t : SpS) (l : List (List UInt8)), t.rest.length ≤ 1000000 ∧ l ++ (eatS m rs t.rest (dryR t)).1 = E.1 ∧ (eatS m rs t.rest (dryR t)).2 = E.2 ∧ OutS Sp w wr base p m rs out ρ t l
def ArRel (Sp : SpT) (w : World) (base p m : Nat) (rs : List UInt8) (R : List (List UInt8)) (out : Value) (wr : World) : Prop :=
  ∃ (ρ : Nat → Bool) (t : SpS) (l : List (List UInt8)), t.rest = [] ∧ l ++ tailS t = R ∧ OutS Sp w wr base p m rs out ρ t l

theorem feed_eat {m : Nat} {rs : List UInt8} {t : SpS} (h : t.rest = []) (y : List UInt8) : (feedS t y).rest = y ∧ dryR (feedS t y) = t := by
  obtain ⟨a, b, c, d⟩ := t
  simp only at h
  subst h
  exact ⟨rfl, rfl⟩
theorem eatS_few (m : Nat) (rs : List UInt8) : ∀ (b : List UInt8) (s : SpS), (eatS m rs b s).1.length ≤ b.length
  | [], s => Nat.le_refl _
  | b :: r, s => by
    rw [eatS_cons]
    split
    · have := eatS_few m rs r (endS (lookS m rs s b).2)
      simp; omega
    · have := eatS_few m rs r (lookS m rs s b).2
      simp; omega

set_option maxRecDepth 100000 in
set_option maxHeartbeats 16000000 in
theorem all_any {Sp : SpT} (C : SplitC Sp) (w : World) (m : Nat) (hm1 : 1 ≤ m) (hm2 : m ≤ 200) (vb vc : Value) (bs : List UInt8) (ns : List Int) (rs : List UInt8) (hb : Bs w vb bs) (hc : Cu w vc ns) (hl : bs.length ≤ 1000000) (hns : ns.length ≤ 1000) (hrs : rs.length ≤ maxLen) :
    Calls Tryd.prog 21 #[.int .i64 (m : Int), vb, vc, .string (tx rs), .bool true] w fun e w' => ∃ v, e = .returned (.tuple #[v, .bool true]) ∧ TRow w' w.heap.size v (recsS m rs bs) ∧ Kp No w w' := by
  have HN := Hid_mk (C.new_ok w m hm1 hm2)
  have HB := Hid_mk hb
  obtain ⟨ac, cc, rfl, n1, n2, n3⟩ := hc
  have HC := Hid_mk n3
  obtain ⟨ab, cb, rfl, b1, b2, -⟩ := id hb
  clear n3 hb
  go_enter Tryd.func21, Tryd.ntmps21
  go_wp2_with fail
  with_reducible refine HN.out.mono ?_
  rintro e w1 ⟨p, ρ1, rfl, hs1, hk1⟩
  have hO : OutS Sp w w1 w.heap.size p m rs (.slice none 0 0) ρ1 zeroS [] := ⟨hs1, fun _ => rfl, Nat.zero_le _, TRow.nil _ _, fun g hg => by simp [Value.ownBlock] at hg, hk1, Nat.le_refl _, hk1.size⟩
  have HO := Hid_mk hO
  clear hs1 hk1 hO HN
  go_wp2
  go_loopw [1, 14, 15] (fun bv out iv wr => AlRel Sp w w.heap.size p m rs bs ns.length bv out iv wr) (fun _ _ iv _ => ns.length + 1 - (intOf iv).toNat)
  case atStart => exact ⟨0, 0, ρ1, zeroS, [], HB.out, Nat.zero_le _, rfl, by omega, (fun h => by omega), (fun _ => rfl), rfl, rfl, HO.out⟩
  case round =>
    obtain ⟨n, i, ρ, t, l, hbv, hn, rfl, hi, hie, hi0, htr, heat, hout⟩ := hrel
    have HBv := Hid_mk hbv
    have HOut := Hid_mk hout
    have HEat := Hid_mk heat
    have HTr := Hid_mk htr
    obtain ⟨x, hx⟩ : ∃ x, bs.drop n = x := ⟨_, rfl⟩
    rw [hx] at HBv hbv
    have hxl : x.length = bs.length - n := by rw [← hx]; exact List.length_drop
    obtain ⟨av, cv, rfl, v1, v2, v3⟩ := id hbv
    have HCv := Hid_mk v2
    unfold maxLen at v2
    have HX := Hid_mk hx
    have hi00 : (0 : Int) ≤ (i : Int) := Int.natCast_nonneg _
    clear hbv hout heat htr hx v3
    by_cases hgo : 0 < x.length ∨ i = 0
    · -- one piece
      have hgo' : (0 : Int) < (x.length : Int) ∨ (i : Int) = 0 := by omega
      have key : ∃ k : Nat, k ≤ x.length ∧ ((i < ns.length ∧ ∃ z b o, ac = some ⟨b, o, none⟩ ∧ wr.cell? ⟨b, o + i, none⟩ = some (.int .i64 z) ∧ z % ((x.length : Int) + 1) = (k : Int)) ∨ (¬ i < ns.length ∧ k = x.length)) := by
        by_cases hin : i < ns.length
        · obtain ⟨b, o, e, hcell⟩ := HC.out (by intro e; rw [e] at hin; simp at hin)
          have h0 := Int.emod_nonneg ns[i] (show (x.length : Int) + 1 ≠ 0 by omega)
          have h1 := Int.emod_lt_of_pos ns[i] (show (0 : Int) < (x.length : Int) + 1 by omega)
          exact ⟨(ns[i] % ((x.length : Int) + 1)).toNat, by omega, .inl ⟨hin, ns[i], b, o, e, HOut.out.kp.cell' (hcell i hin) id, by omega⟩⟩
        · exact ⟨x.length, Nat.le_refl _, .inr ⟨hin, rfl⟩⟩
      obtain ⟨k, hk, hcase⟩ := key
      have hk0 : (0 : Int) ≤ (k : Int) := Int.natCast_nonneg _
      have hkc : (k : Int) ≤ (cv : Int) := by omega
      have hkx : (k : Int) ≤ (x.length : Int) := by omega
      have hbt := bs_take HBv.out k hk
      have hfd := C.feed wr w.heap.size p ρ m t (.slice av k cv) (x.take k) HOut.out.sp (bs_no hbt HOut.out.kp) (fun hne y o n' c e => by
        cases e
        obtain ⟨a2, c2, e2, -, -, h3⟩ := hbt
        obtain ⟨b2, o2, e3, hc3⟩ := h3 hne
        have hlt2 := World.block_lt_of_cell? w _ (hc3 0 (List.length_pos_iff.2 hne))
        simp only [Value.slice.injEq] at e2
        rw [← e2.1] at e3
        cases e3
        cases hρ : ρ _ with
        | false => rfl
        | true => have := (C.low HOut.out.sp _ hρ).1; simp only at hlt2; omega) (by rw [HTr.out]; simp; omega)
      have hE : ∃ E, eatS m rs (bs.take (n + k)) zeroS = E ∧ l ++ (eatS m rs (x.take k) t).1 = E.1 ∧ (eatS m rs (x.take k) t).2 = E.2 := by
        refine ⟨_, rfl, ?_⟩
        rw [List.take_add, eatS_append, HEat.out, HX.out]
        exact ⟨rfl, rfl⟩
      obtain ⟨E, hEe, hE1, hE2⟩ := hE
      have hdrop : ∀ ao, (¬ k = cv → ∀ b o, av = some ⟨b, o, none⟩ → ao = some ⟨b, o + k, none⟩) → Bs w (.slice ao (x.length - k) (cv - k)) (x.drop k) := fun ao hao => by
        by_cases hne : x = []
        · subst hne
          have : k = 0 := by simpa using hk
          subst this
          exact ⟨ao, _, rfl, by simp, by unfold maxLen; omega, fun h => absurd rfl h⟩
        · obtain ⟨a2, c2, e2, -, -, h3⟩ := HBv.out
          obtain ⟨b2, o2, e3, -⟩ := h3 hne
          simp only [Value.slice.injEq] at e2
          rw [← e2.1] at e3
          subst e3
          exact bs_drop HBv.out k hk ao fun h => hao h b2 o2 rfl
      have HFd := Hid_mk hfd
      have HE := Hid_mk hEe
      have HE1 := Hid_mk hE1
      have HE2 := Hid_mk hE2
      have HDr := Hid_mk hdrop
      have HPk := Hid_mk fun z W => turned.pick_any z ((x.length : Int) + 1) (by omega) (by omega) W
      have hxb : (x.length : Int) ≤ 1000000 := by omega
      have hwr : IntKind.i64.wrap ((x.length : Int) + 1) = (x.length : Int) + 1 := IntWalk.i64_in _ (by omega)
      have hwi : IntKind.i64.wrap ((i : Int) + 1) = (i : Int) + 1 := IntWalk.i64_in _ (by omega)
      have HXl := Hid_mk hxl
      have HGo := Hid_mk hgo
      clear hfd hEe hE1 hE2 hdrop hbt hxl hgo'
      rcases hcase with ⟨hin, z, b, o, rfl, hcell, hz⟩ | ⟨hin, rfl⟩
      · have hini : (i : Int) < (ns.length : Int) := by omega
        have HZ := Hid_mk hz
        clear hz
        by_cases hpos : 0 < x.length
        all_goals first
          | (have hp1 : (0 : Int) < (x.length : Int) := by omega)
          | (have hp1 : ¬ (0 : Int) < (x.length : Int) := by omega
             have hi1 : (i : Int) = 0 := by have := HGo.out; omega
             try (have hcell0 := hcell; rw [show i = 0 by omega, Nat.add_zero] at hcell0))
        all_goals
          clear hgo
          go_wp2_with fail
          with_reducible refine (HPk.out z wr).mono ?_
          rintro e w' ⟨rfl, rfl⟩
          rw [HZ.out]
          go_wp2_with fail
          with_reducible refine HFd.out.mono ?_
          intro e w2 hpost
          obtain ⟨he, ρ2, hO2⟩ := OutS.call C HOut.out hpost HOut.out.dry HOut.out.ok
          subst he
          have HO2 := Hid_mk hO2
          clear hpost hO2 HFd
          rcases Decidable.em (k = cv) with hcv | hcv
          all_goals
            go_wp2
            go_hide hQ
            go_loopw [14] (fun o2 w3 => AiRel Sp w w.heap.size p m rs E o2 w3) (fun o2 _ => E.1.length - lenOf o2)
            case atStart =>
              obtain ⟨f1, f2⟩ := feed_eat (m := m) (rs := rs) HTr.out (x.take (k))
              exact ⟨ρ2, feedS t (x.take (k)), l, by rw [f1, List.length_take]; omega, by rw [f1, f2]; exact HE1.out, by rw [f1, f2]; exact HE2.out, HO2.out⟩
            case round =>
              obtain ⟨ρ3, t3, l3, hr3, he1, he2, ho3⟩ := hrel
              have HO3 := Hid_mk ho3
              have hnx := C.next _ w.heap.size p ρ3 m t3 rs ho3.sp ho3.ok hm2 (by omega) hrs
              have hok4 := nextS_ok ho3.ok rs
              obtain ⟨A, hA⟩ : ∃ A, nextS m rs t3 = A := ⟨_, rfl⟩
              rw [hA] at hnx hok4
              obtain ⟨a, t4⟩ := A
              have HNx := Hid_mk hnx
              have HOk4 := Hid_mk hok4
              cases a with
              | some y =>
                obtain ⟨g1, g2, g3, g4⟩ := next_some ho3.dry hA
                have hr4 : t4.rest.length ≤ 1000000 := by omega
                have hf1 : (l3 ++ [y]) ++ (eatS m rs t4.rest (dryR t4)).1 = E.1 := by rw [← he1, g1]; simp
                have hf2 : (eatS m rs t4.rest (dryR t4)).2 = E.2 := by rw [← he2, g2]
                have hf3 : l3.length + 1 ≤ E.1.length := by rw [← hf1]; simp only [List.length_append, List.length_singleton]; omega
                have hl3 : l3.length ≤ 1000000000000 := by
                  have := eatS_few m rs (bs.take (n + (k))) zeroS
                  rw [HE.out] at this
                  simp at this
                  omega
                have HF1 := Hid_mk hf1
                have HF2 := Hid_mk hf2
                have HF3 := Hid_mk hf3
                have HD4 := Hid_mk g4
                have HR4 := Hid_mk hr4
                clear ho3 hnx hok4 hA g1 g2 g3 g4 he1 he2 hr3 hf1 hf2 hf3 hr4
                go_wp2_with fail
                with_reducible refine HNx.out.mono ?_
                intro e w4 hpost
                obtain ⟨he, ρ4, hO4⟩ := OutS.call C HO3.out hpost HD4.out HOk4.out
                have he2 : e = .returned (.tuple #[.string (tx y), .bool true]) := he
                clear he
                subst he2
                have HO4 := Hid_mk hO4
                clear hpost hO4 HNx
                go_wp2_with (at_builtin; (refine wpList_catT _ rfl _ _ rfl w.heap.size _ l3 y rfl (TRow.no HO4.out.row ((Kp.refl No w4).alloc _)) ?b1 w4.heap.size 1 rfl ?b2 hl3 ?_))
                try (case b1 => first | (have := HO4.out.up; simp; omega) | simp)
                try (case b2 => simp)
                intro o5 w5 hq1 hq2 hq3
                have hO5 := OutS.add C HO4.out hq1 hq2 (by simpa using hq3)
                have HRel : Hid (AiRel Sp w w.heap.size p m rs E o5 w5) := Hid_mk ⟨ρ4, t4, _, HR4.out, HF1.out, HF2.out, hO5⟩
                have HLn := Hid_mk (show lenOf o5 = l3.length + 1 by rw [TRow.len hq1]; simp)
                have HLo := Hid_mk (TRow.len HO3.out.row)
                clear hq1 hq2 hq3 hO5
                go_wp2
                go_roundw
                case rel => exact HRel.out
                case measure => rw [HLn.out, HLo.out]; have := HF3.out; omega
              | none =>
                obtain ⟨g1, g2, g3⟩ := next_none ho3.dry hA
                have hf1 : l3 = E.1 := by rw [← he1, g1]; simp
                have hf2 : t4 = E.2 := by rw [← he2, g1]
                have HF1 := Hid_mk hf1
                have HF2 := Hid_mk hf2
                have HD4 := Hid_mk g3
                have HR4 := Hid_mk g2
                clear ho3 hnx hok4 hA g1 g2 g3 he1 he2 hr3 hf1 hf2
                go_wp2_with fail
                with_reducible refine HNx.out.mono ?_
                intro e w4 hpost
                obtain ⟨he, ρ4, hO4⟩ := OutS.call C HO3.out hpost HD4.out HOk4.out
                have he2 : e = .returned (.tuple #[.string (tx []), .bool false]) := he
                clear he
                subst he2
                have HO4 := Hid_mk hO4
                clear hpost hO4 HNx
                go_wp2
                subst hQ
                go_wp2
                go_roundw
                case rel =>
                  have hdd : x.drop (k) = bs.drop (n + (k)) := by rw [← HX.out, List.drop_drop]
                  refine ⟨n + (k), i + 1, ρ4, t4, l3, ?_, by have := HXl.out; omega, ?i0, ?i1, ?i2, by omega, HR4.out, ?e1, HO4.out⟩
                  case i0 => first | (push_cast; rfl) | (have e1 : (1 : Int) = (i : Int) + 1 := (by omega); rw [e1]; push_cast; rfl)
                  case i1 => have := HXl.out; have := HGo.out; omega
                  case i2 => intro h; have := HXl.out; omega
                  case e1 => rw [HE.out, HF1.out, HF2.out]
                  rw [← hdd]
                  first
                    | exact HDr.out _ (fun _ b o e => by rw [e]; simp [addr_add])
                    | (have := HDr.out _ (fun _ b o e => by rw [e]; exact congrArg some (addr_add b o _)); simpa using this)
                    | (have := HDr.out av (fun h => absurd hcv h); simpa [hcv] using this)
                    | (have := HDr.out av (fun h => absurd hcv h); rw [show x.length - k = 0 by omega, show cv - k = 0 by omega] at this; exact this)
                case measure => have := HXl.out; have := HGo.out; simp only [intOf]; omega
      · have hini : ¬ (i : Int) < (ns.length : Int) := by omega
        by_cases hpos : 0 < x.length
        all_goals first
          | (have hp1 : (0 : Int) < (x.length : Int) := by omega)
          | (have hp1 : ¬ (0 : Int) < (x.length : Int) := by omega
             have hi1 : (i : Int) = 0 := by have := HGo.out; omega
             try (have hcell0 := hcell; rw [show i = 0 by omega, Nat.add_zero] at hcell0))
        all_goals
          clear hgo
          go_wp2_with fail
          with_reducible refine HFd.out.mono ?_
          intro e w2 hpost
          obtain ⟨he, ρ2, hO2⟩ := OutS.call C HOut.out hpost HOut.out.dry HOut.out.ok
          subst he
          have HO2 := Hid_mk hO2
          clear hpost hO2 HFd
          rcases Decidable.em (x.length = cv) with hcv | hcv
          all_goals
            go_wp2
            go_hide hQ
            go_loopw [14] (fun o2 w3 => AiRel Sp w w.heap.size p m rs E o2 w3) (fun o2 _ => E.1.length - lenOf o2)
            case atStart =>
              obtain ⟨f1, f2⟩ := feed_eat (m := m) (rs := rs) HTr.out (x.take (x.length))
              exact ⟨ρ2, feedS t (x.take (x.length)), l, by rw [f1, List.length_take]; omega, by rw [f1, f2]; exact HE1.out, by rw [f1, f2]; exact HE2.out, HO2.out⟩
            case round =>
              obtain ⟨ρ3, t3, l3, hr3, he1, he2, ho3⟩ := hrel
              have HO3 := Hid_mk ho3
              have hnx := C.next _ w.heap.size p ρ3 m t3 rs ho3.sp ho3.ok hm2 (by omega) hrs
              have hok4 := nextS_ok ho3.ok rs
              obtain ⟨A, hA⟩ : ∃ A, nextS m rs t3 = A := ⟨_, rfl⟩
              rw [hA] at hnx hok4
              obtain ⟨a, t4⟩ := A
              have HNx := Hid_mk hnx
              have HOk4 := Hid_mk hok4
              cases a with
              | some y =>
                obtain ⟨g1, g2, g3, g4⟩ := next_some ho3.dry hA
                have hr4 : t4.rest.length ≤ 1000000 := by omega
                have hf1 : (l3 ++ [y]) ++ (eatS m rs t4.rest (dryR t4)).1 = E.1 := by rw [← he1, g1]; simp
                have hf2 : (eatS m rs t4.rest (dryR t4)).2 = E.2 := by rw [← he2, g2]
                have hf3 : l3.length + 1 ≤ E.1.length := by rw [← hf1]; simp only [List.length_append, List.length_singleton]; omega
                have hl3 : l3.length ≤ 1000000000000 := by
                  have := eatS_few m rs (bs.take (n + (x.length))) zeroS
                  rw [HE.out] at this
                  simp at this
                  omega
                have HF1 := Hid_mk hf1
                have HF2 := Hid_mk hf2
                have HF3 := Hid_mk hf3
                have HD4 := Hid_mk g4
                have HR4 := Hid_mk hr4
                clear ho3 hnx hok4 hA g1 g2 g3 g4 he1 he2 hr3 hf1 hf2 hf3 hr4
                go_wp2_with fail
                with_reducible refine HNx.out.mono ?_
                intro e w4 hpost
                obtain ⟨he, ρ4, hO4⟩ := OutS.call C HO3.out hpost HD4.out HOk4.out
                have he2 : e = .returned (.tuple #[.string (tx y), .bool true]) := he
                clear he
                subst he2
                have HO4 := Hid_mk hO4
                clear hpost hO4 HNx
                go_wp2_with (at_builtin; (refine wpList_catT _ rfl _ _ rfl w.heap.size _ l3 y rfl (TRow.no HO4.out.row ((Kp.refl No w4).alloc _)) ?b1 w4.heap.size 1 rfl ?b2 hl3 ?_))
                try (case b1 => first | (have := HO4.out.up; simp; omega) | simp)
                try (case b2 => simp)
                intro o5 w5 hq1 hq2 hq3
                have hO5 := OutS.add C HO4.out hq1 hq2 (by simpa using hq3)
                have HRel : Hid (AiRel Sp w w.heap.size p m rs E o5 w5) := Hid_mk ⟨ρ4, t4, _, HR4.out, HF1.out, HF2.out, hO5⟩
                have HLn := Hid_mk (show lenOf o5 = l3.length + 1 by rw [TRow.len hq1]; simp)
                have HLo := Hid_mk (TRow.len HO3.out.row)
                clear hq1 hq2 hq3 hO5
                go_wp2
                go_roundw
                case rel => exact HRel.out
                case measure => rw [HLn.out, HLo.out]; have := HF3.out; omega
              | none =>
                obtain ⟨g1, g2, g3⟩ := next_none ho3.dry hA
                have hf1 : l3 = E.1 := by rw [← he1, g1]; simp
                have hf2 : t4 = E.2 := by rw [← he2, g1]
                have HF1 := Hid_mk hf1
                have HF2 := Hid_mk hf2
                have HD4 := Hid_mk g3
                have HR4 := Hid_mk g2
                clear ho3 hnx hok4 hA g1 g2 g3 he1 he2 hr3 hf1 hf2
                go_wp2_with fail
                with_reducible refine HNx.out.mono ?_
                intro e w4 hpost
                obtain ⟨he, ρ4, hO4⟩ := OutS.call C HO3.out hpost HD4.out HOk4.out
                have he2 : e = .returned (.tuple #[.string (tx []), .bool false]) := he
                clear he
                subst he2
                have HO4 := Hid_mk hO4
                clear hpost hO4 HNx
                go_wp2
                subst hQ
                go_wp2
                go_roundw
                case rel =>
                  have hdd : x.drop (x.length) = bs.drop (n + (x.length)) := by rw [← HX.out, List.drop_drop]
                  refine ⟨n + (x.length), i + 1, ρ4, t4, l3, ?_, by have := HXl.out; omega, ?i0, ?i1, ?i2, by omega, HR4.out, ?e1, HO4.out⟩
                  case i0 => first | (push_cast; rfl) | (have e1 : (1 : Int) = (i : Int) + 1 := (by omega); rw [e1]; push_cast; rfl)
                  case i1 => have := HXl.out; have := HGo.out; omega
                  case i2 => intro h; have := HXl.out; omega
                  case e1 => rw [HE.out, HF1.out, HF2.out]
                  rw [← hdd]
                  rw [List.drop_length]
                  exact ⟨_, _, rfl, Nat.zero_le _, by first | exact Nat.zero_le _ | exact Nat.le_trans (Nat.sub_le _ _) HCv.out, fun h => absurd rfl h⟩
                case measure => have := HXl.out; have := HGo.out; simp only [intOf]; omega
    · have hp1 : ¬ (0 : Int) < (x.length : Int) := by omega
      have hi1 : ¬ (i : Int) = 0 := by omega
      have hn2 : n = bs.length := by omega
      have hR : recsS m rs bs = l ++ tailS t := by
        have := HEat.out
        rw [hn2, List.take_length] at this
        unfold recsS
        rw [this]
      obtain ⟨R, hRe⟩ : ∃ R, recsS m rs bs = R := ⟨_, rfl⟩
      rw [hRe] at hR
      have HRec := Hid_mk hRe
      have HR := Hid_mk hR
      have hRl : R.length ≤ 1000001 := by
        have h1 := eatS_few m rs (bs.take n) zeroS
        rw [HEat.out] at h1
        simp only [List.length_take] at h1
        rw [hR, List.length_append]
        have h2 : (tailS t).length ≤ 1 := by unfold tailS; split <;> simp
        omega
      have HRl := Hid_mk hRl
      have hi2 : ((i : Int) == 0) = false := by simp; omega
      obtain rfl : x = [] := List.eq_nil_of_length_eq_zero (by omega)
      simp only [List.length_nil]
      clear hgo hR hRe hRl hn2 hxl hp1 hi1
      go_wp2
      go_loopw [14] (fun o2 w3 => ArRel Sp w w.heap.size p m rs R o2 w3) (fun o2 _ => R.length + 1 - lenOf o2)
      case atStart => exact ⟨ρ, t, l, HTr.out, HR.out.symm, HOut.out⟩
      case round =>
        obtain ⟨ρ3, t3, l3, hr3, hR3, ho3⟩ := hrel
        have HO3 := Hid_mk ho3
        have hla := C.last _ w.heap.size p ρ3 m t3 rs ho3.sp ho3.ok hm2 (by rw [hr3]; simp) hrs
        rw [last_dry ho3.dry hr3] at hla
        by_cases h0 : t3.held = [] ∧ t3.over = false
        · rw [if_pos h0] at hla
          have HLa := Hid_mk hla
          have HD3 := Hid_mk ho3.dry
          have HOk3 := Hid_mk ho3.ok
          have hRR : l3 = R := by rw [← hR3]; unfold tailS; rw [if_pos h0, List.append_nil]
          have HRR := Hid_mk hRR
          clear hla ho3 h0 hR3 hr3 hRR
          go_wp2_with fail
          with_reducible refine HLa.out.mono ?_
          intro e w4 hpost
          obtain ⟨he, ρ4, hO4⟩ := OutS.call C HO3.out hpost HD3.out HOk3.out
          have he2 : e = .returned (.tuple #[.string (tx []), .bool false]) := he
          clear he
          subst he2
          have HO4 := Hid_mk hO4
          clear hpost hO4 HLa
          go_wp2
          go_ret2
          exact ⟨_, rfl, by rw [HRec.out, ← HRR.out]; exact HO4.out.row, HO4.out.kp⟩
        · rw [if_neg h0] at hla
          have HLa := Hid_mk hla
          have hRR : (l3 ++ [t3.held]) ++ tailS (endS t3) = R := by
            rw [← hR3]
            have e1 : tailS t3 = [t3.held] := by unfold tailS; rw [if_neg h0]
            have e2 : tailS (endS t3) = [] := if_pos ⟨rfl, rfl⟩
            rw [e1, e2, List.append_nil]
          have hf3 : l3.length + 1 ≤ R.length := by rw [← hRR]; simp only [List.length_append, List.length_singleton]; omega
          have hl3 : l3.length ≤ 1000000000000 := by have := HRl.out; omega
          have HRR := Hid_mk hRR
          have HF3 := Hid_mk hf3
          have HR3 : Hid ((endS t3).rest = []) := Hid_mk hr3
          clear hla ho3 h0 hR3 hr3 hRR hf3
          go_wp2_with fail
          with_reducible refine HLa.out.mono ?_
          intro e w4 hpost
          obtain ⟨he, ρ4, hO4⟩ := OutS.call C HO3.out hpost (fun _ => rfl) (endS_ok m t3)
          have he2 : e = .returned (.tuple #[.string (tx t3.held), .bool true]) := he
          clear he
          subst he2
          have HO4 := Hid_mk hO4
          clear hpost hO4 HLa
          go_wp2_with (at_builtin; (refine wpList_catT _ rfl _ _ rfl w.heap.size _ l3 t3.held rfl (TRow.no HO4.out.row ((Kp.refl No w4).alloc _)) ?b1 w4.heap.size 1 rfl ?b2 hl3 ?_))
          try (case b1 => first | (have := HO4.out.up; simp; omega) | simp)
          try (case b2 => simp)
          intro o5 w5 hq1 hq2 hq3
          have hO5 := OutS.add C HO4.out hq1 hq2 (by simpa using hq3)
          have HRel : Hid (ArRel Sp w w.heap.size p m rs R o5 w5) := Hid_mk ⟨ρ4, endS t3, _, HR3.out, HRR.out, hO5⟩
          have HLn := Hid_mk (show lenOf o5 = l3.length + 1 by rw [TRow.len hq1]; simp)
          have HLo := Hid_mk (TRow.len HO3.out.row)
          clear hq1 hq2 hq3 hO5
          go_wp2
          go_roundw
          case rel => exact HRel.out
          case measure => rw [HLn.out, HLo.out]; have := HF3.out; omega

end Go.Proofs.YtpmmjihkgfmbhaaDoor.spl
