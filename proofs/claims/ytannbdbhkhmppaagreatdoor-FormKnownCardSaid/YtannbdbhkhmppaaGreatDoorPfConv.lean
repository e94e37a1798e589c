/- Package printf: what stands behind a %. -/
import Derived.Test.YtannbdbhkhmppaaGreatDoorPfSmallM

namespace Go.Proofs.YtannbdbhkhmppaaGreatDoor.pf
open Go.RowKit Go.Lib Go.Proofs.YtannbdbhkhmppaaGreatDoor.sum Go.Proofs.YtannbdbhkhmppaaGreatDoor.kept Go.Proofs.YtannbdbhkhmppaaGreatDoor.app Go.Proofs.YtannbdbhkhmppaaGreatDoor.writer Go.Proofs.YtannbdbhkhmppaaGreatDoor.known Go.Proofs.YtannbdbhkhmppaaGreatDoor.str Go.Proofs.YtannbdbhkhmppaaGreatDoor.spl
set_option linter.unusedVariables false

/-- a conversion in memory -/
structure CvAt (w : World) (b : Nat) (c : Cv) : Prop where
  c0 : w.cell? ⟨b, 0, none⟩ = some (.bool c.left)
  c1 : w.cell? ⟨b, 1, none⟩ = some (.bool c.plus)
  c2 : w.cell? ⟨b, 2, none⟩ = some (.bool c.blank)
  c3 : w.cell? ⟨b, 3, none⟩ = some (.bool c.noughts)
  c4 : w.cell? ⟨b, 4, none⟩ = some (.int .i64 c.width)
  c5 : w.cell? ⟨b, 5, none⟩ = some (.int .i64 c.prec)
  c6 : w.cell? ⟨b, 6, none⟩ = some (.int .u8 (c.letter : Int))
  warm : ∀ i, w.frozen? ⟨b, i, none⟩ = false
theorem CvAt.new (w : World) (c : Cv) (t : TypeId) : CvAt (w.alloc (.cells (cvC c) t)) w.heap.size c := ⟨by simp, by simp, by simp, by simp, by simp, by simp, by simp, fun i => by simp⟩
theorem CvAt.lt {w : World} {b : Nat} {c : Cv} (h : CvAt w b c) : b < w.heap.size := World.block_lt_of_cell? w ⟨b, 0, none⟩ h.c0
theorem CvAt.kept {S : Nat → Prop} {w w' : World} {b : Nat} {c : Cv} (h : CvAt w b c) (hk : Kp S w w') (hb : ¬ S b) : CvAt w' b c :=
  ⟨hk.cell' h.c0 hb, hk.cell' h.c1 hb, hk.cell' h.c2 hb, hk.cell' h.c3 hb, hk.cell' h.c4 hb, hk.cell' h.c5 hb, hk.cell' h.c6 hb, fun i => (hk.frozen (p := ⟨b, i, none⟩) h.lt hb).trans (h.warm i)⟩
theorem CvAt.set0 {w : World} {b : Nat} {c : Cv} (h : CvAt w b c) (x : Bool) : CvAt (w.setCell ⟨b, 0, none⟩ (.bool x)) b { c with left := x } :=
  ⟨World.cell?_setCell_same _ _ _ h.c0, by rw [World.cell?_setCell_other _ _ _ _ (by intro e; cases e)]; exact h.c1, by rw [World.cell?_setCell_other _ _ _ _ (by intro e; cases e)]; exact h.c2, by rw [World.cell?_setCell_other _ _ _ _ (by intro e; cases e)]; exact h.c3, by rw [World.cell?_setCell_other _ _ _ _ (by intro e; cases e)]; exact h.c4, by rw [World.cell?_setCell_other _ _ _ _ (by intro e; cases e)]; exact h.c5, by rw [World.cell?_setCell_other _ _ _ _ (by intro e; cases e)]; exact h.c6, fun i => by simp only [World.frozen?_setCell]; exact h.warm i⟩
theorem CvAt.set1 {w : World} {b : Nat} {c : Cv} (h : CvAt w b c) (x : Bool) : CvAt (w.setCell ⟨b, 1, none⟩ (.bool x)) b { c with plus := x } :=
  ⟨by rw [World.cell?_setCell_other _ _ _ _ (by intro e; cases e)]; exact h.c0, World.cell?_setCell_same _ _ _ h.c1, by rw [World.cell?_setCell_other _ _ _ _ (by intro e; cases e)]; exact h.c2, by rw [World.cell?_setCell_other _ _ _ _ (by intro e; cases e)]; exact h.c3, by rw [World.cell?_setCell_other _ _ _ _ (by intro e; cases e)]; exact h.c4, by rw [World.cell?_setCell_other _ _ _ _ (by intro e; cases e)]; exact h.c5, by rw [World.cell?_setCell_other _ _ _ _ (by intro e; cases e)]; exact h.c6, fun i => by simp only [World.frozen?_setCell]; exact h.warm i⟩
theorem CvAt.set2 {w : World} {b : Nat} {c : Cv} (h : CvAt w b c) (x : Bool) : CvAt (w.setCell ⟨b, 2, none⟩ (.bool x)) b { c with blank := x } :=
  ⟨by rw [World.cell?_setCell_other _ _ _ _ (by intro e; cases e)]; exact h.c0, by rw [World.cell?_setCell_other _ _ _ _ (by intro e; cases e)]; exact h.c1, World.cell?_setCell_same _ _ _ h.c2, by rw [World.cell?_setCell_other _ _ _ _ (by intro e; cases e)]; exact h.c3, by rw [World.cell?_setCell_other _ _ _ _ (by intro e; cases e)]; exact h.c4, by rw [World.cell?_setCell_other _ _ _ _ (by intro e; cases e)]; exact h.c5, by rw [World.cell?_setCell_other _ _ _ _ (by intro e; cases e)]; exact h.c6, fun i => by simp only [World.frozen?_setCell]; exact h.warm i⟩
theorem CvAt.set3 {w : World} {b : Nat} {c : Cv} (h : CvAt w b c) (x : Bool) : CvAt (w.setCell ⟨b, 3, none⟩ (.bool x)) b { c with noughts := x } :=
  ⟨by rw [World.cell?_setCell_other _ _ _ _ (by intro e; cases e)]; exact h.c0, by rw [World.cell?_setCell_other _ _ _ _ (by intro e; cases e)]; exact h.c1, by rw [World.cell?_setCell_other _ _ _ _ (by intro e; cases e)]; exact h.c2, World.cell?_setCell_same _ _ _ h.c3, by rw [World.cell?_setCell_other _ _ _ _ (by intro e; cases e)]; exact h.c4, by rw [World.cell?_setCell_other _ _ _ _ (by intro e; cases e)]; exact h.c5, by rw [World.cell?_setCell_other _ _ _ _ (by intro e; cases e)]; exact h.c6, fun i => by simp only [World.frozen?_setCell]; exact h.warm i⟩
theorem CvAt.set4 {w : World} {b : Nat} {c : Cv} (h : CvAt w b c) (x : Int) : CvAt (w.setCell ⟨b, 4, none⟩ (.int .i64 x)) b { c with width := x } :=
  ⟨by rw [World.cell?_setCell_other _ _ _ _ (by intro e; cases e)]; exact h.c0, by rw [World.cell?_setCell_other _ _ _ _ (by intro e; cases e)]; exact h.c1, by rw [World.cell?_setCell_other _ _ _ _ (by intro e; cases e)]; exact h.c2, by rw [World.cell?_setCell_other _ _ _ _ (by intro e; cases e)]; exact h.c3, World.cell?_setCell_same _ _ _ h.c4, by rw [World.cell?_setCell_other _ _ _ _ (by intro e; cases e)]; exact h.c5, by rw [World.cell?_setCell_other _ _ _ _ (by intro e; cases e)]; exact h.c6, fun i => by simp only [World.frozen?_setCell]; exact h.warm i⟩
theorem CvAt.set5 {w : World} {b : Nat} {c : Cv} (h : CvAt w b c) (x : Int) : CvAt (w.setCell ⟨b, 5, none⟩ (.int .i64 x)) b { c with prec := x } :=
  ⟨by rw [World.cell?_setCell_other _ _ _ _ (by intro e; cases e)]; exact h.c0, by rw [World.cell?_setCell_other _ _ _ _ (by intro e; cases e)]; exact h.c1, by rw [World.cell?_setCell_other _ _ _ _ (by intro e; cases e)]; exact h.c2, by rw [World.cell?_setCell_other _ _ _ _ (by intro e; cases e)]; exact h.c3, by rw [World.cell?_setCell_other _ _ _ _ (by intro e; cases e)]; exact h.c4, World.cell?_setCell_same _ _ _ h.c5, by rw [World.cell?_setCell_other _ _ _ _ (by intro e; cases e)]; exact h.c6, fun i => by simp only [World.frozen?_setCell]; exact h.warm i⟩
theorem CvAt.set6 {w : World} {b : Nat} {c : Cv} (h : CvAt w b c) (x : Nat) : CvAt (w.setCell ⟨b, 6, none⟩ (.int .u8 (x : Int))) b { c with letter := x } :=
  ⟨by rw [World.cell?_setCell_other _ _ _ _ (by intro e; cases e)]; exact h.c0, by rw [World.cell?_setCell_other _ _ _ _ (by intro e; cases e)]; exact h.c1, by rw [World.cell?_setCell_other _ _ _ _ (by intro e; cases e)]; exact h.c2, by rw [World.cell?_setCell_other _ _ _ _ (by intro e; cases e)]; exact h.c3, by rw [World.cell?_setCell_other _ _ _ _ (by intro e; cases e)]; exact h.c4, by rw [World.cell?_setCell_other _ _ _ _ (by intro e; cases e)]; exact h.c5, World.cell?_setCell_same _ _ _ h.c6, fun i => by simp only [World.frozen?_setCell]; exact h.warm i⟩
def noCv : Cv := ⟨false, false, false, false, 0, 0, 0⟩
def cv0 : Cv := ⟨false, false, false, false, 0, -1, 0⟩
/-- the flags -/
def fgS : List UInt8 → Cv → Cv × List UInt8
  | [], c => (c, [])
  | b :: l, c => if b.toNat = 45 then fgS l { c with left := true } else if b.toNat = 43 then fgS l { c with plus := true } else if b.toNat = 32 then fgS l { c with blank := true } else if b.toNat = 48 then fgS l { c with noughts := true } else (c, b :: l)
theorem fg_pw : ∀ (l : List UInt8) (c : Cv), (fgS l c).1.width = c.width ∧ (fgS l c).1.prec = c.prec
  | [], c => ⟨rfl, rfl⟩
  | b :: l, c => by
    rw [fgS]
    split
    · exact fg_pw l _
    · split
      · exact fg_pw l _
      · split
        · exact fg_pw l _
        · split
          · exact fg_pw l _
          · exact ⟨rfl, rfl⟩
def isLet (k : Nat) : Bool := decide (0 ≤ Lib.indexByte [100, 105, 117, 111, 120, 88, 102, 70, 101, 69, 103, 71, 99, 115] ((k : Int).toNat.toUInt8))
theorem isLet_nil : isLet 0 = false := by decide +kernel
/-- behind width and precision: the letter -/
def ltS (c : Cv) (l : List UInt8) (ars : List Ar) : Option (Cv × List UInt8 × List Ar) := if 200 < c.width ∨ 200 < c.prec ∨ isLet (lookS l) = false then none else some ({ c with letter := lookS l }, l.drop 1, ars)
/-- a precision, if there is one -/
def prS (cn : List UInt8 → List Ar → Int × List UInt8 × List Ar) (c : Cv) (l : List UInt8) (ars : List Ar) : Option (Cv × List UInt8 × List Ar) := if lookS l = 46 then ltS { c with prec := max (cn (l.drop 1) ars).1 (-1) } (cn (l.drop 1) ars).2.1 (cn (l.drop 1) ars).2.2 else ltS c l ars
def wdS (c : Cv) (n : Int) : Cv := if n < 0 then { c with left := true, width := -n } else { c with width := n }
def cvS (cn : List UInt8 → List Ar → Int × List UInt8 × List Ar) (l : List UInt8) (ars : List Ar) : Option (Cv × List UInt8 × List Ar) :=
  prS cn (wdS (fgS l cv0).1 (cn (fgS l cv0).2 ars).1) (cn (fgS l cv0).2 ars).2.1 (cn (fgS l cv0).2 ars).2.2
/-- what count answers where Ok holds -/
def CntC (cn : List UInt8 → List Ar → Int × List UInt8 × List Ar) (Ok : List UInt8 → Prop) : Prop :=
  ∀ (w0 w : World) (q : Nat) (l : List UInt8) (A o : Value) (bs : List UInt8) (ars : List Ar), Ok l → WkAt w0 w q l A o bs → ArgsAt w0 A ars →
    -201 ≤ (cn l ars).1 ∧ (cn l ars).1 ≤ 201 ∧ Calls Tryz.prog 20 #[.pointer (some ⟨q, 0, none⟩)] w fun e w' => e = .returned (.int .i64 (cn l ars).1) ∧ ∃ A', WkAt w0 w' q (cn l ars).2.1 A' o bs ∧ ArgsAt w0 A' (cn l ars).2.2 ∧ Kp (fun k => k = q) w w'
/-- digits alone -/
def cnD (l : List UInt8) (ars : List Ar) : Int × List UInt8 × List Ar := (((cntS l 0).1 : Int), (cntS l 0).2, ars)
theorem cnt_digits : CntC cnD (fun l => lookS l ≠ 42) := fun w0 w q l A o bs ars hok h ha =>
  ⟨by unfold cnD; simp only; omega, by unfold cnD; have := cnt_le l 0 (by omega); simp only; omega, (count_any h hok).mono fun e w' hp => ⟨hp.1, A, hp.2.1, ha, hp.2.2⟩⟩

def CoPost (w0 : World) (q : Nat) (o : Value) (bs : List UInt8) (R : Option (Cv × List UInt8 × List Ar)) (e : Ending) (w' : World) : Prop :=
  match R with
  | none => e = .returned (.tuple #[cvV noCv, .bool false]) ∧ Kp No w0 w'
  | some (c, l, ars) => e = .returned (.tuple #[cvV c, .bool true]) ∧ ∃ A, WkAt w0 w' q l A o bs ∧ ArgsAt w0 A ars
/-- what is let be -/
structure CoF (w0 w : World) (q Cb Rb : Nat) (o : Value) : Prop where
  h1 : q ≠ Cb
  h2 : q ≠ Rb
  h3 : Cb ≠ Rb
  h4 : o.ownBlock ≠ some Cb
  h5 : o.ownBlock ≠ some Rb
  h6 : w0.heap.size ≤ Cb
  h7 : w0.heap.size ≤ Rb
def frC (q Cb Rb : Nat) (T : Array Value) : Prop := True
def CoJ (w0 : World) (q Cb Rb : Nat) (A o : Value) (bs : List UInt8) (F : Cv × List UInt8) (f : Nat) (a : Act) (wr : World) : Prop :=
  ∃ U5 U6 U7 U8 U9 U10 U11 U12 U13 U14 U15 U16 U17 U18 U19 U20 U21 U22 U23 U24 U25 U26 U27 U28 U29 U30 U31 U32 U33 U34 U35 U36 U37 U38 U39 U40 U41 U42 U43 U44 U45 U46 U47 U48 U49 U50 U51 U52 U53 U54 U55 U56 U57 U58 U59 U60 U61 U62 l c, a = { tmps := #[.pointer (some ⟨q, 0, none⟩), undef, .pointer (some ⟨Rb, 0, none⟩), .bool false, .pointer (some ⟨Cb, 0, none⟩), U5, U6, U7, U8, U9, U10, U11, U12, U13, U14, U15, U16, U17, U18, U19, U20, U21, U22, U23, U24, U25, U26, U27, U28, U29, U30, U31, U32, U33, U34, U35, U36, U37, U38, U39, U40, U41, U42, U43, U44, U45, U46, U47, U48, U49, U50, U51, U52, U53, U54, U55, U56, U57, U58, U59, U60, U61, U62], defers := [] } ∧ WkAt w0 wr q l A o bs ∧ CvAt wr Cb c ∧ CvAt wr Rb noCv ∧ fgS l c = F ∧ l.length + 3 ≤ f
def CoK (w0 : World) (q Cb Rb : Nat) (A o : Value) (bs : List UInt8) (F : Cv × List UInt8) (f : Nat) (a : Act) (wr : World) : Prop :=
  ∃ U5 U6 U7 U8 U9 U10 U11 U12 U13 U14 U15 U16 U17 U18 U19 U20 U21 U22 U23 U24 U25 U26 U27 U28 U29 U30 U31 U32 U33 U34 U35 U36 U37 U38 U39 U40 U41 U42 U43 U44 U45 U46 U47 U48 U49 U50 U51 U52 U53 U54 U55 U56 U57 U58 U59 U60 U61 U62, a = { tmps := #[.pointer (some ⟨q, 0, none⟩), undef, .pointer (some ⟨Rb, 0, none⟩), .bool false, .pointer (some ⟨Cb, 0, none⟩), U5, U6, U7, U8, U9, U10, U11, U12, U13, U14, U15, U16, U17, U18, U19, U20, U21, U22, U23, U24, U25, U26, U27, U28, U29, U30, U31, U32, U33, U34, U35, U36, U37, U38, U39, U40, U41, U42, U43, U44, U45, U46, U47, U48, U49, U50, U51, U52, U53, U54, U55, U56, U57, U58, U59, U60, U61, U62], defers := [] } ∧ WkAt w0 wr q F.2 A o bs ∧ CvAt wr Cb F.1 ∧ CvAt wr Rb noCv ∧ f = 2
def CoL (w0 : World) (q Cb Rb : Nat) (o : Value) (bs : List UInt8) (R : Option (Cv × List UInt8 × List Ar)) (f : Nat) (a : Act) (wr : World) : Prop :=
  ∃ U5 U6 U7 U8 U9 U10 U11 U12 U13 U14 U15 U16 U17 U18 U19 U20 U21 U22 U23 U24 U25 U26 U27 U28 U29 U30 U31 U32 U33 U34 U35 U36 U37 U38 U39 U40 U41 U42 U43 U44 U45 U46 U47 U48 U49 U50 U51 U52 U53 U54 U55 U56 U57 U58 U59 U60 U61 U62 l c A' ars, a = { tmps := #[.pointer (some ⟨q, 0, none⟩), undef, .pointer (some ⟨Rb, 0, none⟩), .bool false, .pointer (some ⟨Cb, 0, none⟩), U5, U6, U7, U8, U9, U10, U11, U12, U13, U14, U15, U16, U17, U18, U19, U20, U21, U22, U23, U24, U25, U26, U27, U28, U29, U30, U31, U32, U33, U34, U35, U36, U37, U38, U39, U40, U41, U42, U43, U44, U45, U46, U47, U48, U49, U50, U51, U52, U53, U54, U55, U56, U57, U58, U59, U60, U61, U62], defers := [] } ∧ WkAt w0 wr q l A' o bs ∧ ArgsAt w0 A' ars ∧ CvAt wr Cb c ∧ CvAt wr Rb noCv ∧ ltS c l ars = R ∧ -1000 ≤ c.width ∧ c.width ≤ 1000 ∧ -1000 ≤ c.prec ∧ c.prec ≤ 1000 ∧ f = 1
theorem WkAt.put7 {w0 w : World} {q : Nat} {l : List UInt8} {A o : Value} {bs : List UInt8} (h : WkAt w0 w q l A o bs) (b : Nat) (hb : q ≠ b) (ho : o.ownBlock ≠ some b) (hg : w0.heap.size ≤ b) (x0 x1 x2 x3 x4 x5 x6 : Value) :
    WkAt w0 (((((((w.setCell ⟨b, 0, none⟩ x0).setCell ⟨b, 1, none⟩ x1).setCell ⟨b, 2, none⟩ x2).setCell ⟨b, 3, none⟩ x3).setCell ⟨b, 4, none⟩ x4).setCell ⟨b, 5, none⟩ x5).setCell ⟨b, 6, none⟩ x6) q l A o bs :=
  (((((((h.aside b 0 hb ho hg _).aside b 1 hb ho hg _).aside b 2 hb ho hg _).aside b 3 hb ho hg _).aside b 4 hb ho hg _).aside b 5 hb ho hg _).aside b 6 hb ho hg _)

set_option maxRecDepth 100000 in
set_option maxHeartbeats 8000000 in
theorem conv_any {w0 w : World} {q : Nat} {l : List UInt8} {A o : Value} {bs : List UInt8} (h : WkAt w0 w q l A o bs) (ars : List Ar) (ha : ArgsAt w0 A ars) (cn : List UInt8 → List Ar → Int × List UInt8 × List Ar) (Ok : List UInt8 → Prop) (hcn : CntC cn Ok)
    (hok1 : Ok (fgS l cv0).2) (hok2 : lookS (cn (fgS l cv0).2 ars).2.1 = 46 → Ok ((cn (fgS l cv0).2 ars).2.1.drop 1)) :
    Calls Tryz.prog 9 #[.pointer (some ⟨q, 0, none⟩)] w (CoPost w0 q o bs (cvS cn l ars)) := by
  obtain ⟨R, hR⟩ : ∃ R, cvS cn l ars = R := ⟨_, rfl⟩
  rw [hR]
  unfold cvS at hR
  obtain ⟨F, hF⟩ : ∃ F, fgS l cv0 = F := ⟨_, rfl⟩
  rw [hF] at hR hok1 hok2
  have HR := Hid_mk hR
  have HF := Hid_mk hF
  have H := Hid_mk h
  have HA := Hid_mk ha
  have HCn := Hid_mk hcn
  have HO1 := Hid_mk hok1
  have HO2 := Hid_mk hok2
  have hq := h.lt
  have HQ := Hid_mk hq
  obtain ⟨W1, hW1, hk1, hz1⟩ := named_alloc w (.cells (cvC noCv) 36)
  have hb1 := CvAt.new w noCv 36
  obtain ⟨Rb, hRb⟩ : ∃ Rb, w.heap.size = Rb := ⟨_, rfl⟩
  rw [hW1, hRb] at hb1
  rw [hRb] at hz1
  obtain ⟨W2, hW2, hk2, hz2⟩ := named_alloc W1 (.cells (cvC cv0) 36)
  have hb2 := CvAt.new W1 cv0 36
  obtain ⟨Cb, hCb⟩ : ∃ Cb, W1.heap.size = Cb := ⟨_, rfl⟩
  rw [hW2, hCb] at hb2
  have hold := h.old (Nat.le_refl _)
  have hold2 := (h.no hk1).old (Nat.le_refl _)
  rw [hRb] at hold
  rw [hCb] at hold2
  have HD : Hid (CoF w0 w q Cb Rb o) := Hid_mk ⟨hold2.1, hold.1, by omega, hold2.2, hold.2, by have := h.kp.size; omega, by have := h.kp.size; omega⟩
  have HW1 : Hid (w.alloc (.cells #[.bool false, .bool false, .bool false, .bool false, .int .i64 0, .int .i64 0, .int .u8 0] 36) = W1) := Hid_mk hW1
  have HW2 : Hid (W1.alloc (.cells #[.bool false, .bool false, .bool false, .bool false, .int .i64 0, .int .i64 (-1), .int .u8 0] 36) = W2) := Hid_mk hW2
  have HRb := Hid_mk hRb
  have HCb := Hid_mk hCb
  have HK1 := Hid_mk hk1
  have HK2 := Hid_mk hk2
  have HB1 := Hid_mk (hb1.kept hk2 id)
  have HB2 := Hid_mk hb2
  clear h ha hcn hok1 hok2 hR hF hW1 hk1 hz1 hb1 hRb hW2 hk2 hz2 hb2 hCb hold hold2 hq
  go_enter Tryz.func9, Tryz.ntmps9
  go_upto_region 1 with fail
  rw [HRb.out, HW1.out]
  refine scope_three_g 1 0 2 (by decide) (by decide) (by decide) (CoJ w0 q Cb Rb A o bs F) (CoK w0 q Cb Rb A o bs F) (CoL w0 q Cb Rb o bs R) rfl rfl rfl ?passC ?passB ?passA ?first
  case passC =>
    clear HW1 HW2 HK1 HK2 HB1 HB2 HR HF H HA HCn HO1 HO2 HQ HRb HCb
    rintro n a' wr ⟨U5, U6, U7, U8, U9, U10, U11, U12, U13, U14, U15, U16, U17, U18, U19, U20, U21, U22, U23, U24, U25, U26, U27, U28, U29, U30, U31, U32, U33, U34, U35, U36, U37, U38, U39, U40, U41, U42, U43, U44, U45, U46, U47, U48, U49, U50, U51, U52, U53, U54, U55, U56, U57, U58, U59, U60, U61, U62, l', c, A', ars', rfl, hw, hA, hc, hr, hrun, hw1, hw2, hp1, hp2, rfl⟩
    have HL := Hid_mk (look_any hw)
    unfold LkPost at HL
    have hlt := lookS_lt l'
    unfold ltS at hrun
    obtain ⟨y, hy⟩ : ∃ y, lookS l' = y := ⟨_, rfl⟩
    rw [hy] at HL hrun hlt
    have HI := Hid_mk fun W => Tryz.strings_IndexByte ⟨#[100, 105, 117, 111, 120, 88, 102, 70, 101, 69, 103, 71, 99, 115]⟩ (y : Int) W
    have hil : isLet y = decide (0 ≤ Lib.indexByte [100, 105, 117, 111, 120, 88, 102, 70, 101, 69, 103, 71, 99, 115] ((y : Int).toNat.toUInt8)) := rfl
    obtain ⟨J, hJ⟩ : ∃ J, Lib.indexByte [100, 105, 117, 111, 120, 88, 102, 70, 101, 69, 103, 71, 99, 115] ((y : Int).toNat.toUInt8) = J := ⟨_, rfl⟩
    rw [hJ] at hil
    simp only [hJ] at HI
    rw [hil] at hrun
    have HY : Hid (0 ≤ J → 0 < l'.length) := Hid_mk fun h0 => by
      cases l' with
      | nil =>
        have e : y = 0 := by rw [← hy]; rfl
        rw [e, isLet_nil] at hil
        rw [decide_eq_true h0] at hil
        cases hil
      | cons x t => simp
    have HW := Hid_mk hw
    have HAr := Hid_mk hA
    have HB := Hid_mk hc
    have HRz := Hid_mk hr
    have HRun := Hid_mk hrun
    have hcl := hc.c6
    have hcw := hc.warm
    clear hJ hil hw hA hc hr hrun
    go_wp2_with fail
    with_reducible refine HL.out.mono ?_
    rintro e w1 ⟨rfl, rfl⟩
    go_upto_region 19 with fail
    have HB3 := Hid_mk (HB.out.set6 y)
    have HW3 := Hid_mk (HW.out.aside Cb 6 HD.out.h1 HD.out.h4 HD.out.h6 (.int .u8 (y : Int)))
    have HR3 := Hid_mk (HRz.out.kept ((Kp.refl (fun k => k = Cb) wr).setCell (p := ⟨Cb, 6, none⟩) (fun _ => rfl) (.int .u8 (y : Int))) (fun e => HD.out.h3 e.symm))
    obtain ⟨W3, hW3⟩ : ∃ W, wr.setCell ⟨Cb, 6, none⟩ (.int .u8 (y : Int)) = W := ⟨_, rfl⟩
    rw [hW3] at HB3 HW3 HR3 ⊢
    clear hW3 HB HW HRz hcl hcw HL
    obtain ⟨cl, cp, cbk, cno, cw, cpr, cle⟩ := c
    simp only at HB3 HRun hw1 hw2 hp1 hp2
    obtain ⟨d0, d1, d2, d3, d4, d5, d6, d7⟩ := HB3.out
    obtain ⟨r0, r1, r2, r3, r4, r5, r6, r7⟩ := HR3.out
    simp only at d0 d1 d2 d3 d4 d5 d6
    by_cases hgood : cw ≤ 200 ∧ cpr ≤ 200 ∧ 0 ≤ J
    · obtain ⟨g1, g2, g3⟩ := hgood
      have hrun := HRun.out
      rw [if_neg (by rw [decide_eq_true g3]; rintro (h | h | h); omega; omega; cases h)] at hrun
      have HRun2 := Hid_mk hrun
      have HSk := Hid_mk (skip_any HW3.out (HY.out g3))
      have HD2 := HD
      have g1' : ¬ (200 < cw) := by omega
      have g2' : ¬ (200 < cpr) := by omega
      have g3' : ¬ (J < 0) := by omega
      clear hrun HRun
      go_wp2_with (go_at_call 21; (with_reducible refine (HI.out _).mono ?_); rintro e w1 ⟨rfl, rfl⟩)
      with_reducible refine HSk.out.mono ?_
      rintro e w5 ⟨rfl, hw5, hk5⟩
      have hB5 := HB3.out.kept hk5 (fun e => HD.out.h1 e.symm)
      have hR5 := HR3.out.kept hk5 (fun e => HD.out.h2 e.symm)
      have HW5 := Hid_mk hw5
      clear d0 d1 d2 d3 d4 d5 d6 d7 r0 r1 r2 r3 r4 r5 r6 r7 hw5 hk5
      obtain ⟨d0, d1, d2, d3, d4, d5, d6, d7⟩ := hB5
      obtain ⟨r0, r1, r2, r3, r4, r5, r6, r7⟩ := hR5
      simp only at d0 d1 d2 d3 d4 d5 d6
      go_wp2
      simp only [jumpF]
      refine bodyPost_ret (v := .tuple #[cvV ⟨cl, cp, cbk, cno, cw, cpr, y⟩, .bool true]) ?_ rfl ?_
      · simp [results, Tryz.results9, go_sem, cvV, r0, r1, r2, r3, r4, r5, r6]
      · rw [← HRun2.out]
        exact ⟨rfl, _, HW5.out.put7 Rb HD.out.h2 HD.out.h5 HD.out.h7 _ _ _ _ _ _ _, HAr.out⟩
    · have hrun := HRun.out
      rw [if_pos (by
        by_cases g1 : 200 < cw
        · exact .inl g1
        · by_cases g2 : 200 < cpr
          · exact .inr (.inl g2)
          · exact .inr (.inr (decide_eq_false fun g3 => hgood ⟨by omega, by omega, g3⟩)))] at hrun
      have HRun2 := Hid_mk hrun
      have HG := Hid_mk hgood
      clear hrun HRun hgood
      by_cases g1 : 200 < cw
      · go_wp2_with fail
        simp only [jumpF]
        refine bodyPost_ret (v := .tuple #[cvV noCv, .bool false]) ?_ rfl ?_
        · simp [results, Tryz.results9, go_sem, cvV, noCv, r0, r1, r2, r3, r4, r5, r6]
        · rw [← HRun2.out]
          exact ⟨rfl, (HW3.out.put7 Rb HD.out.h2 HD.out.h5 HD.out.h7 _ _ _ _ _ _ _).kp⟩
      · by_cases g2 : 200 < cpr
        · go_wp2_with fail
          simp only [jumpF]
          refine bodyPost_ret (v := .tuple #[cvV noCv, .bool false]) ?_ rfl ?_
          · simp [results, Tryz.results9, go_sem, cvV, noCv, r0, r1, r2, r3, r4, r5, r6]
          · rw [← HRun2.out]
            exact ⟨rfl, (HW3.out.put7 Rb HD.out.h2 HD.out.h5 HD.out.h7 _ _ _ _ _ _ _).kp⟩
        · have g3' : J < 0 := by have := HG.out; omega
          go_wp2_with (go_at_call 21; (with_reducible refine (HI.out _).mono ?_); rintro e w1 ⟨rfl, rfl⟩)
          simp only [jumpF]
          refine bodyPost_ret (v := .tuple #[cvV noCv, .bool false]) ?_ rfl ?_
          · simp [results, Tryz.results9, go_sem, cvV, noCv, r0, r1, r2, r3, r4, r5, r6]
          · rw [← HRun2.out]
            exact ⟨rfl, (HW3.out.put7 Rb HD.out.h2 HD.out.h5 HD.out.h7 _ _ _ _ _ _ _).kp⟩
  case passA =>
    clear HW1 HW2 HK1 HK2 HB1 HB2 HR HF H HA HCn HO1 HO2 HQ HRb HCb
    rintro n a' wr ⟨U5, U6, U7, U8, U9, U10, U11, U12, U13, U14, U15, U16, U17, U18, U19, U20, U21, U22, U23, U24, U25, U26, U27, U28, U29, U30, U31, U32, U33, U34, U35, U36, U37, U38, U39, U40, U41, U42, U43, U44, U45, U46, U47, U48, U49, U50, U51, U52, U53, U54, U55, U56, U57, U58, U59, U60, U61, U62, l', c, rfl, hw, hc, hr, hrun, hn⟩
    obtain ⟨m, rfl⟩ : ∃ m, n = m + 1 := ⟨n - 1, by omega⟩
    have HL := Hid_mk (look_any hw)
    unfold LkPost at HL
    have hlt := lookS_lt l'
    have HW := Hid_mk hw
    have HRz := Hid_mk hr
    have HB := Hid_mk hc
    have hcw := hc.warm
    have HN := Hid_mk hn
    by_cases hf : lookS l' = 45 ∨ lookS l' = 43 ∨ lookS l' = 32 ∨ lookS l' = 48
    · obtain ⟨b, t, rfl⟩ : ∃ b t, l' = b :: t := by
        cases l' with
        | nil => exact absurd hf (by decide)
        | cons b t => exact ⟨b, t, rfl⟩
      have hbk : lookS (b :: t) = b.toNat := rfl
      rw [fgS, ← hbk] at hrun
      rcases hf with hf | hf | hf | hf
      · rw [if_pos hf] at hrun
        rw [hf] at HL
        have q0 := hc.c0
        have HRun := Hid_mk hrun
        clear hw hc hr hrun hn hlt hf hbk
        go_wp2_with fail
        with_reducible refine HL.out.mono ?_
        rintro e w1 ⟨rfl, rfl⟩
        go_upto_region 11 with fail
        have HW2 := Hid_mk (HW.out.aside Cb 0 HD.out.h1 HD.out.h4 HD.out.h6 (.bool true))
        have HB2 := Hid_mk (HB.out.set0 true)
        have HZ2 := Hid_mk (HRz.out.kept ((Kp.refl (fun k => k = Cb) wr).setCell (p := ⟨Cb, 0, none⟩) (fun _ => rfl) (.bool true)) (fun e => HD.out.h3 e.symm))
        obtain ⟨W3, hW3⟩ : ∃ W, wr.setCell ⟨Cb, 0, none⟩ (.bool true) = W := ⟨_, rfl⟩
        rw [hW3] at HB2 HW2 HZ2 ⊢
        have HSk := Hid_mk (skip_any HW2.out (by simp))
        clear hW3 q0 hcw HW HB HRz
        go_wp2_with fail
        with_reducible refine HSk.out.mono ?_
        rintro e w5 ⟨rfl, hw5, hk5⟩
        have HW5 := Hid_mk hw5
        have HB5 := Hid_mk (HB2.out.kept hk5 (fun e => HD.out.h1 e.symm))
        have HZ5 := Hid_mk (HZ2.out.kept hk5 (fun e => HD.out.h2 e.symm))
        clear hw5 hk5 HSk
        go_wp2
        go_step3
        exact ⟨m, Nat.lt_succ_self m, .inl ⟨rfl, _, _, _, _, _, _, _, _, _, _, _, _, _, _, _, _, _, _, _, _, _, _, _, _, _, _, _, _, _, _, _, _, _, _, _, _, _, _, _, _, _, _, _, _, _, _, _, _, _, _, _, _, _, _, _, _, _, _, _, _, rfl, HW5.out, HB5.out, HZ5.out, HRun.out, by have := HN.out; simp at this ⊢; omega⟩⟩
      · rw [if_neg (by omega), if_pos hf] at hrun
        rw [hf] at HL
        have q1 := hc.c1
        have HRun := Hid_mk hrun
        clear hw hc hr hrun hn hlt hf hbk
        go_wp2_with fail
        with_reducible refine HL.out.mono ?_
        rintro e w1 ⟨rfl, rfl⟩
        go_upto_region 11 with fail
        have HW2 := Hid_mk (HW.out.aside Cb 1 HD.out.h1 HD.out.h4 HD.out.h6 (.bool true))
        have HB2 := Hid_mk (HB.out.set1 true)
        have HZ2 := Hid_mk (HRz.out.kept ((Kp.refl (fun k => k = Cb) wr).setCell (p := ⟨Cb, 1, none⟩) (fun _ => rfl) (.bool true)) (fun e => HD.out.h3 e.symm))
        obtain ⟨W3, hW3⟩ : ∃ W, wr.setCell ⟨Cb, 1, none⟩ (.bool true) = W := ⟨_, rfl⟩
        rw [hW3] at HB2 HW2 HZ2 ⊢
        have HSk := Hid_mk (skip_any HW2.out (by simp))
        clear hW3 q1 hcw HW HB HRz
        go_wp2_with fail
        with_reducible refine HSk.out.mono ?_
        rintro e w5 ⟨rfl, hw5, hk5⟩
        have HW5 := Hid_mk hw5
        have HB5 := Hid_mk (HB2.out.kept hk5 (fun e => HD.out.h1 e.symm))
        have HZ5 := Hid_mk (HZ2.out.kept hk5 (fun e => HD.out.h2 e.symm))
        clear hw5 hk5 HSk
        go_wp2
        go_step3
        exact ⟨m, Nat.lt_succ_self m, .inl ⟨rfl, _, _, _, _, _, _, _, _, _, _, _, _, _, _, _, _, _, _, _, _, _, _, _, _, _, _, _, _, _, _, _, _, _, _, _, _, _, _, _, _, _, _, _, _, _, _, _, _, _, _, _, _, _, _, _, _, _, _, _, _, rfl, HW5.out, HB5.out, HZ5.out, HRun.out, by have := HN.out; simp at this ⊢; omega⟩⟩
      · rw [if_neg (by omega), if_neg (by omega), if_pos hf] at hrun
        rw [hf] at HL
        have q2 := hc.c2
        have HRun := Hid_mk hrun
        clear hw hc hr hrun hn hlt hf hbk
        go_wp2_with fail
        with_reducible refine HL.out.mono ?_
        rintro e w1 ⟨rfl, rfl⟩
        go_upto_region 11 with fail
        have HW2 := Hid_mk (HW.out.aside Cb 2 HD.out.h1 HD.out.h4 HD.out.h6 (.bool true))
        have HB2 := Hid_mk (HB.out.set2 true)
        have HZ2 := Hid_mk (HRz.out.kept ((Kp.refl (fun k => k = Cb) wr).setCell (p := ⟨Cb, 2, none⟩) (fun _ => rfl) (.bool true)) (fun e => HD.out.h3 e.symm))
        obtain ⟨W3, hW3⟩ : ∃ W, wr.setCell ⟨Cb, 2, none⟩ (.bool true) = W := ⟨_, rfl⟩
        rw [hW3] at HB2 HW2 HZ2 ⊢
        have HSk := Hid_mk (skip_any HW2.out (by simp))
        clear hW3 q2 hcw HW HB HRz
        go_wp2_with fail
        with_reducible refine HSk.out.mono ?_
        rintro e w5 ⟨rfl, hw5, hk5⟩
        have HW5 := Hid_mk hw5
        have HB5 := Hid_mk (HB2.out.kept hk5 (fun e => HD.out.h1 e.symm))
        have HZ5 := Hid_mk (HZ2.out.kept hk5 (fun e => HD.out.h2 e.symm))
        clear hw5 hk5 HSk
        go_wp2
        go_step3
        exact ⟨m, Nat.lt_succ_self m, .inl ⟨rfl, _, _, _, _, _, _, _, _, _, _, _, _, _, _, _, _, _, _, _, _, _, _, _, _, _, _, _, _, _, _, _, _, _, _, _, _, _, _, _, _, _, _, _, _, _, _, _, _, _, _, _, _, _, _, _, _, _, _, _, _, rfl, HW5.out, HB5.out, HZ5.out, HRun.out, by have := HN.out; simp at this ⊢; omega⟩⟩
      · rw [if_neg (by omega), if_neg (by omega), if_neg (by omega), if_pos hf] at hrun
        rw [hf] at HL
        have q3 := hc.c3
        have HRun := Hid_mk hrun
        clear hw hc hr hrun hn hlt hf hbk
        go_wp2_with fail
        with_reducible refine HL.out.mono ?_
        rintro e w1 ⟨rfl, rfl⟩
        go_upto_region 11 with fail
        have HW2 := Hid_mk (HW.out.aside Cb 3 HD.out.h1 HD.out.h4 HD.out.h6 (.bool true))
        have HB2 := Hid_mk (HB.out.set3 true)
        have HZ2 := Hid_mk (HRz.out.kept ((Kp.refl (fun k => k = Cb) wr).setCell (p := ⟨Cb, 3, none⟩) (fun _ => rfl) (.bool true)) (fun e => HD.out.h3 e.symm))
        obtain ⟨W3, hW3⟩ : ∃ W, wr.setCell ⟨Cb, 3, none⟩ (.bool true) = W := ⟨_, rfl⟩
        rw [hW3] at HB2 HW2 HZ2 ⊢
        have HSk := Hid_mk (skip_any HW2.out (by simp))
        clear hW3 q3 hcw HW HB HRz
        go_wp2_with fail
        with_reducible refine HSk.out.mono ?_
        rintro e w5 ⟨rfl, hw5, hk5⟩
        have HW5 := Hid_mk hw5
        have HB5 := Hid_mk (HB2.out.kept hk5 (fun e => HD.out.h1 e.symm))
        have HZ5 := Hid_mk (HZ2.out.kept hk5 (fun e => HD.out.h2 e.symm))
        clear hw5 hk5 HSk
        go_wp2
        go_step3
        exact ⟨m, Nat.lt_succ_self m, .inl ⟨rfl, _, _, _, _, _, _, _, _, _, _, _, _, _, _, _, _, _, _, _, _, _, _, _, _, _, _, _, _, _, _, _, _, _, _, _, _, _, _, _, _, _, _, _, _, _, _, _, _, _, _, _, _, _, _, _, _, _, _, _, _, rfl, HW5.out, HB5.out, HZ5.out, HRun.out, by have := HN.out; simp at this ⊢; omega⟩⟩
    · have hrun2 : (c, l') = F := by
        cases l' with
        | nil => exact hrun
        | cons b t =>
          have hbk : lookS (b :: t) = b.toNat := rfl
          rw [fgS, ← hbk, if_neg (fun e => hf (.inl e)), if_neg (fun e => hf (.inr (.inl e))), if_neg (fun e => hf (.inr (.inr (.inl e)))), if_neg (fun e => hf (.inr (.inr (.inr e))))] at hrun
          exact hrun
      subst hrun2
      obtain ⟨y, hy⟩ : ∃ y, lookS l' = y := ⟨_, rfl⟩
      rw [hy] at HL hf
      have n1 : ((y : Int) == 45) = false := by simp; omega
      have n2 : ((y : Int) == 43) = false := by simp; omega
      have n3 : ((y : Int) == 32) = false := by simp; omega
      have n4 : ((y : Int) == 48) = false := by simp; omega
      clear hw hc hr hrun hn hlt hf hy hcw
      go_wp2_with fail
      with_reducible refine HL.out.mono ?_
      rintro e w1 ⟨rfl, rfl⟩
      go_wp2
      go_step3
      exact ⟨2, by have := HN.out; omega, .inr (.inl ⟨rfl, _, _, _, _, _, _, _, _, _, _, _, _, _, _, _, _, _, _, _, _, _, _, _, _, _, _, _, _, _, _, _, _, _, _, _, _, _, _, _, _, _, _, _, _, _, _, _, _, _, _, _, _, _, _, _, _, _, _, rfl, HW.out, HB.out, HRz.out, rfl⟩)⟩
  case passB =>
    clear HW1 HW2 HK1 HK2 HB1 HB2 H HQ HRb HCb
    rintro n a' wr ⟨U5, U6, U7, U8, U9, U10, U11, U12, U13, U14, U15, U16, U17, U18, U19, U20, U21, U22, U23, U24, U25, U26, U27, U28, U29, U30, U31, U32, U33, U34, U35, U36, U37, U38, U39, U40, U41, U42, U43, U44, U45, U46, U47, U48, U49, U50, U51, U52, U53, U54, U55, U56, U57, U58, U59, U60, U61, U62, rfl, hw, hc, hr, rfl⟩ hZ
    have HZ := Hid_mk hZ
    obtain ⟨hn1, hn2, hcnt⟩ := HCn.out w0 wr q F.2 A o bs ars HO1.out hw HA.out
    have hpw := fg_pw l cv0
    rw [HF.out] at hpw
    have HPw : Hid (F.1.width = 0 ∧ F.1.prec = -1) := Hid_mk hpw
    have hR := HR.out
    have hO2 := HO2.out
    obtain ⟨⟨n1, l2, ars2⟩, hx⟩ : ∃ x, cn F.2 ars = x := ⟨_, rfl⟩
    rw [hx] at hn1 hn2 hcnt hR hO2
    simp only at hn1 hn2 hcnt hR hO2
    have HR2 := Hid_mk hR
    have HO3 := Hid_mk hO2
    have HCt := Hid_mk hcnt
    have HRz := Hid_mk hr
    have HB := Hid_mk hc
    clear hZ hcnt hpw hR hO2 hx hw hc hr HR HO1 HO2 HA
    go_wp2_with fail
    with_reducible refine HCt.out.mono ?_
    rintro e w1 ⟨rfl, A1, hw1, ha1, hk1⟩
    have hb1 := HB.out.kept hk1 (fun e => HD.out.h1 e.symm)
    have hz1 := HRz.out.kept hk1 (fun e => HD.out.h2 e.symm)
    have q4 := hb1.c4
    have q0 := hb1.c0
    have qw := hb1.warm
    have HW1 := Hid_mk hw1
    have HA1 := Hid_mk ha1
    have HB1 := Hid_mk hb1
    have HZ1 := Hid_mk hz1
    clear hw1 ha1 hk1 hb1 hz1 HB HRz HCt
    by_cases hneg : n1 < 0
    · go_upto_region 15 with fail
      have HW2 := Hid_mk (((HW1.out.aside Cb 4 HD.out.h1 HD.out.h4 HD.out.h6 (.int .i64 n1)).aside Cb 0 HD.out.h1 HD.out.h4 HD.out.h6 (.bool true)).aside Cb 4 HD.out.h1 HD.out.h4 HD.out.h6 (.int .i64 (-n1)))
      have HB2 := Hid_mk (((HB1.out.set4 n1).set0 true).set4 (-n1))
      have HZ2 := Hid_mk (HZ1.out.kept ((((Kp.refl (fun k => k = Cb) w1).setCell (p := ⟨Cb, 4, none⟩) (fun _ => rfl) (.int .i64 n1)).setCell (p := ⟨Cb, 0, none⟩) (fun _ => rfl) (.bool true)).setCell (p := ⟨Cb, 4, none⟩) (fun _ => rfl) (.int .i64 (-n1))) (fun e => HD.out.h3 e.symm))
      obtain ⟨W3, hW3⟩ : ∃ W, ((w1.setCell ⟨Cb, 4, none⟩ (.int .i64 n1)).setCell ⟨Cb, 0, none⟩ (.bool true)).setCell ⟨Cb, 4, none⟩ (.int .i64 (-n1)) = W := ⟨_, rfl⟩
      rw [hW3] at HB2 HW2 HZ2 ⊢
      have hwd : wdS F.1 n1 = { F.1 with left := true, width := -n1 } := if_pos hneg
      rw [hwd] at HR2
      have HB3 := Hid_mk (show CvAt W3 Cb { F.1 with left := true, width := -n1 } from HB2.out)
      obtain ⟨c3, hc3⟩ : ∃ c3, ({ F.1 with left := true, width := -n1 } : Cv) = c3 := ⟨_, rfl⟩
      have hcw : c3.width = -n1 ∧ c3.prec = -1 := by rw [← hc3]; exact ⟨rfl, HPw.out.2⟩
      rw [hc3] at HB3 HR2
      have HCw := Hid_mk (show -201 ≤ c3.width ∧ c3.width ≤ 201 ∧ c3.prec = -1 by omega)
      clear hW3 q4 q0 qw hneg hwd hc3 hcw HW1 HB1 HZ1 HB2
      have HLk := Hid_mk (look_any HW2.out)
      unfold LkPost at HLk
      by_cases hp : lookS l2 = 46
      · have hR := HR2.out
        unfold prS at hR
        rw [if_pos hp] at hR
        have hyl : 0 < l2.length := by
          cases l2 with
          | nil => exact absurd hp (by decide)
          | cons a b => simp
        have HSk := Hid_mk (skip_any HW2.out hyl)
        rw [hp] at HLk
        have HO4 := Hid_mk (HO3.out hp)
        have HR3 := Hid_mk hR
        clear hR hp hyl
        go_wp2_with fail
        with_reducible refine HLk.out.mono ?_
        rintro e w4 ⟨rfl, rfl⟩
        go_wp2_with fail
        with_reducible refine HSk.out.mono ?_
        rintro e w5 ⟨rfl, hw5, hk5⟩
        obtain ⟨hp1, hp2, hcnt⟩ := HCn.out w0 w5 q (l2.drop 1) A1 o bs ars2 HO4.out hw5 HA1.out
        have hR := HR3.out
        obtain ⟨⟨p1, l3, ars3⟩, hx⟩ : ∃ x, cn (l2.drop 1) ars2 = x := ⟨_, rfl⟩
        rw [hx] at hp1 hp2 hcnt hR
        simp only at hp1 hp2 hcnt hR
        have HR4 := Hid_mk hR
        have HCt := Hid_mk hcnt
        have HB5 := Hid_mk (HB3.out.kept hk5 (fun e => HD.out.h1 e.symm))
        have HZ5 := Hid_mk (HZ2.out.kept hk5 (fun e => HD.out.h2 e.symm))
        clear hw5 hk5 hcnt hR hx HSk HLk HW2 HB3 HZ2
        go_wp2_with fail
        with_reducible refine HCt.out.mono ?_
        rintro e w6 ⟨rfl, A6, hw6, ha6, hk6⟩
        have hb6 := HB5.out.kept hk6 (fun e => HD.out.h1 e.symm)
        have HZ6 := Hid_mk (HZ5.out.kept hk6 (fun e => HD.out.h2 e.symm))
        have q5 := hb6.c5
        have qw := hb6.warm
        have HW6 := Hid_mk hw6
        have HA6 := Hid_mk ha6
        have HB6 := Hid_mk hb6
        obtain ⟨P, hP⟩ : ∃ P, max p1 (-1) = P := ⟨_, rfl⟩
        have hR := HR4.out
        rw [hP] at hR
        have HPb := Hid_mk (show -1 ≤ P ∧ P ≤ 201 by omega)
        have HR5 := Hid_mk hR
        clear hw6 ha6 hk6 hb6 HCt HB5 HZ5 hR
        go_wp2_with fail
        try rw [hP]
        have HW7 := Hid_mk (HW6.out.aside Cb 5 HD.out.h1 HD.out.h4 HD.out.h6 (.int .i64 P))
        have HB7 := Hid_mk (HB6.out.set5 P)
        have HZ7 := Hid_mk (HZ6.out.kept ((Kp.refl (fun k => k = Cb) w6).setCell (p := ⟨Cb, 5, none⟩) (fun _ => rfl) (.int .i64 P)) (fun e => HD.out.h3 e.symm))
        clear q5 qw HW6 HB6 HZ6
        apply wp_label
        rename_i hK0
        exact hK0 _ _ (HZ.out 1 _ _ (by omega) ⟨_, _, _, _, _, _, _, _, _, _, _, _, _, _, _, _, _, _, _, _, _, _, _, _, _, _, _, _, _, _, _, _, _, _, _, _, _, _, _, _, _, _, _, _, _, _, _, _, _, _, _, _, _, _, _, _, _, _, l3, _, _, ars3, rfl, HW7.out, HA6.out, HB7.out, HZ7.out, HR5.out, by have := HCw.out; simp only; omega, by have := HCw.out; simp only; omega, by have := HPb.out; simp only; omega, by have := HPb.out; simp only; omega, rfl⟩)
      · have hR := HR2.out
        unfold prS at hR
        rw [if_neg hp] at hR
        have HR3 := Hid_mk hR
        have hne : ((lookS l2 : Int) != 46) = true := by simp; omega
        obtain ⟨y, hy⟩ : ∃ y, lookS l2 = y := ⟨_, rfl⟩
        rw [hy] at HLk hne
        clear hR hp hy
        go_wp2_with fail
        with_reducible refine HLk.out.mono ?_
        rintro e w4 ⟨rfl, rfl⟩
        go_wp2
        go_step3
        exact ⟨1, by omega, .inr (.inr ⟨rfl, _, _, _, _, _, _, _, _, _, _, _, _, _, _, _, _, _, _, _, _, _, _, _, _, _, _, _, _, _, _, _, _, _, _, _, _, _, _, _, _, _, _, _, _, _, _, _, _, _, _, _, _, _, _, _, _, _, _, _, _, _, _, rfl, HW2.out, HA1.out, HB3.out, HZ2.out, HR3.out, by have := HCw.out; omega, by have := HCw.out; omega, by have := HCw.out; omega, by have := HCw.out; omega, rfl⟩)⟩
    · go_upto_region 15 with fail
      have HW2 := Hid_mk (HW1.out.aside Cb 4 HD.out.h1 HD.out.h4 HD.out.h6 (.int .i64 n1))
      have HB2 := Hid_mk (HB1.out.set4 n1)
      have HZ2 := Hid_mk (HZ1.out.kept ((Kp.refl (fun k => k = Cb) w1).setCell (p := ⟨Cb, 4, none⟩) (fun _ => rfl) (.int .i64 n1)) (fun e => HD.out.h3 e.symm))
      obtain ⟨W3, hW3⟩ : ∃ W, w1.setCell ⟨Cb, 4, none⟩ (.int .i64 n1) = W := ⟨_, rfl⟩
      rw [hW3] at HB2 HW2 HZ2 ⊢
      have hwd : wdS F.1 n1 = { F.1 with width := n1 } := if_neg (by omega)
      rw [hwd] at HR2
      have HB3 := Hid_mk (show CvAt W3 Cb { F.1 with width := n1 } from HB2.out)
      obtain ⟨c3, hc3⟩ : ∃ c3, ({ F.1 with width := n1 } : Cv) = c3 := ⟨_, rfl⟩
      have hcw : c3.width = n1 ∧ c3.prec = -1 := by rw [← hc3]; exact ⟨rfl, HPw.out.2⟩
      rw [hc3] at HB3 HR2
      have HCw := Hid_mk (show -201 ≤ c3.width ∧ c3.width ≤ 201 ∧ c3.prec = -1 by omega)
      clear hW3 q4 q0 qw hneg hwd hc3 hcw HW1 HB1 HZ1 HB2
      have HLk := Hid_mk (look_any HW2.out)
      unfold LkPost at HLk
      by_cases hp : lookS l2 = 46
      · have hR := HR2.out
        unfold prS at hR
        rw [if_pos hp] at hR
        have hyl : 0 < l2.length := by
          cases l2 with
          | nil => exact absurd hp (by decide)
          | cons a b => simp
        have HSk := Hid_mk (skip_any HW2.out hyl)
        rw [hp] at HLk
        have HO4 := Hid_mk (HO3.out hp)
        have HR3 := Hid_mk hR
        clear hR hp hyl
        go_wp2_with fail
        with_reducible refine HLk.out.mono ?_
        rintro e w4 ⟨rfl, rfl⟩
        go_wp2_with fail
        with_reducible refine HSk.out.mono ?_
        rintro e w5 ⟨rfl, hw5, hk5⟩
        obtain ⟨hp1, hp2, hcnt⟩ := HCn.out w0 w5 q (l2.drop 1) A1 o bs ars2 HO4.out hw5 HA1.out
        have hR := HR3.out
        obtain ⟨⟨p1, l3, ars3⟩, hx⟩ : ∃ x, cn (l2.drop 1) ars2 = x := ⟨_, rfl⟩
        rw [hx] at hp1 hp2 hcnt hR
        simp only at hp1 hp2 hcnt hR
        have HR4 := Hid_mk hR
        have HCt := Hid_mk hcnt
        have HB5 := Hid_mk (HB3.out.kept hk5 (fun e => HD.out.h1 e.symm))
        have HZ5 := Hid_mk (HZ2.out.kept hk5 (fun e => HD.out.h2 e.symm))
        clear hw5 hk5 hcnt hR hx HSk HLk HW2 HB3 HZ2
        go_wp2_with fail
        with_reducible refine HCt.out.mono ?_
        rintro e w6 ⟨rfl, A6, hw6, ha6, hk6⟩
        have hb6 := HB5.out.kept hk6 (fun e => HD.out.h1 e.symm)
        have HZ6 := Hid_mk (HZ5.out.kept hk6 (fun e => HD.out.h2 e.symm))
        have q5 := hb6.c5
        have qw := hb6.warm
        have HW6 := Hid_mk hw6
        have HA6 := Hid_mk ha6
        have HB6 := Hid_mk hb6
        obtain ⟨P, hP⟩ : ∃ P, max p1 (-1) = P := ⟨_, rfl⟩
        have hR := HR4.out
        rw [hP] at hR
        have HPb := Hid_mk (show -1 ≤ P ∧ P ≤ 201 by omega)
        have HR5 := Hid_mk hR
        clear hw6 ha6 hk6 hb6 HCt HB5 HZ5 hR
        go_wp2_with fail
        try rw [hP]
        have HW7 := Hid_mk (HW6.out.aside Cb 5 HD.out.h1 HD.out.h4 HD.out.h6 (.int .i64 P))
        have HB7 := Hid_mk (HB6.out.set5 P)
        have HZ7 := Hid_mk (HZ6.out.kept ((Kp.refl (fun k => k = Cb) w6).setCell (p := ⟨Cb, 5, none⟩) (fun _ => rfl) (.int .i64 P)) (fun e => HD.out.h3 e.symm))
        clear q5 qw HW6 HB6 HZ6
        apply wp_label
        rename_i hK0
        exact hK0 _ _ (HZ.out 1 _ _ (by omega) ⟨_, _, _, _, _, _, _, _, _, _, _, _, _, _, _, _, _, _, _, _, _, _, _, _, _, _, _, _, _, _, _, _, _, _, _, _, _, _, _, _, _, _, _, _, _, _, _, _, _, _, _, _, _, _, _, _, _, _, l3, _, _, ars3, rfl, HW7.out, HA6.out, HB7.out, HZ7.out, HR5.out, by have := HCw.out; simp only; omega, by have := HCw.out; simp only; omega, by have := HPb.out; simp only; omega, by have := HPb.out; simp only; omega, rfl⟩)
      · have hR := HR2.out
        unfold prS at hR
        rw [if_neg hp] at hR
        have HR3 := Hid_mk hR
        have hne : ((lookS l2 : Int) != 46) = true := by simp; omega
        obtain ⟨y, hy⟩ : ∃ y, lookS l2 = y := ⟨_, rfl⟩
        rw [hy] at HLk hne
        clear hR hp hy
        go_wp2_with fail
        with_reducible refine HLk.out.mono ?_
        rintro e w4 ⟨rfl, rfl⟩
        go_wp2
        go_step3
        exact ⟨1, by omega, .inr (.inr ⟨rfl, _, _, _, _, _, _, _, _, _, _, _, _, _, _, _, _, _, _, _, _, _, _, _, _, _, _, _, _, _, _, _, _, _, _, _, _, _, _, _, _, _, _, _, _, _, _, _, _, _, _, _, _, _, _, _, _, _, _, _, _, _, _, rfl, HW2.out, HA1.out, HB3.out, HZ2.out, HR3.out, by have := HCw.out; omega, by have := HCw.out; omega, by have := HCw.out; omega, by have := HCw.out; omega, rfl⟩)⟩
  case first =>
    intro hpass
    have HP := Hid_mk hpass
    clear hpass
    go_wp2_with fail
    rw [HCb.out, HW2.out]
    go_wp2
    apply wp_label
    rename_i hK0
    exact hK0 _ _ (HP.out (l.length + 3) _ _ ⟨_, _, _, _, _, _, _, _, _, _, _, _, _, _, _, _, _, _, _, _, _, _, _, _, _, _, _, _, _, _, _, _, _, _, _, _, _, _, _, _, _, _, _, _, _, _, _, _, _, _, _, _, _, _, _, _, _, _, l, cv0, rfl, H.out.no (HK1.out.trans' HK2.out), HB2.out, HB1.out, HF.out, Nat.le_refl _⟩)

end Go.Proofs.YtannbdbhkhmppaaGreatDoor.pf
