import Derived.WalkKit
import Derived.WalkSpells
import Derived.Lib.SmallJoins
import Derived.Test.YtmjjigdnoiphbaaDoorProg
import Derived.BigQuiet
import Derived.Deep.QuietTactic
import Derived.Outline
import Derived.Deep.OwnRows
import Derived.LoopTactic
import Derived.Deep.RegionHeld3
/-
  THE WORDS OF THIS PROOF: how a slice of integers, a slice of trains and a state lie in memory. No program here.
-/
namespace Go.Proofs.YtmjjigdnoiphbaaDoor
open Go.RowKit Go.Deep

abbrev Tr : Type := Int × List Int × Int
abbrev St : Type := List Int × List Tr × List Int

def el (xs : List Int) (i : Nat) : Int := xs[i]?.getD 0
def tAt (ts : List Tr) (i : Nat) : Int := (ts[i]?.getD (0, [], 0)).1
def tPath (ts : List Tr) (i : Nat) : List Int := (ts[i]?.getD (0, [], 0)).2.1
def tWt (ts : List Tr) (i : Nat) : Int := (ts[i]?.getD (0, [], 0)).2.2

/-- the slice v reads in w as the integers xs -/
def IntsAt (w : World) (v : Value) (xs : List Int) : Prop :=
  ∃ a cap, v = .slice a xs.length cap ∧ ∀ i, i < xs.length → ∃ b off, a = some ⟨b, off, none⟩ ∧ w.cell? ⟨b, off + i, none⟩ = some (.int .i64 (el xs i))

/-- the three cells of a train -/
def TrainAt (w : World) (b o : Nat) (x : Int) (p : List Int) (y : Int) : Prop :=
  ∃ v, w.cell? ⟨b, o, none⟩ = some (.int .i64 x) ∧ w.cell? ⟨b, o + 1, none⟩ = some v ∧ IntsAt w v p ∧ w.cell? ⟨b, o + 2, none⟩ = some (.int .i64 y)

def TrainsAt (w : World) (v : Value) (ts : List Tr) : Prop :=
  ∃ a cap, v = .slice a ts.length cap ∧ ∀ i, i < ts.length → ∃ b off, a = some ⟨b, off, none⟩ ∧ TrainAt w b (off + i * 3) (tAt ts i) (tPath ts i) (tWt ts i)

def StateAt (w : World) (v : Value) (st : St) : Prop :=
  ∃ r t n, v = .agg #[r, t, n] ∧ IntsAt w r st.1 ∧ TrainsAt w t st.2.1 ∧ IntsAt w n st.2.2

theorem IntsAt.below {w w' : World} {v : Value} {xs : List Int} (h : IntsAt w v xs) (hb : Below w.heap.size w w') : IntsAt w' v xs := by
  obtain ⟨a, cap, rfl, h⟩ := h
  exact ⟨a, cap, rfl, fun i hi => let ⟨b, off, e, hc⟩ := h i hi; ⟨b, off, e, cell_later hb hc⟩⟩

theorem TrainAt.below {w w' : World} {b o : Nat} {x : Int} {p : List Int} {y : Int} (h : TrainAt w b o x p y) (hb : Below w.heap.size w w') : TrainAt w' b o x p y := by
  obtain ⟨v, h1, h2, h3, h4⟩ := h
  exact ⟨v, cell_later hb h1, cell_later hb h2, h3.below hb, cell_later hb h4⟩

theorem TrainsAt.below {w w' : World} {v : Value} {ts : List Tr} (h : TrainsAt w v ts) (hb : Below w.heap.size w w') : TrainsAt w' v ts := by
  obtain ⟨a, cap, rfl, h⟩ := h
  exact ⟨a, cap, rfl, fun i hi => let ⟨b, off, e, hc⟩ := h i hi; ⟨b, off, e, hc.below hb⟩⟩

theorem StateAt.below {w w' : World} {v : Value} {st : St} (h : StateAt w v st) (hb : Below w.heap.size w w') : StateAt w' v st := by
  obtain ⟨r, t, n, rfl, h1, h2, h3⟩ := h
  exact ⟨r, t, n, rfl, h1.below hb, h2.below hb, h3.below hb⟩

theorem hide {p : Prop} (h : p) : Hid p := h

theorem bcell {W w1 : World} {B : Nat} (hb : Below B W w1) : (∀ b o, b < B → w1.cell? ⟨b, o, none⟩ = W.cell? ⟨b, o, none⟩) ∧ (∀ b o, b < B → w1.frozen? ⟨b, o, none⟩ = W.frozen? ⟨b, o, none⟩) :=
  ⟨fun b o h => hb.cell (p := ⟨b, o, none⟩) h, fun b o h => hb.frozen (p := ⟨b, o, none⟩) h⟩

theorem below_tail {w w1 w2 : World} (h1 : Below w.heap.size w w1) (h2 : Below w1.heap.size w1 w2) : Below w.heap.size w w2 := h1.trans (h2.mono h1.size)
end Go.Proofs.YtmjjigdnoiphbaaDoor

/-
  CHAPTER 1 IN PLAIN MATHEMATICS: what a right state is. No program here.
-/
namespace Go.Proofs.YtmjjigdnoiphbaaDoor

def inR (x a b : Int) : Bool := decide (a ≤ x) && decide (x ≤ b)
/-- f holds of all below n -/
def allUp (n : Nat) (f : Nat → Bool) : Bool := (List.range n).all f
theorem allUp_true {n : Nat} {f : Nat → Bool} (h : ∀ i, i < n → f i = true) : allUp n f = true := by simpa [allUp] using h
theorem allUp_false {n : Nat} {f : Nat → Bool} (i : Nat) (hi : i < n) (h : f i = false) : allUp n f = false := by
  rw [Bool.eq_false_iff]; intro e
  have := (by simpa [allUp] using e : ∀ i, i < n → f i = true) i hi
  rw [h] at this; cases this
theorem allUp_at {n : Nat} {f : Nat → Bool} (h : allUp n f = true) (i : Nat) (hi : i < n) : f i = true := (by simpa [allUp] using h : ∀ i, i < n → f i = true) i hi

def roomsB (rs : List Int) : Bool := allUp rs.length (fun i => inR (el rs i) 1 5)
/-- the section ahead of the j-th of a path -/
def prev (x : Int) (p : List Int) : Nat → Int
  | 0 => x
  | j + 1 => el p j
def stepB (n : Int) (x : Int) (p : List Int) (j : Nat) : Bool := inR (el p j) 0 (n - 1) && !(el p j == prev x p j)
def pathB (n : Int) (x : Int) (p : List Int) : Bool := allUp p.length (stepB n x p)
def trainB (n : Int) (x : Int) (p : List Int) (y : Int) : Bool := inR x 0 (n - 1) && (decide (p.length ≤ 8) && (inR y 1 100 && pathB n x p))
def trainsB (n : Int) (ts : List Tr) : Bool := allUp ts.length (fun i => trainB n (tAt ts i) (tPath ts i) (tWt ts i))
def nameB (ns : List Int) (i : Nat) : Bool := inR (el ns i) 0 1000 && (decide (i = 0) || decide (el ns (i - 1) < el ns i))
def namesB (ns : List Int) : Bool := allUp ns.length (nameB ns)
def thereUp (ts : List Tr) (s : Int) : Nat → Nat
  | 0 => 0
  | k + 1 => thereUp ts s k + if tAt ts k = s then 1 else 0
/-- how many trains are on a section -/
def there (ts : List Tr) (s : Int) : Nat := thereUp ts s ts.length
theorem thereUp_le (ts : List Tr) (s : Int) : ∀ k, thereUp ts s k ≤ k
  | 0 => Nat.le_refl _
  | k + 1 => by have := thereUp_le ts s k; unfold thereUp; split <;> omega
def fitsB (rs : List Int) (ts : List Tr) : Bool := allUp rs.length (fun i => decide ((there ts (i : Int) : Int) ≤ el rs i))
def sizesB (st : St) : Bool := inR st.1.length 1 40 && (decide (st.2.1.length ≤ 5) && decide (st.2.2.length = st.2.1.length))
/-- StateOk -/
def stOk (st : St) : Int :=
  bif !sizesB st then 1 else bif !roomsB st.1 then 2 else bif !trainsB st.1.length st.2.1 then 3 else bif !namesB st.2.2 then 4 else bif !fitsB st.1 st.2.1 then 5 else 0
end Go.Proofs.YtmjjigdnoiphbaaDoor

/-
  THE SMALL WALKS.
-/
namespace Go.Proofs.YtmjjigdnoiphbaaDoor
open Go.RowKit Go.Deep
set_option linter.unusedVariables false

theorem l1in_any (x a b : Int) (w : World) : Calls Tryd.prog 44 #[.int .i64 x, .int .i64 a, .int .i64 b] w fun e w' => e = .returned (.bool (inR x a b)) ∧ w = w' := by
  unfold inR
  by_cases h1 : a ≤ x <;> by_cases h2 : x ≤ b
  all_goals
    go_enter Tryd.func44, Tryd.ntmps44
    go_wp2
    all_goals go_ret
    all_goals simp [h1, h2]

theorem inRange_any (x a b : Int) (w : World) : Calls Tryd.prog 89 #[.int .i64 x, .int .i64 a, .int .i64 b] w fun e w' => e = .returned (.bool (inR x a b)) ∧ w = w' := by
  unfold inR
  by_cases h1 : a ≤ x <;> by_cases h2 : x ≤ b
  all_goals
    go_enter Tryd.func89, Tryd.ntmps89
    go_wp2
    all_goals go_ret
    all_goals simp [h1, h2]

end Go.Proofs.YtmjjigdnoiphbaaDoor

/-
  toIntS, eqIntS.
-/
namespace Go.Proofs.YtmjjigdnoiphbaaDoor
open Go.RowKit Go.Deep
set_option linter.unusedVariables false

theorem Tryd.infoInt : (Tryd.prog.info? 3).map (fun i => (i.zero, i.size, i.bytes)) = some (some (.int .i64 0), 1, 8) := by kernel_rfl

theorem el_ext {xs ys : List Int} (hl : xs.length = ys.length) (h : ∀ j, j < ys.length → el xs j = el ys j) : xs = ys := by
  apply List.ext_getElem hl
  intro i h1 h2
  have := h i h2
  simpa [el, h1, h2] using this

theorem drewN_drewN (w : World) (m n : Nat) : (w.drewN m).drewN n = w.drewN (m + n) := by simp [World.drewN, Nat.add_assoc]

end Go.Proofs.YtmjjigdnoiphbaaDoor

/-
  szTrain, szTrainS, szState.
-/
namespace Go.Proofs.YtmjjigdnoiphbaaDoor
open Go.RowKit Go.Deep
set_option linter.unusedVariables false

end Go.Proofs.YtmjjigdnoiphbaaDoor

/-
  toTrain, toTrainS, toState.
-/
namespace Go.Proofs.YtmjjigdnoiphbaaDoor
open Go.RowKit Go.Deep
set_option linter.unusedVariables false

theorem Tryd.infoTrain : (Tryd.prog.info? 35).map (fun i => (i.zero, i.size, i.bytes)) = some (some (.agg #[.int .i64 0, .slice none 0 0, .int .i64 0]), 3, 40) := by kernel_rfl

/-- the cells of a row of trains of the call's own, whose paths lie in every fourth block behind it -/
def trCell (B : Nat) (ts : List Tr) (j : Nat) : Value :=
  if j % 3 = 0 then .int .i64 (tAt ts (j / 3)) else if j % 3 = 1 then .slice (some ⟨B + 4 * (j / 3 + 1), 0, none⟩) (tPath ts (j / 3)).length (tPath ts (j / 3)).length else .int .i64 (tWt ts (j / 3))
def zCell (j : Nat) : Value := if j % 3 = 1 then .slice none 0 0 else .int .i64 0

theorem trCell0 (B : Nat) (ts : List Tr) (k : Nat) : trCell B ts (k * 3) = .int .i64 (tAt ts k) := by
  unfold trCell; rw [if_pos (by omega), show k * 3 / 3 = k by omega]
theorem trCell1 (B : Nat) (ts : List Tr) (k : Nat) : trCell B ts (k * 3 + 1) = .slice (some ⟨B + 4 * (k + 1), 0, none⟩) (tPath ts k).length (tPath ts k).length := by
  unfold trCell; rw [if_neg (by omega), if_pos (by omega), show (k * 3 + 1) / 3 = k by omega]
theorem trCell2 (B : Nat) (ts : List Tr) (k : Nat) : trCell B ts (k * 3 + 2) = .int .i64 (tWt ts k) := by
  unfold trCell; rw [if_neg (by omega), if_neg (by omega), show (k * 3 + 2) / 3 = k by omega]

theorem rowIs_madeTrains (w : World) (n : Nat) : (w.alloc (.cells (madeCells #[.int .i64 0, .slice none 0 0, .int .i64 0] (n * 3)) 35)).rowIs w.heap.size 35 (n * 3) zCell :=
  ⟨_, blk_alloc_new _ _, size_madeCells _ _, fun i hi => by
    have h3 : i % 3 = 0 ∨ i % 3 = 1 ∨ i % 3 = 2 := by omega
    rcases h3 with h | h | h <;> simp [madeCells, hi, zCell, h]⟩

/-- where toTrainS stands behind k rounds -/
def TsMade (B n k : Nat) (ts : List Tr) (w : World) : Prop :=
  w.rowIs B 35 (n * 3) (fun j => if j < k * 3 then trCell B ts j else zCell j) ∧ w.heap.size = B + 1 + 4 * k ∧
    ∀ i, i < k → w.rowIs (B + 4 * (i + 1)) 3 (tPath ts i).length (fun j => .int .i64 (el (tPath ts i) j))

theorem TsMade.step {B n k : Nat} {ts : List Tr} {wr w1 : World} (h : TsMade B n k ts wr) (hk : k < n) (hb : Below wr.heap.size wr w1) (hz : w1.heap.size = wr.heap.size + 4)
    (hp : w1.rowIs (wr.heap.size + 3) 3 (tPath ts k).length (fun j => .int .i64 (el (tPath ts k) j))) :
    TsMade B n (k + 1) ts (((w1.setCell ⟨B, k * 3, none⟩ (.int .i64 (tAt ts k))).setCell ⟨B, k * 3 + 1, none⟩ (.slice (some ⟨wr.heap.size + 3, 0, none⟩) (tPath ts k).length (tPath ts k).length)).setCell ⟨B, k * 3 + 2, none⟩ (.int .i64 (tWt ts k))) := by
  obtain ⟨h1, h2, h3⟩ := h
  have e4 : wr.heap.size + 3 = B + 4 * (k + 1) := by omega
  rw [e4] at hp ⊢
  refine ⟨?_, by simp [World.setCell]; omega, fun i hi => ?_⟩
  · have h1' : w1.rowIs B 35 (n * 3) (fun j => if j < k * 3 then trCell B ts j else zCell j) := h1.of_block (hb.block B (by omega))
    refine (((h1'.set (k * 3) _).set (k * 3 + 1) _).set (k * 3 + 2) _).congr (fun j _ => ?_)
    by_cases e2 : j = k * 3 + 2
    · subst e2; rw [if_pos rfl, if_pos (by omega), trCell2]
    · rw [if_neg e2]
      by_cases e1 : j = k * 3 + 1
      · subst e1; rw [if_pos rfl, if_pos (by omega), trCell1]
      · rw [if_neg e1]
        by_cases e0 : j = k * 3
        · subst e0; rw [if_pos rfl, if_pos (by omega), trCell0]
        · rw [if_neg e0]
          by_cases e : j < k * 3
          · rw [if_pos e, if_pos (by omega)]
          · rw [if_neg e, if_neg (by omega)]
  · by_cases e : i = k
    · subst e
      exact ((hp.setOther (by simp) _).setOther (by simp) _).setOther (by simp) _
    · have := (h3 i (by omega)).of_block (hb.block _ (by omega))
      exact ((this.setOther (by simp) _).setOther (by simp) _).setOther (by simp) _

end Go.Proofs.YtmjjigdnoiphbaaDoor

/-
  toState.
-/
namespace Go.Proofs.YtmjjigdnoiphbaaDoor
open Go.RowKit Go.Deep
set_option linter.unusedVariables false

/-- a row of trains of the call's own and their paths -/
def TsRow (B n : Nat) (ts : List Tr) (w : World) : Prop :=
  w.rowIs B 35 (n * 3) (trCell B ts) ∧ ∀ i, i < n → w.rowIs (B + 4 * (i + 1)) 3 (tPath ts i).length (fun j => .int .i64 (el (tPath ts i) j))

def intRow (xs : List Int) : Nat → Value := fun j => .int .i64 (el xs j)

/-- what toState makes at block s -/
def stVal (s : Nat) (st : St) : Value :=
  .agg #[.slice (some ⟨s + 3, 0, none⟩) st.1.length st.1.length, .slice (some ⟨s + 4, 0, none⟩) st.2.1.length st.2.1.length, .slice (some ⟨s + 5 + 4 * st.2.1.length, 0, none⟩) st.2.2.length st.2.2.length]
def StMade (s : Nat) (st : St) (w : World) : Prop :=
  w.rowIs (s + 3) 3 st.1.length (intRow st.1) ∧ TsRow (s + 4) st.2.1.length st.2.1 w ∧ w.rowIs (s + 5 + 4 * st.2.1.length) 3 st.2.2.length (intRow st.2.2)

theorem rowIs_below {w w' : World} {b n : Nat} {t : TypeId} {f : Nat → Value} (h : w.rowIs b t n f) (hb : Below w.heap.size w w') : w'.rowIs b t n f := h.of_block (hb.block _ h.lt)
theorem TsRow.below {B n : Nat} {ts : List Tr} {w w' : World} (h : TsRow B n ts w) (hb : Below w.heap.size w w') : TsRow B n ts w' := ⟨rowIs_below h.1 hb, fun i hi => rowIs_below (h.2 i hi) hb⟩
theorem StMade.below {s : Nat} {st : St} {w w' : World} (h : StMade s st w) (hb : Below w.heap.size w w') : StMade s st w' := ⟨rowIs_below h.1 hb, h.2.1.below hb, rowIs_below h.2.2 hb⟩

theorem intsAt_row {w : World} {b : Nat} {t : TypeId} {xs : List Int} (h : w.rowIs b t xs.length (intRow xs)) : IntsAt w (.slice (some ⟨b, 0, none⟩) xs.length xs.length) xs :=
  ⟨_, _, rfl, fun i hi => ⟨b, 0, rfl, by simpa [intRow] using h.cell hi⟩⟩

theorem TsRow.at {B : Nat} {ts : List Tr} {w : World} (h : TsRow B ts.length ts w) : TrainsAt w (.slice (some ⟨B, 0, none⟩) ts.length ts.length) ts :=
  ⟨_, _, rfl, fun i hi => ⟨B, 0, rfl, _, by
    have := h.1.cell (i := i * 3) (by omega)
    rw [trCell0] at this
    simpa using this, by
    have := h.1.cell (i := i * 3 + 1) (by omega)
    rw [trCell1] at this
    simpa using this, intsAt_row (h.2 i hi), by
    have := h.1.cell (i := i * 3 + 2) (by omega)
    rw [trCell2] at this
    simpa using this⟩⟩

theorem StMade.at {s : Nat} {st : St} {w : World} (h : StMade s st w) : StateAt w (stVal s st) st :=
  ⟨_, _, _, rfl, intsAt_row h.1, h.2.1.at, intsAt_row h.2.2⟩

end Go.Proofs.YtmjjigdnoiphbaaDoor

/-
  eqTrain, eqTrainS, eqState, where both sides read alike.
-/
namespace Go.Proofs.YtmjjigdnoiphbaaDoor
open Go.RowKit Go.Deep
set_option linter.unusedVariables false

end Go.Proofs.YtmjjigdnoiphbaaDoor

/-
  spec.l1there, spec.StateOk.
-/
namespace Go.Proofs.YtmjjigdnoiphbaaDoor
open Go.RowKit Go.Deep
set_option linter.unusedVariables false

set_option maxHeartbeats 800000 in
theorem l1there_any (v : Value) (st : St) (s : Int) (w : World) (h : StateAt w v st) (hl : st.2.1.length ≤ 4611686018427387904) :
    Calls Tryd.prog 45 #[v, .int .i64 s] w fun e w' => e = .returned (.int .i64 (there st.2.1 s)) ∧ Below w.heap.size w w' := by
  obtain ⟨vr, vt, vn, rfl, hR, hT, hN⟩ := h
  obtain ⟨rs, ts, ns⟩ := st
  obtain ⟨ar, cr, rfl, _⟩ := hR
  obtain ⟨an, cn, rfl, _⟩ := hN
  obtain ⟨a, cap, rfl, h⟩ := hT
  simp only at *
  unfold there
  generalize ts.length = n at *
  go_enter Tryd.func45, Tryd.ntmps45
  go_wp2
  go_loopw [5, 11] (fun c i wr => ∃ k : Nat, k ≤ n ∧ i = .int .i64 k ∧ c = .int .i64 (thereUp ts s k) ∧ Below w.heap.size w wr) (fun _ i _ => n - (intOf i).toNat)
  case atStart => exact ⟨0, Nat.zero_le _, rfl, rfl, Joins.below_alloc1 _ _⟩
  case round =>
    obtain ⟨k, hk, rfl, rfl, hb⟩ := hrel
    have hle := thereUp_le ts s k
    by_cases hlt : k < n
    · obtain ⟨b, off, rfl, vp, hc1, hc2, ⟨ap, cp, rfl, _⟩, hc3⟩ := h k hlt
      have g1 := cell_later hb hc1
      have g2 := cell_later hb hc2
      have g3 := cell_later hb hc3
      have HB := hide hb
      clear hc1 hc2 hc3 h hb
      by_cases he : tAt ts k = s
      · have hu : thereUp ts s (k + 1) = thereUp ts s k + 1 := by simp [thereUp, he]
        have HU := hide hu
        have heb : (tAt ts k == s) = true := by simp [he]
        clear he hu
        go_wp2
        go_roundw
        case rel => exact ⟨k + 1, by omega, by go_num, by rw [HU.out]; go_num, HB.out.alloc (by have := HB.out.size; omega) _⟩
        case measure => simp [intOf]; omega
      · have hu : thereUp ts s (k + 1) = thereUp ts s k := by simp [thereUp, he]
        have HU := hide hu
        have heb : (tAt ts k == s) = false := by simp [he]
        clear he hu
        go_wp2
        go_roundw
        case rel => exact ⟨k + 1, by omega, by go_num, by rw [HU.out], HB.out.alloc (by have := HB.out.size; omega) _⟩
        case measure => simp [intOf]; omega
    · go_wp2
      go_ret
      obtain rfl : k = n := by omega
      exact ⟨rfl, hb⟩
end Go.Proofs.YtmjjigdnoiphbaaDoor

/-
  spec.StateOk.
-/
namespace Go.Proofs.YtmjjigdnoiphbaaDoor
open Go.RowKit Go.Deep
set_option linter.unusedVariables false

theorem stOk1 {st : St} (h : sizesB st = false) : stOk st = 1 := by simp [stOk, h]
theorem stOk2 {st : St} (h : sizesB st = true) (h2 : roomsB st.1 = false) : stOk st = 2 := by simp [stOk, h, h2]
theorem stOk3 {st : St} (h : sizesB st = true) (h2 : roomsB st.1 = true) (h3 : trainsB st.1.length st.2.1 = false) : stOk st = 3 := by simp [stOk, h, h2, h3]
theorem stOk4 {st : St} (h : sizesB st = true) (h2 : roomsB st.1 = true) (h3 : trainsB st.1.length st.2.1 = true) (h4 : namesB st.2.2 = false) : stOk st = 4 := by simp [stOk, h, h2, h3, h4]
theorem stOk5 {st : St} (h : sizesB st = true) (h2 : roomsB st.1 = true) (h3 : trainsB st.1.length st.2.1 = true) (h4 : namesB st.2.2 = true) (h5 : fitsB st.1 st.2.1 = false) : stOk st = 5 := by simp [stOk, h, h2, h3, h4, h5]
theorem stOk0 {st : St} (h : sizesB st = true) (h2 : roomsB st.1 = true) (h3 : trainsB st.1.length st.2.1 = true) (h4 : namesB st.2.2 = true) (h5 : fitsB st.1 st.2.1 = true) : stOk st = 0 := by simp [stOk, h, h2, h3, h4, h5]

set_option maxHeartbeats 800000 in
theorem specStateOk_no (v : Value) (st : St) (w : World) (h : StateAt w v st) (hs : sizesB st = false) :
    Calls Tryd.prog 12 #[v] w fun e w' => e = .returned (.int .i64 1) ∧ Below w.heap.size w w' := by
  obtain ⟨vr, vt, vn, rfl, hR, hT, hN⟩ := h
  obtain ⟨rs, ts, ns⟩ := st
  obtain ⟨ar, cr, rfl, _⟩ := hR
  obtain ⟨an, cn, rfl, _⟩ := hN
  obtain ⟨a, cap, rfl, _⟩ := hT
  simp only [sizesB] at *
  by_cases h1 : inR rs.length 1 40 = true
  · by_cases h2 : ts.length ≤ 5
    · have h3 : ((ns.length : Int) != (ts.length : Int)) = true := by simp [h1, h2] at hs; simp; omega
      clear hs
      generalize ts.length = nt at *
      generalize ns.length = nn at *
      go_enter Tryd.func12, Tryd.ntmps12
      go_wp2_with (go_at_call 44; refine (l1in_any _ _ _ _).mono ?_; rintro e w' ⟨rfl, rfl⟩)
      go_ret
      exact ⟨rfl, Joins.below_alloc1 _ _⟩
    · have h2' : 5 < (ts.length : Int) := by omega
      clear hs
      go_enter Tryd.func12, Tryd.ntmps12
      go_wp2_with (go_at_call 44; refine (l1in_any _ _ _ _).mono ?_; rintro e w' ⟨rfl, rfl⟩)
      go_ret
      exact ⟨rfl, Joins.below_alloc1 _ _⟩
  · have h1' : inR rs.length 1 40 = false := by simpa using h1
    clear hs h1
    go_enter Tryd.func12, Tryd.ntmps12
    go_wp2_with (go_at_call 44; refine (l1in_any _ _ _ _).mono ?_; rintro e w' ⟨rfl, rfl⟩)
    go_ret
    exact ⟨rfl, Joins.below_alloc1 _ _⟩
end Go.Proofs.YtmjjigdnoiphbaaDoor
