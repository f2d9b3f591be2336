/-
  THE WORDS OF THIS PROOF: how a slice of integers, a slice of trains and a state lie in memory. No program here.
-/
import Derived.WalkKit
import Derived.WalkSpells
import Derived.Lib.SmallJoins
namespace Go.Proofs.Ytmjjigdnoiphbab
open Go.RowKit Go.Deep

abbrev Tr : Type := Int × List Int × Int
abbrev St : Type := List Int × List Tr × List Int

def el (xs : List Int) (i : Nat) : Int := xs[i]?.getD 0
def tAt (ts : List Tr) (i : Nat) : Int := (ts[i]?.getD (0, [], 0)).1
def tPath (ts : List Tr) (i : Nat) : List Int := (ts[i]?.getD (0, [], 0)).2.1
def tWt (ts : List Tr) (i : Nat) : Int := (ts[i]?.getD (0, [], 0)).2.2

/-- the slice v reads in w as the integers xs -/
def IntsAt (w : World) (v : Value) (xs : List Int) : Prop :=
  ∃ a cap, v = .slice a xs.length cap ∧ ∀ i, i < xs.length → ∃ b off, a = some ⟨b, off, none⟩ ∧ w.cell? ⟨b, off + i, none⟩ = some (.int .i64 (el xs i))

/-- the three cells of a train -/
def TrainAt (w : World) (b o : Nat) (x : Int) (p : List Int) (y : Int) : Prop :=
  ∃ v, w.cell? ⟨b, o, none⟩ = some (.int .i64 x) ∧ w.cell? ⟨b, o + 1, none⟩ = some v ∧ IntsAt w v p ∧ w.cell? ⟨b, o + 2, none⟩ = some (.int .i64 y)

def TrainsAt (w : World) (v : Value) (ts : List Tr) : Prop :=
  ∃ a cap, v = .slice a ts.length cap ∧ ∀ i, i < ts.length → ∃ b off, a = some ⟨b, off, none⟩ ∧ TrainAt w b (off + i * 3) (tAt ts i) (tPath ts i) (tWt ts i)

def StateAt (w : World) (v : Value) (st : St) : Prop :=
  ∃ r t n, v = .agg #[r, t, n] ∧ IntsAt w r st.1 ∧ TrainsAt w t st.2.1 ∧ IntsAt w n st.2.2

theorem IntsAt.below {w w' : World} {v : Value} {xs : List Int} (h : IntsAt w v xs) (hb : Below w.heap.size w w') : IntsAt w' v xs := by
  obtain ⟨a, cap, rfl, h⟩ := h
  exact ⟨a, cap, rfl, fun i hi => let ⟨b, off, e, hc⟩ := h i hi; ⟨b, off, e, cell_later hb hc⟩⟩

theorem TrainAt.below {w w' : World} {b o : Nat} {x : Int} {p : List Int} {y : Int} (h : TrainAt w b o x p y) (hb : Below w.heap.size w w') : TrainAt w' b o x p y := by
  obtain ⟨v, h1, h2, h3, h4⟩ := h
  exact ⟨v, cell_later hb h1, cell_later hb h2, h3.below hb, cell_later hb h4⟩

theorem TrainsAt.below {w w' : World} {v : Value} {ts : List Tr} (h : TrainsAt w v ts) (hb : Below w.heap.size w w') : TrainsAt w' v ts := by
  obtain ⟨a, cap, rfl, h⟩ := h
  exact ⟨a, cap, rfl, fun i hi => let ⟨b, off, e, hc⟩ := h i hi; ⟨b, off, e, hc.below hb⟩⟩

theorem StateAt.below {w w' : World} {v : Value} {st : St} (h : StateAt w v st) (hb : Below w.heap.size w w') : StateAt w' v st := by
  obtain ⟨r, t, n, rfl, h1, h2, h3⟩ := h
  exact ⟨r, t, n, rfl, h1.below hb, h2.below hb, h3.below hb⟩

theorem hide {p : Prop} (h : p) : Hid p := h

theorem bcell {W w1 : World} {B : Nat} (hb : Below B W w1) : (∀ b o, b < B → w1.cell? ⟨b, o, none⟩ = W.cell? ⟨b, o, none⟩) ∧ (∀ b o, b < B → w1.frozen? ⟨b, o, none⟩ = W.frozen? ⟨b, o, none⟩) :=
  ⟨fun b o h => hb.cell (p := ⟨b, o, none⟩) h, fun b o h => hb.frozen (p := ⟨b, o, none⟩) h⟩

theorem below_tail {w w1 w2 : World} (h1 : Below w.heap.size w w1) (h2 : Below w1.heap.size w1 w2) : Below w.heap.size w w2 := h1.trans (h2.mono h1.size)
end Go.Proofs.Ytmjjigdnoiphbab
