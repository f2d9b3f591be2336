/-
  SLICES OF INTEGERS OF THE CALL's OWN.
-/
import Derived.Test.YtmjjigdnoiphbaaCan
import Derived.Deep.AppendLies
import Derived.OwnWalk
namespace Go.Proofs.Ytmjjigdnoiphbaa
open Go.RowKit Go.Deep
set_option linter.unusedVariables false

theorem ownsRow_below {w w' : World} {base : Nat} {e : TypeId} {size : Nat} {v : Value} {n : Nat} {xs : List Value} (h : w.ownsRow base e size v n xs) (hb : Below w.heap.size w w') : w'.ownsRow base e size v n xs := by
  obtain ⟨h1, h2⟩ := h
  refine ⟨h1, ?_⟩
  rcases h2 with h2 | ⟨g, cap, cur, hv, hg, hh, r⟩
  · exact Or.inl h2
  · have hlt : g < w.heap.size := (Array.getElem?_eq_some_iff.1 hh).1
    exact Or.inr ⟨g, cap, cur, hv, hg, by rw [hb.block g hlt]; exact hh, r⟩

/-- v owns the integers xs, in a block from base on -/
def OwnInts (base : Nat) (w : World) (v : Value) (xs : List Int) : Prop := w.ownsRow base 3 1 v xs.length (xs.map (Value.int .i64))

theorem OwnInts.below {base : Nat} {w w' : World} {v : Value} {xs : List Int} (h : OwnInts base w v xs) (hb : Below w.heap.size w w') : OwnInts base w' v xs := ownsRow_below h hb
theorem OwnInts.le {base base' : Nat} {w : World} {v : Value} {xs : List Int} (h : OwnInts base w v xs) (hb : base' ≤ base) : OwnInts base' w v xs := Joins.ownsRow_le h hb
theorem OwnInts.nil (base : Nat) (w : World) : OwnInts base w (.slice none 0 0) [] := World.ownsRow_nil w base 3 1

theorem take_get {α : Type} {l xs : List α} {n i : Nat} (h : l.take n = xs) (hi : i < n) : l[i]? = xs[i]? := by
  rw [← h, List.getElem?_take, if_pos hi]

/-- where it lies: nil, or at the head of a block of its own -/
theorem OwnInts.lies {base : Nat} {w : World} {v : Value} {xs : List Int} (h : OwnInts base w v xs) :
    (v = .slice none 0 0 ∧ xs = []) ∨ ∃ g cap cur, v = .slice (some ⟨g, 0, none⟩) xs.length cap ∧ base ≤ g ∧ w.heap[g]? = some (.cells cur 3 (0, 0)) ∧ xs.length ≤ cap ∧ cap ≤ maxLen ∧ cur.size = cap ∧ ∀ i, i < xs.length → cur[i]? = some (.int .i64 (el xs i)) := by
  obtain ⟨_, h | ⟨g, cap, cur, hv, hg, hh, h1, h2, h3, h4⟩⟩ := h
  · exact Or.inl ⟨h.1, by simpa using h.2⟩
  · refine Or.inr ⟨g, cap, cur, hv, hg, hh, h1, h2, by omega, fun i hi => ?_⟩
    have := take_get h4 (i := i) (by omega)
    rw [← Array.getElem?_toList, this]
    simp [el, hi]

theorem OwnInts.at {base : Nat} {w : World} {v : Value} {xs : List Int} (h : OwnInts base w v xs) : IntsAt w v xs := by
  rcases h.lies with ⟨rfl, rfl⟩ | ⟨g, cap, cur, rfl, _, hh, _, _, _, hc⟩
  · exact ⟨none, 0, rfl, fun i hi => absurd hi (Nat.not_lt_zero _)⟩
  · exact ⟨_, cap, rfl, fun i hi => ⟨g, 0, rfl, by rw [Nat.zero_add, cell_of_row w g i cur 3 (0, 0) hh]; exact hc i hi⟩⟩

theorem OwnInts.len {base : Nat} {w : World} {v : Value} {xs : List Int} (h : OwnInts base w v xs) : xs.length ≤ 9223372036854775807 := by
  rcases h.lies with ⟨_, rfl⟩ | ⟨g, cap, cur, _, _, _, h1, h2, _⟩
  · simp
  · unfold maxLen at h2; omega

theorem OwnInts.form {base : Nat} {w : World} {v : Value} {xs : List Int} (h : OwnInts base w v xs) : ∃ a cap, v = .slice a xs.length cap := by
  obtain ⟨a, cap, e, _⟩ := h.at
  exact ⟨a, cap, e⟩

/-- one more integer -/
theorem OwnInts.snoc {base : Nat} {w : World} {v : Value} {xs : List Int} {x : Int} (h : w.ownsRow base 3 1 v (xs.length + 1) (xs.map (Value.int .i64) ++ [.int .i64 x])) : OwnInts base w v (xs ++ [x]) := by
  unfold OwnInts
  simpa using h

/-- behind an append to a row of the call's own, old memory is as it was -/
theorem below_grown {B : Nat} {a w w' : World} {v : Value} {base : Nat} {e : TypeId} {size n : Nat} {xs : List Value} (h : Below B a w) (ho : w.ownsRow base e size v n xs) (hg : w.grownBy w' v.ownBlock) (hB : B ≤ w.heap.size) (hb : B ≤ base) : Below B a w' :=
  h.grown hg hB (fun k hk => by
    rcases ho.2 with ⟨rfl, _⟩ | ⟨g, cap, cur, rfl, hgb, _⟩
    · simp [Value.ownBlock] at hk
    · simp [Value.ownBlock] at hk
      omega)
end Go.Proofs.Ytmjjigdnoiphbaa
