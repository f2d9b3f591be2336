/-
  WHAT A MOVE LEAVES, AS LISTS BY THEIR INDEX.
-/
import Derived.Test.YtmjjigdnoiphbaaW24
namespace Go.Proofs.Ytmjjigdnoiphbaa
open Go.RowKit Go.Deep
set_option linter.unusedVariables false

def gT (ts : List Tr) (i : Nat) : Tr := (tAt ts i, tPath ts i, tWt ts i)
def fT (ts : List Tr) (m i : Nat) : Tr := if i = m then (el (tPath ts i) 0, (tPath ts i).tail, tWt ts i) else gT ts i
def skip (m j : Nat) : Nat := if j < m then j else j + 1

theorem mvT_go {ts : List Tr} {m : Nat} (h : ¬ (tPath ts m).length = 0) : ∀ k, mvT ts m k = (List.range k).map (fT ts m)
  | 0 => rfl
  | k + 1 => by
    rw [mvT, mvT_go h k, List.range_succ, List.map_append]
    congr 1
    unfold mvT1 fT gT
    by_cases e : k = m
    · subst e; simp [h]
    · simp [e]
theorem mvN_go {ts : List Tr} {ns : List Int} {m : Nat} (h : ¬ (tPath ts m).length = 0) : ∀ k, mvN ts ns m k = (List.range k).map (el ns)
  | 0 => rfl
  | k + 1 => by
    rw [mvN, mvN_go h k, List.range_succ, List.map_append]
    congr 1
    by_cases e : k = m
    · subst e; simp [h]
    · simp [e]
theorem mvT_low {ts : List Tr} {m : Nat} : ∀ k, k ≤ m → mvT ts m k = (List.range k).map (gT ts)
  | 0, _ => rfl
  | k + 1, hk => by
    rw [mvT, mvT_low k (by omega), List.range_succ, List.map_append]
    congr 1
    unfold mvT1 gT
    simp [show k ≠ m by omega]
theorem mvT_out {ts : List Tr} {m : Nat} (h : (tPath ts m).length = 0) : ∀ d, mvT ts m (m + 1 + d) = (List.range (m + d)).map (fun j => gT ts (skip m j))
  | 0 => by
    rw [Nat.add_zero, mvT, mvT_low m (Nat.le_refl _)]
    unfold mvT1
    rw [if_pos rfl, if_pos h, List.append_nil]
    refine List.map_congr_left (fun j hj => ?_)
    rw [skip, if_pos (by simpa using hj)]
  | d + 1 => by
    rw [show m + 1 + (d + 1) = (m + 1 + d) + 1 by omega, mvT, mvT_out h d, show m + (d + 1) = (m + d) + 1 by omega, List.range_succ, List.map_append]
    congr 1
    unfold mvT1 gT skip
    simp [show m + d + 1 ≠ m by omega, show ¬ m + d < m by omega, show m + 1 + d = m + d + 1 by omega]
theorem mvN_low {ts : List Tr} {ns : List Int} {m : Nat} : ∀ k, k ≤ m → mvN ts ns m k = (List.range k).map (el ns)
  | 0, _ => rfl
  | k + 1, hk => by
    rw [mvN, mvN_low k (by omega), List.range_succ, List.map_append]
    congr 1
    simp [show k ≠ m by omega]
theorem mvN_out {ts : List Tr} {ns : List Int} {m : Nat} (h : (tPath ts m).length = 0) : ∀ d, mvN ts ns m (m + 1 + d) = (List.range (m + d)).map (fun j => el ns (skip m j))
  | 0 => by
    rw [Nat.add_zero, mvN, mvN_low m (Nat.le_refl _), if_pos ⟨rfl, h⟩, List.append_nil]
    refine List.map_congr_left (fun j hj => ?_)
    rw [skip, if_pos (by simpa using hj)]
  | d + 1 => by
    rw [show m + 1 + (d + 1) = (m + 1 + d) + 1 by omega, mvN, mvN_out h d, show m + (d + 1) = (m + d) + 1 by omega, List.range_succ, List.map_append]
    congr 1
    unfold skip
    simp [show m + d + 1 ≠ m by omega, show ¬ m + d < m by omega, show m + 1 + d = m + d + 1 by omega]

theorem stepSt_go {st : St} {m : Nat} (h : ¬ (tPath st.2.1 m).length = 0) (hn : st.2.2.length = st.2.1.length) : stepSt st m = (st.1, (List.range st.2.1.length).map (fT st.2.1 m), (List.range st.2.2.length).map (el st.2.2)) := by
  unfold stepSt
  rw [mvT_go h, mvN_go h, hn]
theorem stepSt_out {st : St} {m : Nat} (h : (tPath st.2.1 m).length = 0) (hm : m < st.2.1.length) (hn : st.2.2.length = st.2.1.length) : stepSt st m = (st.1, (List.range (st.2.1.length - 1)).map (fun j => gT st.2.1 (skip m j)), (List.range (st.2.2.length - 1)).map (fun j => el st.2.2 (skip m j))) := by
  unfold stepSt
  obtain ⟨d, hd⟩ : ∃ d, st.2.1.length = m + 1 + d := ⟨st.2.1.length - (m + 1), by omega⟩
  rw [hn, hd, mvT_out h d, mvN_out h d, show m + 1 + d - 1 = m + d by omega]

theorem trainsAt_fn {w : World} {a : Option Addr} {n cap : Nat} {f : Nat → Tr} (h : ∀ j, j < n → ∃ b off, a = some ⟨b, off, none⟩ ∧ TrainAt w b (off + j * 3) (f j).1 (f j).2.1 (f j).2.2) : TrainsAt w (.slice a n cap) ((List.range n).map f) :=
  ⟨a, cap, by simp, fun i hi => by
    have hi' : i < n := by simpa using hi
    have e : ((List.range n).map f)[i]?.getD (0, [], 0) = f i := by simp [hi']
    unfold tAt tPath tWt
    rw [e]
    exact h i hi'⟩
theorem intsAt_fn {w : World} {a : Option Addr} {n cap : Nat} {X : Nat → Int} (h : ∀ j, j < n → ∃ b off, a = some ⟨b, off, none⟩ ∧ w.cell? ⟨b, off + j, none⟩ = some (.int .i64 (X j))) : IntsAt w (.slice a n cap) ((List.range n).map X) :=
  ⟨a, cap, by simp, fun i hi => by
    have hi' : i < n := by simpa using hi
    have e : el ((List.range n).map X) i = X i := by simp [el, hi']
    rw [e]
    exact h i hi'⟩
end Go.Proofs.Ytmjjigdnoiphbaa
