/-
  laws.FnExactMoves: the walk.
-/
import Derived.Test.YtmjjigdnoiphbaaGreatDoorW19
namespace Go.Proofs.YtmjjigdnoiphbaaGreatDoor
open Go.RowKit Go.Deep
set_option linter.unusedVariables false

/-- where toState lays a state -/
def madeL (s : Nat) (st : St) : Lies where
  ra := some ⟨s + 3, 0, none⟩
  rc := st.1.length
  ta := some ⟨s + 4, 0, none⟩
  tc := st.2.1.length
  na := some ⟨s + 5 + 4 * st.2.1.length, 0, none⟩
  nc := st.2.2.length
  pa := fun i => some ⟨s + 4 + 4 * (i + 1), 0, none⟩
  pc := fun i => (tPath st.2.1 i).length

theorem madeL_val (s : Nat) (st : St) : (madeL s st).val st = stVal s st := rfl

theorem madeL_F {s : Nat} {st : St} {k : Nat} (h : (madeL s st).F st.2.1.length k) : s + 3 ≤ k ∧ k < s + 6 + 4 * st.2.1.length := by
  rcases h with h | h | h | ⟨i, hi, h⟩
  · have := FA_some h; omega
  · have := FA_some h; omega
  · have := FA_some h; omega
  · have := FA_some h; omega

theorem StMade.own {s : Nat} {st : St} {w : World} (h : StMade s st w) : OwnS w (madeL s st) st := by
  refine ⟨rowIs_ownF h.1, ⟨fun i hi => ?_, fun i hi => rowIs_ownF (h.2.1.2 i hi), fun i k hi e e' => ?_, fun i j k hi hj hij e e' => ?_⟩, rowIs_ownF h.2.2, ⟨fun k e e' => ?_, fun k e e' => ?_, fun k e e' => ?_, fun k hk => ?_⟩⟩
  · have c0 := h.2.1.1.cell (i := i * 3) (by omega)
    have c1 := h.2.1.1.cell (i := i * 3 + 1) (by omega)
    have c2 := h.2.1.1.cell (i := i * 3 + 2) (by omega)
    rw [trCell0] at c0
    rw [trCell1] at c1
    rw [trCell2] at c2
    refine ⟨s + 4, 0, rfl, by rw [Nat.zero_add]; exact c0, by rw [Nat.zero_add]; exact c1, by rw [Nat.zero_add]; exact c2, fun o _ => h.2.1.1.frozen _⟩
  · have a1 := FA_some e
    have a2 := FA_some e'
    omega
  · have a1 := FA_some e
    have a2 := FA_some e'
    omega
  · have a1 := FA_some e
    rcases e' with e' | ⟨i, hi, e'⟩
    · have a2 := FA_some e'; omega
    · have a2 := FA_some e'; omega
  · have a1 := FA_some e
    rcases e' with e' | ⟨i, hi, e'⟩
    · have a2 := FA_some e'; omega
    · have a2 := FA_some e'; omega
  · have a1 := FA_some e
    have a2 := FA_some e'
    omega
  · have a1 := madeL_F hk
    have a2 := h.2.2.lt
    omega

theorem OwnInts.keepOn {base : Nat} {w w' : World} {v : Value} {xs : List Int} (h : OwnInts base w v xs) (hb : ∀ k, k < w.heap.size → base ≤ k → w'.heap[k]? = w.heap[k]?) : OwnInts base w' v xs := by
  obtain ⟨h1, h2⟩ := h
  refine ⟨h1, ?_⟩
  rcases h2 with h2 | ⟨g, cap, cur, hv, hg, hh, r⟩
  · exact Or.inl h2
  · exact Or.inr ⟨g, cap, cur, hv, hg, by rw [hb g (Array.getElem?_eq_some_iff.1 hh).1 hg]; exact hh, r⟩

theorem StMade.cap {s : Nat} {st : St} {w : World} (h : StMade s st w) : CapSt w (stVal s st) st.2.1.length := fun a1 l1 q1 a2 l2 q2 a3 l3 q3 hv i b off p q c hi ha hc => by
  simp only [stVal, Value.agg.injEq, Array.mk.injEq, List.cons.injEq, Value.slice.injEq, and_true] at hv
  obtain ⟨_, ⟨rfl, _, _⟩, _⟩ := hv
  simp only [Option.some.injEq, Addr.mk.injEq, and_true] at ha
  obtain ⟨rfl, rfl⟩ := ha
  have c1 := h.2.1.1.cell (i := i * 3 + 1) (by omega)
  rw [trCell1] at c1
  rw [Nat.zero_add] at hc
  rw [hc] at c1
  simp only [Option.some.injEq, Value.slice.injEq] at c1
  omega


end Go.Proofs.YtmjjigdnoiphbaaGreatDoor
