import Derived.Test.YtmjjigdnoiphbaaSp1
import Derived.Test.YtmjjigdnoiphbaaK4
import Derived.Test.YtmjjigdnoiphbaaK5
import Derived.Test.YtmjjigdnoiphbaaK6
import Derived.Test.YtmjjigdnoiphbaaK3
import Derived.Test.YtmjjigdnoiphbaaPst
import Derived.Test.YtmjjigdnoiphbaaJ5
/-
  (*l5Cur).spoil: all cases together.
-/
namespace Go.Proofs.Ytmjjigdnoiphbaa
open Go.RowKit Go.Deep
set_option linter.unusedVariables false

theorem spoil_any {w : World} {cb : Nat} {a : Option Addr} {B : List Int} {q : Nat} {c : Cu} (h : CurF w cb a B q c) (hk : c.1 ≤ 700000) {v : Value} {st : St} {N M : Nat} (hS : StateAt w v st) (hz : Sz N M st) (hN : N ≤ 100) (hM : M ≤ 100) (h0 : 0 < st.1.length) :
    Calls Try.prog 95 #[.pointer (some ⟨cb, 0, none⟩), v] w (SpPost w cb a B q c N M) := by
  have p1 := pk_lo B 9 c
  by_cases e0 : (pk B 9 c).1 = 0
  · exact spoil_0 h hk hS hz hN hM h0 e0
  by_cases e1 : (pk B 9 c).1 = 1
  · exact spoil_1 h hk hS hz hN hM h0 e1
  by_cases e2 : (pk B 9 c).1 = 2
  · exact spoil_2 h hk hS hz hN hM h0 e2
  have e3 : 3 ≤ (pk B 9 c).1 := by omega
  by_cases et : st.2.1.length = 0
  · exact spoil_none h hk hS hz hN hM h0 e3 (hide et)
  have et' : 0 < st.2.1.length := by omega
  have q1 := pk_lo B 6 (pk B (st.2.1.length : Int) (pk B 9 c).2).2
  have q2 := pk_hi B (pk B (st.2.1.length : Int) (pk B 9 c).2).2 (show (1 : Int) ≤ 6 by omega)
  by_cases f0 : (pk B 6 (pk B (st.2.1.length : Int) (pk B 9 c).2).2).1 = 0
  · exact spoil_in0 h hk hS hz hN hM h0 e3 et' f0
  by_cases f1 : (pk B 6 (pk B (st.2.1.length : Int) (pk B 9 c).2).2).1 = 1
  · exact spoil_in1 h hk hS hz hN hM h0 e3 et' f1
  by_cases f2 : (pk B 6 (pk B (st.2.1.length : Int) (pk B 9 c).2).2).1 = 2
  · exact spoil_in2 h hk hS hz hN hM h0 e3 et' f2
  by_cases f3 : (pk B 6 (pk B (st.2.1.length : Int) (pk B 9 c).2).2).1 = 3
  · exact spoil_in3 h hk hS hz hN hM h0 e3 et' f3
  by_cases f4 : (pk B 6 (pk B (st.2.1.length : Int) (pk B 9 c).2).2).1 = 4
  · exact spoil_in4 h hk hS hz hN hM h0 e3 et' f4
  exact spoil_in5 h hk hS hz hN hM h0 e3 et' (by omega)
end Go.Proofs.Ytmjjigdnoiphbaa

/-
  A MOVE THAT CAN BE MADE KEEPS A STATE SMALL: mathematics.
-/
namespace Go.Proofs.Ytmjjigdnoiphbaa
open Go.RowKit Go.Deep
set_option linter.unusedVariables false

theorem movesUp_mem (st : St) {x : Int} : ∀ k, x ∈ movesUp st k → ∃ i, i < k ∧ x = el st.2.2 i ∧ canB st i = true
  | 0, h => by simp [movesUp] at h
  | k + 1, h => by
    unfold movesUp at h
    rw [List.mem_append] at h
    rcases h with h | h
    · obtain ⟨i, h1, h2⟩ := movesUp_mem st k h
      exact ⟨i, by omega, h2⟩
    · cases hc : canB st k
      · rw [hc] at h; simp at h
      · rw [hc] at h; simp at h; exact ⟨k, by omega, h, hc⟩

theorem tPath_map' (n : Nat) (f : Nat → Tr) (i : Nat) (hi : i < n) : tPath ((List.range n).map f) i = (f i).2.1 := by simp [tPath, hi]

theorem step_size {st : St} {x : Int} {N M : Nat} (hs : Sz N M st) (hx : x ∈ movesF st) : (stepF st x).1 = st.1 ∧ Sz N M (stepF st x) := by
  unfold movesF at hx
  by_cases hok : stOk st = 0
  · rw [hok, decide_eq_true rfl, cond_true] at hx
    obtain ⟨m, h1, h2, h3⟩ := movesUp_mem st _ hx
    have hr := right_of_ok hok
    obtain ⟨l1, l2, l3, l4⟩ := hr.lens
    have hix : nameIx st.2.2 x = m := nameIx_at h1 h2.symm (fun j hj e => by have := hr.inj (show j < st.2.2.length by omega) h1 (by rw [e, h2]); omega)
    have hF : stepF st x = stepSt st m := by simp [stepF, hok, hix, h1, h3]
    rw [hF]
    have hm : m < st.2.1.length := by omega
    have b1 := hs.r
    have b2 := hs.t
    have b3 := hs.n
    by_cases e : (tPath st.2.1 m).length = 0
    · rw [stepSt_out e hm l4]
      refine ⟨rfl, b1, by simp; omega, by simp; omega, fun i hi => ?_⟩
      simp only [List.length_map, List.length_range] at hi
      rw [tPath_map' _ _ _ hi]
      exact hs.p (skip m i) (by unfold skip; split <;> omega)
    · rw [stepSt_go e l4]
      refine ⟨rfl, b1, by simp; omega, by simp; omega, fun i hi => ?_⟩
      simp only [List.length_map, List.length_range] at hi
      rw [tPath_map' _ _ _ hi]
      have := hs.p i hi
      unfold fT
      split
      · simp only [List.length_tail]; omega
      · exact this
  · rw [decide_eq_false hok] at hx
    simp at hx
end Go.Proofs.Ytmjjigdnoiphbaa
