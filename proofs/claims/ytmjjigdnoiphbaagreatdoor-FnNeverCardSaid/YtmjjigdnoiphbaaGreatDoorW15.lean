/-
  spec.Free, impl.Free.
-/
import Derived.Test.YtmjjigdnoiphbaaGreatDoorJ2
namespace Go.Proofs.YtmjjigdnoiphbaaGreatDoor
open Go.RowKit Go.Deep
set_option linter.unusedVariables false

/-- Free -/
def freeF (st : St) (s : Int) : Int :=
  bif decide (stOk st = 0) && inR s 0 (st.1.length - 1) then el st.1 s.toNat - there st.2.1 s else -1

structure RightSt (st : St) : Prop where
  sizes : sizesB st = true
  rooms : roomsB st.1 = true
  trains : trainsB st.1.length st.2.1 = true
  names : namesB st.2.2 = true
  fits : fitsB st.1 st.2.1 = true

theorem right_of_ok {st : St} (h : stOk st = 0) : RightSt st := by
  unfold stOk at h
  cases h1 : sizesB st <;> cases h2 : roomsB st.1 <;> cases h3 : trainsB st.1.length st.2.1 <;> cases h4 : namesB st.2.2 <;> cases h5 : fitsB st.1 st.2.1 <;> simp [h1, h2, h3, h4, h5] at h
  exact ⟨h1, h2, h3, h4, h5⟩

theorem ok_of_right {st : St} (h : RightSt st) : stOk st = 0 := stOk0 h.sizes h.rooms h.trains h.names h.fits

theorem RightSt.lens {st : St} (h : RightSt st) : 1 ≤ st.1.length ∧ st.1.length ≤ 40 ∧ st.2.1.length ≤ 5 ∧ st.2.2.length = st.2.1.length := by
  have := h.sizes
  simp only [sizesB, inR, Bool.and_eq_true, decide_eq_true_eq] at this
  omega
theorem RightSt.room {st : St} (h : RightSt st) (i : Nat) (hi : i < st.1.length) : 1 ≤ el st.1 i ∧ el st.1 i ≤ 5 := by
  have := allUp_at h.rooms i hi
  simpa only [inR, Bool.and_eq_true, decide_eq_true_eq] using this
theorem RightSt.at40 {st : St} (h : RightSt st) : ∀ i, i < st.2.1.length → 0 ≤ tAt st.2.1 i ∧ tAt st.2.1 i < 40 := trainsB_at h.trains h.lens.2.1
theorem there_le (ts : List Tr) (s : Int) : there ts s ≤ ts.length := thereUp_le ts s ts.length

theorem run_index40 (A : Array Value) (k : Nat) (c : Int) (hk : k < 40) (h : A[k]? = some (.int .i64 c)) (w : World) : (Instr.index 125 (.agg A) (.int .i64 (k : Int))).run Tryz.prog w = .ok (.int .i64 c) w := by
  obtain ⟨i0, hi, hz0, hz1, hz2⟩ := info_parts Tryz.infoInt
  have h0 : (0 : Int) ≤ (k : Int) ∧ (k : Int) < ((40 : Nat) : Int) := by omega
  simp [Instr.index, run_underlying Tryz.underlying125, run_underlying Tryz.underlying3, asIntOf, h0, part, isAgg, sizeOf, typeInfo, hi, hz1, h, hk, go_sem]

theorem standingOf_at (v : Value) (ts : List Tr) (w : World) (k : Nat) (hk : k < 40) (h : TrainsAt w v ts) (hl : ts.length ≤ 4611686018427387904) (ha : ∀ i, i < ts.length → 0 ≤ tAt ts i ∧ tAt ts i < 40) :
    Calls Tryz.prog 79 #[v] w fun e w' => ∃ A : Array Value, e = .returned (.agg A) ∧ A[k]? = some (.int .i64 (there ts (k : Int))) ∧ Below w.heap.size w w' :=
  (standingOf_any v ts w h hl ha).mono fun e w' ⟨A, he, _, hc, hb⟩ => ⟨A, he, hc k hk, hb⟩

end Go.Proofs.YtmjjigdnoiphbaaGreatDoor
