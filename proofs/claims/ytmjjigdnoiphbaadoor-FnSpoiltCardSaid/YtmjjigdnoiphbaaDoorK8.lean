import Derived.Test.YtmjjigdnoiphbaaDoorJ2
/-
  spec.Free, impl.Free.
-/
namespace Go.Proofs.YtmjjigdnoiphbaaDoor
open Go.RowKit Go.Deep
set_option linter.unusedVariables false

/-- Free -/
def freeF (st : St) (s : Int) : Int :=
  bif decide (stOk st = 0) && inR s 0 (st.1.length - 1) then el st.1 s.toNat - there st.2.1 s else -1

structure RightSt (st : St) : Prop where
  sizes : sizesB st = true
  rooms : roomsB st.1 = true
  trains : trainsB st.1.length st.2.1 = true
  names : namesB st.2.2 = true
  fits : fitsB st.1 st.2.1 = true

theorem right_of_ok {st : St} (h : stOk st = 0) : RightSt st := by
  unfold stOk at h
  cases h1 : sizesB st <;> cases h2 : roomsB st.1 <;> cases h3 : trainsB st.1.length st.2.1 <;> cases h4 : namesB st.2.2 <;> cases h5 : fitsB st.1 st.2.1 <;> simp [h1, h2, h3, h4, h5] at h
  exact ⟨h1, h2, h3, h4, h5⟩

theorem ok_of_right {st : St} (h : RightSt st) : stOk st = 0 := stOk0 h.sizes h.rooms h.trains h.names h.fits

theorem RightSt.lens {st : St} (h : RightSt st) : 1 ≤ st.1.length ∧ st.1.length ≤ 40 ∧ st.2.1.length ≤ 5 ∧ st.2.2.length = st.2.1.length := by
  have := h.sizes
  simp only [sizesB, inR, Bool.and_eq_true, decide_eq_true_eq] at this
  omega
theorem RightSt.room {st : St} (h : RightSt st) (i : Nat) (hi : i < st.1.length) : 1 ≤ el st.1 i ∧ el st.1 i ≤ 5 := by
  have := allUp_at h.rooms i hi
  simpa only [inR, Bool.and_eq_true, decide_eq_true_eq] using this
theorem RightSt.at40 {st : St} (h : RightSt st) : ∀ i, i < st.2.1.length → 0 ≤ tAt st.2.1 i ∧ tAt st.2.1 i < 40 := trainsB_at h.trains h.lens.2.1
theorem there_le (ts : List Tr) (s : Int) : there ts s ≤ ts.length := thereUp_le ts s ts.length

theorem run_index40 (A : Array Value) (k : Nat) (c : Int) (hk : k < 40) (h : A[k]? = some (.int .i64 c)) (w : World) : (Instr.index 107 (.agg A) (.int .i64 (k : Int))).run Tryd.prog w = .ok (.int .i64 c) w := by
  obtain ⟨i0, hi, hz0, hz1, hz2⟩ := info_parts Tryd.infoInt
  have h0 : (0 : Int) ≤ (k : Int) ∧ (k : Int) < ((40 : Nat) : Int) := by omega
  simp [Instr.index, run_underlying Tryd.underlying107, run_underlying Tryd.underlying3, asIntOf, h0, part, isAgg, sizeOf, typeInfo, hi, hz1, h, hk, go_sem]

theorem standingOf_at (v : Value) (ts : List Tr) (w : World) (k : Nat) (hk : k < 40) (h : TrainsAt w v ts) (hl : ts.length ≤ 4611686018427387904) (ha : ∀ i, i < ts.length → 0 ≤ tAt ts i ∧ tAt ts i < 40) :
    Calls Tryd.prog 60 #[v] w fun e w' => ∃ A : Array Value, e = .returned (.agg A) ∧ A[k]? = some (.int .i64 (there ts (k : Int))) ∧ Below w.heap.size w w' :=
  (standingOf_any v ts w h hl ha).mono fun e w' ⟨A, he, _, hc, hb⟩ => ⟨A, he, hc k hk, hb⟩

set_option maxHeartbeats 2000000 in
theorem implFree_any (v : Value) (st : St) (s : Int) (w : World) (h : StateAt w v st) (hp : ∀ i, i < st.2.1.length → (tPath st.2.1 i).length ≤ 4611686018427387904) :
    Calls Tryd.prog 20 #[v, .int .i64 s] w fun e w' => e = .returned (.int .i64 (freeF st s)) ∧ Below w.heap.size w w' := by
  have HS := hide h
  have HP := hide hp
  obtain ⟨a1, q1, a2, q2, a3, q3, rfl⟩ := h.form
  clear h hp
  go_enter Tryd.func20, Tryd.ntmps20
  go_wp2_with fail
  refine (implStateOk_any _ st _ (HS.out.below (Joins.below_alloc1 _ _)) HP.out).mono ?_
  rintro e w1 ⟨rfl, hb1⟩
  have c0 : w1.cell? ⟨w.heap.size, 0, none⟩ = some (.slice a1 st.1.length q1) := cell_later hb1 (by simp)
  have c1 : w1.cell? ⟨w.heap.size, 1, none⟩ = some (.slice a2 st.2.1.length q2) := cell_later hb1 (by simp)
  have c2 : w1.cell? ⟨w.heap.size, 2, none⟩ = some (.slice a3 st.2.2.length q3) := cell_later hb1 (by simp)
  have HB1 := hide (below_tail (Joins.below_alloc1 w (.cells #[.slice a1 st.1.length q1, .slice a2 st.2.1.length q2, .slice a3 st.2.2.length q3] 26)) hb1)
  clear hb1
  by_cases hok : stOk st = 0
  · have HR := hide (right_of_ok hok)
    have hokb : (stOk st != 0) = false := by simp [hok]
    obtain ⟨l1, l2, l3, l4⟩ := HR.out.lens
    by_cases hin : inR s 0 (st.1.length - 1) = true
    · have hin' := hin
      simp only [inR, Bool.and_eq_true, decide_eq_true_eq] at hin'
      obtain ⟨k, rfl⟩ := Int.eq_ofNat_of_zero_le hin'.1
      have hF : freeF st k = el st.1 k - there st.2.1 (k : Int) := by simp [freeF, hok, hin]
      have HF := hide hF
      have hk : k < st.1.length := by omega
      obtain ⟨g1, g2⟩ := HR.out.room k hk
      have g3 := there_le st.2.1 (k : Int)
      have hwr : IntKind.i64.wrap (el st.1 k - there st.2.1 (k : Int)) = el st.1 k - there st.2.1 (k : Int) := by rw [IntKind.wrap_i64]; omega
      have HSW := hide (HS.out.below HB1.out)
      obtain ⟨vr, vt, vn, hv, ⟨ar, cr, rfl, hRR⟩, hTT, _⟩ := HSW.out
      simp only [Value.agg.injEq, Array.mk.injEq, List.cons.injEq, Value.slice.injEq, true_and, and_true] at hv
      obtain ⟨⟨rfl, rfl⟩, rfl, rfl⟩ := hv
      obtain ⟨b, off, rfl, hc⟩ := hRR k hk
      have HTT := hide hTT
      have hk40 : k < 40 := by omega
      have hidx := fun A w hA => run_index40 A k (there st.2.1 (k : Int)) hk40 hA w
      clear hok hF hin' hRR l4 hTT
      generalize stOk st = code at *
      have hl0 : (0 : Int) ≤ (st.1.length : Int) := by omega
      have hl1 : (st.1.length : Int) ≤ 4611686018427387904 := by omega
      go_wp2_with (go_at_call 59; refine (isSection_any _ _ _ hl0 hl1).mono ?_; rintro e w' ⟨rfl, rfl⟩)
      have hki : (k : Int) < (st.1.length : Int) := by omega
      have hk0 : (0 : Int) ≤ (k : Int) := by omega
      go_region_held3 (fun w' => w'.cell? ⟨w.heap.size, 0, none⟩ = some (.slice (some ⟨b, off, none⟩) st.1.length q1) ∧ w'.cell? ⟨w.heap.size, 1, none⟩ = some (.slice a2 st.2.1.length q2) ∧ w'.cell? ⟨b, off + k, none⟩ = some (.int .i64 (el st.1 k)))
        (first | (exact ⟨cell_later hb2 (by exact c0), cell_later hb2 (by exact c1), cell_later hb2 (by exact hc)⟩) | go_keep)
        (first | (go_at_call 60; refine (standingOf_at _ st.2.1 _ k hk40 ?_ ?_ HR.out.at40).mono ?_; exact (HTT.out.below (Joins.below_draws _ _ 1)); (omega); rintro e w2 ⟨A, rfl, hAk, hb2⟩))
      all_goals
        have HB2 := hide (below_tail HB1.out.drew hb2)
        clear hb2
        go_wp2_with fail
        go_ret
        exact ⟨by rw [HF.out]; rfl, HB2.out⟩
    · have hin' : inR s 0 (st.1.length - 1) = false := by simpa using hin
      have HF := hide (show freeF st s = -1 by simp [freeF, hin'])
      clear hin hok
      generalize stOk st = code at *
      have hl0 : (0 : Int) ≤ (st.1.length : Int) := by omega
      have hl1 : (st.1.length : Int) ≤ 4611686018427387904 := by omega
      go_wp2_with (go_at_call 59; refine (isSection_any _ _ _ hl0 hl1).mono ?_; rintro e w' ⟨rfl, rfl⟩)
      go_ret
      exact ⟨by rw [HF.out]; rfl, HB1.out⟩
  · have hokb : (stOk st != 0) = true := by simp [hok]
    have HF := hide (show freeF st s = -1 by simp [freeF, hok])
    clear hok
    generalize stOk st = code at *
    go_wp2_with fail
    go_ret
    exact ⟨by rw [HF.out]; rfl, HB1.out⟩
end Go.Proofs.YtmjjigdnoiphbaaDoor

/-
  laws.FnExactFree: the walk.
-/
namespace Go.Proofs.YtmjjigdnoiphbaaDoor
open Go.RowKit Go.Deep
set_option linter.unusedVariables false

end Go.Proofs.YtmjjigdnoiphbaaDoor
