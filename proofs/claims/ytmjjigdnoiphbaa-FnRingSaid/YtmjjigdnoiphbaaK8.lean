import Derived.Test.YtmjjigdnoiphbaaJ2
/-
  spec.Free, impl.Free.
-/
namespace Go.Proofs.Ytmjjigdnoiphbaa
open Go.RowKit Go.Deep
set_option linter.unusedVariables false

/-- Free -/
def freeF (st : St) (s : Int) : Int :=
  bif decide (stOk st = 0) && inR s 0 (st.1.length - 1) then el st.1 s.toNat - there st.2.1 s else -1

structure RightSt (st : St) : Prop where
  sizes : sizesB st = true
  rooms : roomsB st.1 = true
  trains : trainsB st.1.length st.2.1 = true
  names : namesB st.2.2 = true
  fits : fitsB st.1 st.2.1 = true

theorem right_of_ok {st : St} (h : stOk st = 0) : RightSt st := by
  unfold stOk at h
  cases h1 : sizesB st <;> cases h2 : roomsB st.1 <;> cases h3 : trainsB st.1.length st.2.1 <;> cases h4 : namesB st.2.2 <;> cases h5 : fitsB st.1 st.2.1 <;> simp [h1, h2, h3, h4, h5] at h
  exact ⟨h1, h2, h3, h4, h5⟩

theorem ok_of_right {st : St} (h : RightSt st) : stOk st = 0 := stOk0 h.sizes h.rooms h.trains h.names h.fits

theorem RightSt.lens {st : St} (h : RightSt st) : 1 ≤ st.1.length ∧ st.1.length ≤ 40 ∧ st.2.1.length ≤ 5 ∧ st.2.2.length = st.2.1.length := by
  have := h.sizes
  simp only [sizesB, inR, Bool.and_eq_true, decide_eq_true_eq] at this
  omega
theorem RightSt.room {st : St} (h : RightSt st) (i : Nat) (hi : i < st.1.length) : 1 ≤ el st.1 i ∧ el st.1 i ≤ 5 := by
  have := allUp_at h.rooms i hi
  simpa only [inR, Bool.and_eq_true, decide_eq_true_eq] using this
theorem RightSt.at40 {st : St} (h : RightSt st) : ∀ i, i < st.2.1.length → 0 ≤ tAt st.2.1 i ∧ tAt st.2.1 i < 40 := trainsB_at h.trains h.lens.2.1
theorem there_le (ts : List Tr) (s : Int) : there ts s ≤ ts.length := thereUp_le ts s ts.length

theorem run_index40 (A : Array Value) (k : Nat) (c : Int) (hk : k < 40) (h : A[k]? = some (.int .i64 c)) (w : World) : (Instr.index 92 (.agg A) (.int .i64 (k : Int))).run Try.prog w = .ok (.int .i64 c) w := by
  obtain ⟨i0, hi, hz0, hz1, hz2⟩ := info_parts Try.infoInt
  have h0 : (0 : Int) ≤ (k : Int) ∧ (k : Int) < ((40 : Nat) : Int) := by omega
  simp [Instr.index, run_underlying Try.underlying92, run_underlying Try.underlying3, asIntOf, h0, part, isAgg, sizeOf, typeInfo, hi, hz1, h, hk, go_sem]

theorem standingOf_at (v : Value) (ts : List Tr) (w : World) (k : Nat) (hk : k < 40) (h : TrainsAt w v ts) (hl : ts.length ≤ 4611686018427387904) (ha : ∀ i, i < ts.length → 0 ≤ tAt ts i ∧ tAt ts i < 40) :
    Calls Try.prog 76 #[v] w fun e w' => ∃ A : Array Value, e = .returned (.agg A) ∧ A[k]? = some (.int .i64 (there ts (k : Int))) ∧ Below w.heap.size w w' :=
  (standingOf_any v ts w h hl ha).mono fun e w' ⟨A, he, _, hc, hb⟩ => ⟨A, he, hc k hk, hb⟩

set_option maxHeartbeats 2000000 in
theorem specFree_any (v : Value) (st : St) (s : Int) (w : World) (h : StateAt w v st) :
    Calls Try.prog 37 #[v, .int .i64 s] w fun e w' => e = .returned (.int .i64 (freeF st s)) ∧ Below w.heap.size w w' := by
  have HS := hide h
  obtain ⟨a1, q1, a2, q2, a3, q3, rfl⟩ := h.form
  clear h
  go_enter Try.func37, Try.ntmps37
  go_wp2_with fail
  refine (specStateOk_any _ st _ (HS.out.below (Joins.below_alloc1 _ _))).mono ?_
  rintro e w1 ⟨rfl, hb1⟩
  have c0 : w1.cell? ⟨w.heap.size, 0, none⟩ = some (.slice a1 st.1.length q1) := cell_later hb1 (by simp)
  have c1 : w1.cell? ⟨w.heap.size, 1, none⟩ = some (.slice a2 st.2.1.length q2) := cell_later hb1 (by simp)
  have c2 : w1.cell? ⟨w.heap.size, 2, none⟩ = some (.slice a3 st.2.2.length q3) := cell_later hb1 (by simp)
  have HB1 := hide (below_tail (Joins.below_alloc1 w (.cells #[.slice a1 st.1.length q1, .slice a2 st.2.1.length q2, .slice a3 st.2.2.length q3] 26)) hb1)
  clear hb1
  by_cases hok : stOk st = 0
  · have HR := hide (right_of_ok hok)
    have hokb : (stOk st != 0) = false := by simp [hok]
    obtain ⟨l1, l2, l3, l4⟩ := HR.out.lens
    by_cases hin : inR s 0 (st.1.length - 1) = true
    · have hin' := hin
      simp only [inR, Bool.and_eq_true, decide_eq_true_eq] at hin'
      obtain ⟨k, rfl⟩ := Int.eq_ofNat_of_zero_le hin'.1
      have hF : freeF st k = el st.1 k - there st.2.1 (k : Int) := by simp [freeF, hok, hin]
      have HF := hide hF
      have hk : k < st.1.length := by omega
      obtain ⟨g1, g2⟩ := HR.out.room k hk
      have g3 := there_le st.2.1 (k : Int)
      have hwr : IntKind.i64.wrap (el st.1 k - there st.2.1 (k : Int)) = el st.1 k - there st.2.1 (k : Int) := by rw [IntKind.wrap_i64]; omega
      have HSW := hide (HS.out.below HB1.out)
      obtain ⟨vr, vt, vn, hv, ⟨ar, cr, rfl, hRR⟩, _, _⟩ := HSW.out
      simp only [Value.agg.injEq, Array.mk.injEq, List.cons.injEq, Value.slice.injEq, true_and, and_true] at hv
      obtain ⟨⟨rfl, rfl⟩, rfl, rfl⟩ := hv
      obtain ⟨b, off, rfl, hc⟩ := hRR k hk
      clear hok hF hin' hRR l4
      generalize stOk st = code at *
      go_wp2_with (go_at_call 65; refine (l1in_any _ _ _ _).mono ?_; rintro e w' ⟨rfl, rfl⟩)
      have hki : (k : Int) < (st.1.length : Int) := by omega
      have hk0 : (0 : Int) ≤ (k : Int) := by omega
      go_region_held3 (fun w' => w'.cell? ⟨w.heap.size, 0, none⟩ = some (.slice (some ⟨b, off, none⟩) st.1.length q1) ∧ w'.cell? ⟨w.heap.size, 1, none⟩ = some (.slice a2 st.2.1.length q2) ∧ w'.cell? ⟨w.heap.size, 2, none⟩ = some (.slice a3 st.2.2.length q3) ∧ w'.cell? ⟨b, off + k, none⟩ = some (.int .i64 (el st.1 k)))
        (first | (exact ⟨cell_later hb2 (by exact c0), cell_later hb2 (by exact c1), cell_later hb2 (by exact c2), cell_later hb2 (by exact hc)⟩) | go_keep)
        (first | (go_at_call 66; refine (l1there_any _ st _ _ ?_ ?_).mono ?_; exact (HSW.out.below (Joins.below_draws _ _ 1)); (omega); rintro e w2 ⟨rfl, hb2⟩))
      all_goals
        have HB2 := hide (below_tail HB1.out.drew hb2)
        clear hb2
        go_wp2_with fail
        go_ret
        exact ⟨by rw [HF.out]; rfl, HB2.out⟩
    · have hin' : inR s 0 (st.1.length - 1) = false := by simpa using hin
      have HF := hide (show freeF st s = -1 by simp [freeF, hin'])
      clear hin hok
      generalize stOk st = code at *
      go_wp2_with (go_at_call 65; refine (l1in_any _ _ _ _).mono ?_; rintro e w' ⟨rfl, rfl⟩)
      go_ret
      exact ⟨by rw [HF.out]; rfl, HB1.out⟩
  · have hokb : (stOk st != 0) = true := by simp [hok]
    have HF := hide (show freeF st s = -1 by simp [freeF, hok])
    clear hok
    generalize stOk st = code at *
    go_wp2_with fail
    go_ret
    exact ⟨by rw [HF.out]; rfl, HB1.out⟩

set_option maxHeartbeats 2000000 in
theorem implFree_any (v : Value) (st : St) (s : Int) (w : World) (h : StateAt w v st) (hp : ∀ i, i < st.2.1.length → (tPath st.2.1 i).length ≤ 4611686018427387904) :
    Calls Try.prog 38 #[v, .int .i64 s] w fun e w' => e = .returned (.int .i64 (freeF st s)) ∧ Below w.heap.size w w' := by
  have HS := hide h
  have HP := hide hp
  obtain ⟨a1, q1, a2, q2, a3, q3, rfl⟩ := h.form
  clear h hp
  go_enter Try.func38, Try.ntmps38
  go_wp2_with fail
  refine (implStateOk_any _ st _ (HS.out.below (Joins.below_alloc1 _ _)) HP.out).mono ?_
  rintro e w1 ⟨rfl, hb1⟩
  have c0 : w1.cell? ⟨w.heap.size, 0, none⟩ = some (.slice a1 st.1.length q1) := cell_later hb1 (by simp)
  have c1 : w1.cell? ⟨w.heap.size, 1, none⟩ = some (.slice a2 st.2.1.length q2) := cell_later hb1 (by simp)
  have c2 : w1.cell? ⟨w.heap.size, 2, none⟩ = some (.slice a3 st.2.2.length q3) := cell_later hb1 (by simp)
  have HB1 := hide (below_tail (Joins.below_alloc1 w (.cells #[.slice a1 st.1.length q1, .slice a2 st.2.1.length q2, .slice a3 st.2.2.length q3] 26)) hb1)
  clear hb1
  by_cases hok : stOk st = 0
  · have HR := hide (right_of_ok hok)
    have hokb : (stOk st != 0) = false := by simp [hok]
    obtain ⟨l1, l2, l3, l4⟩ := HR.out.lens
    by_cases hin : inR s 0 (st.1.length - 1) = true
    · have hin' := hin
      simp only [inR, Bool.and_eq_true, decide_eq_true_eq] at hin'
      obtain ⟨k, rfl⟩ := Int.eq_ofNat_of_zero_le hin'.1
      have hF : freeF st k = el st.1 k - there st.2.1 (k : Int) := by simp [freeF, hok, hin]
      have HF := hide hF
      have hk : k < st.1.length := by omega
      obtain ⟨g1, g2⟩ := HR.out.room k hk
      have g3 := there_le st.2.1 (k : Int)
      have hwr : IntKind.i64.wrap (el st.1 k - there st.2.1 (k : Int)) = el st.1 k - there st.2.1 (k : Int) := by rw [IntKind.wrap_i64]; omega
      have HSW := hide (HS.out.below HB1.out)
      obtain ⟨vr, vt, vn, hv, ⟨ar, cr, rfl, hRR⟩, hTT, _⟩ := HSW.out
      simp only [Value.agg.injEq, Array.mk.injEq, List.cons.injEq, Value.slice.injEq, true_and, and_true] at hv
      obtain ⟨⟨rfl, rfl⟩, rfl, rfl⟩ := hv
      obtain ⟨b, off, rfl, hc⟩ := hRR k hk
      have HTT := hide hTT
      have hk40 : k < 40 := by omega
      have hidx := fun A w hA => run_index40 A k (there st.2.1 (k : Int)) hk40 hA w
      clear hok hF hin' hRR l4 hTT
      generalize stOk st = code at *
      have hl0 : (0 : Int) ≤ (st.1.length : Int) := by omega
      have hl1 : (st.1.length : Int) ≤ 4611686018427387904 := by omega
      go_wp2_with (go_at_call 75; refine (isSection_any _ _ _ hl0 hl1).mono ?_; rintro e w' ⟨rfl, rfl⟩)
      have hki : (k : Int) < (st.1.length : Int) := by omega
      have hk0 : (0 : Int) ≤ (k : Int) := by omega
      go_region_held3 (fun w' => w'.cell? ⟨w.heap.size, 0, none⟩ = some (.slice (some ⟨b, off, none⟩) st.1.length q1) ∧ w'.cell? ⟨w.heap.size, 1, none⟩ = some (.slice a2 st.2.1.length q2) ∧ w'.cell? ⟨b, off + k, none⟩ = some (.int .i64 (el st.1 k)))
        (first | (exact ⟨cell_later hb2 (by exact c0), cell_later hb2 (by exact c1), cell_later hb2 (by exact hc)⟩) | go_keep)
        (first | (go_at_call 76; refine (standingOf_at _ st.2.1 _ k hk40 ?_ ?_ HR.out.at40).mono ?_; exact (HTT.out.below (Joins.below_draws _ _ 1)); (omega); rintro e w2 ⟨A, rfl, hAk, hb2⟩))
      all_goals
        have HB2 := hide (below_tail HB1.out.drew hb2)
        clear hb2
        go_wp2_with fail
        go_ret
        exact ⟨by rw [HF.out]; rfl, HB2.out⟩
    · have hin' : inR s 0 (st.1.length - 1) = false := by simpa using hin
      have HF := hide (show freeF st s = -1 by simp [freeF, hin'])
      clear hin hok
      generalize stOk st = code at *
      have hl0 : (0 : Int) ≤ (st.1.length : Int) := by omega
      have hl1 : (st.1.length : Int) ≤ 4611686018427387904 := by omega
      go_wp2_with (go_at_call 75; refine (isSection_any _ _ _ hl0 hl1).mono ?_; rintro e w' ⟨rfl, rfl⟩)
      go_ret
      exact ⟨by rw [HF.out]; rfl, HB1.out⟩
  · have hokb : (stOk st != 0) = true := by simp [hok]
    have HF := hide (show freeF st s = -1 by simp [freeF, hok])
    clear hok
    generalize stOk st = code at *
    go_wp2_with fail
    go_ret
    exact ⟨by rw [HF.out]; rfl, HB1.out⟩
end Go.Proofs.Ytmjjigdnoiphbaa

/-
  laws.FnExactFree: the walk.
-/
namespace Go.Proofs.Ytmjjigdnoiphbaa
open Go.RowKit Go.Deep
set_option linter.unusedVariables false

set_option maxHeartbeats 4000000 in
theorem fnExactFree_walk (v : Value) (st : St) (x : Int) (w : World) (h : ArgSt w v st) :
    Calls Try.prog 9 #[v, .int .i64 x] w fun e w' => e = .returned (.bool true) ∧ Below w.heap.size w w' := by
  have HA := hide h
  obtain ⟨a1, q1, a2, q2, a3, q3, rfl⟩ := h.at_.form
  clear h
  go_enter Try.func9, Try.ntmps9
  go_wp2_with fail
  obtain ⟨U, hU⟩ : ∃ U, U = w.alloc (.cells #[.slice a1 st.1.length q1, .slice a2 st.2.1.length q2, .slice a3 st.2.2.length q3] 45) := ⟨_, rfl⟩
  rw [← hU]
  have c0 : U.cell? ⟨w.heap.size, 0, none⟩ = some (.slice a1 st.1.length q1) := by rw [hU]; simp
  have c1 : U.cell? ⟨w.heap.size, 1, none⟩ = some (.slice a2 st.2.1.length q2) := by rw [hU]; simp
  have c2 : U.cell? ⟨w.heap.size, 2, none⟩ = some (.slice a3 st.2.2.length q3) := by rw [hU]; simp
  have hbU : Below w.heap.size w U := by rw [hU]; exact Joins.below_alloc1 _ _
  clear hU
  refine (szState_arg _ st _ (HA.out.at_.below hbU) HA.out).mono ?_
  rintro e w1 ⟨r, rfl, hr, hb1⟩
  have d0 := cell_later hb1 c0
  have d1 := cell_later hb1 c1
  have d2 := cell_later hb1 c2
  have HB1 := hide (below_tail hbU hb1)
  clear hb1 hbU c0 c1 c2
  by_cases hneg : r < 0
  · go_wp2_with fail
    go_ret
    exact ⟨rfl, HB1.out⟩
  · rcases hr with hr | ⟨hr0, hsm⟩
    · exact absurd hr hneg
    have HSM := hide hsm
    clear hsm
    go_wp2_with fail
    refine (toState_small _ st _ (HA.out.at_.below HB1.out) HSM.out).mono ?_
    rintro e w2 ⟨rfl, hm2, hz2, hb2⟩
    have e0 := cell_later hb2 d0
    have e1 := cell_later hb2 d1
    have e2 := cell_later hb2 d2
    have HB2 := hide (below_tail HB1.out hb2)
    clear hz2 hb2 d0 d1 d2
    have HM2 := hide hm2
    clear hm2
    go_wp2_with fail
    refine (specFree_any _ st x _ HM2.out.at).mono ?_
    rintro e w3 ⟨rfl, hb3⟩
    replace e0 := cell_later hb3 e0
    replace e1 := cell_later hb3 e1
    replace e2 := cell_later hb3 e2
    have HB3 := hide (below_tail HB2.out hb3)
    clear hb3 HM2
    go_wp2_with fail
    refine (toState_small _ st _ (HA.out.at_.below HB3.out) HSM.out).mono ?_
    rintro e w4 ⟨rfl, hm4, hz4, hb4⟩
    replace e0 := cell_later hb4 e0
    replace e1 := cell_later hb4 e1
    replace e2 := cell_later hb4 e2
    have HB4 := hide (below_tail HB3.out hb4)
    have HM4 := hide hm4
    have hne : w.heap.size < w4.heap.size := World.block_lt_of_cell? _ _ e0
    clear hb4 hm4 hz4
    generalize w3.heap.size = s4 at *
    unfold stVal
    go_wp2_with fail
    obtain ⟨V, hV⟩ : ∃ V, V = w4.alloc (.cells #[.slice (some ⟨s4 + 3, 0, none⟩) st.1.length st.1.length, .slice (some ⟨s4 + 4, 0, none⟩) st.2.1.length st.2.1.length, .slice (some ⟨s4 + 5 + 4 * st.2.1.length, 0, none⟩) st.2.2.length st.2.2.length] 26) := ⟨_, rfl⟩
    rw [← hV]
    have x0 : V.cell? ⟨w4.heap.size, 0, none⟩ = some (.slice (some ⟨s4 + 3, 0, none⟩) st.1.length st.1.length) := by rw [hV]; simp
    have x1 : V.cell? ⟨w4.heap.size, 1, none⟩ = some (.slice (some ⟨s4 + 4, 0, none⟩) st.2.1.length st.2.1.length) := by rw [hV]; simp
    have x2 : V.cell? ⟨w4.heap.size, 2, none⟩ = some (.slice (some ⟨s4 + 5 + 4 * st.2.1.length, 0, none⟩) st.2.2.length st.2.2.length) := by rw [hV]; simp
    have hbV : Below w4.heap.size w4 V := by rw [hV]; exact Joins.below_alloc1 _ _
    clear hV
    replace e0 := cell_later hbV e0
    replace e1 := cell_later hbV e1
    replace e2 := cell_later hbV e2
    have HBV := hide (below_tail HB4.out hbV)
    have HMV := hide (HM4.out.below hbV)
    clear hbV HM4 HB4 hne
    refine (implFree_any _ st x _ HMV.out.at (fun i hi => by have := HSM.out.pl i hi; omega)).mono ?_
    rintro e w5 ⟨rfl, hb5⟩
    have hcmp : (freeF st x != freeF st x) = false := by simp
    generalize freeF st x = code at *
    replace e0 := cell_later hb5 e0
    replace e1 := cell_later hb5 e1
    replace e2 := cell_later hb5 e2
    replace x0 := cell_later hb5 x0
    replace x1 := cell_later hb5 x1
    replace x2 := cell_later hb5 x2
    have HB5 := hide (below_tail HBV.out hb5)
    have HM5 := hide (HMV.out.below hb5)
    clear hb5 HMV HBV
    go_wp2_with fail
    go_region_held3 (fun w' => w'.cell? ⟨w.heap.size, 0, none⟩ = some (.slice a1 st.1.length q1) ∧ w'.cell? ⟨w.heap.size, 1, none⟩ = some (.slice a2 st.2.1.length q2) ∧ w'.cell? ⟨w.heap.size, 2, none⟩ = some (.slice a3 st.2.2.length q3) ∧ w'.cell? ⟨w4.heap.size, 0, none⟩ = some (.slice (some ⟨s4 + 3, 0, none⟩) st.1.length st.1.length) ∧ w'.cell? ⟨w4.heap.size, 1, none⟩ = some (.slice (some ⟨s4 + 4, 0, none⟩) st.2.1.length st.2.1.length) ∧ w'.cell? ⟨w4.heap.size, 2, none⟩ = some (.slice (some ⟨s4 + 5 + 4 * st.2.1.length, 0, none⟩) st.2.2.length st.2.2.length))
      (first | (exact ⟨cell_later hb7 (cell_later hb6 (by exact e0)), cell_later hb7 (cell_later hb6 (by exact e1)), cell_later hb7 (cell_later hb6 (by exact e2)), cell_later hb7 (cell_later hb6 (by exact x0)), cell_later hb7 (cell_later hb6 (by exact x1)), cell_later hb7 (cell_later hb6 (by exact x2))⟩) | (exact ⟨cell_later hb6 (by exact e0), cell_later hb6 (by exact e1), cell_later hb6 (by exact e2), cell_later hb6 (by exact x0), cell_later hb6 (by exact x1), cell_later hb6 (by exact x2)⟩) | go_keep)
      (first | (go_at_call 34; refine (toState_small _ st _ ?_ HSM.out).mono ?_; exact (HA.out.at_.below HB5.out.drew); rintro e w6 ⟨rfl, hm6, hz6, hb6⟩) | (go_at_call 36; refine (eqState_small _ _ st _ ?_ ?_ HSM.out).mono ?_; exact (HM5.out.below (below_tail (Joins.below_draws _ _ 1) hb6)).at; exact hm6.at; rintro e w7 ⟨rfl, hb7⟩))
    all_goals
      have HB7 := hide (below_tail (below_tail HB5.out.drew hb6) hb7)
      clear hb6 hb7 hm6 hz6
      go_wp2_with fail
      go_ret
      exact ⟨rfl, HB7.out⟩
end Go.Proofs.Ytmjjigdnoiphbaa
