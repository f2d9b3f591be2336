/-
  Law Solve.
-/
import Derived.Test.YtiifdeepamajfabW20
import Derived.Test.YtiifdeepamajfabBst
import Derived.Test.YtiifdeepamajfabSs
import Derived.Test.YtiifdeepamajfabSo6
namespace Go.Proofs.Ytiifdeepamajfab
open Go.RowKit Go.Deep
set_option linter.unusedVariables false

set_option maxHeartbeats 8000000 in
theorem fnExactSolve_walk (v : Value) (st : St) (w : World) (h : ArgSt w v st) :
    Calls Try.prog 8 #[v] w fun e w' => e = .returned (.bool true) ∧ Below w.heap.size w w' := by
  have HA := hide h
  obtain ⟨a1, q1, a2, q2, a3, q3, rfl⟩ := h.at_.form
  clear h
  go_enter Try.func8, Try.ntmps8
  go_wp2_with fail
  obtain ⟨U, hU⟩ : ∃ U, U = w.alloc (.cells #[.slice a1 st.1.length q1, .slice a2 st.2.1.length q2, .slice a3 st.2.2.length q3] 25) := ⟨_, rfl⟩
  rw [← hU]
  have c0 : U.cell? ⟨w.heap.size, 0, none⟩ = some (.slice a1 st.1.length q1) := by rw [hU]; simp
  have c1 : U.cell? ⟨w.heap.size, 1, none⟩ = some (.slice a2 st.2.1.length q2) := by rw [hU]; simp
  have c2 : U.cell? ⟨w.heap.size, 2, none⟩ = some (.slice a3 st.2.2.length q3) := by rw [hU]; simp
  have hbU : Below w.heap.size w U := by rw [hU]; exact Joins.below_alloc1 _ _
  clear hU
  refine (szState_arg _ st _ (HA.out.at_.below hbU) HA.out).mono ?_
  rintro e w1 ⟨r, rfl, hr, hb1⟩
  have d0 := cell_later hb1 c0
  have d1 := cell_later hb1 c1
  have d2 := cell_later hb1 c2
  have HB1 := hide (below_tail hbU hb1)
  clear hb1 hbU c0 c1 c2
  by_cases hneg : r < 0
  · go_wp2_with fail
    go_ret
    exact ⟨rfl, HB1.out⟩
  · rcases hr with hr | ⟨hr0, hsm⟩
    · exact absurd hr hneg
    have HSM := hide hsm
    have hnegb : decide (r < 0) = false := by simpa using hneg
    clear hsm hneg
    go_wp2_with fail
    refine (toState_small _ st _ (HA.out.at_.below HB1.out) HSM.out).mono ?_
    rintro e w2 ⟨rfl, hm2, hz2, hb2⟩
    have e0 := cell_later hb2 d0
    have e1 := cell_later hb2 d1
    have e2 := cell_later hb2 d2
    have HB2 := hide (below_tail HB1.out hb2)
    have HM2 := hide hm2
    clear hz2 hb2 d0 d1 d2 hm2
    go_wp2_with fail
    have HWS2 : Hid (w.heap.size < w2.heap.size) := World.block_lt_of_cell? _ _ e0
    refine (specSolve_any _ st _ HM2.out.at).mono ?_
    rintro e w3 ⟨u, rfl, hu, hb3⟩
    have hgl : Hid ((solveF st).2.2.length ≤ 45) := by
      unfold solveF
      split
      · rename_i e
        exact solveP_len (right_of_ok e.1).so (pz_ok st)
      · exact Nat.zero_le _
    obtain ⟨bo, cc, xs, hxs⟩ : ∃ bo cc xs, solveF st = (bo, cc, xs) := ⟨_, _, _, rfl⟩
    rw [hxs] at hgl hu ⊢
    simp only at hgl hu ⊢
    have HXS := hide hxs
    obtain ⟨ua, uc, rfl⟩ := hu.form
    replace e0 := cell_later hb3 e0
    replace e1 := cell_later hb3 e1
    replace e2 := cell_later hb3 e2
    have HB3 := hide (below_tail HB2.out hb3)
    have HWS : Hid (w.heap.size < w3.heap.size) := Nat.lt_of_lt_of_le HWS2.out hb3.size
    have HU := hide hu
    clear hb3 HM2 hu hxs
    obtain ⟨V3, hV3⟩ : ∃ V3, V3 = w3.alloc (.cells #[.bool bo, .int .i64 cc, .slice ua xs.length uc] 41) := ⟨_, rfl⟩
    have hb3 : Below w3.heap.size w3 V3 := by rw [hV3]; exact Joins.below_alloc1 _ _
    have hy : V3.heap[w3.heap.size]? = some (.cells #[.bool bo, .int .i64 cc, .slice ua xs.length uc] 41 (0, 0)) := by rw [hV3]; exact heap_alloc_new _ _
    have hsV : V3.heap.size = w3.heap.size + 1 := by rw [hV3]; simp
    obtain ⟨y0, y1, y2, _⟩ := block3 hy
    replace e0 := cell_later hb3 e0
    replace e1 := cell_later hb3 e1
    replace e2 := cell_later hb3 e2
    have HV3 := hide hV3
    rw [hV3] at e0 e1 e2 y0 y1 y2
    have HSV := hide hsV
    have HW3 := hide HWS.out
    have HB3V := hide (below_tail HB3.out hb3)
    have HUV := hide (HU.out.below hb3)
    clear hb3 hy hsV hV3
    go_wp2_with fail
    rw [← HV3.out] at e0 e1 e2 y0 y1 y2 ⊢
    refine (toState_small _ st _ (HA.out.at_.below HB3V.out) HSM.out).mono ?_
    rintro e w4 ⟨rfl, hm4, hz4, hb4⟩
    replace e0 := cell_later hb4 e0
    replace e1 := cell_later hb4 e1
    replace e2 := cell_later hb4 e2
    replace y0 := cell_later hb4 y0
    replace y1 := cell_later hb4 y1
    replace y2 := cell_later hb4 y2
    have HZ4 := hide hz4
    have H34 := hide hb4
    have HM4 := hide hm4
    clear hb4 hm4 hz4
    unfold stVal
    go_wp2_with fail
    obtain ⟨V4, hV4⟩ : ∃ V4, V4 = w4.alloc (.cells #[.slice (some ⟨V3.heap.size + 3, 0, none⟩) st.1.length st.1.length, .slice (some ⟨V3.heap.size + 4, 0, none⟩) st.2.1.length st.2.1.length, .slice (some ⟨V3.heap.size + 5 + 4 * st.2.1.length, 0, none⟩) st.2.2.length st.2.2.length] 30) := ⟨_, rfl⟩
    rw [← hV4]
    have hbV : Below w4.heap.size w4 V4 := by rw [hV4]; exact Joins.below_alloc1 _ _
    have hxb : V4.heap[w4.heap.size]? = some (.cells #[.slice (some ⟨V3.heap.size + 3, 0, none⟩) st.1.length st.1.length, .slice (some ⟨V3.heap.size + 4, 0, none⟩) st.2.1.length st.2.1.length, .slice (some ⟨V3.heap.size + 5 + 4 * st.2.1.length, 0, none⟩) st.2.2.length st.2.2.length] 30 (0, 0)) := by rw [hV4]; exact heap_alloc_new _ _
    obtain ⟨x0, x1, x2, _⟩ := block3 hxb
    have HXB4 : Hid (w4.heap.size < V4.heap.size) := (Array.getElem?_eq_some_iff.1 hxb).1
    clear hV4 hxb
    replace e0 := cell_later hbV e0
    replace e1 := cell_later hbV e1
    replace e2 := cell_later hbV e2
    replace y0 := cell_later hbV y0
    replace y1 := cell_later hbV y1
    replace y2 := cell_later hbV y2
    have H3V := hide (below_tail H34.out hbV)
    have HMV := hide (HM4.out.below hbV)
    have HZV : Hid (V3.heap.size + 6 + 4 * st.2.1.length ≤ w4.heap.size) := show _ ≤ _ by rw [← HZ4.out]; exact Nat.le_refl _
    clear hbV HM4 H34
    refine (implSolve_any _ st _ HMV.out.at HMV.out.cap (fun i hi => by have := HSM.out.pl i hi; omega)).mono ?_
    rintro e w5 ⟨g, rfl, hg, hb5⟩
    rw [HXS.out] at hg ⊢
    simp only at hg ⊢
    obtain ⟨ga, gc, rfl, hgF, hgA⟩ := hg.ownF
    have HGA := hide hgA
    replace e0 := cell_later hb5 e0
    replace e1 := cell_later hb5 e1
    replace e2 := cell_later hb5 e2
    replace y0 := cell_later hb5 y0
    replace y1 := cell_later hb5 y1
    replace y2 := cell_later hb5 y2
    replace x0 := cell_later hb5 x0
    replace x1 := cell_later hb5 x1
    replace x2 := cell_later hb5 x2
    have H35 := hide (below_tail H3V.out hb5)
    have HM5 := hide (HMV.out.below hb5)
    have hs5 := hb5.size
    have HG5 := hide hgF
    clear hb5 HMV H3V hg hgF hgA
    have hbg := Joins.below_alloc1 w5 (.cells #[.bool bo, .int .i64 cc, .slice ga xs.length gc] 41)
    replace e0 := cell_later hbg e0
    replace e1 := cell_later hbg e1
    replace e2 := cell_later hbg e2
    replace y0 := cell_later hbg y0
    replace y1 := cell_later hbg y1
    replace y2 := cell_later hbg y2
    replace x0 := cell_later hbg x0
    replace x1 := cell_later hbg x1
    replace x2 := cell_later hbg x2
    have hzb : (w5.alloc (.cells #[.bool bo, .int .i64 cc, .slice ga xs.length gc] 41)).heap[w5.heap.size]? = some (.cells #[.bool bo, .int .i64 cc, .slice ga xs.length gc] 41 (0, 0)) := heap_alloc_new _ _
    obtain ⟨z0, z1, z2, _⟩ := block3 hzb
    have HEU := hide (OwnInts.at (HUV.out.below (below_tail H35.out hbg)))
    have HG5' := hide (HG5.out.below hbg)
    have H35' := hide (below_tail H35.out hbg)
    have HM5' := hide (HM5.out.below hbg)
    have HGS : Hid (w5.heap.size < (w5.alloc (.cells #[.bool bo, .int .i64 cc, .slice ga xs.length gc] 41)).heap.size) := (Array.getElem?_eq_some_iff.1 hzb).1
    clear hzb hbg
    go_wp2_with fail
    generalize w5.alloc (.cells #[.bool bo, .int .i64 cc, .slice ga xs.length gc] 41) = V5 at *
    refine (eqBest_true bo cc _ _ xs _ (HG5'.out.at (fun _ _ => rfl)) HEU.out (by have := hgl.out; omega)).mono ?_
    rintro e w6 ⟨rfl, hb6⟩
    replace e0 := cell_later hb6 e0
    replace e1 := cell_later hb6 e1
    replace e2 := cell_later hb6 e2
    replace y0 := cell_later hb6 y0
    replace y1 := cell_later hb6 y1
    replace y2 := cell_later hb6 y2
    replace x0 := cell_later hb6 x0
    replace x1 := cell_later hb6 x1
    replace x2 := cell_later hb6 x2
    replace z0 := cell_later hb6 z0
    replace z1 := cell_later hb6 z1
    replace z2 := cell_later hb6 z2
    have H36 := hide (below_tail H35'.out hb6)
    have HM6 := hide (HM5'.out.below hb6)
    have HG6 := hide (HG5'.out.below hb6)
    have HA6 := hide (below_tail HB3V.out H36.out)
    have HS6 : Hid (w5.heap.size < w6.heap.size) := Nat.lt_of_lt_of_le HGS.out hb6.size
    clear hb6 HM5 H35 HG5 HEU
    go_wp2_with fail
    go_region_held3 (fun w' => w'.cell? ⟨w.heap.size, 0, none⟩ = some (.slice a1 st.1.length q1) ∧ w'.cell? ⟨w.heap.size, 1, none⟩ = some (.slice a2 st.2.1.length q2) ∧ w'.cell? ⟨w.heap.size, 2, none⟩ = some (.slice a3 st.2.2.length q3) ∧ w'.cell? ⟨w4.heap.size, 0, none⟩ = some (.slice (some ⟨V3.heap.size + 3, 0, none⟩) st.1.length st.1.length) ∧ w'.cell? ⟨w4.heap.size, 1, none⟩ = some (.slice (some ⟨V3.heap.size + 4, 0, none⟩) st.2.1.length st.2.1.length) ∧ w'.cell? ⟨w4.heap.size, 2, none⟩ = some (.slice (some ⟨V3.heap.size + 5 + 4 * st.2.1.length, 0, none⟩) st.2.2.length st.2.2.length))
      (first | (exact ⟨cell_later hb8 (cell_later hb7 (by exact e0)), cell_later hb8 (cell_later hb7 (by exact e1)), cell_later hb8 (cell_later hb7 (by exact e2)), cell_later hb8 (cell_later hb7 (by exact x0)), cell_later hb8 (cell_later hb7 (by exact x1)), cell_later hb8 (cell_later hb7 (by exact x2))⟩) | (exact ⟨cell_later hb7 (by exact e0), cell_later hb7 (by exact e1), cell_later hb7 (by exact e2), cell_later hb7 (by exact x0), cell_later hb7 (by exact x1), cell_later hb7 (by exact x2)⟩) | go_keep)
      (first | (go_at_call 13; refine (toState_small _ st _ ?_ HSM.out).mono ?_; exact (HA.out.at_.below HA6.out.drew); rintro e w7 ⟨rfl, hm7, hz7, hb7⟩) | (go_at_call 15; refine (eqState_small _ _ st _ ?_ ?_ HSM.out).mono ?_; exact (HM6.out.below (below_tail (Joins.below_draws _ _ 1) hb7)).at; exact hm7.at; rintro e w8 ⟨rfl, hb8⟩))
    all_goals
      have hb68 := below_tail (below_tail (Joins.below_draws w6.heap.size w6 1) hb7) hb8
      clear hb7 hb8 hm7 hz7
      have H38 := hide (below_tail H36.out hb68)
      have HM8 := hide (HM6.out.below hb68)
      have HG8 := hide (HG6.out.below hb68)
      have HS8 : Hid (w5.heap.size < w8.heap.size) := Nat.lt_of_lt_of_le HS6.out hb68.size
      replace e0 := cell_later hb68 e0
      replace e1 := cell_later hb68 e1
      replace e2 := cell_later hb68 e2
      replace y0 := cell_later hb68 y0
      replace y1 := cell_later hb68 y1
      replace y2 := cell_later hb68 y2
      replace x0 := cell_later hb68 x0
      replace x1 := cell_later hb68 x1
      replace x2 := cell_later hb68 x2
      replace z0 := cell_later hb68 z0
      replace z1 := cell_later hb68 z1
      replace z2 := cell_later hb68 z2
      clear hb68
      go_wp2_with fail
      refine (markState_own (madeL V3.heap.size st) st _ HM8.out.own HSM.out).mono ?_
      rintro e w9 ⟨rfl, _, hC⟩
      have hFu : ∀ k, (madeL V3.heap.size st).F st.2.1.length k → V3.heap.size ≤ k ∧ k < w4.heap.size := fun k hf => by
        have u1 := madeL_F hf
        have u3 := HZV.out
        omega
      have hB89 : Below V3.heap.size w8 w9 := hC.below H38.out.size (fun k hk hf => by have := (hFu k hf).1; omega)
      have H39 := hide (H38.out.trans hB89)
      have HG9 := hide (HG8.out.chg hC (fun k hk hf => by
        have u1 := (hFu k hf).2
        have u2 := (HGA.out k hk).1
        have u3 := HXB4.out
        omega))
      have hzz : ∀ o, w9.cell? ⟨w5.heap.size, o, none⟩ = w8.cell? ⟨w5.heap.size, o, none⟩ := fun o => by
        have h1 := hC.block w5.heap.size HS8.out (fun hf => by
          have u1 := (hFu _ hf).2
          have u3 := HXB4.out
          omega)
        unfold World.cell?
        simp only
        rw [h1]
      replace z0 := (hzz 0).trans z0
      replace z1 := (hzz 1).trans z1
      replace z2 := (hzz 2).trans z2
      have hVw : w.heap.size < V3.heap.size := by have := HW3.out; have := HSV.out; omega
      have hVu : w3.heap.size < V3.heap.size := by have := HSV.out; omega
      replace e0 := (hB89.cell (p := ⟨w.heap.size, 0, none⟩) hVw).trans e0
      replace e1 := (hB89.cell (p := ⟨w.heap.size, 1, none⟩) hVw).trans e1
      replace e2 := (hB89.cell (p := ⟨w.heap.size, 2, none⟩) hVw).trans e2
      replace y0 := (hB89.cell (p := ⟨w3.heap.size, 0, none⟩) hVu).trans y0
      replace y1 := (hB89.cell (p := ⟨w3.heap.size, 1, none⟩) hVu).trans y1
      replace y2 := (hB89.cell (p := ⟨w3.heap.size, 2, none⟩) hVu).trans y2
      have ht := (total_le HSM.out).1
      generalize total 1 st = tt at *
      have htb : decide (tt < 0) = false := by simp; omega
      have HS9 : Hid (w5.heap.size < w9.heap.size) := Nat.lt_of_lt_of_le HS8.out hC.size
      have HEU := hide (OwnInts.at (HUV.out.below H39.out))
      have hl5 := hgl.out
      clear hC hB89 HG8 HM8 H38 HM6 HG6 H36 x0 x1 x2 hFu hzz
      go_wp2_with fail
      refine (eqBest_true bo cc _ _ xs _ (HG9.out.at (fun _ _ => rfl)) HEU.out (by omega)).mono ?_
      rintro e w10 ⟨rfl, hb10⟩
      have H310 := hide (below_tail H39.out hb10)
      have HG10 := hide (HG9.out.below hb10)
      have HS10 : Hid (w5.heap.size < w10.heap.size) := Nat.lt_of_lt_of_le HS9.out hb10.size
      replace e0 := cell_later hb10 e0
      replace e1 := cell_later hb10 e1
      replace e2 := cell_later hb10 e2
      replace y0 := cell_later hb10 y0
      replace y1 := cell_later hb10 y1
      replace y2 := cell_later hb10 y2
      replace z0 := cell_later hb10 z0
      replace z1 := cell_later hb10 z1
      replace z2 := cell_later hb10 z2
      clear hb10 HG9 H39 HEU
      go_wp2_with fail
      refine (markBest_own bo cc _ _ _ _ _ _ HG10.out (by omega) (by omega) (by omega) (fun k hk => by have := (HGA.out k hk).2; have := HS10.out; omega)).mono ?_
      rintro e w11 ⟨rfl, hF11, hC11⟩
      have hFg : ∀ k, FA ga k → V4.heap.size ≤ k ∧ k < w5.heap.size := fun k hk => HGA.out k hk
      have hB11 : Below V3.heap.size w10 w11 := hC11.below H310.out.size (fun k hk hf => by
        have u1 := (hFg k hf).1
        have u3 := HXB4.out
        have u4 := HZV.out
        omega)
      have H311 := hide (H310.out.trans hB11)
      have hzz : ∀ o, w11.cell? ⟨w5.heap.size, o, none⟩ = w10.cell? ⟨w5.heap.size, o, none⟩ := fun o => by
        have h1 := hC11.block w5.heap.size HS10.out (fun hf => by
          have u1 := (hFg _ hf).2
          omega)
        unfold World.cell?
        simp only
        rw [h1]
      replace z0 := (hzz 0).trans z0
      replace z1 := (hzz 1).trans z1
      replace z2 := (hzz 2).trans z2
      replace e0 := (hB11.cell (p := ⟨w.heap.size, 0, none⟩) hVw).trans e0
      replace e1 := (hB11.cell (p := ⟨w.heap.size, 1, none⟩) hVw).trans e1
      replace e2 := (hB11.cell (p := ⟨w.heap.size, 2, none⟩) hVw).trans e2
      replace y0 := (hB11.cell (p := ⟨w3.heap.size, 0, none⟩) hVu).trans y0
      replace y1 := (hB11.cell (p := ⟨w3.heap.size, 1, none⟩) hVu).trans y1
      replace y2 := (hB11.cell (p := ⟨w3.heap.size, 2, none⟩) hVu).trans y2
      have HF11 := hide hF11
      have HS11 : Hid (w5.heap.size < w11.heap.size) := Nat.lt_of_lt_of_le HS10.out hC11.size
      clear hF11 hC11 hB11 HG10 H310 hFg hzz
      go_wp2_with fail
      refine (heldBest_own bo cc _ _ _ _ _ HF11.out (by omega) (by omega) (by omega)).mono ?_
      rintro e wh ⟨rfl, hbh⟩
      have hcn : ((1 + (xs.length : Int)) != (1 + (xs.length : Int))) = false := by simp
      have hcd : decide ((1 + (xs.length : Int)) < 0) = false := by simp; omega
      have H3h := hide (below_tail H311.out hbh)
      have HFh := hide (HF11.out.below hbh)
      replace e0 := cell_later hbh e0
      replace e1 := cell_later hbh e1
      replace e2 := cell_later hbh e2
      replace y0 := cell_later hbh y0
      replace y1 := cell_later hbh y1
      replace y2 := cell_later hbh y2
      replace z0 := cell_later hbh z0
      replace z1 := cell_later hbh z1
      replace z2 := cell_later hbh z2
      have HAh := hide (below_tail HB3V.out H3h.out)
      clear hbh HF11 H311
      go_wp2_with fail
      refine (toState_small _ st _ (HA.out.at_.below HAh.out) HSM.out).mono ?_
      rintro e w12 ⟨rfl, hm12, hz12, hb12⟩
      have H312 := hide (below_tail H3h.out hb12)
      have HF12 := hide (HFh.out.below hb12)
      have HM12 := hide hm12
      replace y0 := cell_later hb12 y0
      replace y1 := cell_later hb12 y1
      replace y2 := cell_later hb12 y2
      replace z0 := cell_later hb12 z0
      replace z1 := cell_later hb12 z1
      replace z2 := cell_later hb12 z2
      clear hm12 hz12 hb12 e0 e1 e2
      go_wp2_with fail
      refine (implSolve_any _ st _ HM12.out.at HM12.out.cap (fun i hi => by have := HSM.out.pl i hi; omega)).mono ?_
      rintro e w13 ⟨hh, rfl, hh1, hb13⟩
      rw [HXS.out] at hh1 ⊢
      simp only at hh1 ⊢
      obtain ⟨ha', hc', rfl⟩ := hh1.form
      have hb14 := below_tail hb13 (Joins.below_alloc1 w13 (.cells #[.bool bo, .int .i64 cc, .slice ha' xs.length hc'] 41))
      have H313 := hide (below_tail H312.out hb14)
      have HF13 := hide (HF12.out.below hb14)
      have HH13 := hide (hh1.at.below (Joins.below_alloc1 w13 (.cells #[.bool bo, .int .i64 cc, .slice ha' xs.length hc'] 41)))
      have HEU := hide (OwnInts.at (HUV.out.below H313.out))
      replace y0 := cell_later hb14 y0
      replace y1 := cell_later hb14 y1
      replace y2 := cell_later hb14 y2
      replace z0 := cell_later hb14 z0
      replace z1 := cell_later hb14 z1
      replace z2 := cell_later hb14 z2
      clear hh1 hb13 hb14
      go_wp2_with fail
      refine (eqBest_true bo cc _ _ xs _ HH13.out HEU.out (by omega)).mono ?_
      rintro e w15 ⟨rfl, hb15⟩
      have H315 := hide (below_tail H313.out hb15)
      have HF15 := hide (HF13.out.below hb15)
      replace z0 := cell_later hb15 z0
      replace z1 := cell_later hb15 z1
      replace z2 := cell_later hb15 z2
      clear hb15 y0 y1 y2
      go_wp2_with fail
      refine (heldBest_own bo cc _ _ _ _ _ HF15.out (by omega) (by omega) (by omega)).mono ?_
      rintro e w16 ⟨rfl, hb16⟩
      have H316 := hide (below_tail H315.out hb16)
      clear hb16
      go_wp2_with fail
      go_ret
      exact ⟨rfl, below_tail HB3V.out H316.out⟩
end Go.Proofs.Ytiifdeepamajfab
