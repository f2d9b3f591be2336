/-
  laws.FnExactStep: the walk.
-/
import Derived.Test.YtmjjigdnoiphbaaW27
import Derived.Test.YtmjjigdnoiphbaaW20
import Derived.Deep.RegionHeld3
namespace Go.Proofs.Ytmjjigdnoiphbaa
open Go.RowKit Go.Deep
set_option linter.unusedVariables false

theorem tPath_map (n : Nat) (f : Nat → Tr) (i : Nat) (hi : i < n) : tPath ((List.range n).map f) i = (f i).2.1 := by simp [tPath, hi]

theorem stepSt_small {st : St} {m : Nat} (hs : SmallSt st) (hm : m < st.2.1.length) (hn : st.2.2.length = st.2.1.length) : SmallSt (stepSt st m) := by
  have h1 := hs.rl
  have h2 := hs.tl
  have h3 := hs.nl
  by_cases e : (tPath st.2.1 m).length = 0
  · rw [stepSt_out e hm hn]
    refine ⟨h1, by simp; omega, by simp; omega, fun i hi => ?_⟩
    simp only [List.length_map, List.length_range] at hi
    rw [tPath_map _ _ _ hi]
    exact hs.pl (skip m i) (by unfold skip; split <;> omega)
  · rw [stepSt_go e hn]
    refine ⟨h1, by simp; omega, by simp; omega, fun i hi => ?_⟩
    simp only [List.length_map, List.length_range] at hi
    rw [tPath_map _ _ _ hi]
    have := hs.pl i hi
    unfold fT
    split
    · simp only [List.length_tail]; omega
    · exact this

theorem stepF_small {st : St} {x : Int} (hs : SmallSt st) : SmallSt (stepF st x) := by
  have hnil : SmallSt ([], [], []) := ⟨by simp, by simp, by simp, fun i hi => by simp at hi⟩
  by_cases hok : stOk st = 0
  · obtain ⟨l1, l2, l3, l4⟩ := (right_of_ok hok).lens
    have HF : stepF st x = bif (decide (nameIx st.2.2 x < st.2.2.length) && canB st (nameIx st.2.2 x)) then stepSt st (nameIx st.2.2 x) else ([], [], []) := by simp [stepF, hok]
    rw [HF]
    by_cases hix : nameIx st.2.2 x < st.2.2.length
    · cases hc : canB st (nameIx st.2.2 x) with
      | true => simp [hix]; exact stepSt_small hs (by omega) (by omega)
      | false => simp; exact hnil
    · simp [hix]; exact hnil
  · have : stepF st x = ([], [], []) := by simp [stepF, hok]
    rw [this]; exact hnil

set_option maxHeartbeats 8000000 in
theorem fnExactStep_walk (v : Value) (st : St) (x : Int) (w : World) (h : ArgSt w v st) :
    Calls Try.prog 11 #[v, .int .i64 x] w fun e w' => e = .returned (.bool true) ∧ Below w.heap.size w w' := by
  have HA := hide h
  obtain ⟨a1, q1, a2, q2, a3, q3, rfl⟩ := h.at_.form
  clear h
  go_enter Try.func11, Try.ntmps11
  go_wp2_with fail
  obtain ⟨U, hU⟩ : ∃ U, U = w.alloc (.cells #[.slice a1 st.1.length q1, .slice a2 st.2.1.length q2, .slice a3 st.2.2.length q3] 45) := ⟨_, rfl⟩
  rw [← hU]
  have c0 : U.cell? ⟨w.heap.size, 0, none⟩ = some (.slice a1 st.1.length q1) := by rw [hU]; simp
  have c1 : U.cell? ⟨w.heap.size, 1, none⟩ = some (.slice a2 st.2.1.length q2) := by rw [hU]; simp
  have c2 : U.cell? ⟨w.heap.size, 2, none⟩ = some (.slice a3 st.2.2.length q3) := by rw [hU]; simp
  have hbU : Below w.heap.size w U := by rw [hU]; exact Joins.below_alloc1 _ _
  clear hU
  refine (szState_arg _ st _ (HA.out.at_.below hbU) HA.out).mono ?_
  rintro e w1 ⟨r, rfl, hr, hb1⟩
  have d0 := cell_later hb1 c0
  have d1 := cell_later hb1 c1
  have d2 := cell_later hb1 c2
  have HB1 := hide (below_tail hbU hb1)
  clear hb1 hbU c0 c1 c2
  by_cases hneg : r < 0
  · go_wp2_with fail
    go_ret
    exact ⟨rfl, HB1.out⟩
  · rcases hr with hr | ⟨hr0, hsm⟩
    · exact absurd hr hneg
    have HSM := hide hsm
    have hnegb : decide (r < 0) = false := by simpa using hneg
    clear hsm hneg
    go_wp2_with fail
    refine (toState_small _ st _ (HA.out.at_.below HB1.out) HSM.out).mono ?_
    rintro e w2 ⟨rfl, hm2, hz2, hb2⟩
    have e0 := cell_later hb2 d0
    have e1 := cell_later hb2 d1
    have e2 := cell_later hb2 d2
    have HB2 := hide (below_tail HB1.out hb2)
    have HM2 := hide hm2
    clear hz2 hb2 d0 d1 d2 hm2
    go_wp2_with fail
    refine (specStep_any _ st x _ HM2.out.at).mono ?_
    rintro e w3 ⟨u, rfl, hu, hb3⟩
    obtain ⟨f1, k1, f2, k2, f3, k3, rfl⟩ := hu.form
    replace e0 := cell_later hb3 e0
    replace e1 := cell_later hb3 e1
    replace e2 := cell_later hb3 e2
    have HB3 := hide (below_tail HB2.out hb3)
    have HU := hide hu
    have HSF := hide (stepF_small (x := x) HSM.out)
    clear hb3 HM2 hu
    generalize hsf : stepF st x = sf at *
    have HXS := hide hsf
    clear hsf
    have hne : w.heap.size < w3.heap.size := World.block_lt_of_cell? _ _ e0
    go_wp2_with fail
    obtain ⟨W, hW⟩ : ∃ W, W = w3.alloc (.cells #[.slice f1 sf.1.length k1, .slice f2 sf.2.1.length k2, .slice f3 sf.2.2.length k3] 26) := ⟨_, rfl⟩
    rw [← hW]
    have y0 : W.cell? ⟨w3.heap.size, 0, none⟩ = some (.slice f1 sf.1.length k1) := by rw [hW]; simp
    have y1 : W.cell? ⟨w3.heap.size, 1, none⟩ = some (.slice f2 sf.2.1.length k2) := by rw [hW]; simp
    have y2 : W.cell? ⟨w3.heap.size, 2, none⟩ = some (.slice f3 sf.2.2.length k3) := by rw [hW]; simp
    have hbW : Below w3.heap.size w3 W := by rw [hW]; exact Joins.below_alloc1 _ _
    clear hW
    replace e0 := cell_later hbW e0
    replace e1 := cell_later hbW e1
    replace e2 := cell_later hbW e2
    have HUW := hide (HU.out.below hbW)
    have HBW := hide (below_tail HB3.out hbW)
    have HW3 : Hid (w.heap.size < W.heap.size) := World.block_lt_of_cell? _ _ e0
    have HY3 : Hid (w3.heap.size < W.heap.size) := World.block_lt_of_cell? _ _ y0
    clear hbW HB3 HU
    refine (toState_small _ st _ (HA.out.at_.below HBW.out) HSM.out).mono ?_
    rintro e w4 ⟨rfl, hm4, hz4, hb4⟩
    replace e0 := cell_later hb4 e0
    replace e1 := cell_later hb4 e1
    replace e2 := cell_later hb4 e2
    replace y0 := cell_later hb4 y0
    replace y1 := cell_later hb4 y1
    replace y2 := cell_later hb4 y2
    have HZ4 := hide hz4
    have H34 := hide hb4
    have HM4 := hide hm4
    clear hb4 hm4 hz4
    unfold stVal
    go_wp2_with fail
    obtain ⟨V, hV⟩ : ∃ V, V = w4.alloc (.cells #[.slice (some ⟨W.heap.size + 3, 0, none⟩) st.1.length st.1.length, .slice (some ⟨W.heap.size + 4, 0, none⟩) st.2.1.length st.2.1.length, .slice (some ⟨W.heap.size + 5 + 4 * st.2.1.length, 0, none⟩) st.2.2.length st.2.2.length] 26) := ⟨_, rfl⟩
    rw [← hV]
    have x0 : V.cell? ⟨w4.heap.size, 0, none⟩ = some (.slice (some ⟨W.heap.size + 3, 0, none⟩) st.1.length st.1.length) := by rw [hV]; simp
    have x1 : V.cell? ⟨w4.heap.size, 1, none⟩ = some (.slice (some ⟨W.heap.size + 4, 0, none⟩) st.2.1.length st.2.1.length) := by rw [hV]; simp
    have x2 : V.cell? ⟨w4.heap.size, 2, none⟩ = some (.slice (some ⟨W.heap.size + 5 + 4 * st.2.1.length, 0, none⟩) st.2.2.length st.2.2.length) := by rw [hV]; simp
    have hbV : Below w4.heap.size w4 V := by rw [hV]; exact Joins.below_alloc1 _ _
    clear hV
    replace e0 := cell_later hbV e0
    replace e1 := cell_later hbV e1
    replace e2 := cell_later hbV e2
    replace y0 := cell_later hbV y0
    replace y1 := cell_later hbV y1
    replace y2 := cell_later hbV y2
    have H3V := hide (below_tail H34.out hbV)
    have HMV := hide (HM4.out.below hbV)
    have HZV : Hid (W.heap.size + 6 + 4 * st.2.1.length ≤ V.heap.size) := show _ ≤ _ by rw [← HZ4.out]; exact hbV.size
    clear hbV HM4 H34
    refine (implStep_any _ st x _ HMV.out.at HMV.out.cap (fun i hi => by have := HSM.out.pl i hi; omega)).mono ?_
    rintro e w5 ⟨L, rfl, hg, hgA, hb5⟩
    rw [HXS.out] at hg hgA ⊢
    have HGA := hide hgA
    replace e0 := cell_later hb5 e0
    replace e1 := cell_later hb5 e1
    replace e2 := cell_later hb5 e2
    replace y0 := cell_later hb5 y0
    replace y1 := cell_later hb5 y1
    replace y2 := cell_later hb5 y2
    replace x0 := cell_later hb5 x0
    replace x1 := cell_later hb5 x1
    replace x2 := cell_later hb5 x2
    have H35 := hide (below_tail H3V.out hb5)
    have HM5 := hide (HMV.out.below hb5)
    have HG5 := hide hg
    have hLlt := hg.apart.lt
    have HV5 := hide hb5.size
    have HX45 : Hid (w4.heap.size < w5.heap.size) := World.block_lt_of_cell? _ _ x0
    have hne5 : w3.heap.size < w5.heap.size := World.block_lt_of_cell? _ _ y0
    clear hb5 HMV H3V hg hgA hne
    unfold Lies.val
    go_wp2_with fail
    obtain ⟨Q, hQ⟩ : ∃ Q, Q = w5.alloc (.cells #[.slice L.ra sf.1.length L.rc, .slice L.ta sf.2.1.length L.tc, .slice L.na sf.2.2.length L.nc] 26) := ⟨_, rfl⟩
    rw [← hQ]
    have g0 : Q.cell? ⟨w5.heap.size, 0, none⟩ = some (.slice L.ra sf.1.length L.rc) := by rw [hQ]; simp
    have g1 : Q.cell? ⟨w5.heap.size, 1, none⟩ = some (.slice L.ta sf.2.1.length L.tc) := by rw [hQ]; simp
    have g2 : Q.cell? ⟨w5.heap.size, 2, none⟩ = some (.slice L.na sf.2.2.length L.nc) := by rw [hQ]; simp
    have hbQ : Below w5.heap.size w5 Q := by rw [hQ]; exact Joins.below_alloc1 _ _
    clear hQ
    replace e0 := cell_later hbQ e0
    replace e1 := cell_later hbQ e1
    replace e2 := cell_later hbQ e2
    replace y0 := cell_later hbQ y0
    replace y1 := cell_later hbQ y1
    replace y2 := cell_later hbQ y2
    replace x0 := cell_later hbQ x0
    replace x1 := cell_later hbQ x1
    replace x2 := cell_later hbQ x2
    have H3Q := hide (below_tail H35.out hbQ)
    have HMQ := hide (HM5.out.below hbQ)
    have HGQ := hide (HG5.out.below hbQ)
    have HEU := hide (HUW.out.below H3Q.out)
    have HLT := hide hLlt
    have HV5' : Hid (V.heap.size ≤ Q.heap.size) := Nat.le_trans HV5.out hbQ.size
    have HN8 : Hid (∀ k, L.F sf.2.1.length k → k ≠ w5.heap.size) := fun k hk e => by have := HLT.out k hk; omega
    have HN7 : Hid (∀ k, L.F sf.2.1.length k → W.heap.size + 6 + 4 * st.2.1.length ≤ k) := fun k hk => Nat.le_trans HZV.out (HGA.out k hk)
    have HX7 : Hid (w4.heap.size < Q.heap.size) := World.block_lt_of_cell? _ _ x0
    have HX8 : Hid (w5.heap.size < Q.heap.size) := World.block_lt_of_cell? _ _ g0
    clear hbQ HM5 HG5 H35 hLlt HV5
    refine (eqState_small _ _ sf _ HGQ.out.at HEU.out HSF.out).mono ?_
    rintro e w6 ⟨rfl, hb6⟩
    replace e0 := cell_later hb6 e0
    replace e1 := cell_later hb6 e1
    replace e2 := cell_later hb6 e2
    replace y0 := cell_later hb6 y0
    replace y1 := cell_later hb6 y1
    replace y2 := cell_later hb6 y2
    replace x0 := cell_later hb6 x0
    replace x1 := cell_later hb6 x1
    replace x2 := cell_later hb6 x2
    replace g0 := cell_later hb6 g0
    replace g1 := cell_later hb6 g1
    replace g2 := cell_later hb6 g2
    have H36 := hide (below_tail H3Q.out hb6)
    have HM6 := hide (HMQ.out.below hb6)
    have HG6 := hide (HGQ.out.below hb6)
    have HA6 := hide (below_tail HBW.out H36.out)
    have HZ6 := hide hb6.size
    clear hb6 HMQ H3Q HGQ HEU
    go_wp2_with fail
    go_region_held3 (fun w' => w'.cell? ⟨w.heap.size, 0, none⟩ = some (.slice a1 st.1.length q1) ∧ w'.cell? ⟨w.heap.size, 1, none⟩ = some (.slice a2 st.2.1.length q2) ∧ w'.cell? ⟨w.heap.size, 2, none⟩ = some (.slice a3 st.2.2.length q3) ∧ w'.cell? ⟨w4.heap.size, 0, none⟩ = some (.slice (some ⟨W.heap.size + 3, 0, none⟩) st.1.length st.1.length) ∧ w'.cell? ⟨w4.heap.size, 1, none⟩ = some (.slice (some ⟨W.heap.size + 4, 0, none⟩) st.2.1.length st.2.1.length) ∧ w'.cell? ⟨w4.heap.size, 2, none⟩ = some (.slice (some ⟨W.heap.size + 5 + 4 * st.2.1.length, 0, none⟩) st.2.2.length st.2.2.length))
      (first | (exact ⟨cell_later hb8 (cell_later hb7 (by exact e0)), cell_later hb8 (cell_later hb7 (by exact e1)), cell_later hb8 (cell_later hb7 (by exact e2)), cell_later hb8 (cell_later hb7 (by exact x0)), cell_later hb8 (cell_later hb7 (by exact x1)), cell_later hb8 (cell_later hb7 (by exact x2))⟩) | (exact ⟨cell_later hb7 (by exact e0), cell_later hb7 (by exact e1), cell_later hb7 (by exact e2), cell_later hb7 (by exact x0), cell_later hb7 (by exact x1), cell_later hb7 (by exact x2)⟩) | go_keep)
      (first | (go_at_call 34; refine (toState_small _ st _ ?_ HSM.out).mono ?_; exact (HA.out.at_.below HA6.out.drew); rintro e w7 ⟨rfl, hm7, hz7, hb7⟩) | (go_at_call 36; refine (eqState_small _ _ st _ ?_ ?_ HSM.out).mono ?_; exact (HM6.out.below (below_tail (Joins.below_draws _ _ 1) hb7)).at; exact hm7.at; rintro e w8 ⟨rfl, hb8⟩))
    all_goals
      have hb68 := below_tail (below_tail (Joins.below_draws w6.heap.size w6 1) hb7) hb8
      clear hb7 hb8 hm7 hz7
      have H38 := hide (below_tail H36.out hb68)
      have HM8 := hide (HM6.out.below hb68)
      have HG8 := hide (HG6.out.below hb68)
      have HZ8 := hide (Nat.le_trans HZ6.out hb68.size)
      replace e0 := cell_later hb68 e0
      replace e1 := cell_later hb68 e1
      replace e2 := cell_later hb68 e2
      replace y0 := cell_later hb68 y0
      replace y1 := cell_later hb68 y1
      replace y2 := cell_later hb68 y2
      replace x0 := cell_later hb68 x0
      replace x1 := cell_later hb68 x1
      replace x2 := cell_later hb68 x2
      replace g0 := cell_later hb68 g0
      replace g1 := cell_later hb68 g1
      replace g2 := cell_later hb68 g2
      clear hb68
      go_wp2_with fail
      refine (markState_own (madeL W.heap.size st) st _ HM8.out.own HSM.out).mono ?_
      rintro e w9 ⟨rfl, _, hC⟩
      have hB89 : Below W.heap.size w8 w9 := hC.below H38.out.size (fun k hk hf => by have := madeL_F hf; omega)
      have H39 := hide (H38.out.trans hB89)
      have HG9 := hide (HG8.out.keep hC.size (fun k hk hk' => hC.block k hk (fun hf => by
        have u1 := madeL_F hf
        have u2 := HN7.out k hk'
        omega)))
      have HZ9 := hide (Nat.le_trans HZ8.out hC.size)
      have hQ9 := hC.block w5.heap.size (Nat.lt_of_lt_of_le HX8.out HZ8.out) (fun hf => by
        have u1 := madeL_F hf
        have u2 := HX45.out
        have u3 := HZ4.out
        omega)
      replace g0 := (World.cell?_of_block (a := ⟨w5.heap.size, 0, none⟩) hQ9).trans g0
      replace g1 := (World.cell?_of_block (a := ⟨w5.heap.size, 1, none⟩) hQ9).trans g1
      replace g2 := (World.cell?_of_block (a := ⟨w5.heap.size, 2, none⟩) hQ9).trans g2
      replace e0 := (hB89.cell (p := ⟨w.heap.size, 0, none⟩) HW3.out).trans e0
      replace e1 := (hB89.cell (p := ⟨w.heap.size, 1, none⟩) HW3.out).trans e1
      replace e2 := (hB89.cell (p := ⟨w.heap.size, 2, none⟩) HW3.out).trans e2
      replace y0 := (hB89.cell (p := ⟨w3.heap.size, 0, none⟩) HY3.out).trans y0
      replace y1 := (hB89.cell (p := ⟨w3.heap.size, 1, none⟩) HY3.out).trans y1
      replace y2 := (hB89.cell (p := ⟨w3.heap.size, 2, none⟩) HY3.out).trans y2
      have ht := (total_le HSM.out).1
      generalize total 1 st = tt at *
      have htb : decide (tt < 0) = false := by simp; omega
      have HEU := hide (HUW.out.below H39.out)
      clear hC hB89 HG8 HM8 HZ8 H38 HM6 HG6 HZ6 H36 x0 x1 x2 hQ9
      go_wp2_with fail
      refine (eqState_small _ _ sf _ HG9.out.at HEU.out HSF.out).mono ?_
      rintro e w10 ⟨rfl, hb10⟩
      have H310 := hide (below_tail H39.out hb10)
      have HG10 := hide (HG9.out.below hb10)
      have HZ10 := hide (Nat.le_trans HZ9.out hb10.size)
      replace e0 := cell_later hb10 e0
      replace e1 := cell_later hb10 e1
      replace e2 := cell_later hb10 e2
      replace y0 := cell_later hb10 y0
      replace y1 := cell_later hb10 y1
      replace y2 := cell_later hb10 y2
      replace g0 := cell_later hb10 g0
      replace g1 := cell_later hb10 g1
      replace g2 := cell_later hb10 g2
      clear hb10 HG9 HZ9 H39 HEU
      go_wp2_with fail
      refine (markState_own L sf _ HG10.out HSF.out).mono ?_
      rintro e w11 ⟨rfl, hF11, hC11⟩
      have hB11 : Below W.heap.size w10 w11 := hC11.below H310.out.size (fun k hk hf => by
        have u1 := HN7.out k hf
        omega)
      have H311 := hide (H310.out.trans hB11)
      have hQ11 := hC11.block w5.heap.size (Nat.lt_of_lt_of_le HX8.out HZ10.out) (fun hf => HN8.out _ hf rfl)
      replace g0 := (World.cell?_of_block (a := ⟨w5.heap.size, 0, none⟩) hQ11).trans g0
      replace g1 := (World.cell?_of_block (a := ⟨w5.heap.size, 1, none⟩) hQ11).trans g1
      replace g2 := (World.cell?_of_block (a := ⟨w5.heap.size, 2, none⟩) hQ11).trans g2
      replace e0 := (hB11.cell (p := ⟨w.heap.size, 0, none⟩) HW3.out).trans e0
      replace e1 := (hB11.cell (p := ⟨w.heap.size, 1, none⟩) HW3.out).trans e1
      replace e2 := (hB11.cell (p := ⟨w.heap.size, 2, none⟩) HW3.out).trans e2
      replace y0 := (hB11.cell (p := ⟨w3.heap.size, 0, none⟩) HY3.out).trans y0
      replace y1 := (hB11.cell (p := ⟨w3.heap.size, 1, none⟩) HY3.out).trans y1
      replace y2 := (hB11.cell (p := ⟨w3.heap.size, 2, none⟩) HY3.out).trans y2
      have HF11 := hide hF11
      clear hF11 hC11 hB11 HG10 HZ10 H310 hQ11
      have hm1 := (total_le HSF.out).1
      have HTE : Hid (total 1 sf = total 1 sf) := rfl
      generalize hmm : total 1 sf = mm at *
      have HMM := hide hmm
      clear hmm
      have hcn : (mm != mm) = false := by simp
      have hcd : decide (mm < 0) = false := by simp; omega
      go_wp2_with fail
      refine (heldState_own L sf _ HF11.out HSF.out).mono ?_
      rintro e w12 ⟨rfl, hb12⟩
      rw [HMM.out]
      have H312 := hide (below_tail H311.out hb12)
      have HF12 := hide (HF11.out.below hb12)
      have HA12 := hide (below_tail HBW.out H312.out)
      replace e0 := cell_later hb12 e0
      replace e1 := cell_later hb12 e1
      replace e2 := cell_later hb12 e2
      replace y0 := cell_later hb12 y0
      replace y1 := cell_later hb12 y1
      replace y2 := cell_later hb12 y2
      replace g0 := cell_later hb12 g0
      replace g1 := cell_later hb12 g1
      replace g2 := cell_later hb12 g2
      clear hb12 HF11 H311
      go_wp2_with fail
      refine (toState_small _ st _ (HA.out.at_.below HA12.out) HSM.out).mono ?_
      rintro e w13 ⟨rfl, hm13, hz13, hb13⟩
      have H313 := hide (below_tail H312.out hb13)
      have HF13 := hide (HF12.out.below hb13)
      have HM13 := hide hm13
      replace y0 := cell_later hb13 y0
      replace y1 := cell_later hb13 y1
      replace y2 := cell_later hb13 y2
      replace g0 := cell_later hb13 g0
      replace g1 := cell_later hb13 g1
      replace g2 := cell_later hb13 g2
      clear hm13 hz13 hb13 HF12 H312 HA12 e0 e1 e2
      go_wp2_with fail
      refine (implStep_any _ st x _ HM13.out.at HM13.out.cap (fun i hi => by have := HSM.out.pl i hi; omega)).mono ?_
      rintro e w14 ⟨L', rfl, hg', _, hb14⟩
      rw [HXS.out] at hg' ⊢
      have H314 := hide (below_tail H313.out hb14)
      have HF14 := hide (HF13.out.below hb14)
      have HG14 := hide hg'
      replace y0 := cell_later hb14 y0
      replace y1 := cell_later hb14 y1
      replace y2 := cell_later hb14 y2
      replace g0 := cell_later hb14 g0
      replace g1 := cell_later hb14 g1
      replace g2 := cell_later hb14 g2
      have hne14 : w3.heap.size < w14.heap.size := World.block_lt_of_cell? _ _ y0
      clear hg' hb14 HF13 H313 HM13
      unfold Lies.val
      go_wp2_with fail
      obtain ⟨R, hR⟩ : ∃ R, R = w14.alloc (.cells #[.slice L'.ra sf.1.length L'.rc, .slice L'.ta sf.2.1.length L'.tc, .slice L'.na sf.2.2.length L'.nc] 26) := ⟨_, rfl⟩
      rw [← hR]
      have hbR : Below w14.heap.size w14 R := by rw [hR]; exact Joins.below_alloc1 _ _
      clear hR
      replace g0 := cell_later hbR g0
      replace g1 := cell_later hbR g1
      replace g2 := cell_later hbR g2
      have H3R := hide (below_tail H314.out hbR)
      have HFR := hide (HF14.out.below hbR)
      have HGR := hide (HG14.out.below hbR)
      have HEU := hide (HUW.out.below H3R.out)
      clear hbR HF14 HG14 H314
      refine (eqState_small _ _ sf _ HGR.out.at HEU.out HSF.out).mono ?_
      rintro e w15 ⟨rfl, hb15⟩
      have H315 := hide (below_tail H3R.out hb15)
      have HF15 := hide (HFR.out.below hb15)
      replace g0 := cell_later hb15 g0
      replace g1 := cell_later hb15 g1
      replace g2 := cell_later hb15 g2
      clear hb15 HFR HGR HEU H3R
      go_wp2_with fail
      refine (heldState_own L sf _ HF15.out HSF.out).mono ?_
      rintro e w16 ⟨rfl, hb16⟩
      rw [HMM.out]
      have H316 := hide (below_tail H315.out hb16)
      clear hb16
      go_wp2_with fail
      go_ret
      exact ⟨rfl, below_tail HBW.out H316.out⟩
end Go.Proofs.Ytmjjigdnoiphbaa
