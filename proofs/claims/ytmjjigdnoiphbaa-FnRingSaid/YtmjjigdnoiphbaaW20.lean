/-
  laws.FnExactMoves: the walk.
-/
import Derived.Test.YtmjjigdnoiphbaaW19
namespace Go.Proofs.Ytmjjigdnoiphbaa
open Go.RowKit Go.Deep
set_option linter.unusedVariables false

/-- where toState lays a state -/
def madeL (s : Nat) (st : St) : Lies where
  ra := some ⟨s + 3, 0, none⟩
  rc := st.1.length
  ta := some ⟨s + 4, 0, none⟩
  tc := st.2.1.length
  na := some ⟨s + 5 + 4 * st.2.1.length, 0, none⟩
  nc := st.2.2.length
  pa := fun i => some ⟨s + 4 + 4 * (i + 1), 0, none⟩
  pc := fun i => (tPath st.2.1 i).length

theorem madeL_val (s : Nat) (st : St) : (madeL s st).val st = stVal s st := rfl

theorem madeL_F {s : Nat} {st : St} {k : Nat} (h : (madeL s st).F st.2.1.length k) : s + 3 ≤ k ∧ k < s + 6 + 4 * st.2.1.length := by
  rcases h with h | h | h | ⟨i, hi, h⟩
  · have := FA_some h; omega
  · have := FA_some h; omega
  · have := FA_some h; omega
  · have := FA_some h; omega

theorem StMade.own {s : Nat} {st : St} {w : World} (h : StMade s st w) : OwnS w (madeL s st) st := by
  refine ⟨rowIs_ownF h.1, ⟨fun i hi => ?_, fun i hi => rowIs_ownF (h.2.1.2 i hi), fun i k hi e e' => ?_, fun i j k hi hj hij e e' => ?_⟩, rowIs_ownF h.2.2, ⟨fun k e e' => ?_, fun k e e' => ?_, fun k e e' => ?_, fun k hk => ?_⟩⟩
  · have c0 := h.2.1.1.cell (i := i * 3) (by omega)
    have c1 := h.2.1.1.cell (i := i * 3 + 1) (by omega)
    have c2 := h.2.1.1.cell (i := i * 3 + 2) (by omega)
    rw [trCell0] at c0
    rw [trCell1] at c1
    rw [trCell2] at c2
    refine ⟨s + 4, 0, rfl, by rw [Nat.zero_add]; exact c0, by rw [Nat.zero_add]; exact c1, by rw [Nat.zero_add]; exact c2, fun o _ => h.2.1.1.frozen _⟩
  · have a1 := FA_some e
    have a2 := FA_some e'
    omega
  · have a1 := FA_some e
    have a2 := FA_some e'
    omega
  · have a1 := FA_some e
    rcases e' with e' | ⟨i, hi, e'⟩
    · have a2 := FA_some e'; omega
    · have a2 := FA_some e'; omega
  · have a1 := FA_some e
    rcases e' with e' | ⟨i, hi, e'⟩
    · have a2 := FA_some e'; omega
    · have a2 := FA_some e'; omega
  · have a1 := FA_some e
    have a2 := FA_some e'
    omega
  · have a1 := madeL_F hk
    have a2 := h.2.2.lt
    omega

theorem OwnInts.keepOn {base : Nat} {w w' : World} {v : Value} {xs : List Int} (h : OwnInts base w v xs) (hb : ∀ k, k < w.heap.size → base ≤ k → w'.heap[k]? = w.heap[k]?) : OwnInts base w' v xs := by
  obtain ⟨h1, h2⟩ := h
  refine ⟨h1, ?_⟩
  rcases h2 with h2 | ⟨g, cap, cur, hv, hg, hh, r⟩
  · exact Or.inl h2
  · exact Or.inr ⟨g, cap, cur, hv, hg, by rw [hb g (Array.getElem?_eq_some_iff.1 hh).1 hg]; exact hh, r⟩

theorem StMade.cap {s : Nat} {st : St} {w : World} (h : StMade s st w) : CapSt w (stVal s st) st.2.1.length := fun a1 l1 q1 a2 l2 q2 a3 l3 q3 hv i b off p q c hi ha hc => by
  simp only [stVal, Value.agg.injEq, Array.mk.injEq, List.cons.injEq, Value.slice.injEq, and_true] at hv
  obtain ⟨_, ⟨rfl, _, _⟩, _⟩ := hv
  simp only [Option.some.injEq, Addr.mk.injEq, and_true] at ha
  obtain ⟨rfl, rfl⟩ := ha
  have c1 := h.2.1.1.cell (i := i * 3 + 1) (by omega)
  rw [trCell1] at c1
  rw [Nat.zero_add] at hc
  rw [hc] at c1
  simp only [Option.some.injEq, Value.slice.injEq] at c1
  omega


set_option maxHeartbeats 8000000 in
theorem fnExactMoves_walk (v : Value) (st : St) (w : World) (h : ArgSt w v st) :
    Calls Try.prog 10 #[v] w fun e w' => e = .returned (.bool true) ∧ Below w.heap.size w w' := by
  have HA := hide h
  obtain ⟨a1, q1, a2, q2, a3, q3, rfl⟩ := h.at_.form
  clear h
  go_enter Try.func10, Try.ntmps10
  go_wp2_with fail
  obtain ⟨U, hU⟩ : ∃ U, U = w.alloc (.cells #[.slice a1 st.1.length q1, .slice a2 st.2.1.length q2, .slice a3 st.2.2.length q3] 45) := ⟨_, rfl⟩
  rw [← hU]
  have c0 : U.cell? ⟨w.heap.size, 0, none⟩ = some (.slice a1 st.1.length q1) := by rw [hU]; simp
  have c1 : U.cell? ⟨w.heap.size, 1, none⟩ = some (.slice a2 st.2.1.length q2) := by rw [hU]; simp
  have c2 : U.cell? ⟨w.heap.size, 2, none⟩ = some (.slice a3 st.2.2.length q3) := by rw [hU]; simp
  have hbU : Below w.heap.size w U := by rw [hU]; exact Joins.below_alloc1 _ _
  clear hU
  refine (szState_arg _ st _ (HA.out.at_.below hbU) HA.out).mono ?_
  rintro e w1 ⟨r, rfl, hr, hb1⟩
  have d0 := cell_later hb1 c0
  have d1 := cell_later hb1 c1
  have d2 := cell_later hb1 c2
  have HB1 := hide (below_tail hbU hb1)
  clear hb1 hbU c0 c1 c2
  by_cases hneg : r < 0
  · go_wp2_with fail
    go_ret
    exact ⟨rfl, HB1.out⟩
  · rcases hr with hr | ⟨hr0, hsm⟩
    · exact absurd hr hneg
    have HSM := hide hsm
    have hnegb : decide (r < 0) = false := by simpa using hneg
    clear hsm hneg
    go_wp2_with fail
    refine (toState_small _ st _ (HA.out.at_.below HB1.out) HSM.out).mono ?_
    rintro e w2 ⟨rfl, hm2, hz2, hb2⟩
    have e0 := cell_later hb2 d0
    have e1 := cell_later hb2 d1
    have e2 := cell_later hb2 d2
    have HB2 := hide (below_tail HB1.out hb2)
    have HM2 := hide hm2
    clear hz2 hb2 d0 d1 d2 hm2
    go_wp2_with fail
    refine (specMoves_any _ st _ HM2.out.at).mono ?_
    rintro e w3 ⟨u, rfl, hu, hb3⟩
    replace e0 := cell_later hb3 e0
    replace e1 := cell_later hb3 e1
    replace e2 := cell_later hb3 e2
    have HB3 := hide (below_tail HB2.out hb3)
    have HW3 : Hid (w.heap.size < w3.heap.size) := World.block_lt_of_cell? _ _ e0
    have HU := hide hu
    clear hb3 HM2 hu
    go_wp2_with fail
    refine (toState_small _ st _ (HA.out.at_.below HB3.out) HSM.out).mono ?_
    rintro e w4 ⟨rfl, hm4, hz4, hb4⟩
    replace e0 := cell_later hb4 e0
    replace e1 := cell_later hb4 e1
    replace e2 := cell_later hb4 e2
    have HZ4 := hide hz4
    have H34 := hide hb4
    have HM4 := hide hm4
    have hne : w.heap.size < w4.heap.size := World.block_lt_of_cell? _ _ e0
    clear hb4 hm4 hz4
    unfold stVal
    go_wp2_with fail
    obtain ⟨V, hV⟩ : ∃ V, V = w4.alloc (.cells #[.slice (some ⟨w3.heap.size + 3, 0, none⟩) st.1.length st.1.length, .slice (some ⟨w3.heap.size + 4, 0, none⟩) st.2.1.length st.2.1.length, .slice (some ⟨w3.heap.size + 5 + 4 * st.2.1.length, 0, none⟩) st.2.2.length st.2.2.length] 26) := ⟨_, rfl⟩
    rw [← hV]
    have x0 : V.cell? ⟨w4.heap.size, 0, none⟩ = some (.slice (some ⟨w3.heap.size + 3, 0, none⟩) st.1.length st.1.length) := by rw [hV]; simp
    have x1 : V.cell? ⟨w4.heap.size, 1, none⟩ = some (.slice (some ⟨w3.heap.size + 4, 0, none⟩) st.2.1.length st.2.1.length) := by rw [hV]; simp
    have x2 : V.cell? ⟨w4.heap.size, 2, none⟩ = some (.slice (some ⟨w3.heap.size + 5 + 4 * st.2.1.length, 0, none⟩) st.2.2.length st.2.2.length) := by rw [hV]; simp
    have hbV : Below w4.heap.size w4 V := by rw [hV]; exact Joins.below_alloc1 _ _
    clear hV
    replace e0 := cell_later hbV e0
    replace e1 := cell_later hbV e1
    replace e2 := cell_later hbV e2
    have H3V := hide (below_tail H34.out hbV)
    have HMV := hide (HM4.out.below hbV)
    have HZV : Hid (w3.heap.size + 6 + 4 * st.2.1.length ≤ V.heap.size) := show _ ≤ _ by rw [← HZ4.out]; exact hbV.size
    clear hbV HM4 H34 hne
    refine (implMoves_any _ st _ HMV.out.at HMV.out.cap (fun i hi => by have := HSM.out.pl i hi; omega)).mono ?_
    rintro e w5 ⟨g, rfl, hg, hb5⟩
    obtain ⟨ga, gc, rfl, hgF, hgA⟩ := hg.ownF
    have HGA := hide (fun k hk => (hgA k hk).1)
    have hgl : Hid ((movesF st).length ≤ 5) := movesF_le st
    replace e0 := cell_later hb5 e0
    replace e1 := cell_later hb5 e1
    replace e2 := cell_later hb5 e2
    replace x0 := cell_later hb5 x0
    replace x1 := cell_later hb5 x1
    replace x2 := cell_later hb5 x2
    have H35 := hide (below_tail H3V.out hb5)
    have HM5 := hide (HMV.out.below hb5)
    have HG5 := hide hgF
    have HV5 := hide hb5.size
    clear hb5 HMV H3V hg hgF hgA
    generalize hxs : movesF st = xs at *
    have HXS := hide hxs
    clear hxs
    have HEU := hide (OwnInts.at (HU.out.below H35.out))
    go_wp2_with fail
    refine (eqIntS_true _ _ xs _ (HG5.out.at (fun _ _ => rfl)) HEU.out (by have := hgl.out; omega)).mono ?_
    rintro e w6 ⟨rfl, hb6⟩
    replace e0 := cell_later hb6 e0
    replace e1 := cell_later hb6 e1
    replace e2 := cell_later hb6 e2
    replace x0 := cell_later hb6 x0
    replace x1 := cell_later hb6 x1
    replace x2 := cell_later hb6 x2
    have H36 := hide (below_tail H35.out hb6)
    have HM6 := hide (HM5.out.below hb6)
    have HG6 := hide (HG5.out.below hb6)
    have HA6 := hide (below_tail HB3.out H36.out)
    have HV6 := hide (Nat.le_trans HV5.out hb6.size)
    clear hb6 HM5 H35 HG5 HEU HV5
    go_wp2_with fail
    go_region_held3 (fun w' => w'.cell? ⟨w.heap.size, 0, none⟩ = some (.slice a1 st.1.length q1) ∧ w'.cell? ⟨w.heap.size, 1, none⟩ = some (.slice a2 st.2.1.length q2) ∧ w'.cell? ⟨w.heap.size, 2, none⟩ = some (.slice a3 st.2.2.length q3) ∧ w'.cell? ⟨w4.heap.size, 0, none⟩ = some (.slice (some ⟨w3.heap.size + 3, 0, none⟩) st.1.length st.1.length) ∧ w'.cell? ⟨w4.heap.size, 1, none⟩ = some (.slice (some ⟨w3.heap.size + 4, 0, none⟩) st.2.1.length st.2.1.length) ∧ w'.cell? ⟨w4.heap.size, 2, none⟩ = some (.slice (some ⟨w3.heap.size + 5 + 4 * st.2.1.length, 0, none⟩) st.2.2.length st.2.2.length))
      (first | (exact ⟨cell_later hb8 (cell_later hb7 (by exact e0)), cell_later hb8 (cell_later hb7 (by exact e1)), cell_later hb8 (cell_later hb7 (by exact e2)), cell_later hb8 (cell_later hb7 (by exact x0)), cell_later hb8 (cell_later hb7 (by exact x1)), cell_later hb8 (cell_later hb7 (by exact x2))⟩) | (exact ⟨cell_later hb7 (by exact e0), cell_later hb7 (by exact e1), cell_later hb7 (by exact e2), cell_later hb7 (by exact x0), cell_later hb7 (by exact x1), cell_later hb7 (by exact x2)⟩) | go_keep)
      (first | (go_at_call 34; refine (toState_small _ st _ ?_ HSM.out).mono ?_; exact (HA.out.at_.below HA6.out.drew); rintro e w7 ⟨rfl, hm7, hz7, hb7⟩) | (go_at_call 36; refine (eqState_small _ _ st _ ?_ ?_ HSM.out).mono ?_; exact (HM6.out.below (below_tail (Joins.below_draws _ _ 1) hb7)).at; exact hm7.at; rintro e w8 ⟨rfl, hb8⟩))
    all_goals
      have hb68 := below_tail (below_tail (Joins.below_draws w6.heap.size w6 1) hb7) hb8
      clear hb7 hb8 hm7 hz7
      have H38 := hide (below_tail H36.out hb68)
      have HM8 := hide (HM6.out.below hb68)
      have HG8 := hide (HG6.out.below hb68)
      have HV8 := hide (Nat.le_trans HV6.out hb68.size)
      replace e0 := cell_later hb68 e0
      replace e1 := cell_later hb68 e1
      replace e2 := cell_later hb68 e2
      clear hb68
      go_wp2_with fail
      refine (markState_own (madeL w3.heap.size st) st _ HM8.out.own HSM.out).mono ?_
      rintro e w9 ⟨rfl, _, hC⟩
      have hB89 : Below w3.heap.size w8 w9 := hC.below H38.out.size (fun k hk hf => by have := madeL_F hf; omega)
      have H39 := hide (H38.out.trans hB89)
      have HG9 := hide (HG8.out.chg hC (fun k hk hf => by
        have u1 := madeL_F hf
        have u2 := HGA.out k hk
        have u3 := HZV.out
        omega))
      have HV9 := hide (Nat.le_trans HV8.out hC.size)
      replace e0 := (hB89.cell (p := ⟨w.heap.size, 0, none⟩) HW3.out).trans e0
      replace e1 := (hB89.cell (p := ⟨w.heap.size, 1, none⟩) HW3.out).trans e1
      replace e2 := (hB89.cell (p := ⟨w.heap.size, 2, none⟩) HW3.out).trans e2
      have ht := (total_le HSM.out).1
      generalize total 1 st = tt at *
      have htb : decide (tt < 0) = false := by simp; omega
      have HEU := hide (OwnInts.at (HU.out.below H39.out))
      clear hC hB89 HG8 HM8 HV8 H38 HM6 HG6 HV6 H36 x0 x1 x2
      go_wp2_with fail
      refine (eqIntS_true _ _ xs _ (HG9.out.at (fun _ _ => rfl)) HEU.out (by have := hgl.out; omega)).mono ?_
      rintro e w10 ⟨rfl, hb10⟩
      have H310 := hide (below_tail H39.out hb10)
      have HG10 := hide (HG9.out.below hb10)
      have HV10 := hide (Nat.le_trans HV9.out hb10.size)
      replace e0 := cell_later hb10 e0
      replace e1 := cell_later hb10 e1
      replace e2 := cell_later hb10 e2
      clear hb10 HG9 HV9 H39 HEU
      go_wp2_with fail
      refine (markIntS_own _ _ _ _ _ _ HG10.out (by have := hgl.out; omega) (by omega) (by omega)).mono ?_
      rintro e w11 ⟨rfl, hF11, hC11⟩
      have hB11 : Below w3.heap.size w10 w11 := hC11.below H310.out.size (fun k hk hf => by
        have u1 := HGA.out k hf
        have u3 := HZV.out
        omega)
      have H311 := hide (H310.out.trans hB11)
      replace e0 := (hB11.cell (p := ⟨w.heap.size, 0, none⟩) HW3.out).trans e0
      replace e1 := (hB11.cell (p := ⟨w.heap.size, 1, none⟩) HW3.out).trans e1
      replace e2 := (hB11.cell (p := ⟨w.heap.size, 2, none⟩) HW3.out).trans e2
      have HF11 := hide hF11
      have hl5 := hgl.out
      clear hF11 hC11 hB11 HG10 HV10 H310
      go_wp2_with fail
      refine (heldIntS_own _ _ _ _ _ HF11.out (by omega) (by omega) (by omega)).mono ?_
      rintro e w' ⟨rfl, rfl⟩
      have hcn : ((1 + (xs.length : Int)) != (1 + (xs.length : Int))) = false := by simp
      have hcd : decide ((1 + (xs.length : Int)) < 0) = false := by simp; omega
      have HA11 := hide (below_tail HB3.out H311.out)
      go_wp2_with fail
      refine (toState_small _ st _ (HA.out.at_.below HA11.out) HSM.out).mono ?_
      rintro e w12 ⟨rfl, hm12, hz12, hb12⟩
      have H312 := hide (below_tail H311.out hb12)
      have HF12 := hide (HF11.out.below hb12)
      have HM12 := hide hm12
      clear hm12 hz12 hb12
      go_wp2_with fail
      refine (implMoves_any _ st _ HM12.out.at HM12.out.cap (fun i hi => by have := HSM.out.pl i hi; omega)).mono ?_
      rintro e w13 ⟨hh, rfl, hh1, hb13⟩
      rw [HXS.out] at hh1
      have H313 := hide (below_tail H312.out hb13)
      have HF13 := hide (HF12.out.below hb13)
      have HH13 := hide hh1.at
      have HEU := hide (OwnInts.at (HU.out.below H313.out))
      clear hh1 hb13
      go_wp2_with fail
      refine (eqIntS_true _ _ xs _ HH13.out HEU.out (by omega)).mono ?_
      rintro e w14 ⟨rfl, hb14⟩
      have H314 := hide (below_tail H313.out hb14)
      have HF14 := hide (HF13.out.below hb14)
      clear hb14
      go_wp2_with fail
      refine (heldIntS_own _ _ _ _ _ HF14.out (by omega) (by omega) (by omega)).mono ?_
      rintro e w' ⟨rfl, rfl⟩
      go_wp2_with fail
      go_ret
      exact ⟨rfl, below_tail HB3.out H314.out⟩
end Go.Proofs.Ytmjjigdnoiphbaa
