/-
  impl.StateOk.
-/
import Derived.Test.YtmjjigdnoiphbabW12
namespace Go.Proofs.Ytmjjigdnoiphbab
open Go.RowKit Go.Deep
set_option linter.unusedVariables false

theorem trainsB_at {nr : Nat} {ts : List Tr} (h : trainsB nr ts = true) (h40 : nr ≤ 40) : ∀ i, i < ts.length → 0 ≤ tAt ts i ∧ tAt ts i < 40 := fun i hi => by
  have := allUp_at h i hi
  simp only [trainB, inR, Bool.and_eq_true, decide_eq_true_eq] at this
  omega

set_option maxHeartbeats 2000000 in
theorem implStateOk_any (v : Value) (st : St) (w : World) (h : StateAt w v st) (hp : ∀ i, i < st.2.1.length → (tPath st.2.1 i).length ≤ 4611686018427387904) :
    Calls Try.prog 41 #[v] w fun e w' => e = .returned (.int .i64 (stOk st)) ∧ Below w.heap.size w w' := by
  have HS := hide h
  obtain ⟨vr, vt, vn, rfl, hR, hT, hN⟩ := h
  have HR := hide hR
  have HT := hide hT
  have HN := hide hN
  have HP := hide hp
  obtain ⟨rs, ts, ns⟩ := st
  obtain ⟨ar, cr, rfl, _⟩ := hR
  obtain ⟨an, cn, rfl, _⟩ := hN
  obtain ⟨a, cap, rfl, _⟩ := hT
  simp only at *
  clear hp
  go_enter Try.func41, Try.ntmps41
  go_wp2_with fail
  refine (sizesOk_any _ (rs, ts, ns) _ (HS.out.below (Joins.below_alloc1 _ _))).mono ?_
  rintro e w1 ⟨rfl, hb1⟩
  have hbw1 := below_tail (Joins.below_alloc1 w (.cells #[.slice ar rs.length cr, .slice a ts.length cap, .slice an ns.length cn] 30)) hb1
  have c0 : w1.cell? ⟨w.heap.size, 0, none⟩ = some (.slice ar rs.length cr) := cell_later hb1 (by simp)
  have c1 : w1.cell? ⟨w.heap.size, 1, none⟩ = some (.slice a ts.length cap) := cell_later hb1 (by simp)
  have c2 : w1.cell? ⟨w.heap.size, 2, none⟩ = some (.slice an ns.length cn) := cell_later hb1 (by simp)
  have HB1 := hide hbw1
  clear hb1 hbw1
  cases hs : sizesB (rs, ts, ns) with
  | false =>
    have HO := hide (stOk1 hs)
    clear hs
    go_wp2_with fail
    go_ret
    exact ⟨by rw [HO.out]; rfl, HB1.out⟩
  | true =>
    have hsz := hs
    simp only [sizesB, inR, Bool.and_eq_true, decide_eq_true_eq] at hsz
    obtain ⟨⟨_, hr40⟩, ht5, hnt⟩ := hsz
    have HSZ := hide hs
    have hr40' : rs.length ≤ 40 := by omega
    have hn5 : ns.length ≤ 5 := by omega
    clear hs hr40 hnt
    go_wp2_with fail
    refine (roomsOk_any _ rs _ (HR.out.below HB1.out) (by omega)).mono ?_
    rintro e w' ⟨rfl, rfl⟩
    cases hro : roomsB rs with
    | false =>
      have HO := hide (stOk2 HSZ.out hro)
      clear hro
      go_wp2_with fail
      go_ret
      exact ⟨by rw [HO.out]; rfl, HB1.out⟩
    | true =>
      have HRO := hide hro
      clear hro
      go_wp2_with fail
      refine (trainsOk_any _ _ ts _ (HT.out.below HB1.out) (by omega) HP.out (by omega) (by omega)).mono ?_
      rintro e w2 ⟨rfl, hb2⟩
      have d0 := cell_later hb2 c0
      have d1 := cell_later hb2 c1
      have d2 := cell_later hb2 c2
      have HB2 := hide (below_tail HB1.out hb2)
      clear hb2 c0 c1 c2
      cases htr : trainsB rs.length ts with
      | false =>
        have HO := hide (stOk3 HSZ.out HRO.out htr)
        clear htr
        go_wp2_with fail
        go_ret
        exact ⟨by rw [HO.out]; rfl, HB2.out⟩
      | true =>
        have HTR := hide htr
        clear htr
        go_wp2_with fail
        refine (namesOk_any _ ns _ (HN.out.below HB2.out) (by omega)).mono ?_
        rintro e w' ⟨rfl, rfl⟩
        cases hna : namesB ns with
        | false =>
          have HO := hide (stOk4 HSZ.out HRO.out HTR.out hna)
          clear hna
          go_wp2_with fail
          go_ret
          exact ⟨by rw [HO.out]; rfl, HB2.out⟩
        | true =>
          have HNA := hide hna
          clear hna
          go_wp2_with fail
          refine (allFit_any _ (rs, ts, ns) _ (HS.out.below HB2.out) hr40' (by simp only; omega) (trainsB_at HTR.out hr40')).mono ?_
          rintro e w3 ⟨rfl, hb3⟩
          have HB3 := hide (below_tail HB2.out hb3)
          clear hb3
          cases hfi : fitsB rs ts with
          | false =>
            have HO := hide (stOk5 HSZ.out HRO.out HTR.out HNA.out hfi)
            clear hfi
            go_wp2_with fail
            go_ret
            exact ⟨by rw [HO.out]; rfl, HB3.out⟩
          | true =>
            have HO := hide (stOk0 HSZ.out HRO.out HTR.out HNA.out hfi)
            clear hfi
            go_wp2_with fail
            go_ret
            exact ⟨by rw [HO.out]; rfl, HB3.out⟩
end Go.Proofs.Ytmjjigdnoiphbab
