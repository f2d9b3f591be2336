/-
  impl.Step.
-/
import Derived.Test.YtmjjigdnoiphbaaW22
namespace Go.Proofs.Ytmjjigdnoiphbaa
open Go.RowKit Go.Deep
set_option linter.unusedVariables false

/-- Step -/
def stepF (st : St) (x : Int) : St :=
  bif decide (stOk st = 0) && (decide (nameIx st.2.2 x < st.2.2.length) && canB st (nameIx st.2.2 x)) then stepSt st (nameIx st.2.2 x) else ([], [], [])

def nilL : Lies where
  ra := none
  rc := 0
  ta := none
  tc := 0
  na := none
  nc := 0
  pa := fun _ => none
  pc := fun _ => 0

theorem nilL_F {n k : Nat} (h : nilL.F n k) : False := by
  rcases h with ⟨o, e⟩ | ⟨o, e⟩ | ⟨o, e⟩ | ⟨i, _, o, e⟩ <;> cases e

theorem nilL_own (w : World) : OwnS w nilL ([], [], []) :=
  ⟨fun i hi => absurd hi (Nat.not_lt_zero _), ⟨fun i hi => absurd hi (Nat.not_lt_zero _), fun i hi => absurd hi (Nat.not_lt_zero _), fun i k hi => absurd hi (Nat.not_lt_zero _), fun i j k hi => absurd hi (Nat.not_lt_zero _)⟩, fun i hi => absurd hi (Nat.not_lt_zero _), ⟨fun k e => absurd (Or.inl e : nilL.F 0 k) nilL_F, fun k e => absurd (Or.inr (Or.inl e) : nilL.F 0 k) nilL_F, fun k e => absurd (Or.inl e : nilL.F 0 k) nilL_F, fun k e => absurd e nilL_F⟩⟩

set_option maxHeartbeats 1000000 in
theorem implStep_any (v : Value) (st : St) (x : Int) (w : World) (h : StateAt w v st) (hcap : CapSt w v st.2.1.length) (hp : ∀ i, i < st.2.1.length → (tPath st.2.1 i).length ≤ 4611686018427387904) :
    Calls Try.prog 30 #[v, .int .i64 x] w fun e w' => ∃ L : Lies, e = .returned (L.val (stepF st x)) ∧ OwnS w' L (stepF st x) ∧ (∀ k, L.F (stepF st x).2.1.length k → w.heap.size ≤ k) ∧ Below w.heap.size w w' := by
  have HS := hide h
  have HP := hide hp
  have HC := hide hcap
  obtain ⟨a1, q1, a2, q2, a3, q3, rfl⟩ := h.form
  clear h hp hcap
  go_enter Try.func30, Try.ntmps30
  go_wp2_with fail
  refine (implStateOk_any _ st _ (HS.out.below (Joins.below_alloc2 _ _ _)) HP.out).mono ?_
  rintro e w1 ⟨rfl, hb1⟩
  have c0 : w1.cell? ⟨w.heap.size, 0, none⟩ = some (.slice a1 st.1.length q1) := cell_later hb1 (by simp)
  have c1 : w1.cell? ⟨w.heap.size, 1, none⟩ = some (.slice a2 st.2.1.length q2) := cell_later hb1 (by simp)
  have c2 : w1.cell? ⟨w.heap.size, 2, none⟩ = some (.slice a3 st.2.2.length q3) := cell_later hb1 (by simp)
  have hd : w1.heap[w.heap.size + 1]? = some (.cells #[.slice none 0 0, .slice none 0 0, .slice none 0 0] 26 (0, 0)) := (hb1.block (w.heap.size + 1) (by simp)).trans (heap_alloc2_new _ _ _)
  have HB1 := hide (below_tail (Joins.below_alloc2 w (.cells #[.slice a1 st.1.length q1, .slice a2 st.2.1.length q2, .slice a3 st.2.2.length q3] 26) (.cells #[.slice none 0 0, .slice none 0 0, .slice none 0 0] 26)) hb1)
  have HD1 := hide hd
  obtain ⟨v0, v1, v2, vf⟩ := block3 hd
  have vf0 := vf 0
  have vf1 := vf 1
  have vf2 := vf 2
  clear hb1 hd vf
  by_cases hok : stOk st = 0
  · have HR := hide (right_of_ok hok)
    have hokb : (stOk st != 0) = false := by simp [hok]
    obtain ⟨l1, l2, l3, l4⟩ := HR.out.lens
    have HL4 := hide l4
    have hn5 : st.2.2.length ≤ 5 := by omega
    clear l4
    have HF : Hid (stepF st x = bif (decide (nameIx st.2.2 x < st.2.2.length) && canB st (nameIx st.2.2 x)) then stepSt st (nameIx st.2.2 x) else ([], [], [])) := by simp [stepF, hok, Hid]
    clear hok
    generalize stOk st = code at *
    go_wp2_with fail
    refine (index_any _ _ _ st.2.2 x _ (HS.out.below HB1.out).parts.2.2 (by omega)).mono ?_
    rintro e w' ⟨rfl, rfl⟩
    by_cases hix : nameIx st.2.2 x < st.2.2.length
    · have hres : nameRes st.2.2 x = (nameIx st.2.2 x : Int) := if_pos hix
      rw [hres]
      clear hres
      generalize nameIx st.2.2 x = k at *
      have hkt : k < st.2.1.length := by have := HL4.out; omega
      have hkd : decide ((k : Int) < 0) = false := by simp
      cases hcan : canB st k with
      | false =>
        have HF2 := hide (show stepF st x = ([], [], []) by rw [HF.out]; simp [hcan])
        have HCAN := hide hcan
        clear hcan
        go_wp2_with fail
        refine (canMove_any _ st pz k _ (HS.out.below HB1.out) (HC.out.below HS.out HB1.out) HR.out (pz_ok st) hkt).mono ?_
        rintro e w2 ⟨rfl, hb2⟩
        rw [canP_pz, HCAN.out]
        obtain ⟨u0, u1, u2, uf⟩ := block3 ((hb2.block _ (Array.getElem?_eq_some_iff.1 HD1.out).1).trans HD1.out)
        have uf0 := uf 0
        have uf1 := uf 1
        have uf2 := uf 2
        have HB2 := hide (below_tail HB1.out hb2)
        clear hb2 uf
        go_wp2_with fail
        refine bodyPost_ret (v := .agg #[.slice none 0 0, .slice none 0 0, .slice none 0 0]) (by simp [results, Try.results30, go_sem, u0, u1, u2]) rfl ⟨nilL, by rw [HF2.out]; rfl, by rw [HF2.out]; exact nilL_own _, fun k hk => absurd hk nilL_F, ?_⟩
        exact ((HB2.out.setCell (by simp) _).setCell (by simp) _).setCell (by simp) _
      | true =>
        have HF2 := hide (show stepF st x = stepSt st k by rw [HF.out]; simp [hcan, hix])
        have HCAN := hide hcan
        clear hcan
        go_wp2_with fail
        refine (canMove_any _ st pz k _ (HS.out.below HB1.out) (HC.out.below HS.out HB1.out) HR.out (pz_ok st) hkt).mono ?_
        rintro e w2 ⟨rfl, hb2⟩
        rw [canP_pz, HCAN.out]
        have d0 := cell_later hb2 c0
        have d1 := cell_later hb2 c1
        have d2 := cell_later hb2 c2
        have HB2 := hide (below_tail HB1.out hb2)
        have HD2 := hide ((hb2.block _ (Array.getElem?_eq_some_iff.1 HD1.out).1).trans HD1.out)
        clear hb2 c0 c1 c2 v0 v1 v2 vf0 vf1 vf2
        go_wp2_with fail
        have hk5 : k < 5 := by omega
        have HS2 := hide (HS.out.below HB2.out)
        have HC2 := hide (HC.out.below HS.out HB2.out)
        go_region_with (first | (go_at_call 48; refine (pmoved_any pz k _ hk5 (by unfold pz; omega)).mono ?_; rintro e w3 ⟨rfl, hb3⟩; have f0 := cell_later hb3 (by exact d0); have f1 := cell_later hb3 (by exact d1); have f2 := cell_later hb3 (by exact d2)) | (go_at_call 62; refine (stateBehind_one _ st k _ (HS2.out.below (below_tail (Joins.below_draws _ _ 1) hb3)) HR.out (HC2.out.below HS2.out (below_tail (Joins.below_draws _ _ 1) hb3))).mono ?_; rintro e w4 ⟨L, rfl, hL, hLF, hb4⟩; have hD4 := blockLater hb4 (blockLater hb3 (by exact HD2.out)); obtain ⟨u0, u1, u2, uf⟩ := block3 hD4; have uf0 := uf 0; have uf1 := uf 1; have uf2 := uf 2))
        all_goals
          have HB4 := hide (below_tail (below_tail HB2.out.drew hb3) hb4)
          have HL := hide hL
          have HLF : Hid (∀ q, L.F (stepSt st k).2.1.length q → w.heap.size + 2 ≤ q) := fun q hq => by
            have g1 := hLF q hq
            have g2 : w.heap.size + 1 < w2.heap.size := (Array.getElem?_eq_some_iff.1 HD2.out).1
            have g3 : w2.heap.size ≤ w3.heap.size := hb3.size
            omega
          clear hb3 hb4 hL hLF hD4 uf
          go_wp2_with fail
          have hc : Chg (fun q => q = w.heap.size + 1) w4 (((w4.setCell ⟨w.heap.size + 1, 0, none⟩ (.slice L.ra (stepSt st k).1.length L.rc)).setCell ⟨w.heap.size + 1, 1, none⟩ (.slice L.ta (stepSt st k).2.1.length L.tc)).setCell ⟨w.heap.size + 1, 2, none⟩ (.slice L.na (stepSt st k).2.2.length L.nc)) :=
            Chg.setCell (F := fun q => q = w.heap.size + 1) (Chg.setCell (F := fun q => q = w.heap.size + 1) (Chg.setCell (F := fun q => q = w.heap.size + 1) (Chg.refl _ _) rfl _) rfl _) rfl _
          refine bodyPost_ret (v := .agg #[.slice L.ra (stepSt st k).1.length L.rc, .slice L.ta (stepSt st k).2.1.length L.tc, .slice L.na (stepSt st k).2.2.length L.nc]) (by simp [results, Try.results30, go_sem, u0, u1, u2]) rfl ⟨L, by rw [HF2.out]; rfl, by rw [HF2.out]; exact HL.out.keep hc.size (fun q hq e => hc.block q hq (fun e' => by have := HLF.out q e; omega)), fun q hq => by rw [HF2.out] at hq; have := HLF.out q hq; omega, ?_⟩
          exact ((HB4.out.setCell (by simp) _).setCell (by simp) _).setCell (by simp) _
    · have hres : nameRes st.2.2 x = -1 := if_neg hix
      rw [hres]
      have HF2 := hide (show stepF st x = ([], [], []) by rw [HF.out]; simp [hix])
      clear hres hix
      go_wp2_with fail
      refine bodyPost_ret (v := .agg #[.slice none 0 0, .slice none 0 0, .slice none 0 0]) (by simp [results, Try.results30, go_sem, v0, v1, v2]) rfl ⟨nilL, by rw [HF2.out]; rfl, by rw [HF2.out]; exact nilL_own _, fun k hk => absurd hk nilL_F, ?_⟩
      exact ((HB1.out.setCell (by simp) _).setCell (by simp) _).setCell (by simp) _
  · have hokb : (stOk st != 0) = true := by simp [hok]
    have HF2 := hide (show stepF st x = ([], [], []) by simp [stepF, hok])
    clear hok
    generalize stOk st = code at *
    go_wp2_with fail
    refine bodyPost_ret (v := .agg #[.slice none 0 0, .slice none 0 0, .slice none 0 0]) (by simp [results, Try.results30, go_sem, v0, v1, v2]) rfl ⟨nilL, by rw [HF2.out]; rfl, by rw [HF2.out]; exact nilL_own _, fun k hk => absurd hk nilL_F, ?_⟩
    exact ((HB1.out.setCell (by simp) _).setCell (by simp) _).setCell (by simp) _
end Go.Proofs.Ytmjjigdnoiphbaa
