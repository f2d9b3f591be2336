/-
  spec.Ring.
-/
import Derived.Test.YtmjjigdnoiphbabRg2
namespace Go.Proofs.Ytmjjigdnoiphbab
open Go.RowKit Go.Deep
set_option linter.unusedVariables false

/-- of two rings: the second, where there is one and it is shorter or the first one -/
def better (b r : Wy) : Wy := bif decide (0 < r.length) && (decide (b.length = 0) || decide (r.length < b.length)) then r else b
def bestUp (st : St) : Nat → Wy
  | 0 => []
  | k + 1 => better (bestUp st k) (ringFromF st (el st.2.2 k))
/-- Ring -/
def ringF (st : St) : List Int := bif decide (stOk st = 0) then bestUp st st.2.2.length else []

theorem ringR_len {st : St} (hr : RightSt st) {s : Int} : ∀ f ls seen, PInv st seen.length f (seen, []) → (∀ y, y ∈ ls → y.length + f ≤ 8) → (ringR st s f ls seen).length ≤ 8
  | 0, _, _, _, _ => by simp [ringR]
  | f + 1, ls, seen, hp, hy => by
    by_cases h : ∃ i, i < ls.length ∧ hitB st s (wyAt ls i) = true
    · simp only [ringR]
      split
      · rename_i y hfy
        have := hy y (List.mem_of_find?_eq_some hfy)
        omega
      · rename_i hfy
        obtain ⟨i, hi, hh⟩ := h
        have := List.find?_eq_none.1 hfy _ (wyAt_mem hi)
        exact absurd hh this
    · rw [ringR_none (fun j hj => by
        cases e : hitB st s (wyAt ls j)
        · rfl
        · exact absurd ⟨j, hj, e⟩ h)]
      have hP := lineUp_inv hr hp hy ls.length (Nat.le_refl _)
      exact ringR_len hr f _ _ ⟨hP.nodup, hP.sub, by simp, fun y hy => by simp at hy⟩ (fun y hy => by have := (hP.ways y hy).2; omega)
theorem ringFromF_len {st : St} (hr : RightSt st) (s : Int) : (ringFromF st s).length ≤ 8 :=
  ringR_len hr 7 _ _ ⟨by simp, fun x hx => by simp at hx, rfl, fun y hy => by simp at hy⟩ (fun y hy => by simp at hy; subst hy; simp)
theorem better_le {b r : Wy} (hb : b.length ≤ 8) (hr : r.length ≤ 8) : (better b r).length ≤ 8 := by unfold better; cases (decide (0 < r.length) && (decide (b.length = 0) || decide (r.length < b.length))) <;> assumption
theorem bestUp_le {st : St} (hr : RightSt st) : ∀ k, (bestUp st k).length ≤ 8
  | 0 => by simp [bestUp]
  | k + 1 => better_le (bestUp_le hr k) (ringFromF_len hr _)
theorem ringF_le (st : St) : (ringF st).length ≤ 8 := by
  unfold ringF
  by_cases h : stOk st = 0
  · simp only [h, decide_true, cond_true]
    exact bestUp_le (right_of_ok h) _
  · simp [h]

set_option maxHeartbeats 4000000 in
theorem specRing_any (v : Value) (st : St) (w : World) (h : StateAt w v st) :
    Calls Try.prog 23 #[v] w fun e w' => ∃ r, e = .returned r ∧ OwnInts w.heap.size w' r (ringF st) ∧ Below w.heap.size w w' := by
  have HS := hide h
  obtain ⟨a1, q1, a2, q2, a3, q3, rfl⟩ := h.form
  clear h
  go_enter Try.func23, Try.ntmps23
  go_wp2_with fail
  refine (specStateOk_any _ st _ (HS.out.below (Joins.below_alloc1 _ _))).mono ?_
  rintro e w1 ⟨rfl, hb1⟩
  have c0 : w1.cell? ⟨w.heap.size, 0, none⟩ = some (.slice a1 st.1.length q1) := cell_later hb1 (by simp)
  have c1 : w1.cell? ⟨w.heap.size, 1, none⟩ = some (.slice a2 st.2.1.length q2) := cell_later hb1 (by simp)
  have c2 : w1.cell? ⟨w.heap.size, 2, none⟩ = some (.slice a3 st.2.2.length q3) := cell_later hb1 (by simp)
  have HB1 := hide (below_tail (Joins.below_alloc1 w (.cells #[.slice a1 st.1.length q1, .slice a2 st.2.1.length q2, .slice a3 st.2.2.length q3] 30)) hb1)
  clear hb1
  by_cases hok : stOk st = 0
  · have HR := hide (right_of_ok hok)
    have hokb : (stOk st != 0) = false := by simp [hok]
    have HF := hide (show ringF st = bestUp st st.2.2.length by simp [ringF, hok])
    obtain ⟨l1, l2, l3, l4⟩ := HR.out.lens
    have hn5 : st.2.2.length ≤ 5 := by omega
    clear hok l4
    generalize stOk st = code at *
    go_wp2_with fail
    have HC0 := hide c0
    have HC1 := hide c1
    have HC2 := hide c2
    clear c0 c1 c2
    go_loopw [3, 13] (fun u i wr => ∃ k : Nat, k ≤ st.2.2.length ∧ i = .int .i64 k ∧ OwnInts w1.heap.size wr u (bestUp st k) ∧ Below w1.heap.size w1 wr) (fun _ i _ => st.2.2.length - (intOf i).toNat)
    case atStart => exact ⟨0, Nat.zero_le _, rfl, OwnInts.nil _ _, Below.refl _ _⟩
    case round =>
      obtain ⟨k, hk, rfl, hown, hb⟩ := hrel
      have hbw := below_tail HB1.out hb
      by_cases hlt : k < st.2.2.length
      · have q0 := cell_later hb HC0.out
        have q1' := cell_later hb HC1.out
        have q2' := cell_later hb HC2.out
        have HSW := hide (HS.out.below hbw)
        obtain ⟨b, off, rfl, hx⟩ := HSW.out.parts.2.2.cellAt k hlt
        obtain ⟨ua, uc, rfl⟩ := hown.form
        have HB := hide hb
        have HO := hide hown
        have HU := hide (show bestUp st (k + 1) = better (bestUp st k) (ringFromF st (el st.2.2 k)) from rfl)
        have hbl := bestUp_le HR.out k
        have hrl := ringFromF_len HR.out (el st.2.2 k)
        clear hb hown hbw
        go_wp2_with fail
        refine (l2ring_any _ st (el st.2.2 k) _ HSW.out HR.out (el_mem hlt)).mono ?_
        rintro e w2 ⟨r, rfl, hr, hb2⟩
        obtain ⟨ra, rc, rfl⟩ := hr.form
        have HO2 := hide (HO.out.below hb2)
        have HB2 := hide (below_tail HB.out hb2)
        have HRR : Hid (OwnInts w1.heap.size w2 (.slice ra (ringFromF st (el st.2.2 k)).length rc) (ringFromF st (el st.2.2 k))) := hr.le HB.out.size
        clear hb2 hr
        generalize ringFromF st (el st.2.2 k) = rg at *
        generalize bestUp st k = bu at *
        by_cases h1 : 0 < rg.length
        · by_cases h2 : bu.length = 0
          · have h2b : ((bu.length : Int) == 0) = true := by simp [h2]
            have HM := hide (show better bu rg = rg by unfold better; simp [h1, h2])
            have h1' : 0 < rg.length := h1
            clear h2
            generalize hbn : bu.length = bn at *
            generalize hrn : rg.length = rn at *
            have HBN := hide hbn
            have HRN := hide hrn
            clear hbn hrn
            go_wp2_with fail
            go_roundw
            case rel => exact ⟨k + 1, by omega, by go_num, by rw [HU.out, HM.out]; exact HRR.out, HB2.out⟩
            case measure => simp [intOf]; omega
          · have h2b : ((bu.length : Int) == 0) = false := by rw [beq_eq_false_iff_ne]; omega
            by_cases h3 : rg.length < bu.length
            · have HM := hide (show better bu rg = rg by unfold better; simp [h1, h3])
              clear h2
              generalize hbn : bu.length = bn at *
              generalize hrn : rg.length = rn at *
              have HBN := hide hbn
              have HRN := hide hrn
              clear hbn hrn
              go_wp2_with fail
              go_roundw
              case rel => exact ⟨k + 1, by omega, by go_num, by rw [HU.out, HM.out]; exact HRR.out, HB2.out⟩
              case measure => simp [intOf]; omega
            · have HM := hide (show better bu rg = bu by unfold better; simp [h2, h3])
              clear h2
              generalize hbn : bu.length = bn at *
              generalize hrn : rg.length = rn at *
              have HBN := hide hbn
              have HRN := hide hrn
              clear hbn hrn
              go_wp2_with fail
              go_roundw
              case rel => exact ⟨k + 1, by omega, by go_num, by rw [HU.out, HM.out]; exact HO2.out, HB2.out⟩
              case measure => simp [intOf]; omega
        · have HM := hide (show better bu rg = bu by unfold better; simp [h1])
          generalize hbn : bu.length = bn at *
          generalize hrn : rg.length = rn at *
          have HBN := hide hbn
          have HRN := hide hrn
          clear hbn hrn
          go_wp2_with fail
          go_roundw
          case rel => exact ⟨k + 1, by omega, by go_num, by rw [HU.out, HM.out]; exact HO2.out, HB2.out⟩
          case measure => simp [intOf]; omega
      · go_wp2_with fail
        go_ret
        obtain rfl : k = st.2.2.length := by omega
        exact ⟨_, rfl, by rw [HF.out]; exact hown.le HB1.out.size, hbw⟩
  · have hokb : (stOk st != 0) = true := by simp [hok]
    have HF := hide (show ringF st = [] by simp [ringF, hok])
    clear hok
    generalize stOk st = code at *
    go_wp2_with fail
    go_ret
    exact ⟨_, rfl, by rw [HF.out]; exact OwnInts.nil _ _, HB1.out⟩
end Go.Proofs.Ytmjjigdnoiphbab
