/-
  spec.Moves, impl.Moves.
-/
import Derived.Test.YtmjjigdnoiphbaaOwn
namespace Go.Proofs.Ytmjjigdnoiphbaa
open Go.RowKit Go.Deep
set_option linter.unusedVariables false

def movesUp (st : St) : Nat → List Int
  | 0 => []
  | k + 1 => movesUp st k ++ (bif canB st k then [el st.2.2 k] else [])
/-- Moves -/
def movesF (st : St) : List Int := bif decide (stOk st = 0) then movesUp st st.2.2.length else []
theorem movesUp_le (st : St) : ∀ k, (movesUp st k).length ≤ k
  | 0 => Nat.le_refl _
  | k + 1 => by have := movesUp_le st k; simp only [movesUp, List.length_append]; cases canB st k <;> simp <;> omega
theorem movesF_le (st : St) : (movesF st).length ≤ 5 := by
  unfold movesF
  by_cases h : stOk st = 0
  · have := (right_of_ok h).lens
    have h2 := movesUp_le st st.2.2.length
    simp [h]; omega
  · simp [h]

set_option maxHeartbeats 2000000 in
theorem specMoves_any (v : Value) (st : St) (w : World) (h : StateAt w v st) :
    Calls Try.prog 16 #[v] w fun e w' => ∃ r, e = .returned r ∧ OwnInts w.heap.size w' r (movesF st) ∧ Below w.heap.size w w' := by
  have HS := hide h
  obtain ⟨a1, q1, a2, q2, a3, q3, rfl⟩ := h.form
  clear h
  go_enter Try.func16, Try.ntmps16
  go_wp2_with fail
  refine (specStateOk_any _ st _ (HS.out.below (Joins.below_alloc1 _ _))).mono ?_
  rintro e w1 ⟨rfl, hb1⟩
  have c0 : w1.cell? ⟨w.heap.size, 0, none⟩ = some (.slice a1 st.1.length q1) := cell_later hb1 (by simp)
  have c1 : w1.cell? ⟨w.heap.size, 1, none⟩ = some (.slice a2 st.2.1.length q2) := cell_later hb1 (by simp)
  have c2 : w1.cell? ⟨w.heap.size, 2, none⟩ = some (.slice a3 st.2.2.length q3) := cell_later hb1 (by simp)
  have HB1 := hide (below_tail (Joins.below_alloc1 w (.cells #[.slice a1 st.1.length q1, .slice a2 st.2.1.length q2, .slice a3 st.2.2.length q3] 26)) hb1)
  clear hb1
  by_cases hok : stOk st = 0
  · have HR := hide (right_of_ok hok)
    have hokb : (stOk st != 0) = false := by simp [hok]
    have HF := hide (show movesF st = movesUp st st.2.2.length by simp [movesF, hok])
    obtain ⟨l1, l2, l3, l4⟩ := HR.out.lens
    have HL4 := hide l4
    have hn5 : st.2.2.length ≤ 5 := by omega
    clear hok l4
    generalize stOk st = code at *
    go_wp2_with fail
    have HC0 := hide c0
    have HC1 := hide c1
    have HC2 := hide c2
    go_loopw [3, 12] (fun u i wr => ∃ k : Nat, k ≤ st.2.2.length ∧ i = .int .i64 k ∧ OwnInts w1.heap.size wr u (movesUp st k) ∧ Below w1.heap.size w1 wr) (fun _ i _ => st.2.2.length - (intOf i).toNat)
    case atStart => exact ⟨0, Nat.zero_le _, rfl, OwnInts.nil _ _, Below.refl _ _⟩
    case round =>
      obtain ⟨k, hk, rfl, hown, hb⟩ := hrel
      have hbw := below_tail HB1.out hb
      by_cases hlt : k < st.2.2.length
      · have q0 := cell_later hb HC0.out
        have q1' := cell_later hb HC1.out
        have q2' := cell_later hb HC2.out
        have HSW := hide (HS.out.below hbw)
        obtain ⟨b, off, rfl, hx⟩ := HSW.out.parts.2.2.cellAt k hlt
        have HB := hide hb
        have HO := hide hown
        have HBW := hide hbw
        have hkt : Hid (k < st.2.1.length) := show k < _ by have := HL4.out; omega
        clear hb hown hbw c0 c1 c2
        go_wp2_with fail
        refine (l1can_any _ st k _ HSW.out HR.out hkt.out).mono ?_
        rintro e w2 ⟨rfl, hb2⟩
        have HO2 := hide (HO.out.below hb2)
        have HB2 := hide (below_tail HB.out hb2)
        clear hb2
        cases hcan : canB st k with
        | false =>
          have HM := hide (show movesUp st (k + 1) = movesUp st k by simp [movesUp, hcan])
          clear hcan
          go_wp2_with fail
          go_roundw
          case rel => exact ⟨k + 1, by omega, by go_num, by rw [HM.out]; exact HO2.out, HB2.out⟩
          case measure => simp [intOf]; omega
        | true =>
          have HM := hide (show movesUp st (k + 1) = movesUp st k ++ [el st.2.2 k] by simp [movesUp, hcan])
          have hml := movesUp_le st k
          clear hcan
          obtain ⟨i0, hi, hz0, hz1, hz2⟩ := info_parts Try.infoInt
          have HI0 := hide hi
          have HZ0 := hide hz0
          have HZ1 := hide hz1
          have HZ2 := hide hz2
          clear hi hz0 hz1 hz2
          go_wp2_with (first | (at_builtin; refine wpList_append_lies _ rfl _ _ 23 rfl w1.heap.size 3 i0 (.int .i64 0) 1 8 Try.underlying23 HI0.out HZ0.out HZ1.out HZ2.out rfl (by decide) _ _ _ rfl (HO2.out.alloc _) ⟨w2.heap.size, 0, none⟩ 1 1 [.int .i64 (el st.2.2 k)] rfl rfl ?c1 ?c2 (by decide) ?c3 ?c4 ?c5 _ rfl ?_))
          case c1 => exact cell_one_new _ _ _
          case c2 => intro u hu; simp at hu; subst hu; rfl
          case c3 => unfold maxLen; omega
          case c4 => omega
          case c5 => have := HB2.out.size; simp; omega
          · intro g cap w3 hown3 hgrow _ _
            have HO3 := hide (OwnInts.snoc hown3)
            have HB3 := hide (below_grown (HB2.out.alloc HB2.out.size (.cells #[.int .i64 (el st.2.2 k)] 3)) (HO2.out.alloc (.cells #[.int .i64 (el st.2.2 k)] 3)) hgrow (by have := HB2.out.size; simp; omega) (Nat.le_refl _))
            clear hown3 hgrow
            go_wp2_with fail
            go_roundw
            case rel => exact ⟨k + 1, by omega, by go_num, by rw [HM.out]; exact HO3.out, HB3.out⟩
            case measure => simp [intOf]; omega
      · go_wp2_with fail
        go_ret
        obtain rfl : k = st.2.2.length := by omega
        exact ⟨_, rfl, by rw [HF.out]; exact hown.le HB1.out.size, hbw⟩
  · have hokb : (stOk st != 0) = true := by simp [hok]
    have HF := hide (show movesF st = [] by simp [movesF, hok])
    clear hok
    generalize stOk st = code at *
    go_wp2_with fail
    go_ret
    exact ⟨_, rfl, by rw [HF.out]; exact OwnInts.nil _ _, HB1.out⟩

set_option maxHeartbeats 2000000 in
theorem implMoves_any (v : Value) (st : St) (w : World) (h : StateAt w v st) (hcap : CapSt w v st.2.1.length) (hp : ∀ i, i < st.2.1.length → (tPath st.2.1 i).length ≤ 4611686018427387904) :
    Calls Try.prog 13 #[v] w fun e w' => ∃ r, e = .returned r ∧ OwnInts w.heap.size w' r (movesF st) ∧ Below w.heap.size w w' := by
  have HS := hide h
  have HP := hide hp
  have HCP := hide hcap
  clear hp hcap
  obtain ⟨a1, q1, a2, q2, a3, q3, rfl⟩ := h.form
  clear h
  go_enter Try.func13, Try.ntmps13
  go_wp2_with fail
  refine (implStateOk_any _ st _ (HS.out.below (Joins.below_alloc1 _ _)) HP.out).mono ?_
  rintro e w1 ⟨rfl, hb1⟩
  have c0 : w1.cell? ⟨w.heap.size, 0, none⟩ = some (.slice a1 st.1.length q1) := cell_later hb1 (by simp)
  have c1 : w1.cell? ⟨w.heap.size, 1, none⟩ = some (.slice a2 st.2.1.length q2) := cell_later hb1 (by simp)
  have c2 : w1.cell? ⟨w.heap.size, 2, none⟩ = some (.slice a3 st.2.2.length q3) := cell_later hb1 (by simp)
  have HB1 := hide (below_tail (Joins.below_alloc1 w (.cells #[.slice a1 st.1.length q1, .slice a2 st.2.1.length q2, .slice a3 st.2.2.length q3] 26)) hb1)
  clear hb1
  by_cases hok : stOk st = 0
  · have HR := hide (right_of_ok hok)
    have hokb : (stOk st != 0) = false := by simp [hok]
    have HF := hide (show movesF st = movesUp st st.2.2.length by simp [movesF, hok])
    obtain ⟨l1, l2, l3, l4⟩ := HR.out.lens
    have HL4 := hide l4
    have hn5 : st.2.2.length ≤ 5 := by omega
    clear hok l4
    generalize stOk st = code at *
    go_wp2_with fail
    have HC0 := hide c0
    have HC1 := hide c1
    have HC2 := hide c2
    go_loopw [3, 12] (fun u i wr => ∃ k : Nat, k ≤ st.2.2.length ∧ i = .int .i64 k ∧ OwnInts w1.heap.size wr u (movesUp st k) ∧ Below w1.heap.size w1 wr) (fun _ i _ => st.2.2.length - (intOf i).toNat)
    case atStart => exact ⟨0, Nat.zero_le _, rfl, OwnInts.nil _ _, Below.refl _ _⟩
    case round =>
      obtain ⟨k, hk, rfl, hown, hb⟩ := hrel
      have hbw := below_tail HB1.out hb
      by_cases hlt : k < st.2.2.length
      · have q0 := cell_later hb HC0.out
        have q1' := cell_later hb HC1.out
        have q2' := cell_later hb HC2.out
        have HSW := hide (HS.out.below hbw)
        obtain ⟨b, off, rfl, hx⟩ := HSW.out.parts.2.2.cellAt k hlt
        have HB := hide hb
        have HO := hide hown
        have HBW := hide hbw
        have hkt : Hid (k < st.2.1.length) := show k < _ by have := HL4.out; omega
        clear hb hown hbw c0 c1 c2
        go_wp2_with fail
        refine (canMove_any _ st pz k _ HSW.out (CapSt.below HCP.out HS.out HBW.out) HR.out (pz_ok st) hkt.out).mono ?_
        rintro e w2 ⟨rfl, hb2⟩
        rw [canP_pz]
        have HO2 := hide (HO.out.below hb2)
        have HB2 := hide (below_tail HB.out hb2)
        clear hb2
        cases hcan : canB st k with
        | false =>
          have HM := hide (show movesUp st (k + 1) = movesUp st k by simp [movesUp, hcan])
          clear hcan
          go_wp2_with fail
          go_roundw
          case rel => exact ⟨k + 1, by omega, by go_num, by rw [HM.out]; exact HO2.out, HB2.out⟩
          case measure => simp [intOf]; omega
        | true =>
          have HM := hide (show movesUp st (k + 1) = movesUp st k ++ [el st.2.2 k] by simp [movesUp, hcan])
          have hml := movesUp_le st k
          clear hcan
          obtain ⟨i0, hi, hz0, hz1, hz2⟩ := info_parts Try.infoInt
          have HI0 := hide hi
          have HZ0 := hide hz0
          have HZ1 := hide hz1
          have HZ2 := hide hz2
          clear hi hz0 hz1 hz2
          go_wp2_with (first | (at_builtin; refine wpList_append_lies _ rfl _ _ 23 rfl w1.heap.size 3 i0 (.int .i64 0) 1 8 Try.underlying23 HI0.out HZ0.out HZ1.out HZ2.out rfl (by decide) _ _ _ rfl (HO2.out.alloc _) ⟨w2.heap.size, 0, none⟩ 1 1 [.int .i64 (el st.2.2 k)] rfl rfl ?c1 ?c2 (by decide) ?c3 ?c4 ?c5 _ rfl ?_))
          case c1 => exact cell_one_new _ _ _
          case c2 => intro u hu; simp at hu; subst hu; rfl
          case c3 => unfold maxLen; omega
          case c4 => omega
          case c5 => have := HB2.out.size; simp; omega
          · intro g cap w3 hown3 hgrow _ _
            have HO3 := hide (OwnInts.snoc hown3)
            have HB3 := hide (below_grown (HB2.out.alloc HB2.out.size (.cells #[.int .i64 (el st.2.2 k)] 3)) (HO2.out.alloc (.cells #[.int .i64 (el st.2.2 k)] 3)) hgrow (by have := HB2.out.size; simp; omega) (Nat.le_refl _))
            clear hown3 hgrow
            go_wp2_with fail
            go_roundw
            case rel => exact ⟨k + 1, by omega, by go_num, by rw [HM.out]; exact HO3.out, HB3.out⟩
            case measure => simp [intOf]; omega
      · go_wp2_with fail
        go_ret
        obtain rfl : k = st.2.2.length := by omega
        exact ⟨_, rfl, by rw [HF.out]; exact hown.le HB1.out.size, hbw⟩
  · have hokb : (stOk st != 0) = true := by simp [hok]
    have HF := hide (show movesF st = [] by simp [movesF, hok])
    clear hok
    generalize stOk st = code at *
    go_wp2_with fail
    go_ret
    exact ⟨_, rfl, by rw [HF.out]; exact OwnInts.nil _ _, HB1.out⟩
end Go.Proofs.Ytmjjigdnoiphbaa
