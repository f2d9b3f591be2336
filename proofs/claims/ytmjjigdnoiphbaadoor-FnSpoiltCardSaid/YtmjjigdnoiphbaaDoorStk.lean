/-
  spec.Stuck, impl.Stuck; law Stuck.
-/
import Derived.Test.YtmjjigdnoiphbaaDoorL1
namespace Go.Proofs.YtmjjigdnoiphbaaDoor
open Go.RowKit Go.Deep
set_option linter.unusedVariables false

/-- Stuck -/
def stuckF (st : St) : Bool := decide (stOk st = 0) && (decide (0 < st.2.1.length) && decide ((movesF st).length = 0))

set_option maxHeartbeats 2000000 in
theorem implStuck_any (v : Value) (st : St) (w : World) (h : StateAt w v st) (hcap : CapSt w v st.2.1.length) (hp : ∀ i, i < st.2.1.length → (tPath st.2.1 i).length ≤ 4611686018427387904) (hn : st.2.1.length ≤ 4611686018427387904) :
    Calls Tryd.prog 16 #[v] w fun e w' => e = .returned (.bool (stuckF st)) ∧ Below w.heap.size w w' := by
  have HS := hide h
  have HP := hide hp
  have HC := hide hcap
  clear hp hcap
  obtain ⟨a1, q1, a2, q2, a3, q3, rfl⟩ := h.form
  clear h
  go_enter Tryd.func16, Tryd.ntmps16
  go_wp2_with fail
  refine (implStateOk_any _ st _ (HS.out.below (Joins.below_alloc1 _ _)) HP.out).mono ?_
  rintro e w1 ⟨rfl, hb1⟩
  have c0 : w1.cell? ⟨w.heap.size, 0, none⟩ = some (.slice a1 st.1.length q1) := cell_later hb1 (by simp)
  have c1 : w1.cell? ⟨w.heap.size, 1, none⟩ = some (.slice a2 st.2.1.length q2) := cell_later hb1 (by simp)
  have c2 : w1.cell? ⟨w.heap.size, 2, none⟩ = some (.slice a3 st.2.2.length q3) := cell_later hb1 (by simp)
  have HB1 := hide (below_tail (Joins.below_alloc1 w (.cells #[.slice a1 st.1.length q1, .slice a2 st.2.1.length q2, .slice a3 st.2.2.length q3] 26)) hb1)
  clear hb1
  by_cases hok : stOk st = 0
  · have hokb : (stOk st == 0) = true := by simp [hok]
    by_cases hpos : 0 < st.2.1.length
    · have HF := hide (show stuckF st = decide ((movesF st).length = 0) by simp [stuckF, hok, hpos])
      clear hok
      generalize stOk st = code at *
      go_wp2_with fail
      refine (implMoves_any _ st _ (HS.out.below HB1.out) (CapSt.below HC.out HS.out HB1.out) HP.out).mono ?_
      rintro e w2 ⟨r, rfl, hr, hb2⟩
      obtain ⟨ra, rc, rfl⟩ := hr.form
      have HB2 := hide (below_tail HB1.out hb2)
      have hm5 := movesF_le st
      clear hb2 hr
      generalize (movesF st).length = nm at *
      cases hz : decide (nm = 0)
      all_goals
        have hzb : ((nm : Int) == 0) = decide (nm = 0) := by
          rw [Bool.eq_iff_iff]; simp
        rw [hz] at hzb HF
        clear hz
        go_wp2_with fail
        go_ret
        exact ⟨by rw [HF.out]; rfl, HB2.out⟩
    · have HF := hide (show stuckF st = false by simp [stuckF, hpos])
      clear hok
      generalize stOk st = code at *
      go_wp2_with fail
      go_ret
      exact ⟨by rw [HF.out]; rfl, HB1.out⟩
  · have hokb : (stOk st == 0) = false := by simp [hok]
    have HF := hide (show stuckF st = false by simp [stuckF, hok])
    clear hok
    generalize stOk st = code at *
    go_wp2_with fail
    go_ret
    exact ⟨by rw [HF.out]; rfl, HB1.out⟩

end Go.Proofs.YtmjjigdnoiphbaaDoor
