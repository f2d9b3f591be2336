/-
  impl.Guard at a state that isn't safe: nothing.
-/
import Derived.Test.YtmjjigdnoiphbaaGreatDoorSr7
namespace Go.Proofs.YtmjjigdnoiphbaaGreatDoor
open Go.RowKit Go.Deep
set_option linter.unusedVariables false

set_option maxRecDepth 4000 in
set_option maxHeartbeats 4000000 in
theorem implGuard_no (v : Value) (st : St) (a : Option Addr) (n c : Nat) (w : World) (h : StateAt w v st) (hcap : CapSt w v st.2.1.length) (hp : ∀ i, i < st.2.1.length → (tPath st.2.1 i).length ≤ 4611686018427387904) (hun : safeF st = false) (hn : n ≤ 500) :
    Calls Tryz.prog 7 #[v, .slice a n c] w fun e w' => e = .returned (.slice none 0 0) ∧ Below w.heap.size w w' := by
  have HS := hide h
  have HP := hide hp
  have HC := hide hcap
  have HU := hide hun
  have hni : ¬ ((500 : Int) < (n : Int)) := by omega
  obtain ⟨a1, q1, a2, q2, a3, q3, rfl⟩ := h.form
  clear h hp hcap hun
  go_enter Tryz.func7, Tryz.ntmps7
  go_wp2_with fail
  refine (implStateOk_any _ st _ (HS.out.below (Joins.below_alloc1 _ _)) HP.out).mono ?_
  rintro e w1 ⟨rfl, hb1⟩
  have HX1 := hide (blockLater hb1 (heap_alloc_new w (.cells #[.slice a1 st.1.length q1, .slice a2 st.2.1.length q2, .slice a3 st.2.2.length q3] 26)))
  have HB1 := hide (below_tail (Joins.below_alloc1 w (.cells #[.slice a1 st.1.length q1, .slice a2 st.2.1.length q2, .slice a3 st.2.2.length q3] 26)) hb1)
  obtain ⟨c0, c1, c2, _⟩ := block3 HX1.out
  clear hb1
  by_cases hok : stOk st = 0
  · have HR := hide (right_of_ok hok)
    have HPZ := hide (behind_pz HR.out.lens.2.2.2)
    have hokb : (stOk st != 0) = false := by simp [hok]
    have HF := hide (show decide (0 ≤ val st) = false by have := HU.out; simpa [safeF, hok] using this)
    clear hok
    generalize stOk st = code at *
    go_wp2_with fail
    refine (newSearch_any (st := st) w1 (HS.out.below HB1.out) HR.out.so).mono ?_
    rintro e w2 ⟨sb, mb, rfl, hs2, _, _⟩
    have HB2 : Hid (Below w.heap.size w w2) := below_tail HB1.out hs2.old
    have HS2 := hide hs2
    have hlh := leadsHome_any hs2 (HS.out.below HB1.out) (CapSt.below HC.out HS.out HB1.out) HR.out (sound_none st) (PV.pz st)
    rw [HPZ.out] at hlh
    have HLH := hide hlh
    clear hs2 hlh c0 c1 c2
    go_wp2_with fail
    refine HLH.out.mono ?_
    rintro e w3 ⟨rfl, kn', _, ⟨tv', vals', hs3, hc3, _⟩⟩
    have HB3 : Hid (Below w.heap.size w w3) := below_tail HB1.out hs3.old
    clear hs3 hc3
    rw [HF.out]
    go_wp2_with fail
    go_ret
    exact ⟨rfl, HB3.out⟩
  · have hokb : (stOk st != 0) = true := by simp [hok]
    clear hok
    generalize stOk st = code at *
    go_wp2_with fail
    go_ret
    exact ⟨rfl, HB1.out⟩
end Go.Proofs.YtmjjigdnoiphbaaGreatDoor
