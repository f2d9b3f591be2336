/-
  impl: newSearch, Safe.
-/
import Derived.Test.YtmjjigdnoiphbaaDoorSr6
namespace Go.Proofs.YtmjjigdnoiphbaaDoor
open Go.RowKit Go.Deep Go.Maps
set_option linter.unusedVariables false

theorem known_made {st : St} (w : World) : KnownAt st (w.alloc (.map #[] 0)) w.heap.size (fun _ => 0) :=
  ⟨.map [], (World.ownsMap_made w Tryd.prog 61 (plainElem Tryd.prog 118)).mono (by omega), ⟨⟨[], rfl, List.Pairwise.nil, fun p hp => by simp at hp⟩, fun d _ kl _ => rfl⟩⟩
theorem sound_none (st : St) : Sound st (fun _ => 0) := fun e _ => ⟨fun h => by simp at h, fun h => by simp at h, Or.inl rfl⟩

set_option maxHeartbeats 2000000 in
theorem newSearch_any {st : St} {a1 a2 a3 : Option Addr} {q1 q2 q3 : Nat} (w : World) (hst : StateAt w (.agg #[.slice a1 st.1.length q1, .slice a2 st.2.1.length q2, .slice a3 st.2.2.length q3]) st) (hs : SoSt st) :
    Calls Tryd.prog 28 #[.agg #[.slice a1 st.1.length q1, .slice a2 st.2.1.length q2, .slice a3 st.2.2.length q3]] w fun e w' => ∃ sb mb, e = .returned (.pointer (some ⟨sb, 0, none⟩)) ∧ Srch st w sb mb (.slice a1 st.1.length q1) (.slice a2 st.2.1.length q2) (.slice a3 st.2.2.length q3) w' (.slice none 0 0) [] [] (fun _ => 0) ∧ sb < w'.heap.size ∧ mb < w'.heap.size := by
  have hmm := @run_makeMap Tryd.prog
  have HST := hide hst
  have HSO := hide hs
  clear hst hs
  go_enter Tryd.func28, Tryd.ntmps28
  go_wp2_with fail
  obtain ⟨W0, hW0⟩ : ∃ W0, W0 = w.alloc (.cells #[.slice a1 st.1.length q1, .slice a2 st.2.1.length q2, .slice a3 st.2.2.length q3] 26) := ⟨_, rfl⟩
  rw [← hW0]
  have HB0 : Hid (Below w.heap.size w W0) := by rw [hW0]; exact Joins.below_alloc1 _ _
  have hs0 : W0.heap.size = w.heap.size + 1 := by rw [hW0]; simp
  have hx0 : W0.heap[w.heap.size]? = some (.cells #[.slice a1 st.1.length q1, .slice a2 st.2.1.length q2, .slice a3 st.2.2.length q3] 26 (0, 0)) := by rw [hW0]; exact heap_alloc_new _ _
  obtain ⟨c0, c1, c2, _⟩ := block3 hx0
  clear hW0 hx0
  have m0 := cell_later (Joins.below_alloc1 W0 (.map #[] 0)) c0
  have m1 := cell_later (Joins.below_alloc1 W0 (.map #[] 0)) c1
  have m2 := cell_later (Joins.below_alloc1 W0 (.map #[] 0)) c2
  go_region_held3 (fun w' => w'.cell? ⟨w.heap.size, 0, none⟩ = some (.slice a1 st.1.length q1) ∧ w'.cell? ⟨w.heap.size, 1, none⟩ = some (.slice a2 st.2.1.length q2) ∧ w'.cell? ⟨w.heap.size, 2, none⟩ = some (.slice a3 st.2.2.length q3))
    (first | (exact ⟨cell_later hb1 (by exact c0), cell_later hb1 (by exact c1), cell_later hb1 (by exact c2)⟩) | (exact ⟨cell_later hb1 (by exact m0), cell_later hb1 (by exact m1), cell_later hb1 (by exact m2)⟩) | go_keep)
    (first | (go_at_call 55; refine (endOf_any _ st _ ?_ HSO.out).mono ?_; (first | exact (HST.out.below HB0.out.drew) | exact (HST.out.below (below_tail HB0.out.drew (Joins.below_alloc1 _ _))) | exact (HST.out.below (below_tail HB0.out (Joins.below_alloc1 _ _)).drew)); rintro e W1 ⟨rfl, hb1⟩; unfold pv pc5))
  · have hbA : Below w.heap.size w W1 := below_tail HB0.out (below_tail (Joins.below_draws _ _ 1) hb1)
    go_wp2_with fail
    go_ret
    have hkn := known_made (st := st) W1
    have hbB := Joins.below_alloc1 (W1.alloc (.map #[] 0)) (.cells #[.slice a1 st.1.length q1, .slice a2 st.2.1.length q2, .slice a3 st.2.2.length q3, .int .i8 (endP st 0), .int .i8 (endP st 1), .int .i8 (endP st 2), .int .i8 (endP st 3), .int .i8 (endP st 4), .map (some W1.heap.size), .slice none 0 0] 114)
    have hs2 : (W1.alloc (.map #[] 0)).heap.size = W1.heap.size + 1 := by simp
    have hvar := heap_alloc_new (W1.alloc (.map #[] 0)) (.cells #[.slice a1 st.1.length q1, .slice a2 st.2.1.length q2, .slice a3 st.2.2.length q3, .int .i8 (endP st 0), .int .i8 (endP st 1), .int .i8 (endP st 2), .int .i8 (endP st 3), .int .i8 (endP st 4), .map (some W1.heap.size), .slice none 0 0] 114)
    rw [hs2] at hvar
    have hall : Below w.heap.size w ((W1.alloc (.map #[] 0)).alloc (.cells #[.slice a1 st.1.length q1, .slice a2 st.2.1.length q2, .slice a3 st.2.2.length q3, .int .i8 (endP st 0), .int .i8 (endP st 1), .int .i8 (endP st 2), .int .i8 (endP st 3), .int .i8 (endP st 4), .map (some W1.heap.size), .slice none 0 0] 114)) := below_tail hbA (Joins.below_alloc2 W1 _ _)
    have hsz := hbA.size
    refine ⟨W1.heap.size + 1, W1.heap.size, rfl, ⟨hvar, World.ownsRow_nil _ _ _ _, trivial, hkn.kept (hbB.block _ hkn.lt), by omega, fun q e => by simp [Value.ownBlock] at e, ⟨by omega, by omega⟩, hall⟩, ?_, ?_⟩
    · simp
    · simp; omega
  · have hkn := known_made (st := st) W0
    have hb1' : Below (W0.alloc (.map #[] 0)).heap.size (W0.alloc (.map #[] 0)) W1 := below_tail (Joins.below_draws _ _ 1) hb1
    have hbA : Below w.heap.size w W1 := below_tail (below_tail HB0.out (Joins.below_alloc1 _ _)) hb1'
    go_wp2_with fail
    go_ret
    have hm1 := hkn.kept (hb1'.block _ hkn.lt)
    have hlt := hm1.lt
    have hbB := Joins.below_alloc1 W1 (.cells #[.slice a1 st.1.length q1, .slice a2 st.2.1.length q2, .slice a3 st.2.2.length q3, .int .i8 (endP st 0), .int .i8 (endP st 1), .int .i8 (endP st 2), .int .i8 (endP st 3), .int .i8 (endP st 4), .map (some (w.heap.size + 1)), .slice none 0 0] 114)
    have hvar := heap_alloc_new W1 (.cells #[.slice a1 st.1.length q1, .slice a2 st.2.1.length q2, .slice a3 st.2.2.length q3, .int .i8 (endP st 0), .int .i8 (endP st 1), .int .i8 (endP st 2), .int .i8 (endP st 3), .int .i8 (endP st 4), .map (some (w.heap.size + 1)), .slice none 0 0] 114)
    have hm2 := hm1.kept (hbB.block _ hlt)
    rw [hs0] at hm2 hlt
    refine ⟨W1.heap.size, w.heap.size + 1, rfl, ⟨hvar, World.ownsRow_nil _ _ _ _, trivial, hm2, by omega, fun q e => by simp [Value.ownBlock] at e, ⟨by omega, by omega⟩, below_tail hbA (Joins.below_alloc1 W1 _)⟩, ?_, ?_⟩
    · simp
    · simp; omega

set_option maxRecDepth 4000 in
set_option maxHeartbeats 4000000 in
theorem implSafe_any (v : Value) (st : St) (w : World) (h : StateAt w v st) (hcap : CapSt w v st.2.1.length) (hp : ∀ i, i < st.2.1.length → (tPath st.2.1 i).length ≤ 4611686018427387904) :
    Calls Tryd.prog 15 #[v] w fun e w' => e = .returned (.bool (safeF st)) ∧ Below w.heap.size w w' := by
  have HS := hide h
  have HP := hide hp
  have HC := hide hcap
  obtain ⟨a1, q1, a2, q2, a3, q3, rfl⟩ := h.form
  clear h hp hcap
  go_enter Tryd.func15, Tryd.ntmps15
  go_wp2_with fail
  refine (implStateOk_any _ st _ (HS.out.below (Joins.below_alloc1 _ _)) HP.out).mono ?_
  rintro e w1 ⟨rfl, hb1⟩
  have HX1 := hide (blockLater hb1 (heap_alloc_new w (.cells #[.slice a1 st.1.length q1, .slice a2 st.2.1.length q2, .slice a3 st.2.2.length q3] 26)))
  have HB1 := hide (below_tail (Joins.below_alloc1 w (.cells #[.slice a1 st.1.length q1, .slice a2 st.2.1.length q2, .slice a3 st.2.2.length q3] 26)) hb1)
  obtain ⟨c0, c1, c2, _⟩ := block3 HX1.out
  clear hb1
  by_cases hok : stOk st = 0
  · have HR := hide (right_of_ok hok)
    have HPZ := hide (behind_pz HR.out.lens.2.2.2)
    have hokb : (stOk st == 0) = true := by simp [hok]
    have HF := hide (show safeF st = decide (0 ≤ val st) by simp [safeF, hok])
    clear hok
    generalize stOk st = code at *
    go_wp2_with fail
    refine (newSearch_any (st := st) w1 (HS.out.below HB1.out) HR.out.so).mono ?_
    rintro e w2 ⟨sb, mb, rfl, hs2, _, _⟩
    have HB2 : Hid (Below w.heap.size w w2) := below_tail HB1.out hs2.old
    have HS2 := hide hs2
    have hlh := leadsHome_any hs2 (HS.out.below HB1.out) (CapSt.below HC.out HS.out HB1.out) HR.out (sound_none st) (PV.pz st)
    rw [HPZ.out] at hlh
    have HLH := hide hlh
    clear hs2 hlh c0 c1 c2
    go_wp2_with fail
    refine HLH.out.mono ?_
    rintro e w3 ⟨rfl, kn', _, ⟨tv', vals', hs3, hc3, _⟩⟩
    have HB3 : Hid (Below w.heap.size w w3) := below_tail HB1.out hs3.old
    clear hs3 hc3
    generalize val st = vv at *
    cases hd : decide (0 ≤ vv)
    all_goals
      rw [hd] at HF
      go_wp2_with fail
      go_ret
      exact ⟨by rw [HF.out]; rfl, HB3.out⟩
  · have hokb : (stOk st == 0) = false := by simp [hok]
    have HF := hide (show safeF st = false by simp [safeF, hok])
    clear hok
    generalize stOk st = code at *
    go_wp2_with fail
    go_ret
    exact ⟨by rw [HF.out]; rfl, HB1.out⟩

/-- a search with nothing on its stack, where its blocks have not turned -/
theorem Srch.still {st : St} {w0 : World} {sb mb : Nat} {r t n : Value} {w w' : World} {tv : Value} {vals : List Value} {kn : Kn} (h : Srch st w0 sb mb r t n w tv vals [] kn) (hb : ∀ q, badB sb mb tv q → w'.heap[q]? = w.heap[q]?) (hold : Below w0.heap.size w0 w') : Srch st w0 sb mb r t n w' tv vals [] kn := by
  refine ⟨(hb sb (Or.inl rfl)).trans h.var, ownsRow_keep h.row (fun q hq => hb q (Or.inr (Or.inr hq))), ?_, h.known.kept (hb mb (Or.inr (Or.inl rfl))), h.ne, h.apart, h.lo, hold⟩
  have := h.tasks
  cases e : vals.reverse with
  | nil => trivial
  | cons v vs => rw [e] at this; exact this.elim

end Go.Proofs.YtmjjigdnoiphbaaDoor
