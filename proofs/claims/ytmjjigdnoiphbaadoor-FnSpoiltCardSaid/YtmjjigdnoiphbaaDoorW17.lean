/-
  spec.l1can.
-/
import Derived.Test.YtmjjigdnoiphbaaDoorK8
namespace Go.Proofs.YtmjjigdnoiphbaaDoor
open Go.RowKit Go.Deep
set_option linter.unusedVariables false

/-- train i can move -/
def canB (st : St) (i : Nat) : Bool :=
  decide ((tPath st.2.1 i).length = 0) || decide ((there st.2.1 (el (tPath st.2.1 i) 0) : Int) < el st.1 (el (tPath st.2.1 i) 0).toNat)

theorem RightSt.train {st : St} (h : RightSt st) (i : Nat) (hi : i < st.2.1.length) : 0 ≤ tAt st.2.1 i ∧ tAt st.2.1 i < st.1.length ∧ (tPath st.2.1 i).length ≤ 8 ∧ 1 ≤ tWt st.2.1 i ∧ tWt st.2.1 i ≤ 100 ∧ ∀ j, j < (tPath st.2.1 i).length → 0 ≤ el (tPath st.2.1 i) j ∧ el (tPath st.2.1 i) j < st.1.length := by
  have := allUp_at h.trains i hi
  simp only [trainB, inR, Bool.and_eq_true, decide_eq_true_eq] at this
  obtain ⟨⟨h1, h2⟩, h3, ⟨h4, h5⟩, h6⟩ := this
  refine ⟨h1, by omega, h3, h4, h5, fun j hj => ?_⟩
  have := allUp_at h6 j hj
  simp only [stepB, inR, Bool.and_eq_true, decide_eq_true_eq] at this
  omega

theorem RightSt.first {st : St} (h : RightSt st) (i : Nat) (hi : i < st.2.1.length) (hne : ¬ (tPath st.2.1 i).length = 0) : ∃ k : Nat, el (tPath st.2.1 i) 0 = (k : Int) ∧ k < st.1.length := by
  obtain ⟨_, _, _, _, _, h6⟩ := h.train i hi
  obtain ⟨a, b⟩ := h6 0 (by omega)
  exact ⟨(el (tPath st.2.1 i) 0).toNat, by omega, by omega⟩

theorem StateAt.parts {w : World} {a1 a2 a3 : Option Addr} {l1 l2 l3 q1 q2 q3 : Nat} {st : St} (h : StateAt w (.agg #[.slice a1 l1 q1, .slice a2 l2 q2, .slice a3 l3 q3]) st) :
    IntsAt w (.slice a1 l1 q1) st.1 ∧ TrainsAt w (.slice a2 l2 q2) st.2.1 ∧ IntsAt w (.slice a3 l3 q3) st.2.2 := by
  obtain ⟨vr, vt, vn, hv, h1, h2, h3⟩ := h
  simp only [Value.agg.injEq, Array.mk.injEq, List.cons.injEq, and_true] at hv
  obtain ⟨rfl, rfl, rfl⟩ := hv
  exact ⟨h1, h2, h3⟩

theorem IntsAt.cellAt {w : World} {a : Option Addr} {l q : Nat} {xs : List Int} (h : IntsAt w (.slice a l q) xs) (i : Nat) (hi : i < xs.length) : ∃ b off, a = some ⟨b, off, none⟩ ∧ w.cell? ⟨b, off + i, none⟩ = some (.int .i64 (el xs i)) := by
  obtain ⟨a', c', hv, h⟩ := h
  simp only [Value.slice.injEq] at hv
  obtain ⟨rfl, _, rfl⟩ := hv
  exact h i hi

theorem TrainsAt.trainAt {w : World} {a : Option Addr} {l q : Nat} {ts : List Tr} (h : TrainsAt w (.slice a l q) ts) (i : Nat) (hi : i < ts.length) : ∃ b off, a = some ⟨b, off, none⟩ ∧ TrainAt w b (off + i * 3) (tAt ts i) (tPath ts i) (tWt ts i) := by
  obtain ⟨a', c', hv, h⟩ := h
  simp only [Value.slice.injEq] at hv
  obtain ⟨rfl, _, rfl⟩ := hv
  exact h i hi

set_option maxHeartbeats 2000000 in
theorem l1can_any (v : Value) (st : St) (i : Nat) (w : World) (h : StateAt w v st) (hr : RightSt st) (hi : i < st.2.1.length) :
    Calls Tryd.prog 26 #[v, .int .i64 i] w fun e w' => e = .returned (.bool (canB st i)) ∧ Below w.heap.size w w' := by
  have HS := hide h
  have HR := hide hr
  obtain ⟨a1, q1, a2, q2, a3, q3, rfl⟩ := h.form
  obtain ⟨hp1, hp2, hp3⟩ := h.parts
  obtain ⟨b, off, rfl, vp, t0, t1, hI, t2⟩ := hp2.trainAt i hi
  obtain ⟨l1, l2, l3, l4⟩ := hr.lens
  have HI := hide hI
  obtain ⟨ap, cp, rfl, _⟩ := hI
  have hbl := World.block_lt_of_cell? _ _ t0
  have h8 := (hr.train i hi).2.2.1
  simp only at hbl
  clear h hr hp2 hp3 l4
  have hii : (i : Int) < (st.2.1.length : Int) := by omega
  go_enter Tryd.func26, Tryd.ntmps26
  go_wp2_with fail
  obtain ⟨V, hV⟩ : ∃ V, V = (w.alloc (.cells #[.slice a1 st.1.length q1, .slice (some ⟨b, off, none⟩) st.2.1.length q2, .slice a3 st.2.2.length q3] 26)).alloc (.cells #[.int .i64 (tAt st.2.1 i), .slice ap (tPath st.2.1 i).length cp, .int .i64 (tWt st.2.1 i)] 35) := ⟨_, rfl⟩
  rw [← hV]
  have c0 : V.cell? ⟨w.heap.size, 0, none⟩ = some (.slice a1 st.1.length q1) := by rw [hV]; simp
  have c1 : V.cell? ⟨w.heap.size, 1, none⟩ = some (.slice (some ⟨b, off, none⟩) st.2.1.length q2) := by rw [hV]; simp
  have c2 : V.cell? ⟨w.heap.size, 2, none⟩ = some (.slice a3 st.2.2.length q3) := by rw [hV]; simp
  have d1 : V.cell? ⟨w.heap.size + 1, 1, none⟩ = some (.slice ap (tPath st.2.1 i).length cp) := by rw [hV]; simp
  have hbV : Below w.heap.size w V := by rw [hV]; exact Joins.below_alloc2 _ _ _
  have HBV := hide hbV
  clear hV t0 t1 t2
  by_cases hz : (tPath st.2.1 i).length = 0
  · have hzb : (((tPath st.2.1 i).length : Int) == 0) = true := by simp [hz]
    have HF := hide (show canB st i = true by simp [canB, hz])
    clear hz hbV
    go_quiet (fail)
    go_wp2_with fail
    go_ret
    exact ⟨by rw [HF.out]; rfl, HBV.out.trans (Joins.below_draws _ _ _)⟩
  · have hzb : (((tPath st.2.1 i).length : Int) == 0) = false := by rw [beq_eq_false_iff_ne]; omega
    obtain ⟨k, hk, hkl⟩ := HR.out.first i hi hz
    obtain ⟨b2, off2, rfl, hx⟩ := HI.out.cellAt 0 (by omega)
    obtain ⟨b3, off3, rfl, hy⟩ := hp1.cellAt k hkl
    rw [hk, Nat.add_zero] at hx
    have x0 := cell_later hbV hx
    have y0 := cell_later hbV hy
    have HF := hide (show canB st i = decide ((there st.2.1 (k : Int) : Int) < el st.1 k) by simp [canB, hk, hz])
    have hp0 : (0 : Int) < ((tPath st.2.1 i).length : Int) := by omega
    have hki : (k : Int) < (st.1.length : Int) := by omega
    have hk0 : (0 : Int) ≤ (k : Int) := by omega
    have HSV := hide (HS.out.below hbV)
    have HL : Hid (st.2.1.length ≤ 4611686018427387904) := show _ ≤ _ by omega
    clear hz hx hy hk hbV hp1 HI
    generalize (tPath st.2.1 i).length = np at *
    have hpn : 0 < np := by omega
    cases hd : decide ((there st.2.1 (k : Int) : Int) < el st.1 k)
    all_goals
      rw [hd] at HF
      go_region_held3 (fun w' => w'.cell? ⟨w.heap.size, 0, none⟩ = some (.slice (some ⟨b3, off3, none⟩) st.1.length q1) ∧ w'.cell? ⟨w.heap.size, 1, none⟩ = some (.slice (some ⟨b, off, none⟩) st.2.1.length q2) ∧ w'.cell? ⟨w.heap.size, 2, none⟩ = some (.slice a3 st.2.2.length q3) ∧ w'.cell? ⟨w.heap.size + 1, 1, none⟩ = some (.slice (some ⟨b2, off2, none⟩) np cp) ∧ w'.cell? ⟨b2, off2, none⟩ = some (.int .i64 (k : Int)) ∧ w'.cell? ⟨b3, off3 + k, none⟩ = some (.int .i64 (el st.1 k)))
        (first | (exact ⟨cell_later hb2 (by exact c0), cell_later hb2 (by exact c1), cell_later hb2 (by exact c2), cell_later hb2 (by exact d1), cell_later hb2 (by exact x0), cell_later hb2 (by exact y0)⟩) | go_keep)
        (first | (go_at_call 45; refine (l1there_any _ st _ _ ?_ HL.out).mono ?_; exact (HSV.out.below (Joins.below_draws _ _ 1)); rintro e w2 ⟨rfl, hb2⟩))
      all_goals
        have HB2 := hide (below_tail HBV.out.drew hb2)
        clear hb2
        go_wp2_with fail
        go_ret
        exact ⟨by rw [HF.out]; rfl, HB2.out⟩

end Go.Proofs.YtmjjigdnoiphbaaDoor
