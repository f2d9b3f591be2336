/-
  Law FnSpoilt.
-/
import Derived.Test.YtmjjigdnoiphbaaDoorK7
import Derived.Test.YtmjjigdnoiphbaaDoorL4
import Derived.Test.YtmjjigdnoiphbaaDoorSh3
import Derived.Test.YtmjjigdnoiphbaaDoorSo6
import Derived.Test.YtmjjigdnoiphbaaDoorCo2
import Derived.Test.YtmjjigdnoiphbaaDoorSr7
import Derived.Test.YtmjjigdnoiphbaaDoorStk
import Derived.Test.YtmjjigdnoiphbaaDoorK8
import Derived.Test.YtmjjigdnoiphbaaDoorJ4
import Derived.Deep.RegionHeld3
namespace Go.Proofs.YtmjjigdnoiphbaaDoor
open Go.RowKit Go.Deep
set_option linter.unusedVariables false
set_option linter.unusedSimpArgs false

theorem run_fieldOk2 (x : Int) (u : Value) (w : World) : (Instr.field 42 (.agg #[.bool false, .int .i64 x, u]) 0).run Tryd.prog w = .ok (.bool false) w := by
  obtain ⟨i0, hi, hz0, hz1, hz2⟩ := info_parts Tryd.infoInt
  obtain ⟨i1, hi1, -, hy1, -⟩ := info_parts Tryd.infoBool
  simp [Instr.field, run_underlying Tryd.underlying42, run_underlying Tryd.underlying3, run_underlying Tryd.underlying4, part, isAgg, sizeOf, typeInfo, hi, hz1, hi1, hy1, asAgg, go_sem]

set_option maxHeartbeats 40000000 in
set_option maxRecDepth 100000 in
theorem fnSpoilt_walk (a : Option Addr) (B : List Int) (q : Nat) (w : World) (hl : B.length ≤ 9223372036854775807) (h : B.length ≤ 1048576 → BytesF w a B) (ha : ∀ b off s, a = some ⟨b, off, s⟩ → 0 < B.length → b < w.heap.size) (ht : Tab10 w) :
    Calls Tryd.prog 4 #[.slice a B.length q] w fun e w' => e = .returned (.bool true) ∧ Below w.heap.size w w' := by
  have HB1 := hide h
  have HA := hide ha
  have HT := hide ht
  clear h ha ht
  generalize hn1 : B.length = n1 at *
  by_cases hbig : (n1 : Int) > 1048576
  · go_enter Tryd.func4, Tryd.ntmps4
    go_wp2_with fail
    go_ret
    exact ⟨rfl, Below.refl _ _⟩
  have hb1 : ¬ (1048576 : Int) < (n1 : Int) := by omega
  have HY1 := hide (HB1.out (by omega))
  have HDW : Hid (Calls Tryd.prog 10 #[.slice a n1 q] w (DrawnOk w)) := by
    have h2 := HA.out
    rw [← hn1] at h2 ⊢
    exact drawStateOk_any HY1.out h2
  clear HB1 hbig hn1 hl HA HY1
  go_enter Tryd.func4, Tryd.ntmps4
  go_wp2_with fail
  clear hb1
  refine HDW.out.mono ?_
  rintro e w7 ⟨rr, st, rfl, hsz, hs7, hc7, hb7⟩
  obtain ⟨q1, o1, q2, o2, q3, o3, hrr⟩ := hs7.form
  subst hrr
  have HP : Hid (∀ j, j < st.2.1.length → (tPath st.2.1 j).length ≤ 4611686018427387904) := fun j hj => by have := hsz.p j hj; omega
  have HT6 : Hid (st.2.1.length ≤ 7) := hsz.t
  have HS7 := hide hs7
  have HC7 := hide hc7
  have HB7 := hide hb7
  clear hsz hs7 hc7 hb7 HDW
  obtain ⟨sb, hsb⟩ : ∃ sb, sb = w7.heap.size := ⟨_, rfl⟩
  have hbA := Joins.below_alloc1 w7 (.cells #[.slice q1 st.1.length o1, .slice q2 st.2.1.length o2, .slice q3 st.2.2.length o3] 26)
  obtain ⟨s0, s1, s2, -⟩ := block3 (heap_alloc_new w7 (.cells #[.slice q1 st.1.length o1, .slice q2 st.2.1.length o2, .slice q3 st.2.2.length o3] 26))
  have HS8 := hide (HS7.out.below hbA)
  have HC8 := hide (HC7.out.below HS7.out hbA)
  have HB8 := hide (below_tail HB7.out hbA)
  clear HS7 HC7 HB7 hbA
  go_wp2_with fail
  rw [← hsb] at s0 s1 s2 ⊢
  clear hsb
  generalize w7.alloc (.cells #[.slice q1 st.1.length o1, .slice q2 st.2.1.length o2, .slice q3 st.2.2.length o3] 26) = w8 at *
  refine (implStateOk_any _ st _ HS8.out HP.out).mono ?_
  rintro e w9 ⟨rfl, hb9⟩
  have HS9 := hide (HS8.out.below hb9)
  have HC9 := hide (HC8.out.below HS8.out hb9)
  have HB9 := hide (below_tail HB8.out hb9)
  replace s0 := cell_later hb9 s0
  replace s1 := cell_later hb9 s1
  replace s2 := cell_later hb9 s2
  clear hb9 HS8 HC8 HB8
  go_wp2_with fail
  refine (specStateOk_any _ st _ HS9.out).mono ?_
  rintro e w10 ⟨rfl, hb10⟩
  have HS10 := hide (HS9.out.below hb10)
  have HC10 := hide (HC9.out.below HS9.out hb10)
  have HB10 := hide (below_tail HB9.out hb10)
  have HT10 : Hid (Tab10 w10) := HT.out.later HB10.out
  replace s0 := cell_later hb10 s0
  replace s1 := cell_later hb10 s1
  replace s2 := cell_later hb10 s2
  clear hb10 HS9 HC9 HB9 HT
  obtain ⟨A, hA⟩ : ∃ A : Value, A = .agg #[.slice q1 st.1.length o1, .slice q2 st.2.1.length o2, .slice q3 st.2.2.length o3] := ⟨_, rfl⟩
  have HIS : Hid (∀ W, Below w10.heap.size w10 W → Calls Tryd.prog 13 #[.agg #[.slice q1 st.1.length o1, .slice q2 st.2.1.length o2, .slice q3 st.2.2.length o3]] W fun e w' => e = .returned (.string ⟨(shownF st).toArray⟩) ∧ Below w10.heap.size w10 w') := fun W hW =>
    (implShown_any _ st W (HS10.out.below hW) (HC10.out.below HS10.out hW) HP.out (HT10.out.later hW)).mono (fun e w' ⟨h1, h2⟩ => ⟨h1, below_tail hW h2⟩)
  clear hA
  by_cases hk : stOk st = 0
  · have HSS : Hid (∀ W, Below w10.heap.size w10 W → Calls Tryd.prog 14 #[.agg #[.slice q1 st.1.length o1, .slice q2 st.2.1.length o2, .slice q3 st.2.2.length o3]] W fun e w' => e = .returned (.string ⟨(shownF st).toArray⟩) ∧ Below w10.heap.size w10 w') := fun W hW =>
      (specShown_any _ st W (HS10.out.below hW)).mono (fun e w' ⟨h1, h2⟩ => ⟨h1, below_tail hW h2⟩)
    rw [hk]
    clear hk
    generalize (shownF st).toArray = sh at *
    go_wp2_with fail
    go_region_held3 (fun W => W.cell? ⟨sb, 0, none⟩ = some (.slice q1 st.1.length o1) ∧ W.cell? ⟨sb, 1, none⟩ = some (.slice q2 st.2.1.length o2) ∧ W.cell? ⟨sb, 2, none⟩ = some (.slice q3 st.2.2.length o3))
      (first | (exact ⟨cell_later HB12 s0, cell_later HB12 s1, cell_later HB12 s2⟩) | (exact ⟨cell_later HB11 s0, cell_later HB11 s1, cell_later HB11 s2⟩) | go_keep)
      (first | (go_at_call 13; refine (HIS.out _ ((Below.refl _ _).drew)).mono ?_; rintro e w11 ⟨rfl, HB11⟩) | (go_at_call 14; refine (HSS.out _ HB11).mono ?_; rintro e w12 ⟨rfl, HB12⟩))
    all_goals
      have HB13 := hide (below_tail HB10.out HB12)
      clear HB11 HB12
      go_wp2_with fail
      go_ret
      exact ⟨by simp, HB13.out⟩
  · have hsf : safeF st = false := by simp [safeF, hk]
    have hst : stuckF st = false := by simp [stuckF, hk]
    have hmv : movesF st = [] := by simp [movesF, hk]
    have hso : solveF st = (false, 0, []) := by simp [solveF, hk]
    have hco : costF st [] = -1 := by simp [costF, hk]
    have hsh : shownF st = [] := by simp [shownF, hk]
    have hfr : freeF st 0 = -1 := by simp [freeF, hk]
    have HSA : Hid (∀ W, Below w10.heap.size w10 W → Calls Tryd.prog 15 #[.agg #[.slice q1 st.1.length o1, .slice q2 st.2.1.length o2, .slice q3 st.2.2.length o3]] W fun e w' => e = .returned (.bool false) ∧ Below w10.heap.size w10 w') := fun W hW => by
      have := implSafe_any _ st W (HS10.out.below hW) (HC10.out.below HS10.out hW) HP.out
      rw [hsf] at this
      exact this.mono (fun e w' ⟨h1, h2⟩ => ⟨h1, below_tail hW h2⟩)
    have HST : Hid (∀ W, Below w10.heap.size w10 W → Calls Tryd.prog 16 #[.agg #[.slice q1 st.1.length o1, .slice q2 st.2.1.length o2, .slice q3 st.2.2.length o3]] W fun e w' => e = .returned (.bool false) ∧ Below w10.heap.size w10 w') := fun W hW => by
      have := implStuck_any _ st W (HS10.out.below hW) (HC10.out.below HS10.out hW) HP.out (by have := HT6.out; omega)
      rw [hst] at this
      exact this.mono (fun e w' ⟨h1, h2⟩ => ⟨h1, below_tail hW h2⟩)
    have HMV : Hid (∀ W, Below w10.heap.size w10 W → Calls Tryd.prog 17 #[.agg #[.slice q1 st.1.length o1, .slice q2 st.2.1.length o2, .slice q3 st.2.2.length o3]] W fun e w' => ∃ (ma : Option Addr) (mc : Nat), e = .returned (.slice ma 0 mc) ∧ Below w10.heap.size w10 w') := fun W hW => by
      have := implMoves_any _ st W (HS10.out.below hW) (HC10.out.below HS10.out hW) HP.out
      rw [hmv] at this
      refine this.mono (fun e w' ⟨r, h1, h2, h3⟩ => ?_)
      obtain ⟨ya, yc, hr⟩ := h2.form
      subst hr
      exact ⟨ya, yc, h1, below_tail hW h3⟩
    have HSO : Hid (∀ W, Below w10.heap.size w10 W → Calls Tryd.prog 18 #[.agg #[.slice q1 st.1.length o1, .slice q2 st.2.1.length o2, .slice q3 st.2.2.length o3]] W fun e w' => ∃ (ma : Option Addr) (mc : Nat), e = .returned (.agg #[.bool false, .int .i64 0, .slice ma 0 mc]) ∧ Below w10.heap.size w10 w') := fun W hW => by
      have := implSolve_any _ st W (HS10.out.below hW) (HC10.out.below HS10.out hW) HP.out
      rw [hso] at this
      refine this.mono (fun e w' ⟨r, h1, h2, h3⟩ => ?_)
      obtain ⟨ya, yc, hr⟩ := h2.form
      subst hr
      exact ⟨ya, yc, h1, below_tail hW h3⟩
    have HCO : Hid (∀ W, Below w10.heap.size w10 W → Calls Tryd.prog 19 #[.agg #[.slice q1 st.1.length o1, .slice q2 st.2.1.length o2, .slice q3 st.2.2.length o3], .slice none 0 0] W fun e w' => e = .returned (.int .i64 (-1)) ∧ Below w10.heap.size w10 w') := fun W hW => by
      have := implCost_any _ (.slice none 0 0) st [] W (HS10.out.below hW) (HC10.out.below HS10.out hW) HP.out ⟨none, 0, rfl, fun i hi => absurd hi (Nat.not_lt_zero _)⟩ (by simp)
      rw [hco] at this
      exact this.mono (fun e w' ⟨h1, h2⟩ => ⟨h1, below_tail hW h2⟩)
    have HFR : Hid (∀ W, Below w10.heap.size w10 W → Calls Tryd.prog 20 #[.agg #[.slice q1 st.1.length o1, .slice q2 st.2.1.length o2, .slice q3 st.2.2.length o3], .int .i64 0] W fun e w' => e = .returned (.int .i64 (-1)) ∧ Below w10.heap.size w10 w') := fun W hW => by
      have := implFree_any _ st 0 W (HS10.out.below hW) HP.out
      rw [hfr] at this
      exact this.mono (fun e w' ⟨h1, h2⟩ => ⟨h1, below_tail hW h2⟩)
    rw [hsh] at HIS
    obtain ⟨k, hke⟩ : ∃ k, stOk st = k := ⟨_, rfl⟩
    rw [hke] at hk ⊢
    have hkb : (k == 0) = false := by rw [beq_eq_false_iff_ne]; exact hk
    clear hke hsf hst hmv hso hco hsh hfr HT10 HS10 HC10
    go_wp2_with fail
    refine (HSA.out _ (Below.refl _ _)).mono ?_
    rintro e v0 ⟨rfl, HV0⟩
    have x00 := cell_later HV0 s0
    have x01 := cell_later HV0 s1
    have x02 := cell_later HV0 s2
    go_wp2_with fail
    refine (HST.out _ HV0).mono ?_
    rintro e v1 ⟨rfl, HV1⟩
    have x10 := cell_later HV1 s0
    have x11 := cell_later HV1 s1
    have x12 := cell_later HV1 s2
    go_wp2_with fail
    refine (HMV.out _ HV1).mono ?_
    rintro e v2 ⟨ma1, mc1, rfl, HV2⟩
    have x20 := cell_later HV2 s0
    have x21 := cell_later HV2 s1
    have x22 := cell_later HV2 s2
    go_wp2_with fail
    refine (HSO.out _ HV2).mono ?_
    rintro e v3 ⟨ma2, mc2, rfl, HV3⟩
    have x30 := cell_later HV3 s0
    have x31 := cell_later HV3 s1
    have x32 := cell_later HV3 s2
    have hfo := run_fieldOk2 0 (.slice ma2 0 mc2)
    go_wp2_with fail
    refine (HCO.out _ HV3).mono ?_
    rintro e v4 ⟨rfl, HV4⟩
    have x40 := cell_later HV4 s0
    have x41 := cell_later HV4 s1
    have x42 := cell_later HV4 s2
    go_wp2_with fail
    refine (HIS.out _ HV4).mono ?_
    rintro e v5 ⟨rfl, HV5⟩
    have x50 := cell_later HV5 s0
    have x51 := cell_later HV5 s1
    have x52 := cell_later HV5 s2
    go_wp2_with fail
    refine (HFR.out _ HV5).mono ?_
    rintro e v6 ⟨rfl, HV6⟩
    have x60 := cell_later HV6 s0
    have x61 := cell_later HV6 s1
    have x62 := cell_later HV6 s2
    have HBE := hide (below_tail HB10.out HV6)
    go_wp2_with fail
    go_ret
    exact ⟨rfl, HBE.out⟩
end Go.Proofs.YtmjjigdnoiphbaaDoor
