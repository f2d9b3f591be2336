/-
  Law Best.
-/
import Derived.Test.YtmjjigdnoiphbaaJ7
import Derived.Test.YtmjjigdnoiphbaaJ3
import Derived.Test.YtmjjigdnoiphbaaSo6
import Derived.Test.YtmjjigdnoiphbaaSs
import Derived.Test.YtmjjigdnoiphbaaCo1
import Derived.Test.YtmjjigdnoiphbaaCo2
import Derived.Test.YtmjjigdnoiphbaaSr7
import Derived.Test.YtmjjigdnoiphbaaJ6
import Derived.Test.YtmjjigdnoiphbaaPu
import Derived.Deep.RegionHeld3
import Derived.Deep.DrawnRows
namespace Go.Proofs.Ytmjjigdnoiphbaa
open Go.RowKit Go.Deep
set_option linter.unusedVariables false

set_option maxHeartbeats 40000000 in
set_option maxRecDepth 8000 in
theorem fnBest_walk (a : Option Addr) (B : List Int) (q : Nat) (a2 : Option Addr) (n2 q2 : Nat) (w : World) (hl : B.length ≤ 9223372036854775807) (hl2 : n2 ≤ 9223372036854775807) (h : B.length ≤ 1048576 → BytesF w a B) (ha : ∀ b off s, a = some ⟨b, off, s⟩ → 0 < B.length → b < w.heap.size) (h2 : n2 ≤ 1048576 → BytesAt w a2 n2) :
    Calls Try.prog 4 #[.slice a B.length q, .slice a2 n2 q2] w fun e w' => e = .returned (.bool true) ∧ Below w.heap.size w w' := by
  have HB1 := hide h
  have HB2 := hide h2
  have HA := hide ha
  have HD := hide (stD_drawn B)
  have HP := hide (stD_paths B)
  have HST : Hid (∀ (W : World), BytesF W a B → (∀ b off s, a = some ⟨b, off, s⟩ → 0 < B.length → b < W.heap.size) → Calls Try.prog 12 #[.slice a B.length q] W fun e w' => ∃ L : Lies, e = .returned (L.val (stD B)) ∧ DrawnAt W w' L (stD B)) := fun W h1 h2 => states_f h1 h2
  clear h h2 ha
  generalize stD B = st at *
  generalize hn1 : B.length = n1 at *
  by_cases hbig : (n1 : Int) > 1048576
  · go_enter Try.func4, Try.ntmps4
    go_wp2_with fail
    go_ret
    exact ⟨rfl, Below.refl _ _⟩
  have hb1 : ¬ (1048576 : Int) < (n1 : Int) := by omega
  by_cases hbig2 : (n2 : Int) > 1048576
  · go_enter Try.func4, Try.ntmps4
    go_wp2_with fail
    go_ret
    exact ⟨rfl, Below.refl _ _⟩
  have hb2 : ¬ (1048576 : Int) < (n2 : Int) := by omega
  have HY1 := hide (HB1.out (by omega))
  have HY2 := hide (HB2.out (by omega))
  have HN1 := hide hn1
  clear HB1 HB2 hbig hbig2 hn1 hl hl2
  go_enter Try.func4, Try.ntmps4
  go_wp2_with fail
  clear hb1 hb2
  refine (HST.out _ HY1.out HA.out).mono ?_
  rintro e w1 ⟨L, rfl, hd⟩
  have HD1 := hide hd
  have HS1 := hide hd.own.at
  have HC1 := hide (hd.own.capSt hd.pc)
  have HW1 := hide hd.below
  obtain ⟨ra, rc, ta, tc, na, nc, pa, pc⟩ := L
  simp only [Lies.val] at HS1 HC1 ⊢
  have HV1 := hide (Joins.below_alloc1 w1 (.cells #[.slice ra st.1.length rc, .slice ta st.2.1.length tc, .slice na st.2.2.length nc] 26))
  clear hd
  go_wp2_with fail
  refine (implSolve_any _ st _ (HS1.out.below HV1.out) (HC1.out.below HS1.out HV1.out) HP.out).mono ?_
  rintro e w2 ⟨r, rfl, ho2, hb2⟩
  obtain ⟨ma, ml, mc, hr⟩ : ∃ ma ml mc, r = .slice ma ml mc := by obtain ⟨x, y, e⟩ := ho2.form; exact ⟨x, _, y, e⟩
  subst hr
  have HW2 := hide (below_tail (below_tail HW1.out HV1.out) hb2)
  have HO2 : Hid (OwnInts w1.heap.size w2 (.slice ma ml mc) (solveF st).2.2) := ho2.le (by simp)
  have c0 := cell_later hb2 (show _ = some (Value.slice ra st.1.length rc) from (block3 (heap_alloc_new w1 (.cells #[.slice ra st.1.length rc, .slice ta st.2.1.length tc, .slice na st.2.2.length nc] 26))).1)
  have c1 := cell_later hb2 (show _ = some (Value.slice ta st.2.1.length tc) from (block3 (heap_alloc_new w1 (.cells #[.slice ra st.1.length rc, .slice ta st.2.1.length tc, .slice na st.2.2.length nc] 26))).2.1)
  have c2 := cell_later hb2 (show _ = some (Value.slice na st.2.2.length nc) from (block3 (heap_alloc_new w1 (.cells #[.slice ra st.1.length rc, .slice ta st.2.1.length tc, .slice na st.2.2.length nc] 26))).2.2.1)
  have HS2 := hide (HS1.out.below (below_tail HV1.out hb2))
  have HC2 := hide ((HC1.out.below HS1.out HV1.out).below (HS1.out.below HV1.out) hb2)
  have HY22 := hide (BytesAt.below HY2.out HW2.out)
  have hlt2 : w1.heap.size < w2.heap.size := World.block_lt_of_cell? _ _ c0
  have HWS : Hid (w.heap.size ≤ w1.heap.size) := HW1.out.size
  have HSO := hide (solve_ok (st := st))
  clear HS1 HC1 HV1 HW1 hb2 ho2 HD1 HY1 HY2
  generalize w1.heap.size = sb at *
  generalize hSF : solveF st = SF at *
  have HSF := hide hSF
  clear hSF
  obtain ⟨ok, va, mv⟩ := SF
  simp only at HO2 HSO ⊢
  go_wp2_with fail
  have hbA := Joins.below_alloc1 w2 (.cells #[.bool ok, .int .i64 va, .slice ma ml mc] 32)
  refine (specSolve_any _ st _ (HS2.out.below hbA)).mono ?_
  rintro e w3 ⟨r3, rfl, ho3, hb3⟩
  rw [HSF.out] at ho3 ⊢
  simp only at ho3 ⊢
  obtain ⟨na3, nl3, nc3, hr3⟩ : ∃ ma ml mc, r3 = .slice ma ml mc := by obtain ⟨x, y, e⟩ := ho3.form; exact ⟨x, _, y, e⟩
  subst hr3
  have ho3' := ho3.at
  have HIM := hide (HO2.out.below (below_tail hbA hb3))
  have HIN := hide ho3'
  obtain ⟨a0, a1, a2', -⟩ := block3 (heap_alloc_new w2 (.cells #[.bool ok, .int .i64 va, .slice ma ml mc] 32))
  replace a0 := cell_later hb3 a0
  replace a1 := cell_later hb3 a1
  replace a2' := cell_later hb3 a2'
  replace c0 := cell_later (below_tail hbA hb3) c0
  replace c1 := cell_later (below_tail hbA hb3) c1
  replace c2 := cell_later (below_tail hbA hb3) c2
  have HS3 := hide (HS2.out.below (below_tail hbA hb3))
  have HC3 := hide ((HC2.out.below HS2.out hbA).below (HS2.out.below hbA) hb3)
  have HY3 := hide (BytesAt.below HY22.out (below_tail hbA hb3))
  have HW3 := hide (below_tail (below_tail HW2.out hbA) hb3)
  have hbb : w2.heap.size < w3.heap.size := World.block_lt_of_cell? _ _ a0
  have hsb : sb < w3.heap.size := World.block_lt_of_cell? _ _ c0
  have hml : ml = mv.length := by obtain ⟨x, y, e⟩ := HO2.out.form; simp only [Value.slice.injEq] at e; exact e.2.1
  have hnl : nl3 = mv.length := by obtain ⟨x, y, e⟩ := ho3.form; simp only [Value.slice.injEq] at e; exact e.2.1
  subst hml hnl
  have HMV : Hid (mv.length ≤ 9223372036854775807) := HO2.out.len
  clear hbA hb3 ho3 ho3' HS2 HC2 HY22 HW2 HO2 hlt2
  generalize w2.heap.size = bb at *
  go_wp2_with fail
  obtain ⟨V, hV⟩ : ∃ V, V = w3.alloc (.cells #[.bool ok, .int .i64 va, .slice na3 mv.length nc3] 32) := ⟨_, rfl⟩
  rw [← hV]
  have hbV : Below w3.heap.size w3 V := by rw [hV]; exact Joins.below_alloc1 _ _
  obtain ⟨d0, d1, d2, -⟩ := block3 (show V.heap[w3.heap.size]? = _ by rw [hV]; exact heap_alloc_new _ _)
  replace a0 := cell_later hbV a0
  replace a1 := cell_later hbV a1
  replace a2' := cell_later hbV a2'
  replace c0 := cell_later hbV c0
  replace c1 := cell_later hbV c1
  replace c2 := cell_later hbV c2
  have HSV := hide (HS3.out.below hbV)
  have HCV := hide (HC3.out.below HS3.out hbV)
  have HYV := hide (BytesAt.below HY3.out hbV)
  have HWV := hide (below_tail HW3.out hbV)
  have HIMV := hide (HIM.out.below hbV)
  have HINV := hide (HIN.out.below hbV)
  clear hV hbV HS3 HC3 HY3 HW3 HIM HIN hbb hsb
  generalize w3.heap.size = wb at *
  have HEQ : Hid (decide (mv = mv) = true) := decide_eq_true rfl
  go_region_held3 (fun w' => w'.cell? ⟨sb, 0, none⟩ = some (.slice ra st.1.length rc) ∧ w'.cell? ⟨sb, 1, none⟩ = some (.slice ta st.2.1.length tc) ∧ w'.cell? ⟨sb, 2, none⟩ = some (.slice na st.2.2.length nc) ∧ w'.cell? ⟨bb, 0, none⟩ = some (.bool ok) ∧ w'.cell? ⟨bb, 1, none⟩ = some (.int .i64 va) ∧ w'.cell? ⟨bb, 2, none⟩ = some (.slice ma mv.length mc) ∧ w'.cell? ⟨wb, 0, none⟩ = some (.bool ok) ∧ w'.cell? ⟨wb, 1, none⟩ = some (.int .i64 va) ∧ w'.cell? ⟨wb, 2, none⟩ = some (.slice na3 mv.length nc3))
    (first | (exact ⟨cell_later hb5 (by exact k0), cell_later hb5 (by exact k1), cell_later hb5 (by exact k2), cell_later hb5 (by exact k3), cell_later hb5 (by exact k4), cell_later hb5 (by exact k5), cell_later hb5 (by exact k6), cell_later hb5 (by exact k7), cell_later hb5 (by exact k8)⟩) | (exact ⟨k0, k1, k2, k3, k4, k5, k6, k7, k8⟩) | go_keep)
    (first | (go_at_call 15; refine (wInts_any _ _ mv mv _ (HIMV.out.at.below ((Below.refl _ V).drew)) (HINV.out.below ((Below.refl _ V).drew)) HMV.out).mono ?_; rintro e w4 ⟨rfl, m4, rfl⟩; rw [HEQ.out]; have hb4 := below_tail ((Below.refl _ V).drew) (Joins.below_draws _ _ m4); generalize (V.drew).drewN m4 = w4 at *; have k0 := cell_later hb4 c0; have k1 := cell_later hb4 c1; have k2 := cell_later hb4 c2; have k3 := cell_later hb4 a0; have k4 := cell_later hb4 a1; have k5 := cell_later hb4 a2'; have k6 := cell_later hb4 d0; have k7 := cell_later hb4 d1; have k8 := cell_later hb4 d2; have HB4 := hide hb4; clear hb4) | (go_at_call 21; refine (implSafe_any _ st _ (HSV.out.below HB4.out) (HCV.out.below HSV.out HB4.out) HP.out).mono ?_; rintro e w5 ⟨rfl, hb5⟩; rw [← HSO.out]))
  all_goals
    have HB5 := hide (below_tail HB4.out hb5)
    clear hb5 k0 k1 k2 k3 k4 k5 k6 k7 k8 HB4
    cases ok
    · go_wp2_with fail
      go_ret
      exact ⟨rfl, below_tail HWV.out HB5.out⟩
    have hsafe : safeF st = true := HSO.out.symm
    have hpt := solve_parts hsafe
    rw [HSF.out] at hpt
    simp only [Prod.mk.injEq, true_and] at hpt
    obtain ⟨hva, hmv⟩ := hpt
    obtain ⟨hr, hv⟩ := safeF_iff.1 hsafe
    have hv' : 0 ≤ vP st pz := by rw [vP_pz hr.lens.2.2.2]; exact hv
    have HCE : Hid (costF st mv = va) := by
      show costF st mv = va
      rw [hmv, hva]
      exact costF_solve hr.so hr hv'
    have HR := hide hr
    have HVA := hide (And.intro hva (And.intro hmv hv'))
    have HML : Hid (mv.length ≤ 45) := by
      show mv.length ≤ 45
      rw [hmv]
      exact solveP_len hr.so (pz_ok st)
    replace c0 := cell_later HB5.out c0
    replace c1 := cell_later HB5.out c1
    replace c2 := cell_later HB5.out c2
    replace a1 := cell_later HB5.out a1
    replace a2' := cell_later HB5.out a2'
    have HS5 := hide (HSV.out.below HB5.out)
    have HC5 := hide (HCV.out.below HSV.out HB5.out)
    have HY5 := hide (BytesAt.below HYV.out HB5.out)
    have HW5 := hide (below_tail HWV.out HB5.out)
    have HI5 := hide (HIMV.out.at.below HB5.out)
    clear hsafe hva hmv hr hv hv' HB5 HSV HCV HYV HWV HIMV HINV d0 d1 d2 a0 HSO HSF HEQ HMV
    go_wp2_with fail
    go_region_held3 (fun w' => w'.cell? ⟨sb, 0, none⟩ = some (.slice ra st.1.length rc) ∧ w'.cell? ⟨sb, 1, none⟩ = some (.slice ta st.2.1.length tc) ∧ w'.cell? ⟨sb, 2, none⟩ = some (.slice na st.2.2.length nc) ∧ w'.cell? ⟨bb, 1, none⟩ = some (.int .i64 va) ∧ w'.cell? ⟨bb, 2, none⟩ = some (.slice ma mv.length mc))
      (first | (exact ⟨cell_later hb6 (by exact c0), cell_later hb6 (by exact c1), cell_later hb6 (by exact c2), cell_later hb6 (by exact a1), cell_later hb6 (by exact a2')⟩) | go_keep)
      (first | (go_at_call 22; refine (implCost_any _ _ st mv _ (HS5.out.below ((Below.refl _ w5).drew)) (HC5.out.below HS5.out ((Below.refl _ w5).drew)) HP.out (HI5.out.below ((Below.refl _ w5).drew)) (by have := HML.out; omega)).mono ?_; rintro e w6 ⟨rfl, hb6⟩; rw [HCE.out]))
    all_goals
      have hb6' := below_tail ((Below.refl _ w5).drew) hb6
      replace c0 := cell_later hb6' c0
      replace c1 := cell_later hb6' c1
      replace c2 := cell_later hb6' c2
      replace a1 := cell_later hb6' a1
      replace a2' := cell_later hb6' a2'
      have HS6 := hide (HS5.out.below hb6')
      have HC6 := hide (HC5.out.below HS5.out hb6')
      have HY6 := hide (BytesAt.below HY5.out hb6')
      have HW6 := hide (below_tail HW5.out hb6')
      have HI6 := hide (HI5.out.below hb6')
      have hsb6 : sb < w6.heap.size := World.block_lt_of_cell? _ _ c0
      have hbb6 : bb < w6.heap.size := World.block_lt_of_cell? _ _ a1
      clear hb6 hb6' HS5 HC5 HY5 HW5 HI5
      go_wp2_with fail
      go_loopw [8] (fun u wr => ∃ n : Nat, u = .int .i64 (n : Int) ∧ n ≤ 3 ∧ Below w6.heap.size w6 wr) (fun u _ => 3 - (intOf u).toNat)
      case atStart => exact ⟨0, rfl, by omega, Below.refl _ _⟩
      case round =>
        obtain ⟨n, rfl, hn3, hbr⟩ := hrel
        obtain ⟨R0, hR0⟩ : ∃ R0, R0 = wr := ⟨_, rfl⟩
        subst hR0
        by_cases hlt : n < 3
        · have hlti : (n : Int) < 3 := by omega
          have f0 := cell_later hbr c0
          have f1 := cell_later hbr c1
          have f2 := cell_later hbr c2
          have f3 := cell_later hbr a1
          have f4 := cell_later hbr a2'
          have HSR := hide (HS6.out.below hbr)
          have HCR := hide (HC6.out.below HS6.out hbr)
          have HYR := hide (BytesAt.below HY6.out hbr)
          have HIR := hide (HI6.out.below hbr)
          have HBR := hide hbr
          have hsbr : sb < R0.heap.size := World.block_lt_of_cell? _ _ f0
          have hbbr : bb < R0.heap.size := World.block_lt_of_cell? _ _ f3
          clear hbr c0 c1 c2 a1 a2'
          go_wp2_with fail
          obtain ⟨U, hU⟩ : ∃ U, U = R0.alloc (.cells #[.slice ra st.1.length rc, .slice ta st.2.1.length tc, .slice na st.2.2.length nc] 26) := ⟨_, rfl⟩
          rw [← hU]
          have hbU : Below R0.heap.size R0 U := by rw [hU]; exact Joins.below_alloc1 _ _
          have hTU : U.heap[R0.heap.size]? = some (.cells #[.slice ra st.1.length rc, .slice ta st.2.1.length tc, .slice na st.2.2.length nc] 26 (0, 0)) := by rw [hU]; exact heap_alloc_new _ _
          have hUz : U.heap.size = R0.heap.size + 1 := by rw [hU]; simp
          obtain ⟨T, hT⟩ : ∃ T, T = R0.heap.size := ⟨_, rfl⟩
          have HSU : Hid (∀ w'', Chg (fun q => q = T) U w'' → StateAt w'' (.agg #[.slice ra st.1.length rc, .slice ta st.2.1.length tc, .slice na st.2.2.length nc]) st) := fun w'' hc => HSR.out.below (hbU.trans (hc.below (by omega) (fun k hk e => by omega)))
          have HBU : Hid (Below T R0 U) := by rw [hT]; exact hbU
          have HTU : Hid (U.heap[T]? = some (.cells #[.slice ra st.1.length rc, .slice ta st.2.1.length tc, .slice na st.2.2.length nc] 26 (0, 0))) := by rw [hT]; exact hTU
          have HT := hide hT
          rw [← hT] at hsbr hbbr ⊢
          clear hU hbU hTU hT hUz
          have hpz := behind_pz HR.out.lens.2.2.2
          go_loopw [9, 11] (fun u9 u11 wx => ∃ (ms : List Int) (d : Pr) (C : Int) (cu : St) (b1 : Option Addr) (p1 : Nat) (b2 : Option Addr) (p2 : Nat) (b3 : Option Addr) (p3 : Nat), u11 = .int .i64 (ms.length : Int) ∧ OwnInts (T + 1) wx u9 ms ∧ RunTo st ms d C ∧ cu = behindSt st d ∧ wx.heap[T]? = some (.cells #[.slice b1 cu.1.length p1, .slice b2 cu.2.1.length p2, .slice b3 cu.2.2.length p3] 26 (0, 0)) ∧ (∀ w'', Chg (fun q => u9.ownBlock = some q ∨ q = T) wx w'' → StateAt w'' (.agg #[.slice b1 cu.1.length p1, .slice b2 cu.2.1.length p2, .slice b3 cu.2.2.length p3]) cu) ∧ Below T R0 wx) (fun _ u11 _ => 60 - (intOf u11).toNat)
          case atStart =>
            refine ⟨[], pz, 0, st, ra, rc, ta, tc, na, nc, rfl, OwnInts.nil _ _, run_begin HR.out, hpz.symm, HTU.out, fun w'' hc => HSU.out w'' (hc.mono (fun q e => ?_)), HBU.out⟩
            rcases e with e | e
            · simp [Value.ownBlock] at e
            · exact e
          case round =>
            obtain ⟨ms, d, C, cu, b1, p1, b2, p2, b3, p3, rfl, ho, hrun, hcu, hx, hk, hbx⟩ := hrel
            have HO := hide ho
            have HRUN := hide hrun
            have HCU := hide hcu
            have HX := hide hx
            have HK := hide hk
            have HBX := hide hbx
            obtain ⟨hlen45, hlen2⟩ := run_len HR.out hrun
            rw [← hcu] at hlen2
            obtain ⟨t0, t1, t2, tf⟩ := block3 hx
            have hTx : T < wr.heap.size := (Array.getElem?_eq_some_iff.1 hx).1
            have HC0 : Hid (0 ≤ C) := hrun.nn
            clear ho hrun hcu hx hk hbx hpz HTU HSU HBU
            by_cases hz : cu.2.1.length = 0
            · have hk60 : (ms.length : Int) < 60 := by omega
              obtain ⟨la, lc, hu9⟩ := HO.out.form
              subst hu9
              have hbRW : Below R0.heap.size R0 wr := by rw [← HT.out]; exact HBX.out
              replace f0 := cell_later hbRW f0
              replace f1 := cell_later hbRW f1
              replace f2 := cell_later hbRW f2
              replace f3 := cell_later hbRW f3
              replace f4 := cell_later hbRW f4
              have hcost : costF st ms = C := by rw [run_cost HR.out HRUN.out, ← HCU.out, if_pos hz]
              have HCOST := hide hcost
              have hge := run_ge HR.out (ms := ms) (by rw [hcost]; exact HC0.out)
              rw [hcost] at hge
              have hCva : ¬ C < va := by have := HVA.out.1; omega
              have hC0 : (0 : Int) ≤ C := HC0.out
              have HSW := hide (HSR.out.below hbRW)
              have HCW := hide (HCR.out.below HSR.out hbRW)
              have HIW := hide (HIR.out.below hbRW)
              have HBW := hide (below_tail HBR.out hbRW)
              have HOA := hide HO.out.at
              have hsw : sb < wr.heap.size := World.block_lt_of_cell? _ _ f0
              clear hcost hge hbRW
              go_wp2_with fail
              refine (implCost_any _ _ st ms _ HSW.out HCW.out HP.out HOA.out (by omega)).mono ?_
              rintro e w7 ⟨rfl, hb7⟩
              rw [HCOST.out]
              replace f0 := cell_later hb7 f0
              replace f1 := cell_later hb7 f1
              replace f2 := cell_later hb7 f2
              replace f3 := cell_later hb7 f3
              replace f4 := cell_later hb7 f4
              replace t1 := cell_later hb7 t1
              have HSW7 := hide (HSW.out.below hb7)
              have HOA7 := hide (HOA.out.below hb7)
              have HIW7 := hide (HIW.out.below hb7)
              have HBW7 := hide (below_tail HBW.out hb7)
              clear hb7 HSW HCW HIW HBW HOA t0 t2 tf
              go_wp2_with fail
              refine (specCost_any _ _ st ms _ HSW7.out HOA7.out (by omega)).mono ?_
              rintro e w8 ⟨rfl, hb8⟩
              rw [HCOST.out]
              replace f3 := cell_later hb8 f3
              replace f4 := cell_later hb8 f4
              replace t1 := cell_later hb8 t1
              have HOA8 := hide (HOA7.out.below hb8)
              have HIW8 := hide (HIW7.out.below hb8)
              have HBW8 := hide (below_tail HBW7.out hb8)
              clear hb8 HSW7 HOA7 HIW7 HBW7 f0 f1 f2
              by_cases hCe : C = va
              · have hcb : (C == va) = true := by rw [beq_iff_eq]; exact hCe
                obtain ⟨htl, htie⟩ := run_tie HR.out (ms := ms) (by rw [HCOST.out, hCe]; exact HVA.out.1) HVA.out.2.2
                rw [← HVA.out.2.1] at htl htie
                have HTIE := hide htie
                have HTL := hide htl
                clear htie htl hCe
                go_wp2_with fail
                go_loopw [139] (fun u wx => ∃ i : Nat, u = .int .i64 (i : Int) ∧ i ≤ ms.length ∧ (∀ j, j < i → el ms j = el mv j) ∧ ∃ m, wx = w8.drewN m) (fun u _ => ms.length - (intOf u).toNat)
                case atStart => exact ⟨0, rfl, Nat.zero_le _, fun j hj => absurd hj (Nat.not_lt_zero _), 0, rfl⟩
                case round =>
                  obtain ⟨i, rfl, hi, hall, m, rfl⟩ := hrel
                  have hbm := Joins.below_draws w8.heap.size w8 m
                  have HALL := hide hall
                  have HBM := hide (below_tail HBW8.out hbm)
                  clear hall
                  by_cases hil : i < ms.length
                  · obtain ⟨lb, loff, hla, hlc⟩ := HOA8.out.cellAt i hil
                    obtain ⟨vb, voff, hvb, hvc⟩ := HIW8.out.cellAt i (by rw [← HTL.out]; exact hil)
                    subst hla hvb
                    have hili : (i : Int) < (ms.length : Int) := by omega
                    have hilm : (i : Int) < (mv.length : Int) := by have := HTL.out; omega
                    have hi0 : (0 : Int) ≤ (i : Int) := by omega
                    clear hbm
                    by_cases he : el ms i = el mv i
                    · have heb : (el ms i != el mv i) = false := by simp [he]
                      have HE := hide he
                      clear he
                      go_wp2_with fail
                      go_quiet (fail)
                      go_wp2_with fail
                      go_roundw
                      case rel => exact ⟨i + 1, by go_num, by omega, fun j hj => by
                        by_cases e : j = i
                        · subst e; exact HE.out
                        · exact HALL.out j (by omega), _, rfl⟩
                      case measure => simp [intOf]; omega
                    · have heb : (el ms i != el mv i) = true := by simp [he]
                      have hlt2 := HTIE.out i hil HALL.out he
                      have hnl : ¬ el ms i < el mv i := by omega
                      clear he hlt2
                      go_wp2_with fail
                      go_quiet (fail)
                      go_wp2_with fail
                      go_quiet (fail)
                      go_wp2_with fail
                      go_roundw
                      case rel => exact ⟨n + 1, by go_num, by omega, below_tail HBW8.out (Joins.below_draws _ _ _)⟩
                      case measure => simp [intOf]; omega
                  · have hili : ¬ (i : Int) < (ms.length : Int) := by omega
                    clear hbm
                    go_wp2_with fail
                    go_roundw
                    case rel => exact ⟨n + 1, by go_num, by omega, HBM.out⟩
                    case measure => simp [intOf]; omega
              · have hcb : (C == va) = false := by rw [beq_eq_false_iff_ne]; exact hCe
                clear hCe
                go_wp2_with fail
                go_roundw
                case rel => exact ⟨n + 1, by go_num, by omega, HBW8.out⟩
                case measure => simp [intOf]; omega
            · have hk60 : (ms.length : Int) < 60 := by have := hlen2 hz; omega
              have hpos : (0 : Int) < (cu.2.1.length : Int) := by omega
              have hpos2 : ((cu.2.1.length : Int) > 0) := by omega
              have hne : ¬ cu.2.1 = [] := fun e => hz (by rw [e]; rfl)
              have HS7 := hide (HK.out wr (Chg.refl _ _))
              clear hz
              go_wp2_with fail
              refine (specMoves_any _ cu _ HS7.out).mono ?_
              rintro e w7 ⟨r7, rfl, ho7, hb7⟩
              obtain ⟨ma7, mc7, hr7⟩ := ho7.form
              subst hr7
              have HO7 := hide ho7
              have HB7 := hide hb7
              clear ho7 hb7
              by_cases hm0 : (movesF cu).length = 0
              · obtain ⟨la, lc, hu9⟩ := HO.out.form
                subst hu9
                have hbRW : Below R0.heap.size R0 wr := by rw [← HT.out]; exact HBX.out
                have hb27 := below_tail hbRW HB7.out
                replace f0 := cell_later hb27 f0
                replace f1 := cell_later hb27 f1
                replace f2 := cell_later hb27 f2
                replace f3 := cell_later hb27 f3
                replace t1 := cell_later HB7.out t1
                have HCOST : Hid (costF st ms = -1) := by
                  show costF st ms = -1
                  rw [run_cost HR.out HRUN.out, ← HCU.out, if_neg (by omega)]
                have hva0 : 0 ≤ va := by have := HVA.out.1; have := HVA.out.2.2; omega
                have HSW := hide (HSR.out.below hb27)
                have HCW := hide (HCR.out.below HSR.out hb27)
                have HBW := hide (below_tail HBR.out hb27)
                have HOA := hide (HO.out.at.below HB7.out)
                have hsw : sb < w7.heap.size := World.block_lt_of_cell? _ _ f0
                have hmb : (((movesF cu).length : Int) == 0) = true := by rw [beq_iff_eq]; omega
                have htb : ((cu.2.1.length : Int) == 0) = false := by rw [beq_eq_false_iff_ne]; omega
                have hcb : ((-1 : Int) == va) = false := by rw [beq_eq_false_iff_ne]; omega
                clear hb27 hbRW hm0 hva0
                go_wp2_with fail
                refine (implCost_any _ _ st ms _ HSW.out HCW.out HP.out HOA.out (by omega)).mono ?_
                rintro e w8 ⟨rfl, hb8⟩
                rw [HCOST.out]
                replace f0 := cell_later hb8 f0
                replace f1 := cell_later hb8 f1
                replace f2 := cell_later hb8 f2
                replace f3 := cell_later hb8 f3
                replace t1 := cell_later hb8 t1
                have HSW7 := hide (HSW.out.below hb8)
                have HOA7 := hide (HOA.out.below hb8)
                have HBW7 := hide (below_tail HBW.out hb8)
                clear hb8 HSW HCW HBW HOA t0 t2 tf
                go_wp2_with fail
                refine (specCost_any _ _ st ms _ HSW7.out HOA7.out (by omega)).mono ?_
                rintro e w9 ⟨rfl, hb9⟩
                rw [HCOST.out]
                replace f3 := cell_later hb9 f3
                replace t1 := cell_later hb9 t1
                have HBW8 := hide (below_tail HBW7.out hb9)
                clear hb9 HSW7 HOA7 HBW7 f0 f1 f2
                go_wp2_with fail
                go_roundw
                case rel => exact ⟨n + 1, by go_num, by omega, HBW8.out⟩
                case measure => simp [intOf]; omega
              · have hmb : (((movesF cu).length : Int) == 0) = false := by rw [beq_eq_false_iff_ne]; omega
                have hmnil : ¬ movesF cu = [] := fun e => hm0 (by rw [e]; rfl)
                have hmi : ¬ ((movesF cu).length : Int) = 0 := by omega
                obtain ⟨ix, hix⟩ : ∃ ix : Nat, (ms.length : Int) + 11 * (n : Int) = (ix : Int) := ⟨ms.length + 11 * n, by omega⟩
                have hix9 : ix ≤ 1000 := by omega
                have hb7 := HB7.out
                replace t0 := cell_later hb7 t0
                replace t1 := cell_later hb7 t1
                replace t2 := cell_later hb7 t2
                have HY7 := hide (BytesAt.below HYR.out ((show Below R0.heap.size R0 wr by rw [← HT.out]; exact HBX.out).trans (hb7.mono (by have := HBX.out.size; exact this))))
                clear hb7
                go_wp2_with fail
                refine (wByte_any HY7.out ix hix9).mono ?_
                rintro e w8 ⟨xb, rfl, hxb0, hxb1, m8, rfl⟩
                obtain ⟨u, hu, hul⟩ := tmod_nat hxb0 (show 0 < (movesF cu).length by omega)
                have hb8 := Joins.below_draws w7.heap.size w7 m8
                replace t0 := cell_later hb8 t0
                replace t1 := cell_later hb8 t1
                replace t2 := cell_later hb8 t2
                obtain ⟨mb, moff, hma, hmc⟩ := (HO7.out.at.below hb8).cellAt u hul
                subst hma
                have hui : (u : Int) < ((movesF cu).length : Int) := by omega
                have hu0 : (0 : Int) ≤ (u : Int) := by omega
                obtain ⟨x, hxe⟩ : ∃ x, x = el (movesF cu) u := ⟨_, rfl⟩
                have HXM : Hid (x ∈ movesF cu) := by
                  show x ∈ movesF cu
                  rw [hxe]
                  have : (movesF cu)[u]? = some (el (movesF cu) u) := by simp [el, hul]
                  exact List.mem_of_getElem? this
                rw [← hxe] at hmc
                have HB8 := hide (below_tail HB7.out hb8)
                have hT8 : T < (w7.drewN m8).heap.size := World.block_lt_of_cell? _ _ t0
                have HO8 := hide (HO.out.below HB8.out)
                clear hxe hb8 hxb0 hxb1 HB7 HO7 HY7
                generalize w7.drewN m8 = w8 at *
                go_wp2_with (first | (at_builtin; refine wpList_push rfl _ _ rfl (T + 1) _ ms x w8.heap.size rfl rfl (HO8.out.below (Joins.below_alloc1 _ _)) (heap_alloc_new _ _) (by omega) (by simp; omega) ?_))
                intro g cap w9 hown hgrow hat hlt9
                have hown9 : OwnInts (T + 1) w9 (.slice (some ⟨g, 0, none⟩) (ms.length + 1) cap) (ms ++ [x]) := hown
                have hne9 : u9.ownBlock ≠ some T := fun e => by have := (HO.out.own e).1; omega
                have hA8 : Chg (fun q => u9.ownBlock = some q ∨ q = T) wr w9 := chg_grown (Chg.of_below (below_tail HB8.out (Joins.below_alloc1 w8 (.cells #[.int .i64 x] 3)))) hgrow (fun k e => Or.inl e)
                have HST9 := hide (HK.out w9 hA8)
                have hrow9 : w9.heap[T]? = wr.heap[T]? := by
                  rw [hgrow.block T (by simp; omega) (fun e => hne9 e.symm)]
                  exact ((Joins.below_alloc1 w8 (.cells #[.int .i64 x] 3)).block T hT8).trans (HB8.out.block T hTx)
                have HX9 := hide (hrow9.trans HX.out)
                obtain ⟨y0, y1, y2, yf⟩ := block3 HX9.out
                have HBT9 : Hid (Below T R0 w9) := HBX.out.trans (hA8.below (by omega) (fun k hk e => by
                  rcases e with e | e
                  · have := (HO.out.own e).1; omega
                  · omega))
                have HOW9 := hide hown9
                have hT9 : T < w9.heap.size := (Array.getElem?_eq_some_iff.1 HX9.out).1
                clear hown hgrow hat hlt9 hown9 hA8 hrow9 yf t0 t1 t2 hmc
                go_wp2_with fail
                refine (specStep_C _ cu x _ HST9.out).mono ?_
                rintro e w10 ⟨r10, rfl, hk10, hb10⟩
                obtain ⟨q1, o1, q2', o2, q3, o3, hr10⟩ := (hk10 _ (Chg.refl _ _)).1.form
                subst hr10
                obtain ⟨d', C', hrun', hst'⟩ := run_step HR.out HRUN.out (x := x) (by rw [← HCU.out]; exact HXM.out)
                rw [← HCU.out] at hst'
                have HRUN' := hide hrun'
                have HST' := hide hst'
                have HX10 := hide (blockLater hb10 HX9.out)
                obtain ⟨y0, y1, y2, yf⟩ := block3 HX10.out
                have yf0 := yf 0
                have yf1 := yf 1
                have yf2 := yf 2
                have hT10 : T < w10.heap.size := (Array.getElem?_eq_some_iff.1 HX10.out).1
                have HK10 := hide hk10
                have HB10 := hide hb10
                clear hrun' hst' hk10 hb10 yf
                generalize stepF cu x = cu' at *
                go_wp2_with fail
                go_roundw
                case rel =>
                  have hc : Chg (fun q => q = T) w10 (((w10.setCell ⟨T, 0, none⟩ (.slice q1 cu'.1.length o1)).setCell ⟨T, 1, none⟩ (.slice q2' cu'.2.1.length o2)).setCell ⟨T, 2, none⟩ (.slice q3 cu'.2.2.length o3)) :=
                    Chg.setCell (F := fun q => q = T) (Chg.setCell (F := fun q => q = T) (Chg.setCell (F := fun q => q = T) (Chg.refl _ _) rfl _) rfl _) rfl _
                  have hvar := block3_set2 (block3_set1 (block3_set0 HX10.out (.slice q1 cu'.1.length o1)) (.slice q2' cu'.2.1.length o2)) (.slice q3 cu'.2.2.length o3)
                  have hg9 := HOW9.out.own (q := g) rfl
                  refine ⟨ms ++ [x], d', C', cu', q1, o1, q2', o2, q3, o3, by simp, ?_, HRUN'.out, HST'.out, hvar, fun w'' h'' => (HK10.out w'' ((hc.mono (fun q e => by omega)).trans (h''.mono (fun q e => ?_)))).1, ?_⟩
                  · exact (HOW9.out.below HB10.out).far (fun q hq => hc.block q (by have := ((HOW9.out.below HB10.out).own hq).2; exact this) (by have := (HOW9.out.own hq).1; omega))
                  · rcases e with e | e
                    · simp [Value.ownBlock] at e; omega
                    · omega
                  · exact (HBT9.out.trans (HB10.out.mono (by omega))).trans (hc.below (by omega) (fun k hk e => by omega))
                case measure => simp [intOf]; omega
        · have hlti : ¬ ((n : Int) < 3) := by omega
          have HBR := hide hbr
          clear hbr
          go_wp2_with fail
          go_ret
          exact ⟨rfl, below_tail HW6.out HBR.out⟩
end Go.Proofs.Ytmjjigdnoiphbaa
