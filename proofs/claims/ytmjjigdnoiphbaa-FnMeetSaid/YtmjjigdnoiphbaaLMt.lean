/-
  Law Meet.
-/
import Derived.Test.YtmjjigdnoiphbaaJ3
import Derived.Test.YtmjjigdnoiphbaaW23c
import Derived.Test.YtmjjigdnoiphbaaWl
import Derived.Test.YtmjjigdnoiphbaaCap
import Derived.Test.YtmjjigdnoiphbaaSr7
import Derived.Test.YtmjjigdnoiphbaaSo6
import Derived.Test.YtmjjigdnoiphbaaSs
import Derived.Test.YtmjjigdnoiphbaaCo2
namespace Go.Proofs.Ytmjjigdnoiphbaa
open Go.RowKit Go.Deep
set_option linter.unusedVariables false

theorem wrapNat (x : Nat) (h : x ≤ 1000) : wrap64 (x : Int) = (x : Int) := by unfold wrap64; omega
theorem wrapNat1 (x : Nat) (h : x ≤ 1000) : wrap64 ((x : Int) + 1) = (x : Int) + 1 := by unfold wrap64; omega
theorem meet_nums {n k : Nat} (h8 : n ≤ 8) (hk1 : 1 ≤ k) (hk : k ≤ n - 2) (h3 : 3 ≤ n) : ∃ e p c : Nat, e = n - 2 - k ∧ e < 6 ∧ (n : Int) - 1 = (p : Int) ∧ wrap64 ((n : Int) - 1) = (p : Int) ∧ (p : Int) - (k : Int) = (e : Int) + 1 ∧ wrap64 ((p : Int) - (k : Int)) = (e : Int) + 1 ∧ (n : Int) - 2 = (c : Int) ∧ wrap64 ((n : Int) - 2) = (c : Int) ∧ (c : Int) - (k : Int) = (e : Int) ∧ wrap64 ((c : Int) - (k : Int)) = (e : Int) ∧ wrap64 (p : Int) = (p : Int) ∧ wrap64 ((e : Int) + 1) = (e : Int) + 1 ∧ wrap64 (c : Int) = (c : Int) ∧ wrap64 (e : Int) = (e : Int) := by
  obtain ⟨e, rfl⟩ : ∃ e, n = k + 2 + e := ⟨n - 2 - k, by omega⟩
  clear hk h3
  have g1 : ((k + 2 + e : Nat) : Int) - 1 = ((k + 1 + e : Nat) : Int) := by omega
  have g2 : ((k + 1 + e : Nat) : Int) - (k : Int) = (e : Int) + 1 := by omega
  have g3 : ((k + 2 + e : Nat) : Int) - 2 = ((k + e : Nat) : Int) := by omega
  have g4 : ((k + e : Nat) : Int) - (k : Int) = (e : Int) := by omega
  have w1 := wrapNat (k + 1 + e) (by omega)
  have w2 := wrapNat1 e (by omega)
  have w3 := wrapNat (k + e) (by omega)
  have w4 := wrapNat e (by omega)
  exact ⟨e, k + 1 + e, k + e, by omega, by omega, g1, by rw [g1]; exact w1, g2, by rw [g2]; exact w2, g3, by rw [g3]; exact w3, g4, by rw [g4]; exact w4, w1, w2, w3, w4⟩
theorem madeMeet_not (n : Nat) (w : World) (hn2 : 2 ≤ n) (hn8 : n ≤ 8) :
    Calls Try.prog 29 #[.int .i64 (n : Int), .int .i64 0, .bool false] w fun e w' => ∃ v, e = .returned v ∧ StateAt w' v (meetSt n 0 false) ∧ CapSt w' v 2 ∧ Below w.heap.size w w' := madeMeet_any n 0 false w hn2 hn8 (by omega)

set_option maxHeartbeats 40000000 in
set_option maxRecDepth 100000 in
theorem fnMeet_walk (a : Option Addr) (len q : Nat) (w : World) (hl : len ≤ 9223372036854775807) (h : len ≤ 1048576 → BytesAt w a len) :
    Calls Try.prog 6 #[.slice a len q] w fun e w' => e = .returned (.bool true) ∧ Below w.heap.size w w' := by
  go_enter Try.func6, Try.ntmps6
  by_cases hbig : (len : Int) > 1048576
  · go_wp2_with fail
    go_ret
    exact ⟨rfl, Below.refl _ _⟩
  have HBY := hide (h (by omega))
  have hlen : ¬ (1048576 : Int) < (len : Int) := by omega
  clear h
  go_wp2_with fail
  refine (wByte_any HBY.out 0 (by omega)).mono ?_
  rintro e w1 ⟨x, rfl, hx0, hx1, m1, rfl⟩
  obtain ⟨r, hr⟩ : ∃ r : Nat, x.tmod 7 = (r : Int) := ⟨(x.tmod 7).toNat, by rw [Int.tmod_eq_emod_of_nonneg hx0]; omega⟩
  have hr7 : r < 7 := by rw [Int.tmod_eq_emod_of_nonneg hx0] at hr; omega
  obtain ⟨n, hn⟩ : ∃ n : Nat, n = r + 2 := ⟨_, rfl⟩
  have hn1 : (2 : Int) + (r : Int) = (n : Int) := by omega
  have hn2 : wrap64 (2 + (r : Int)) = (n : Int) := by unfold wrap64; omega
  have hN2 : 2 ≤ n := by omega
  have hN8 : n ≤ 8 := by omega
  have HB1 := hide (Joins.below_draws w.heap.size w m1)
  have HBY1 : Hid (BytesAt (w.drewN m1) a len) := HBY.out
  clear hn hr7
  generalize w.drewN m1 = w1 at *
  go_wp2_with fail
  clear hr hn1 hn2 hx0 hx1 hbig hlen
  refine (madeMeet_not n w1 hN2 hN8).mono ?_
  rintro e w2 ⟨v2, rfl, hs2, hc2, hb2⟩
  have HS2 := hide hs2
  have HC2 := hide hc2
  have HB2 := hide (below_tail HB1.out hb2)
  have HBY2 := hide (BytesAt.below HBY1.out hb2)
  clear hs2 hc2 hb2
  go_wp2_with fail
  refine (implSafe_any v2 _ w2 HS2.out HC2.out (meet_paths hN8)).mono ?_
  rintro e w3 ⟨rfl, hb3⟩
  rw [meet_not hN2 hN8]
  have HB3 := hide (below_tail HB2.out hb3)
  have HBY3 := hide (BytesAt.below HBY2.out hb3)
  clear hb3
  by_cases hn3 : n < 3
  · have hn3i : (n : Int) < 3 := by omega
    go_wp2_with fail
    go_ret
    exact ⟨rfl, HB3.out⟩
  have hn3i : ¬ ((n : Int) < 3) := by omega
  go_wp2_with fail
  refine (wByte_any HBY3.out 1 (by omega)).mono ?_
  rintro e w4 ⟨y, rfl, hy0, hy1, m4, rfl⟩
  obtain ⟨d, hd⟩ : ∃ d : Nat, d = n - 2 := ⟨_, rfl⟩
  have hd1 : (n : Int) - 2 = (d : Int) := by omega
  have hd2 : wrap64 ((n : Int) - 2) = (d : Int) := by unfold wrap64; omega
  have hd0 : ((d : Int) == 0) = false := by rw [beq_eq_false_iff_ne]; omega
  have hdne : ¬ (d : Int) = 0 := by omega
  have hdp : 0 < d := by omega
  obtain ⟨u, hu, hud⟩ := tmod_nat hy0 hdp
  have HU := hide hu
  clear hu
  obtain ⟨k, hk⟩ : ∃ k : Nat, k = u + 1 := ⟨_, rfl⟩
  have hk1 : (1 : Int) + (u : Int) = (k : Int) := by omega
  have hk2 : wrap64 (1 + (u : Int)) = (k : Int) := by unfold wrap64; omega
  have hK1 : 1 ≤ k := by rw [hk]; exact Nat.le_add_left 1 u
  have hK2 : k ≤ n - 2 := by rw [hk, ← hd]; exact hud
  have hN3 : 3 ≤ n := Nat.le_of_not_lt hn3
  have HB4 := hide (below_tail HB3.out (Joins.below_draws w3.heap.size w3 m4))
  obtain ⟨HSF0, HSF1⟩ := meet_safe (n := n) (k := k) hN3 hN8 hK1 hK2
  have HF0 := hide HSF0
  have HF1 := hide HSF1
  have hu := HU.out
  clear HSF0 HSF1 hk hud hd HBY3 HBY2 HBY1 HBY
  generalize w3.drewN m4 = w4 at *
  go_wp2_with fail
  clear hd1 hd2 hd0 hdne hdp hk1 hk2 hu hy0 hy1
  have hK6 : k ≤ 6 := by omega
  refine (madeMeet_any n k true w4 hN2 hN8 (by omega)).mono ?_
  rintro e w5 ⟨v5, rfl, hs5, hc5, hb5⟩
  have HB5 := hide (below_tail HB4.out hb5)
  obtain ⟨M, hM⟩ : ∃ M : Nat → St, M = meetUp n k := ⟨_, rfl⟩
  have hM0 : M 0 = meetSt n k true := by rw [hM]; rfl
  have HMS : Hid (∀ i, stepF (M i) 2 = M (i + 1)) := fun i => by rw [hM]; rfl
  have HMP : Hid (∀ i, i < 6 → ∀ j, j < (M i).2.1.length → (tPath (M i).2.1 j).length ≤ 4611686018427387904) := fun i hi => by rw [hM]; exact meet_small hN3 hN8 hK1 hK6 hi
  have hs5' : StateAt w5 v5 (M 0) := by rw [hM0]; exact hs5
  have hc5' : CapSt w5 v5 (M 0).2.1.length := by rw [hM0]; exact hc5
  have HG0 : Hid (safeF (M 0) = true) := by rw [hM0]; exact HF0.out
  obtain ⟨e, p, c, he, he6, zz⟩ := meet_nums hN8 hK1 hK2 hN3
  have HZ := hide zz
  clear zz
  have HG1 : Hid (safeF (M e) = true) := by rw [hM, he]; exact HF1.out
  have HS5 := hide hs5'
  have HC5 := hide hc5'
  obtain ⟨a1, q1, a2, q2, a3, q3, hv5⟩ := hs5'.form
  subst hv5
  clear hs5 hc5 hb5 hs5' hc5' hM hM0 HF0 HF1 he hN2 hN3 hN8 hK1 hK2 hK6 hn3 hn3i
  generalize hST : M 0 = S0 at *
  go_wp2_with fail
  have hbA := Joins.below_alloc1 w5 (.cells #[.slice a1 S0.1.length q1, .slice a2 S0.2.1.length q2, .slice a3 S0.2.2.length q3] 26)
  refine (implSafe_any _ S0 _ (HS5.out.below hbA) (HC5.out.below HS5.out hbA) (by rw [← hST]; exact HMP.out 0 (by omega))).mono ?_
  rintro e' w6 ⟨rfl, hb6⟩
  rw [HG0.out]
  have HB6 := hide (below_tail (below_tail HB5.out hbA) hb6)
  have HX6 := hide (blockLater hb6 (heap_alloc_new w5 (.cells #[.slice a1 S0.1.length q1, .slice a2 S0.2.1.length q2, .slice a3 S0.2.2.length q3] 26)))
  have HS6 := hide (HS5.out.below (below_tail hbA hb6))
  have HC6 := hide (HC5.out.below HS5.out (below_tail hbA hb6))
  have hsz5 : w5.heap.size < w6.heap.size := (Array.getElem?_eq_some_iff.1 HX6.out).1
  have HBS : Hid (w.heap.size ≤ w5.heap.size) := HB5.out.size
  clear hb6 hbA HS5 HC5
  generalize w5.heap.size = bs at *
  go_wp2_with fail
  go_loopw [6] (fun u wr => ∃ (i : Nat) (a1 : Option Addr) (q1 : Nat) (a2 : Option Addr) (q2 : Nat) (a3 : Option Addr) (q3 : Nat), u = .int .i64 (i : Int) ∧ i ≤ e ∧ wr.heap[bs]? = some (.cells #[.slice a1 (M i).1.length q1, .slice a2 (M i).2.1.length q2, .slice a3 (M i).2.2.length q3] 26 (0, 0)) ∧ StateAt wr (.agg #[.slice a1 (M i).1.length q1, .slice a2 (M i).2.1.length q2, .slice a3 (M i).2.2.length q3]) (M i) ∧ CapSt wr (.agg #[.slice a1 (M i).1.length q1, .slice a2 (M i).2.1.length q2, .slice a3 (M i).2.2.length q3]) (M i).2.1.length ∧ Below w.heap.size w wr) (fun u _ => e + 1 - (intOf u).toNat)
  case atStart =>
    refine ⟨0, a1, q1, a2, q2, a3, q3, rfl, Nat.zero_le _, ?_, ?_, ?_, HB6.out⟩
    · rw [hST]; exact HX6.out
    · rw [hST]; exact HS6.out
    · rw [hST]; exact HC6.out
  case round =>
    obtain ⟨i, b1, p1, b2, p2, b3, p3, rfl, hie, hx, hs, hcp, hb⟩ := hrel
    have HX := hide hx
    have HS := hide hs
    have HCP := hide hcp
    have HB := hide hb
    have HPP := hide (HMP.out i (by omega))
    have hif : (i : Int) < (e : Int) + 1 := by omega
    have hbsz : bs < wr.heap.size := (Array.getElem?_eq_some_iff.1 hx).1
    have c0 : wr.cell? ⟨bs, 0, none⟩ = some (.slice b1 (M i).1.length p1) := by rw [cell_of_row wr bs 0 _ _ (0, 0) hx]; rfl
    have c1 : wr.cell? ⟨bs, 1, none⟩ = some (.slice b2 (M i).2.1.length p2) := by rw [cell_of_row wr bs 1 _ _ (0, 0) hx]; rfl
    have c2 : wr.cell? ⟨bs, 2, none⟩ = some (.slice b3 (M i).2.2.length p3) := by rw [cell_of_row wr bs 2 _ _ (0, 0) hx]; rfl
    clear hx hs hcp hb
    by_cases hi : i = e
    · subst hi
      obtain ⟨-, z2, -, z4, -, z6, -, z8, -, -, -, -⟩ := HZ.out
      have hib : ((i : Int) == (i : Int)) = true := by simp
      have HG2 := hide HG1.out
      generalize M i = S1 at *
      have HSO : Hid (solveF S1 = (true, vP S1 pz, solveP S1 pz) ∧ costF S1 (solveP S1 pz) = vP S1 pz) := by
        have hsf := HG2.out
        simp only [safeF, Bool.and_eq_true, decide_eq_true_eq] at hsf
        have hr := right_of_ok hsf.1
        have hv : 0 ≤ vP S1 pz := by rw [vP_pz hr.lens.2.2.2]; exact hsf.2
        exact ⟨by unfold solveF; rw [if_pos ⟨hsf.1, hv⟩], costF_solve hr.so hr hv⟩
      have HML : Hid ((solveP S1 pz).length ≤ 45) := by
        have hsf := HG2.out
        simp only [safeF, Bool.and_eq_true, decide_eq_true_eq] at hsf
        exact solveP_len (right_of_ok hsf.1).so (pz_ok S1)
      have HSC : Hid (∀ W, StateAt W (.agg #[.slice b1 S1.1.length p1, .slice b2 S1.2.1.length p2, .slice b3 S1.2.2.length p3]) S1 → Calls Try.prog 20 #[.agg #[.slice b1 S1.1.length p1, .slice b2 S1.2.1.length p2, .slice b3 S1.2.2.length p3]] W fun e w' => ∃ r, e = .returned (.agg #[.bool true, .int .i64 (vP S1 pz), r]) ∧ Below W.heap.size W w') := fun W hW => by
        refine (specSolve_any _ S1 W hW).mono ?_
        rintro e w' ⟨r, rfl, _, hb⟩
        rw [HSO.out.1]
        exact ⟨r, rfl, hb⟩
      go_wp2_with fail
      clear z2 z4 z6 z8
      refine (implSafe_any _ S1 _ HS.out HCP.out HPP.out).mono ?_
      rintro e' w7 ⟨rfl, hb7⟩
      rw [HG2.out]
      replace c0 := cell_later hb7 c0
      replace c1 := cell_later hb7 c1
      replace c2 := cell_later hb7 c2
      have HS7 := hide (HS.out.below hb7)
      have HC7 := hide (HCP.out.below HS.out hb7)
      have HB7 := hide (below_tail HB.out hb7)
      clear hb7
      go_wp2_with fail
      refine (implSolve_any _ S1 _ HS7.out HC7.out HPP.out).mono ?_
      rintro e' w8 ⟨r8, rfl, ho8, hb8⟩
      rw [HSO.out.1] at ho8 ⊢
      simp only at ho8 ⊢
      obtain ⟨ma, mc, hr8⟩ := ho8.form
      subst hr8
      replace c0 := cell_later hb8 c0
      replace c1 := cell_later hb8 c1
      replace c2 := cell_later hb8 c2
      have HO8 := hide ho8
      have HS8 := hide (HS7.out.below hb8)
      have HC8 := hide (HC7.out.below HS7.out hb8)
      have HB8 := hide (below_tail HB7.out hb8)
      have hbs8 : bs < w8.heap.size := World.block_lt_of_cell? _ _ c0
      clear hb8 ho8
      generalize vP S1 pz = vv at *
      generalize solveP S1 pz = mv at *
      have hfB := run_fieldBest true vv
      go_wp2_with fail
      obtain ⟨V, hV⟩ : ∃ V, V = w8.alloc (.cells #[.bool true, .int .i64 vv, .slice ma mv.length mc] 32) := ⟨_, rfl⟩
      rw [← hV]
      have hbV : Below w8.heap.size w8 V := by rw [hV]; exact Joins.below_alloc1 _ _
      obtain ⟨d0, d1, d2, -⟩ := block3 (show V.heap[w8.heap.size]? = _ by rw [hV]; exact heap_alloc_new _ _)
      replace c0 := cell_later hbV c0
      replace c1 := cell_later hbV c1
      replace c2 := cell_later hbV c2
      have HSV := hide (HS8.out.below hbV)
      have HCV := hide (HC8.out.below HS8.out hbV)
      have HOV := hide (HO8.out.at.below hbV)
      have HBV := hide (below_tail HB8.out hbV)
      have HLM : Hid (mv.length ≤ 4611686018427387904) := show mv.length ≤ _ by have := HML.out; omega
      have HCE : Hid (costF S1 mv = vv) := HSO.out.2
      clear hV hbV HS8 HC8 HO8 HB8
      generalize w8.heap.size = bb at *
      go_region_held3 (fun w' => w'.cell? ⟨bs, 0, none⟩ = some (.slice b1 S1.1.length p1) ∧ w'.cell? ⟨bs, 1, none⟩ = some (.slice b2 S1.2.1.length p2) ∧ w'.cell? ⟨bs, 2, none⟩ = some (.slice b3 S1.2.2.length p3) ∧ w'.cell? ⟨bb, 0, none⟩ = some (.bool true) ∧ w'.cell? ⟨bb, 1, none⟩ = some (.int .i64 vv) ∧ w'.cell? ⟨bb, 2, none⟩ = some (.slice ma mv.length mc))
        (first | (exact ⟨cell_later hb10 (by exact k0), cell_later hb10 (by exact k1), cell_later hb10 (by exact k2), cell_later hb10 (by exact k3), cell_later hb10 (by exact k4), cell_later hb10 (by exact k5)⟩) | (exact ⟨k0, k1, k2, k3, k4, k5⟩) | go_keep)
        (first | (go_at_call 22; refine (implCost_any _ _ S1 mv _ (HSV.out.below (Joins.below_draws _ _ 1)) (HCV.out.below HSV.out (Joins.below_draws _ _ 1)) HPP.out (HOV.out.below (Joins.below_draws _ _ 1)) HLM.out).mono ?_; rintro e' w9 ⟨rfl, hb9⟩; rw [HCE.out]; have hb9' := below_tail ((Below.refl _ V).drew) hb9; have k0 := cell_later hb9' c0; have k1 := cell_later hb9' c1; have k2 := cell_later hb9' c2; have k3 := cell_later hb9' d0; have k4 := cell_later hb9' d1; have k5 := cell_later hb9' d2; have HB9 := hide hb9'; clear hb9 hb9') | (go_at_call 20; refine (HSC.out _ (HSV.out.below HB9.out)).mono ?_; rintro e' w10 ⟨r10, rfl, hb10⟩))
      all_goals
        have HB10 := hide (below_tail HB9.out hb10)
        clear hb10
        go_wp2_with fail
        go_ret
        exact ⟨rfl, below_tail HBV.out HB10.out⟩
    · have hie' : i < e := by omega
      obtain ⟨-, z2, -, z4, -, z6, -, z8, -, -, -, -⟩ := HZ.out
      have hib : ((i : Int) == (e : Int)) = false := by rw [beq_eq_false_iff_ne]; omega
      have HMI := hide (HMS.out i)
      have hsz' := hbsz
      generalize M i = S1 at *
      go_wp2_with fail
      refine (implStep_cap _ S1 2 _ HS.out HCP.out HPP.out).mono ?_
      rintro e' w7 ⟨L, rfl, hO, hF, hb7, hpc⟩
      rw [HMI.out] at hO hF hpc ⊢
      have HMN : Hid (∀ (P : St → Prop), P (M (i + 1)) → P (M (i + 1))) := fun _ h => h
      have HI1 := hide (And.intro hie' hie)
      obtain ⟨S2, hS2⟩ : ∃ S2, S2 = M (i + 1) := ⟨_, rfl⟩
      have HS2' := hide hS2
      rw [← hS2] at hO hF hpc ⊢
      have hbw : bs < w7.heap.size := Nat.lt_of_lt_of_le hbsz hb7.size
      have hx7 := blockLater hb7 HX.out
      obtain ⟨k0, k1, k2, kf⟩ := block3 hx7
      have kf0 := kf 0
      have kf1 := kf 1
      have kf2 := kf 2
      have HX7 := hide hx7
      have HO := hide hO
      have HF := hide hF
      have HPC := hide hpc
      have HB7 := hide (below_tail HB.out hb7)
      have HNB : Hid (∀ k, L.F S2.2.1.length k → k ≠ bs) := fun k e => by have := hF k e; omega
      obtain ⟨ra, rc, ta, tc, na, nc, pa, pc⟩ := L
      simp only [Lies.val]
      clear hS2 hO hF hpc hb7 hx7 kf z2 z4 z6 z8 c0 c1 c2 hie' hie
      go_wp2_with fail
      go_roundw
      case rel =>
        obtain ⟨hie', hie⟩ := HI1.out
        have hc : Chg (fun q => q = bs) w7 (((w7.setCell ⟨bs, 0, none⟩ (.slice ra S2.1.length rc)).setCell ⟨bs, 1, none⟩ (.slice ta S2.2.1.length tc)).setCell ⟨bs, 2, none⟩ (.slice na S2.2.2.length nc)) :=
          Chg.setCell (F := fun q => q = bs) (Chg.setCell (F := fun q => q = bs) (Chg.setCell (F := fun q => q = bs) (Chg.refl _ _) rfl _) rfl _) rfl _
        have hvar := block3_set2 (block3_set1 (block3_set0 HX7.out (.slice ra S2.1.length rc)) (.slice ta S2.2.1.length tc)) (.slice na S2.2.2.length nc)
        have hO := HO.out.keep hc.size (fun k hk e => hc.block k hk (HNB.out k e))
        refine ⟨i + 1, ra, rc, ta, tc, na, nc, by go_num, by omega, ?_, ?_, ?_, ?_⟩
        · rw [← HS2'.out]; exact hvar
        · rw [← HS2'.out]; exact hO.at
        · rw [← HS2'.out]; exact hO.capSt HPC.out
        · exact HB7.out.trans (hc.below (by have := HB7.out.size; exact this) (fun k hk e => by have := HBS.out; omega))
      case measure => simp [intOf]; omega
end Go.Proofs.Ytmjjigdnoiphbaa
