/-
  impl: Cost.
-/
import Derived.Test.YtmjjigdnoiphbaaDoorJ9
import Derived.Test.YtmjjigdnoiphbaaDoorJ8
namespace Go.Proofs.YtmjjigdnoiphbaaDoor
open Go.RowKit Go.Deep Go.Maps
set_option linter.unusedVariables false

theorem block5_all {w : World} {b : Nat} {x0 x1 x2 x3 x4 : Value} {t : TypeId} (h : w.heap[b]? = some (.cells #[x0, x1, x2, x3, x4] t (0, 0))) (y0 y1 y2 y3 y4 : Value) : (((((w.setCell ⟨b, 0, none⟩ y0).setCell ⟨b, 1, none⟩ y1).setCell ⟨b, 2, none⟩ y2).setCell ⟨b, 3, none⟩ y3).setCell ⟨b, 4, none⟩ y4).heap[b]? = some (.cells #[y0, y1, y2, y3, y4] t (0, 0)) := by
  have h0 := Joins.block_setCell (i := 0) h y0
  have h1 := Joins.block_setCell (i := 1) h0 y1
  have h2 := Joins.block_setCell (i := 2) h1 y2
  have h3 := Joins.block_setCell (i := 3) h2 y3
  have h4 := Joins.block_setCell (i := 4) h3 y4
  simpa using h4

set_option maxRecDepth 4000 in
set_option maxHeartbeats 2000000 in
theorem implCost_any (v mv : Value) (st : St) (ms : List Int) (w : World) (h : StateAt w v st) (hcap : CapSt w v st.2.1.length) (hp : ∀ i, i < st.2.1.length → (tPath st.2.1 i).length ≤ 4611686018427387904) (hm : IntsAt w mv ms) (hml : ms.length ≤ 4611686018427387904) :
    Calls Tryd.prog 19 #[v, mv] w fun e w' => e = .returned (.int .i64 (costF st ms)) ∧ Below w.heap.size w w' := by
  have HS := hide h
  have HM := hide hm
  have HP := hide hp
  have HC := hide hcap
  obtain ⟨a1, q1, a2, q2, a3, q3, rfl⟩ := h.form
  obtain ⟨am, qm, rfl, -⟩ := hm
  clear h hp hcap
  go_enter Tryd.func19, Tryd.ntmps19
  go_wp2_with fail
  refine (implStateOk_any _ st _ (HS.out.below (Joins.below_alloc1 _ _)) HP.out).mono ?_
  rintro e w1 ⟨rfl, hb1⟩
  have HX1 := hide (blockLater hb1 (heap_alloc_new w (.cells #[.slice a1 st.1.length q1, .slice a2 st.2.1.length q2, .slice a3 st.2.2.length q3] 26)))
  have HB1 := hide (below_tail (Joins.below_alloc1 w (.cells #[.slice a1 st.1.length q1, .slice a2 st.2.1.length q2, .slice a3 st.2.2.length q3] 26)) hb1)
  obtain ⟨c0, c1, c2, _⟩ := block3 HX1.out
  clear hb1
  by_cases hok : stOk st = 0
  · have HR := hide (right_of_ok hok)
    have hokb : (stOk st != 0) = false := by simp [hok]
    by_cases h45 : ms.length ≤ 45
    · have HF := hide (show costF st ms = costD st ms pz 0 by simp [costF, hok, h45])
      obtain ⟨l1, l2, l3, l4⟩ := HR.out.lens
      have HL4 := hide l4
      clear hok l4
      have h45b : ¬ ((ms.length : Int) > 45) := by omega
      generalize stOk st = code at *
      go_wp2_with fail
      clear c0 c1 c2
      have hw1 : w.heap.size < w1.heap.size := (Array.getElem?_eq_some_iff.1 HX1.out).1
      have HPZ : Hid ((w1.alloc (.cells (pc5 pz) 61)).heap[w1.heap.size]? = some (.cells (pc5 pz) 61 (0, 0))) := heap_alloc_new _ _
      change Code.wp _ _ _ _ (w1.alloc (.cells (pc5 pz) 61))
      generalize hz : w1.heap.size = z at *
      go_loopw [6, 21] (fun u i wr => ∃ (k : Nat) (d : Pr) (n : Int), k ≤ ms.length ∧ i = .int .i64 k ∧ u = .int .i64 n ∧ 0 ≤ n ∧ n ≤ 500 * k ∧ PV st d ∧ costD st (ms.drop k) d n = costF st ms ∧ wr.heap[z]? = some (.cells (pc5 d) 61 (0, 0)) ∧ Below z w1 wr) (fun _ i _ => ms.length - (intOf i).toNat)
      case atStart => exact ⟨0, pz, 0, Nat.zero_le _, rfl, rfl, by omega, by omega, PV.pz st, by rw [HF.out]; rfl, HPZ.out, by rw [← hz]; exact Joins.below_alloc1 _ _⟩
      case round =>
        obtain ⟨k, d, n, hk, rfl, rfl, hn0, hn1, hpv, hcost, hP, hb⟩ := hrel
        have hbw : Below w.heap.size w wr := HB1.out.trans (hb.mono (by omega))
        have hX : wr.heap[w.heap.size]? = some (.cells #[.slice a1 st.1.length q1, .slice a2 st.2.1.length q2, .slice a3 st.2.2.length q3] 26 (0, 0)) := (hb.block _ (by omega)).trans HX1.out
        obtain ⟨x0, x1, x2, xf⟩ := block3 hX
        obtain ⟨p0, p1, p2, p3, p4⟩ := cells5 hP
        have hzr : z < wr.heap.size := (Array.getElem?_eq_some_iff.1 hP).1
        have HX := hide hX
        have HPV := hide hpv
        have HB := hide hb
        have HBW := hide hbw
        have HCO := hide hcost
        have HPP := hide hP
        clear hX hpv hb hcost hP hbw
        by_cases hlt : k < ms.length
        · obtain ⟨b, off, rfl, hx⟩ := (HM.out.below HBW.out).cellAt k hlt
          have HCU := hide (drop_el hlt)
          obtain ⟨m, hm⟩ : ∃ m, el ms k = m := ⟨_, rfl⟩
          rw [hm] at hx HCU
          clear hm
          go_wp2_with fail
          refine (index_any a3 st.2.2.length q3 st.2.2 m wr (HS.out.below HBW.out).parts.2.2 (by have := HL4.out; omega)).mono ?_
          rintro e w2 ⟨rfl, rfl⟩
          clear hx
          by_cases hi : nameIx st.2.2 m < st.2.2.length
          · have hnr : nameRes st.2.2 m = (nameIx st.2.2 m : Nat) := by unfold nameRes; rw [if_pos hi]
            rw [hnr]
            have hit : nameIx st.2.2 m < st.2.1.length := by have := HL4.out; omega
            obtain ⟨s0, s1⟩ := wtP_le HR.out.so d
            have HI := hide hi
            have hd5 : d (nameIx st.2.2 m) < 100 := HPV.out.lt HR.out.so _
            have HBU : Hid (leftB st.2.1 d (nameIx st.2.2 m) = false → PV st (bump d (nameIx st.2.2 m))) := fun hl => HPV.out.bump hit hl
            have HCT : Hid (canP st d (nameIx st.2.2 m) = true → costD st (ms.drop (k + 1)) (bump d (nameIx st.2.2 m)) (n + wtP st d) = costF st ms) := fun hc => by
              rw [← HCO.out, HCU.out, costD, if_pos ⟨hi, hc⟩]
            have HCF : Hid (canP st d (nameIx st.2.2 m) = false → costF st ms = -1) := fun hc => by
              rw [← HCO.out, HCU.out, costD, if_neg]
              rw [hc]
              simp
            generalize nameIx st.2.2 m = j at *
            clear hnr hi
            go_wp2_with fail
            refine (canMove_any _ st d j _ (HS.out.below HBW.out) (CapSt.below HC.out HS.out HBW.out) HR.out HPV.out.ok hit).mono ?_
            rintro e w3 ⟨rfl, hb3⟩
            have HX3 := hide (blockLater hb3 HX.out)
            have HP3 := hide (blockLater hb3 HPP.out)
            have HBW3 : Hid (Below w.heap.size w w3) := below_tail HBW.out hb3
            have HB3 : Hid (Below z w1 w3) := HB.out.trans (hb3.mono (by omega))
            obtain ⟨y0, y1, y2, yf⟩ := block3 HX3.out
            obtain ⟨r0, r1, r2, r3, r4⟩ := cells5 HP3.out
            have hz3 : z < w3.heap.size := (Array.getElem?_eq_some_iff.1 HP3.out).1
            clear hb3 x0 x1 x2 xf p0 p1 p2 p3 p4
            cases hcan : canP st d j with
            | false =>
              have HV : Hid (costF st ms = -1) := HCF.out hcan
              clear hcan
              go_wp2_with fail
              go_ret
              exact ⟨by rw [HV.out]; rfl, HBW3.out⟩
            | true =>
              have HV : Hid (costD st (ms.drop (k + 1)) (bump d j) (n + wtP st d) = costF st ms) := HCT.out hcan
              have HPB := hide (HBU.out (canP_left hcan))
              clear hcan
              go_wp2_with fail
              refine (weightThere_any _ st _ (HS.out.below HBW3.out) HR.out.so (d := d) (fun i => HPV.out.lt HR.out.so i)).mono ?_
              rintro e w4 ⟨rfl, hb4⟩
              have HX4 := hide (blockLater hb4 HX3.out)
              have HP4 := hide (blockLater hb4 HP3.out)
              have HBW4 : Hid (Below w.heap.size w w4) := below_tail HBW3.out hb4
              have HB4 : Hid (Below z w1 w4) := HB3.out.trans (hb4.mono (by omega))
              obtain ⟨u0, u1, u2, u3, u4⟩ := cells5 HP4.out
              have hz4 : z < w4.heap.size := (Array.getElem?_eq_some_iff.1 HP4.out).1
              clear hb4 y0 y1 y2 yf r0 r1 r2 r3 r4
              generalize wtP st d = wt at *
              go_wp2_with fail
              refine (pmoved_any d j _ (by omega) hd5).mono ?_
              rintro e w5 ⟨rfl, hb5⟩
              have hP5 := blockLater hb5 HP4.out
              have HBW5 : Hid (Below w.heap.size w w5) := below_tail HBW4.out hb5
              have HB5 : Hid (Below z w1 w5) := HB4.out.trans (hb5.mono (by omega))
              obtain ⟨t0, t1, t2, t3, t4⟩ := cells5 hP5
              have tf : ∀ o, w5.frozen? ⟨z, o, none⟩ = false := fun o => frozen_of_row w5 z o _ _ hP5
              have f0 := tf 0
              have f1 := tf 1
              have f2 := tf 2
              have f3 := tf 3
              have f4 := tf 4
              have HP5 := hide hP5
              clear hb5 tf hP5 u0 u1 u2 u3 u4
              unfold pv pc5
              generalize hbu : bump d j = de at *
              go_wp2_with fail
              go_roundw
              case rel => exact ⟨k + 1, de, n + wt, by omega, by go_num, rfl, by omega, by push_cast; omega, HPB.out, HV.out, block5_all HP5.out _ _ _ _ _, ((((HB5.out.setCell (p := ⟨z, 0, none⟩) (by simp) _).setCell (p := ⟨z, 1, none⟩) (by simp) _).setCell (p := ⟨z, 2, none⟩) (by simp) _).setCell (p := ⟨z, 3, none⟩) (by simp) _).setCell (p := ⟨z, 4, none⟩) (by simp) _⟩
              case measure => simp [intOf]; omega
          · have hnr : nameRes st.2.2 m = -1 := by unfold nameRes; rw [if_neg hi]
            have HV : Hid (costF st ms = -1) := by
              show costF st ms = -1
              rw [← HCO.out, HCU.out, costD, if_neg]
              exact fun e => hi e.1
            rw [hnr]
            clear hnr hi
            go_wp2_with fail
            go_ret
            exact ⟨by rw [HV.out]; rfl, HBW.out⟩
        · obtain rfl : k = ms.length := by omega
          have HCU : Hid (costF st ms = bif allLeft st d then n else -1) := by
            show costF st ms = bif allLeft st d then n else -1
            rw [← HCO.out, List.drop_length]
            rfl
          have HSM : Hid (same5 d (endP st) = allLeft st d) := by
            have h1 := same5_iff HR.out.so HPV.out (PV.endP st)
            have h2 := allLeft_iff HPV.out
            show same5 d (endP st) = allLeft st d
            rw [Bool.eq_iff_iff, h1, h2]
            exact eq_comm
          have heq := eqPr' d (endP st)
          unfold pc5 at heq
          rw [HSM.out] at heq
          cases hall : allLeft st d with
          | true =>
            have HV : Hid (costF st ms = n) := by
              show costF st ms = n
              rw [HCU.out, hall]
              rfl
            rw [hall] at heq
            clear hall
            generalize hep : endP st = ep at *
            have HEP := hide hep
            clear hep
            go_wp2_with fail
            go_region_held3 (fun w' => w'.cell? ⟨z, 0, none⟩ = some (.int .i8 (d 0)) ∧ w'.cell? ⟨z, 1, none⟩ = some (.int .i8 (d 1)) ∧ w'.cell? ⟨z, 2, none⟩ = some (.int .i8 (d 2)) ∧ w'.cell? ⟨z, 3, none⟩ = some (.int .i8 (d 3)) ∧ w'.cell? ⟨z, 4, none⟩ = some (.int .i8 (d 4)) ∧ w'.cell? ⟨w.heap.size, 0, none⟩ = some (.slice a1 st.1.length q1) ∧ w'.cell? ⟨w.heap.size, 1, none⟩ = some (.slice a2 st.2.1.length q2) ∧ w'.cell? ⟨w.heap.size, 2, none⟩ = some (.slice a3 st.2.2.length q3))
              (first | (exact ⟨cell_later hb2 (by exact p0), cell_later hb2 (by exact p1), cell_later hb2 (by exact p2), cell_later hb2 (by exact p3), cell_later hb2 (by exact p4), cell_later hb2 (by exact x0), cell_later hb2 (by exact x1), cell_later hb2 (by exact x2)⟩) | go_keep)
              (first | (go_at_call 55; refine (endOf_any _ st _ (HS.out.below HBW.out.drew) HR.out.so).mono ?_; rw [HEP.out]; rintro e w2 ⟨rfl, hb2⟩; unfold pv pc5))
            all_goals
              have HB2 := hide (below_tail HBW.out.drew hb2)
              clear hb2
              go_wp2_with fail
              go_ret
              exact ⟨by rw [HV.out]; rfl, HB2.out⟩
          | false =>
            have HV : Hid (costF st ms = -1) := by
              show costF st ms = -1
              rw [HCU.out, hall]
              rfl
            rw [hall] at heq
            clear hall
            generalize hep : endP st = ep at *
            have HEP := hide hep
            clear hep
            go_wp2_with fail
            go_region_held3 (fun w' => w'.cell? ⟨z, 0, none⟩ = some (.int .i8 (d 0)) ∧ w'.cell? ⟨z, 1, none⟩ = some (.int .i8 (d 1)) ∧ w'.cell? ⟨z, 2, none⟩ = some (.int .i8 (d 2)) ∧ w'.cell? ⟨z, 3, none⟩ = some (.int .i8 (d 3)) ∧ w'.cell? ⟨z, 4, none⟩ = some (.int .i8 (d 4)) ∧ w'.cell? ⟨w.heap.size, 0, none⟩ = some (.slice a1 st.1.length q1) ∧ w'.cell? ⟨w.heap.size, 1, none⟩ = some (.slice a2 st.2.1.length q2) ∧ w'.cell? ⟨w.heap.size, 2, none⟩ = some (.slice a3 st.2.2.length q3))
              (first | (exact ⟨cell_later hb2 (by exact p0), cell_later hb2 (by exact p1), cell_later hb2 (by exact p2), cell_later hb2 (by exact p3), cell_later hb2 (by exact p4), cell_later hb2 (by exact x0), cell_later hb2 (by exact x1), cell_later hb2 (by exact x2)⟩) | go_keep)
              (first | (go_at_call 55; refine (endOf_any _ st _ (HS.out.below HBW.out.drew) HR.out.so).mono ?_; rw [HEP.out]; rintro e w2 ⟨rfl, hb2⟩; unfold pv pc5))
            all_goals
              have HB2 := hide (below_tail HBW.out.drew hb2)
              clear hb2
              go_wp2_with fail
              go_ret
              exact ⟨by rw [HV.out]; rfl, HB2.out⟩
    · have HF := hide (show costF st ms = -1 by simp [costF, h45])
      clear hok
      have h45b : (ms.length : Int) > 45 := by omega
      generalize stOk st = code at *
      go_wp2_with fail
      go_ret
      exact ⟨by rw [HF.out]; rfl, HB1.out⟩
  · have hokb : (stOk st != 0) = true := by simp [hok]
    have HF := hide (show costF st ms = -1 by simp [costF, hok])
    clear hok
    generalize stOk st = code at *
    go_wp2_with fail
    go_ret
    exact ⟨by rw [HF.out]; rfl, HB1.out⟩
end Go.Proofs.YtmjjigdnoiphbaaDoor
