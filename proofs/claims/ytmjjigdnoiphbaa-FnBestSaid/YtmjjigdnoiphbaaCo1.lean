/-
  spec: Cost.
-/
import Derived.Test.YtmjjigdnoiphbaaJ3
namespace Go.Proofs.Ytmjjigdnoiphbaa
open Go.RowKit Go.Deep Go.Maps
set_option linter.unusedVariables false

set_option maxRecDepth 4000 in
set_option maxHeartbeats 8000000 in
theorem specCost_any (v mv : Value) (st : St) (ms : List Int) (w : World) (h : StateAt w v st) (hm : IntsAt w mv ms) (hml : ms.length ≤ 4611686018427387904) :
    Calls Try.prog 23 #[v, mv] w fun e w' => e = .returned (.int .i64 (costF st ms)) ∧ Below w.heap.size w w' := by
  have HS := hide h
  have HM := hide hm
  obtain ⟨a1, q1, a2, q2, a3, q3, rfl⟩ := h.form
  obtain ⟨am, qm, rfl, -⟩ := hm
  clear h
  go_enter Try.func23, Try.ntmps23
  go_wp2_with fail
  refine (specStateOk_any _ st _ (HS.out.below (Joins.below_alloc1 _ _))).mono ?_
  rintro e w1 ⟨rfl, hb1⟩
  have HX1 := hide (blockLater hb1 (heap_alloc_new w (.cells #[.slice a1 st.1.length q1, .slice a2 st.2.1.length q2, .slice a3 st.2.2.length q3] 26)))
  have HB1 := hide (below_tail (Joins.below_alloc1 w (.cells #[.slice a1 st.1.length q1, .slice a2 st.2.1.length q2, .slice a3 st.2.2.length q3] 26)) hb1)
  obtain ⟨c0, c1, c2, _⟩ := block3 HX1.out
  clear hb1
  by_cases hok : stOk st = 0
  · have HR := hide (right_of_ok hok)
    have hokb : (stOk st != 0) = false := by simp [hok]
    by_cases h45 : ms.length ≤ 45
    · have HF := hide (show costF st ms = costD st ms pz 0 by simp [costF, hok, h45])
      obtain ⟨l1, l2, l3, l4⟩ := HR.out.lens
      have HP := hide (behind_pz l4)
      clear hok l4
      have h45b : ¬ ((ms.length : Int) > 45) := by omega
      generalize stOk st = code at *
      go_wp2_with fail
      clear c0 c1 c2
      have hw1 : w.heap.size < w1.heap.size := (Array.getElem?_eq_some_iff.1 HX1.out).1
      generalize hz : w.heap.size = z at *
      go_loopw [5, 19] (fun u i wr => ∃ (k : Nat) (d : Pr) (n : Int), k ≤ ms.length ∧ i = .int .i64 k ∧ u = .int .i64 n ∧ 0 ≤ n ∧ n ≤ 500 * k ∧ PV st d ∧ costD st (ms.drop k) d n = costF st ms ∧ (∃ b1 p1 b2 p2 b3 p3, wr.heap[z]? = some (.cells #[.slice b1 (behindSt st d).1.length p1, .slice b2 (behindSt st d).2.1.length p2, .slice b3 (behindSt st d).2.2.length p3] 26 (0, 0)) ∧ (∀ w'', Chg (fun q => q = z) wr w'' → StateAt w'' (.agg #[.slice b1 (behindSt st d).1.length p1, .slice b2 (behindSt st d).2.1.length p2, .slice b3 (behindSt st d).2.2.length p3]) (behindSt st d))) ∧ Below z w wr) (fun _ i _ => ms.length - (intOf i).toNat)
      case atStart =>
        refine ⟨0, pz, 0, Nat.zero_le _, rfl, rfl, by omega, by omega, PV.pz st, by rw [HF.out]; rfl, ?_, HB1.out⟩
        rw [HP.out]
        exact ⟨_, _, _, _, _, _, HX1.out, fun w'' hc => HS.out.below (by rw [hz]; exact HB1.out.trans (hc.below (by omega) (fun k hk e => by omega)))⟩
      case round =>
        obtain ⟨k, d, n, hk, rfl, rfl, hn0, hn1, hpv, hcost, ⟨b1, p1, b2, p2, b3, p3, hX, hSt⟩, hb⟩ := hrel
        obtain ⟨x0, x1, x2, xf⟩ := block3 hX
        have HSO := hide (HR.out.so.behind hpv.ok)
        have hLN := (HR.out.so.behind hpv.ok).lens
        obtain ⟨m1, m2, m3, m4⟩ := hLN
        have HM4 := hide m4
        clear m4
        have hzr : z < wr.heap.size := (Array.getElem?_eq_some_iff.1 hX).1
        have HST := hide hSt
        have HX := hide hX
        have HPV := hide hpv
        have HB := hide hb
        have HC := hide hcost
        have HE := hide (behind_none (st := st) (d := d))
        clear hSt hX hpv hb hcost
        have HNB := hide (nameRes_behind HR.out HPV.out.ok)
        have HCBA : Hid (∀ i, i < st.2.1.length → leftB st.2.1 d i = false → canB (behindSt st d) (posUp st.2.1 d i) = canP st d i) := fun i h1 h2 => canB_behind HPV.out.ok h1 h2
        have HSBA : Hid (∀ i, i < st.2.1.length → leftB st.2.1 d i = false → stepSt (behindSt st d) (posUp st.2.1 d i) = behindSt st (bump d i)) := fun i h1 h2 => step_behind HPV.out.ok h1 h2
        have HLTA : Hid (∀ i, i < st.2.1.length → leftB st.2.1 d i = false → posUp st.2.1 d i < (behindSt st d).2.1.length) := fun i h1 h2 => behind_lt h1 h2
        have HWT := hide (wt_behind (st := st) (d := d))
        generalize behindSt st d = cu at *
        by_cases hlt : k < ms.length
        · obtain ⟨b, off, rfl, hx⟩ := (HM.out.below (by rw [hz]; exact HB.out)).cellAt k hlt
          have HCU := hide (drop_el hlt)
          have HNR := hide (HNB.out (el ms k))
          obtain ⟨m, hm⟩ : ∃ m, el ms k = m := ⟨_, rfl⟩
          rw [hm] at hx HCU HNR
          clear hm
          go_wp2_with fail
          refine (l1name_any _ cu m wr (HST.out _ (Chg.refl _ _)) (by have := HM4.out; omega)).mono ?_
          rintro e w2 ⟨rfl, hb2⟩
          have HX2 := hide (blockLater hb2 HX.out)
          have HC2 : Hid (Chg (fun q => q = z) wr w2) := Chg.of_below hb2
          have HB2 : Hid (Below z w w2) := HB.out.trans (hb2.mono (by omega))
          have hz2 : z < w2.heap.size := (Array.getElem?_eq_some_iff.1 HX2.out).1
          obtain ⟨y0, y1, y2, yf⟩ := block3 HX2.out
          clear hb2 x0 x1 x2 xf hx
          rcases HNR.out with ⟨h1, h2, h3⟩ | ⟨h1, h3⟩
          · have hit : nameIx st.2.2 m < st.2.1.length := by have := HR.out.lens.2.2.2; omega
            have HCB := hide (HCBA.out _ hit h2)
            have HSB := hide (HSBA.out _ hit h2)
            have hjl := HLTA.out _ hit h2
            have HI1 := hide h1
            rw [h3]
            obtain ⟨s0, s1⟩ := wtP_le HR.out.so d
            have HPV2 := hide (HPV.out.bump hit h2)
            generalize hj : posUp st.2.1 d (nameIx st.2.2 m) = j at *
            have HJ := hide hj
            clear h3 h1 hj
            go_wp2_with fail
            refine (l1can_so _ cu j w2 (HST.out _ HC2.out) HSO.out hjl).mono ?_
            rintro e w3 ⟨rfl, hb3⟩
            have HX3 := hide (blockLater hb3 HX2.out)
            have HC3 : Hid (Chg (fun q => q = z) wr w3) := HC2.out.trans (Chg.of_below hb3)
            have HB3 : Hid (Below z w w3) := HB2.out.trans (hb3.mono (by omega))
            have hz3 : z < w3.heap.size := (Array.getElem?_eq_some_iff.1 HX3.out).1
            obtain ⟨u0, u1, u2, uf⟩ := block3 HX3.out
            clear hb3 y0 y1 y2 yf
            cases hcan : canB cu j with
            | false =>
              have HV : Hid (costF st ms = -1) := by
                show costF st ms = -1
                rw [← HC.out, HCU.out, costD, if_neg]
                rw [← HCB.out, hcan]
                simp
              clear hcan
              go_wp2_with fail
              go_ret
              exact ⟨by rw [HV.out]; rfl, by first | exact HB3.out | (rw [hz]; exact HB3.out)⟩
            | true =>
              have HV : Hid (costD st (ms.drop (k + 1)) (bump d (nameIx st.2.2 m)) (n + wtP st d) = costF st ms) := by
                show costD st (ms.drop (k + 1)) (bump d (nameIx st.2.2 m)) (n + wtP st d) = costF st ms
                rw [← HC.out, HCU.out, costD, if_pos]
                exact ⟨HI1.out, by rw [← HCB.out, hcan]⟩
              clear hcan
              go_wp2_with fail
              refine (l2weight_any _ cu w3 (HST.out _ HC3.out) HSO.out).mono ?_
              rintro e w4 ⟨rfl, hb4⟩
              rw [HWT.out]
              have HX4 := hide (blockLater hb4 HX3.out)
              have HC4 : Hid (Chg (fun q => q = z) wr w4) := HC3.out.trans (Chg.of_below hb4)
              have HB4 : Hid (Below z w w4) := HB3.out.trans (hb4.mono (by omega))
              have hz4 : z < w4.heap.size := (Array.getElem?_eq_some_iff.1 HX4.out).1
              obtain ⟨v0, v1, v2, vf⟩ := block3 HX4.out
              clear hb4 u0 u1 u2 uf
              generalize wtP st d = wt at *
              go_wp2_with fail
              refine (l1step_any _ cu j w4 (HST.out _ HC4.out) HSO.out.small hjl HM4.out).mono ?_
              rintro e w5 ⟨r, rfl, hr5, hb5⟩
              rw [HSB.out] at hr5
              obtain ⟨e1, g1, e2, g2, e3, g3, rfl⟩ := (hr5 w5 (Chg.refl _ _)).form
              have hX5 := blockLater hb5 HX4.out
              obtain ⟨t0, t1, t2, tf⟩ := block3 hX5
              have tf0 := tf 0
              have tf1 := tf 1
              have tf2 := tf 2
              have HX5 := hide hX5
              have HB5 : Hid (Below z w w5) := HB4.out.trans (hb5.mono (by omega))
              have HR5 := hide hr5
              clear hb5 v0 v1 v2 vf tf hr5 hX5
              go_wp2_with fail
              go_roundw
              case rel =>
                refine ⟨k + 1, bump d (nameIx st.2.2 m), n + wt, by omega, by go_num, rfl, by omega, by push_cast; omega, HPV2.out, HV.out, ⟨_, _, _, _, _, _, block3_set2 (block3_set1 (block3_set0 HX5.out _) _) _, fun w'' hc => HR5.out w'' ?_⟩, ((HB5.out.setCell (p := ⟨z, 0, none⟩) (by simp) _).setCell (p := ⟨z, 1, none⟩) (by simp) _).setCell (p := ⟨z, 2, none⟩) (by simp) _⟩
                exact ((((Chg.refl _ w5).setCell (p := ⟨z, 0, none⟩) hz4 _).setCell (p := ⟨z, 1, none⟩) hz4 _).setCell (p := ⟨z, 2, none⟩) hz4 _).trans (hc.mono (fun q e => by subst e; exact hz4))
              case measure => simp [intOf]; omega
          · have HV : Hid (costF st ms = -1) := by
              show costF st ms = -1
              rw [← HC.out, HCU.out, costD, if_neg]
              rintro ⟨g1, g2⟩
              rcases h1 with h1 | h1
              · exact h1 g1
              · have := canP_left g2
                rw [h1] at this
                cases this
            rw [h3]
            clear h3 h1
            go_wp2_with fail
            go_ret
            exact ⟨by rw [HV.out]; rfl, by first | exact HB2.out | (rw [hz]; exact HB2.out)⟩
        · obtain rfl : k = ms.length := by omega
          have HCU : Hid (costF st ms = bif allLeft st d then n else -1) := by
            show costF st ms = bif allLeft st d then n else -1
            rw [← HC.out, List.drop_length]
            rfl
          by_cases h0 : cu.2.1.length = 0
          · have HV : Hid (costF st ms = n) := by
              show costF st ms = n
              rw [HCU.out, HE.out.1 h0]
              rfl
            have h0i : ¬ ((cu.2.1.length : Int) > 0) := by omega
            go_wp2_with fail
            go_ret
            exact ⟨by rw [HV.out]; rfl, by first | exact HB.out | (rw [hz]; exact HB.out)⟩
          · have HV : Hid (costF st ms = -1) := by
              show costF st ms = -1
              rw [HCU.out]
              cases e : allLeft st d
              · rfl
              · exact absurd (HE.out.2 e) h0
            have h0i : (cu.2.1.length : Int) > 0 := by omega
            go_wp2_with fail
            go_ret
            exact ⟨by rw [HV.out]; rfl, by first | exact HB.out | (rw [hz]; exact HB.out)⟩
    · have HF := hide (show costF st ms = -1 by simp [costF, h45])
      clear hok
      have h45b : (ms.length : Int) > 45 := by omega
      generalize stOk st = code at *
      go_wp2_with fail
      go_ret
      exact ⟨by rw [HF.out]; rfl, HB1.out⟩
  · have hokb : (stOk st != 0) = true := by simp [hok]
    have HF := hide (show costF st ms = -1 by simp [costF, hok])
    clear hok
    generalize stOk st = code at *
    go_wp2_with fail
    go_ret
    exact ⟨by rw [HF.out]; rfl, HB1.out⟩
end Go.Proofs.Ytmjjigdnoiphbaa
