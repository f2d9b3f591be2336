/-
  impl: Solve.
-/
import Derived.Test.YtmjjigdnoiphbaaDoorSo5
import Derived.Deep.LoopGhost
import Derived.Deep.RegionLaw
namespace Go.Proofs.YtmjjigdnoiphbaaDoor
open Go.RowKit Go.Deep Go.Maps
set_option linter.unusedVariables false

set_option maxRecDepth 4000 in
set_option maxHeartbeats 4000000 in
theorem implSolve_any (v : Value) (st : St) (w : World) (h : StateAt w v st) (hcap : CapSt w v st.2.1.length) (hp : ∀ i, i < st.2.1.length → (tPath st.2.1 i).length ≤ 4611686018427387904) :
    Calls Tryd.prog 18 #[v] w fun e w' => ∃ r, e = .returned (.agg #[.bool (solveF st).1, .int .i64 (solveF st).2.1, r]) ∧ OwnInts w.heap.size w' r (solveF st).2.2 ∧ Below w.heap.size w w' := by
  have HS := hide h
  have HP := hide hp
  have HC := hide hcap
  obtain ⟨a1, q1, a2, q2, a3, q3, rfl⟩ := h.form
  clear h hp hcap
  go_enter Tryd.func18, Tryd.ntmps18
  go_wp2_with fail
  obtain ⟨W0, hW0⟩ : ∃ W0, W0 = (w.alloc (.cells #[.slice a1 st.1.length q1, .slice a2 st.2.1.length q2, .slice a3 st.2.2.length q3] 26)).alloc (.cells #[.bool false, .int .i64 0, .slice none 0 0] 42) := ⟨_, rfl⟩
  rw [← hW0]
  have HB0 : Hid (Below w.heap.size w W0) := by rw [hW0]; exact Joins.below_alloc2 _ _ _
  have HX0 : Hid (W0.heap[w.heap.size]? = some (.cells #[.slice a1 st.1.length q1, .slice a2 st.2.1.length q2, .slice a3 st.2.2.length q3] 26 (0, 0))) := by rw [hW0]; exact blockLater (Joins.below_alloc1 _ _) (heap_alloc_new _ _)
  have HR0 : Hid (W0.heap[w.heap.size + 1]? = some (.cells #[.bool false, .int .i64 0, .slice none 0 0] 42 (0, 0))) := by rw [hW0]; exact heap_alloc2_new _ _ _
  clear hW0
  refine (implStateOk_any _ st _ (HS.out.below HB0.out) HP.out).mono ?_
  rintro e w1 ⟨rfl, hb1⟩
  have HX1 := hide (blockLater hb1 HX0.out)
  have HR1 := hide (blockLater hb1 HR0.out)
  have HB1 := hide (below_tail HB0.out hb1)
  obtain ⟨c0, c1, c2, _⟩ := block3 HX1.out
  obtain ⟨r0, r1, r2, rf⟩ := block3 HR1.out
  have rf0 := rf 0
  have rf1 := rf 1
  have rf2 := rf 2
  clear hb1 rf
  by_cases hok : stOk st = 0
  · have HR := hide (right_of_ok hok)
    have hokb : (stOk st != 0) = false := by simp [hok]
    have HOK := hide hok
    obtain ⟨l1, l2, l3, l4⟩ := HR.out.lens
    have HL4 := hide l4
    clear hok l4
    generalize stOk st = code at hokb c0 ⊢
    go_wp2_with fail
    refine (waysToEnd_any _ st _ (HS.out.below HB1.out) (CapSt.below HC.out HS.out HB1.out) HR.out).mono ?_
    rintro e w2 ⟨mb, K, rfl, hmb, hwy, hbest, hb2⟩
    have HX2 := hide (blockLater hb2 HX1.out)
    have HR2 := hide (blockLater hb2 HR1.out)
    have HB2 := hide (below_tail HB1.out hb2)
    have HWY := hide hwy
    have HBEST := hide hbest
    have hw1 : w.heap.size + 1 < w1.heap.size := (Array.getElem?_eq_some_iff.1 HR1.out).1
    have hw2 := hb2.size
    obtain ⟨d0, d1, d2, _⟩ := block3 HX2.out
    obtain ⟨r0, r1, r2, rf⟩ := block3 HR2.out
    have rf0 := rf 0
    have rf1 := rf 1
    have rf2 := rf 2
    have hlk := hwy.look HR.out.so (PV.pz st) true
    clear hb2 rf hwy hbest
    by_cases hneg : vP st pz < 0
    · have HF := hide (show solveF st = (false, 0, []) by unfold solveF; rw [if_neg (by omega)])
      rw [HBEST.out.none hneg] at hlk
      have hlk' : (Instr.lookup 96 (.map (some mb)) (.agg #[.int .i8 0, .int .i8 0, .int .i8 0, .int .i8 0, .int .i8 0]) true).run Tryd.prog w2 = .ok (.tuple #[.agg #[.int .i8 0, .int .i8 0, .int .i8 0, .int .i8 0, .int .i8 0, .int .i64 0, .int .i64 0], .bool false]) w2 := hlk
      have hbz := Joins.below_alloc1 w2 (.cells #[.int .i8 0, .int .i8 0, .int .i8 0, .int .i8 0, .int .i8 0, .int .i64 0, .int .i64 0] 99)
      replace r0 := cell_later hbz r0
      replace r1 := cell_later hbz r1
      replace r2 := cell_later hbz r2
      have rf : ∀ o, (w2.alloc (.cells #[.int .i8 0, .int .i8 0, .int .i8 0, .int .i8 0, .int .i8 0, .int .i64 0, .int .i64 0] 99)).frozen? ⟨w.heap.size + 1, o, none⟩ = false := fun o => frozen_of_row _ _ o _ _ (blockLater hbz HR2.out)
      replace rf0 := rf 0
      replace rf1 := rf 1
      replace rf2 := rf 2
      have HBZ := hide (below_tail HB2.out hbz)
      clear hlk hbz rf
      go_wp2_with fail
      refine bodyPost_ret ?_ rfl ⟨.slice none 0 0, rfl, ?_, ((HBZ.out.setCell (p := ⟨w.heap.size + 1, 0, none⟩) (by simp) _).setCell (p := ⟨w.heap.size + 1, 1, none⟩) (by simp) _).setCell (p := ⟨w.heap.size + 1, 2, none⟩) (by simp) _⟩
      · rw [HF.out]
        simp [results, Tryd.results18, go_sem, r0, r1, r2]
      · rw [HF.out]
        exact OwnInts.nil _ _
    · have HF := hide (show solveF st = (true, vP st pz, solveP st pz) by unfold solveF; rw [if_pos ⟨HOK.out, by omega⟩])
      have hall := HBEST.out.all (by omega)
      have hb0 := hall pz (PV.pz st) (fit_pz HR.out) (by omega) (Or.inl rfl)
      rw [hb0] at hlk
      have hvb := (vP_bounds HR.out.so (pz_ok st)).2
      have hbc : (bway st pz).2.1 = vP st pz := by
        unfold bway
        split
        · rename_i e; rw [vP_end e]
        · rfl
      obtain ⟨bm0, hbm0⟩ : ∃ b : Nat, (bway st pz).2.2 = b := ⟨_, rfl⟩
      obtain ⟨vv, hvv⟩ : ∃ vv, vP st pz = vv := ⟨_, rfl⟩
      have hlk' : (Instr.lookup 96 (.map (some mb)) (.agg #[.int .i8 0, .int .i8 0, .int .i8 0, .int .i8 0, .int .i8 0]) true).run Tryd.prog w2 = .ok (.tuple #[.agg #[.int .i8 0, .int .i8 0, .int .i8 0, .int .i8 0, .int .i8 0, .int .i64 vv, .int .i64 (bm0 : Int)], .bool true]) w2 := by
        have h2 : (bway st pz).2 = (vv, bm0) := by rw [← hvv, ← hbc, ← hbm0]
        rw [h2] at hlk
        exact hlk
      have HALL := hide hall
      have HVV := hide hvv
      rw [hvv] at HF hneg hvb
      clear hlk hb0 hbc hbm0 hvv hall
      have hb3 := Joins.below_alloc2 w2 (.cells #[.int .i8 0, .int .i8 0, .int .i8 0, .int .i8 0, .int .i8 0, .int .i64 vv, .int .i64 (bm0 : Int)] 99) (.cells #[.bool true, .int .i64 vv, .slice none 0 0] 42)
      replace d0 := cell_later hb3 d0
      replace d1 := cell_later hb3 d1
      replace d2 := cell_later hb3 d2
      have HB3 := hide (below_tail HB2.out hb3)
      have HX3 := hide (blockLater hb3 HX2.out)
      have HR3 := hide (blockLater hb3 HR2.out)
      have HWY3 := hide (HWY.out.kept (hb3.block mb HWY.out.lt))
      have HO3 : Hid (((w2.alloc (.cells #[.int .i8 0, .int .i8 0, .int .i8 0, .int .i8 0, .int .i8 0, .int .i64 vv, .int .i64 (bm0 : Int)] 99)).alloc (.cells #[.bool true, .int .i64 vv, .slice none 0 0] 42)).heap[w2.heap.size + 1]? = some (.cells #[.bool true, .int .i64 vv, .slice none 0 0] 42 (0, 0))) := heap_alloc2_new w2 _ _
      clear hb3 r0 r1 r2 rf0 rf1 rf2
      go_wp2_with fail
      generalize (w2.alloc (.cells #[.int .i8 0, .int .i8 0, .int .i8 0, .int .i8 0, .int .i8 0, .int .i64 vv, .int .i64 (bm0 : Int)] 99)).alloc (.cells #[.bool true, .int .i64 vv, .slice none 0 0] 42) = W3 at *
      refine (endOf_any _ st _ (HS.out.below HB3.out) HR.out.so).mono ?_
      rintro e w4 ⟨rfl, hb4⟩
      have HB4 := hide (below_tail HB3.out hb4)
      have HX4 := hide (blockLater hb4 HX3.out)
      have HR4 := hide (blockLater hb4 HR3.out)
      have HWY4 := hide (HWY3.out.kept (hb4.block mb HWY3.out.lt))
      have HO4 := hide (blockLater hb4 HO3.out)
      clear hb4 d0 d1 d2
      unfold pv pc5
      go_wp2_with fail
      obtain ⟨W5, hW5⟩ : ∃ W5, W5 = (w4.alloc (.cells (pc5 pz) 61)).alloc (.cells (pc5 (endP st)) 61) := ⟨_, rfl⟩
      change Code.wp _ _ _ _ ((w4.alloc (.cells (pc5 pz) 61)).alloc (.cells (pc5 (endP st)) 61))
      rw [← hW5]
      have hb5 : Below w4.heap.size w4 W5 := by rw [hW5]; exact Joins.below_alloc2 _ _ _
      have HPZ5 : Hid (W5.heap[w4.heap.size]? = some (.cells (pc5 pz) 61 (0, 0))) := by rw [hW5]; exact blockLater (Joins.below_alloc1 _ _) (heap_alloc_new _ _)
      have HPE5 : Hid (W5.heap[w4.heap.size + 1]? = some (.cells (pc5 (endP st)) 61 (0, 0))) := by rw [hW5]; exact heap_alloc2_new _ _ _
      have HB5 := hide (below_tail HB4.out hb5)
      have HX5 := hide (blockLater hb5 HX4.out)
      have HR5 := hide (blockLater hb5 HR4.out)
      have HWY5 := hide (HWY4.out.kept (hb5.block mb HWY4.out.lt))
      have HO5 := hide (blockLater hb5 HO4.out)
      have ho4 : w2.heap.size + 1 < w4.heap.size := (Array.getElem?_eq_some_iff.1 HO4.out).1
      have hmb2 : mb < w2.heap.size := HWY.out.lt
      obtain ⟨o, ho⟩ : ∃ o, w2.heap.size + 1 = o := ⟨_, rfl⟩
      rw [ho] at HO5 ho4
      simp only [ho]
      have hmo : mb < o := by omega
      have hwo : w.heap.size + 1 < o := by omega
      clear hW5 hb5 ho hmb2 HB3 HX3 HR3 HWY3 HO3 HB4 HX4 HR4 HWY4 HO4 HX2 HR2 HB2 hlk'
      go_loopg [7, 8] (restR st pz) (fun gk u7 u8 wr => ∃ (d : Pr) (M : List Int) (mv : Value) (pb eb : Nat), u7 = .pointer (some ⟨pb, 0, none⟩) ∧ u8 = .pointer (some ⟨eb, 0, none⟩) ∧ restR st d = gk ∧ PV st d ∧ FitP st d ∧ 0 ≤ vP st d ∧ (d = pz ∨ vP st d < vP st pz) ∧ M ++ solveP st d = solveP st pz ∧ OwnInts (o + 1) wr mv M ∧ wr.heap[o]? = some (.cells #[.bool true, .int .i64 vv, mv] 42 (0, 0)) ∧ wr.heap[pb]? = some (.cells (pc5 d) 61 (0, 0)) ∧ wr.heap[eb]? = some (.cells (pc5 (endP st)) 61 (0, 0)) ∧ o < pb ∧ o < eb ∧ pb ≠ eb ∧ (∀ q, mv.ownBlock = some q → q ≠ pb ∧ q ≠ eb) ∧ Below o W5 wr)
      case atStart => exact ⟨pz, [], .slice none 0 0, w4.heap.size, w4.heap.size + 1, rfl, rfl, rfl, PV.pz st, fit_pz HR.out, by have := HVV.out; omega, Or.inl rfl, rfl, OwnInts.nil _ _, HO5.out, HPZ5.out, HPE5.out, by omega, by omega, by omega, fun q e => by simp [Value.ownBlock] at e, Below.refl _ _⟩
      case round =>
        obtain ⟨d, M, mv, pb, eb, rfl, rfl, hgk, hpv, hfit, hnn, hor, hM, hown, hO, hP, hE, hop, hoe, hpe, hmv, hb⟩ := hrel
        obtain ⟨ma, mc, rfl⟩ := hown.form
        have hbW : Below w.heap.size w wr := HB5.out.trans (hb.mono (by omega))
        have hXr := (hb.block w.heap.size (by have := HB5.out.size; have := (Array.getElem?_eq_some_iff.1 HX5.out).1; omega)).trans HX5.out
        have hRr := (hb.block (w.heap.size + 1) (by omega)).trans HR5.out
        have HWYr := hide (HWY5.out.kept (hb.block mb hmo))
        have HSM : Hid (same5 d (endP st) = allLeft st d) := by
          have h1 := same5_iff HR.out.so hpv (PV.endP st)
          have h2 := allLeft_iff hpv
          show same5 d (endP st) = allLeft st d
          rw [Bool.eq_iff_iff, h1, h2]
          exact eq_comm
        have heq := eqPr' d (endP st)
        rw [HSM.out] at heq
        unfold pc5 at heq
        obtain ⟨p0, p1, p2, p3, p4⟩ := cells5 hP
        obtain ⟨e0, e1, e2, e3, e4⟩ := cells5 hE
        obtain ⟨c0, c1, c2, _⟩ := block3 hXr
        obtain ⟨o0, o1, o2, of⟩ := block3 hO
        have hpbs : pb < wr.heap.size := (Array.getElem?_eq_some_iff.1 hP).1
        have hebs : eb < wr.heap.size := (Array.getElem?_eq_some_iff.1 hE).1
        have hos : o < wr.heap.size := (Array.getElem?_eq_some_iff.1 hO).1
        have hmvlo : ∀ q, Value.ownBlock (.slice ma M.length mc) = some q → o + 1 ≤ q := fun q e => (ownBlock_lt hown e).1
        have HGK := hide hgk
        have HPV := hide hpv
        have HFIT := hide hfit
        have HMM := hide hM
        have HOWN := hide hown
        have HO := hide hO
        have HPP := hide hP
        have HEE := hide hE
        have HMV := hide hmv
        have HB := hide hb
        have HBW := hide hbW
        have HXR := hide hXr
        have HRR := hide hRr
        have HOR := hide hor
        clear hgk hpv hfit hM hown hO hP hE hmv hb hbW hXr hRr hor
        cases hall : allLeft st d with
        | true =>
          have HMF : Hid (M = solveP st pz) := by
            have := HMM.out
            rw [solveP_end hall, List.append_nil] at this
            exact this
          rw [hall] at heq
          obtain ⟨r0, r1, r2, rf⟩ := block3 HRR.out
          have rf0 := rf 0
          have rf1 := rf 1
          have rf2 := rf 2
          clear hall rf of
          generalize endP st = ep at heq e0 e1 e2 e3 e4
          go_wp2_with fail
          refine bodyPost_ret ?_ rfl ⟨.slice ma M.length mc, rfl, ?_, ((HBW.out.setCell (p := ⟨w.heap.size + 1, 0, none⟩) (by simp) _).setCell (p := ⟨w.heap.size + 1, 1, none⟩) (by simp) _).setCell (p := ⟨w.heap.size + 1, 2, none⟩) (by simp) _⟩
          · rw [HF.out]
            simp [results, Tryd.results18, go_sem, r0, r1, r2]
          · rw [HF.out]
            simp only
            rw [← HMF.out]
            refine OwnInts.le (base := o + 1) ?_ (by omega)
            exact ownsRow_keep HOWN.out (fun q hq => by
              have := hmvlo q hq
              rw [Below.heap_setCell _ _ _ _ (by simp; omega), Below.heap_setCell _ _ _ _ (by simp; omega), Below.heap_setCell _ _ _ _ (by simp; omega)])
        | false =>
          have hnl : ¬ allLeft st d = true := by rw [hall]; simp
          have hbm := bm_ok HR.out.so HPV.out.ok hnl hnn
          have hlf := canP_left hbm.can
          have hK := HALL.out d HPV.out HFIT.out hnn HOR.out
          have ebw : bway st d = (d, vP st d, bm st d) := by unfold bway; rw [if_neg hnl]
          rw [ebw] at hK
          have hlk := HWYr.out.look HR.out.so HPV.out false
          rw [hK] at hlk
          have HSOL : Hid (M ++ [el st.2.2 (bm st d)] ++ solveP st (bump d (bm st d)) = solveP st pz) := by
            have := solveP_step HPV.out.ok hbm
            rw [← HMM.out, this]
            simp [Hid]
          have HREST : Hid (restR st (bump d (bm st d)) + 1 = restR st d) := restR_bump HPV.out.ok hbm.lt hlf
          have HPV2 := hide (HPV.out.bump hbm.lt hlf)
          have HFIT2 := hide (fit_bump HR.out HFIT.out hbm.lt hbm.can)
          have HNN2 := hide hbm.nn
          have HOR2 : Hid (bump d (bm st d) = pz ∨ vP st (bump d (bm st d)) < vP st pz) := Or.inr (by
            have h1 := hbm.eq
            have h2 := wtP_pos HR.out.so d hbm.lt hlf
            rcases HOR.out with e | e
            · rw [e] at h1 h2 ⊢; omega
            · omega)
          have hML : M.length ≤ 45 := by
            have h1 := solveP_len HR.out.so (pz_ok st)
            rw [← HMM.out] at h1
            simp at h1
            omega
          have hbl := hbm.lt
          have hdb : d (bm st d) < 100 := HPV.out.lt HR.out.so _
          obtain ⟨b, hb⟩ : ∃ b, bm st d = b := ⟨_, rfl⟩
          obtain ⟨vd, hvd⟩ : ∃ vd, vP st d = vd := ⟨_, rfl⟩
          rw [hb] at hlk HSOL HREST HPV2 HFIT2 HNN2 HOR2 hbl hdb
          rw [hvd] at hlk
          have hlk' : (Instr.lookup 96 (.map (some mb)) (.agg #[.int .i8 (d 0), .int .i8 (d 1), .int .i8 (d 2), .int .i8 (d 3), .int .i8 (d 4)]) false).run Tryd.prog wr = .ok (.agg #[.int .i8 (d 0), .int .i8 (d 1), .int .i8 (d 2), .int .i8 (d 3), .int .i8 (d 4), .int .i64 vd, .int .i64 (b : Int)]) wr := hlk
          have hkn : b < st.2.2.length := by have := HL4.out; omega
          obtain ⟨nb, noff, rfl, nn⟩ := (HS.out.below HBW.out).parts.2.2.cellAt b hkn
          have hki : (b : Int) < (st.2.2.length : Int) := by omega
          rw [hall] at heq
          have of2 := of 2
          clear hall of hnl hbm hlf hK ebw hlk hb hvd
          have hfd : ∀ w, (Instr.field 99 (.agg #[.int .i8 (d 0), .int .i8 (d 1), .int .i8 (d 2), .int .i8 (d 3), .int .i8 (d 4), .int .i64 vd, .int .i64 (b : Int)]) 2).run Tryd.prog w = .ok (.int .i64 (b : Int)) w := fun w => by
            simp [Instr.field, run_underlying Tryd.underlying99, run_underlying Tryd.underlying3, part, isAgg, sizeOf, typeInfo, asAgg, go_sem]
          have hne : Value.ownBlock (.slice ma M.length mc) ≠ some o := fun e => by have := hmvlo o e; omega
          have hc3 : M.length + 1 ≤ maxLen := by unfold maxLen; omega
          have hc4 : (M.length + 1) * 8 ≤ 140737488355328 := by omega
          have hc5 : o + 1 ≤ (wr.alloc (.cells #[.int .i64 (el st.2.2 b)] 3)).drew.heap.size := by show _ ≤ (wr.alloc _).heap.size; simp; omega
          have HK6 : Hid (∀ w8, (wr.alloc (.cells #[.int .i64 (el st.2.2 b)] 3)).drew.grownBy w8 (Value.ownBlock (.slice ma M.length mc)) → (w8.cell? ⟨o, 2, none⟩ = some (.slice ma M.length mc) ∧ w8.frozen? ⟨o, 2, none⟩ = false)) := fun w8 hg8 => by
            have hbA : Below wr.heap.size wr (wr.alloc (.cells #[.int .i64 (el st.2.2 b)] 3)).drew := (Joins.below_alloc1 wr _).drew
            have hl : ∀ q, q < wr.heap.size → q < (wr.alloc (.cells #[.int .i64 (el st.2.2 b)] 3)).drew.heap.size := fun q hq => Nat.lt_of_lt_of_le hq hbA.size
            refine ⟨?_, ?_⟩
            · rw [hg8.cell_far ⟨o, 2, none⟩ (hl _ hos) (Ne.symm hne)]; exact cell_later hbA o2
            · rw [hg8.frozen_far ⟨o, 2, none⟩ (hl _ hos) (Ne.symm hne), hbA.frozen (p := ⟨o, 2, none⟩) hos]; exact of2
          obtain ⟨i0, hi0, hz0, hz1, hz2⟩ := info_parts Tryd.infoInt
          have HJ1 := hide hi0
          have HJ2 := hide hz0
          have HJ3 := hide hz1
          have HJ4 := hide hz2
          have o2' := cell_later (Joins.below_alloc1 wr (.cells #[.int .i64 (el st.2.2 b)] 3)) o2
          clear hi0 hz0 hz1 hz2
          go_wp2_with fail
          clear hlk' heq hfd
          go_region_law ((refine step_append_lies _ (by rfl) _ _ _ (by rfl) (o + 1) 3 i0 _ 1 8 Tryd.underlying23 HJ1.out HJ2.out HJ3.out HJ4.out rfl (by omega) (.slice ma M.length mc) _ _ (by rfl) ((HOWN.out.alloc _).drew) ⟨wr.heap.size, 0, none⟩ 1 1 [.int .i64 (el st.2.2 b)] (by rfl) (by rfl) (World.news_of_block (cs := #[.int .i64 (el st.2.2 b)]) (t := 3) (fr := (0, 0)) (heap_alloc_new wr _)) (by simp [Value.oneCell']) (by omega) hc3 hc4 hc5 (wr.heap.size + 1) (by simp) ?_; intro g2 cap2 w8 hown2 hgrow2 hat2 hlt2; obtain ⟨k61, k62⟩ := HK6.out _ hgrow2))
          all_goals
            have hbA : Below wr.heap.size wr (wr.alloc (.cells #[.int .i64 (el st.2.2 b)] 3)).drew := (Joins.below_alloc1 wr _).drew
            have hfar : ∀ q, q < wr.heap.size → Value.ownBlock (.slice ma M.length mc) ≠ some q → w8.heap[q]? = wr.heap[q]? := fun q hq hq2 => by
              rw [hgrow2.block q (Nat.lt_of_lt_of_le hq hbA.size) (Ne.symm hq2)]
              exact hbA.block q hq
            have hg2 : o + 1 ≤ g2 ∧ g2 ≠ pb ∧ g2 ≠ eb := by
              rcases hat2 with e | e
              · exact ⟨hmvlo g2 e, HMV.out g2 e⟩
              · omega
            have HCH9 : Hid (Chg (fun q => q = o ∨ Value.ownBlock (.slice ma M.length mc) = some q) wr (w8.setCell ⟨o, 2, none⟩ (.slice (some ⟨g2, 0, none⟩) (M.length + 1) cap2))) := by
              show Chg (fun q => q = o ∨ Value.ownBlock (.slice ma M.length mc) = some q) wr _
              exact Chg.setCell (F := fun q => q = o ∨ Value.ownBlock (.slice ma M.length mc) = some q) ⟨hgrow2.os.trans hbA.os, hgrow2.tape.trans hbA.tape, hgrow2.output.trans hbA.output, Nat.le_trans hbA.size hgrow2.size, fun q hq hq2 => hfar q hq (fun e => hq2 (Or.inr e))⟩ (p := ⟨o, 2, none⟩) (Or.inl rfl) _
            have HO9 : Hid ((w8.setCell ⟨o, 2, none⟩ (.slice (some ⟨g2, 0, none⟩) (M.length + 1) cap2)).heap[o]? = some (.cells #[.bool true, .int .i64 vv, .slice (some ⟨g2, 0, none⟩) (M.length + 1) cap2] 42 (0, 0))) := block3_set2 ((hfar o hos hne).trans HO.out) _
            have HW9 : Hid (OwnInts (o + 1) (w8.setCell ⟨o, 2, none⟩ (.slice (some ⟨g2, 0, none⟩) (M.length + 1) cap2)) (.slice (some ⟨g2, 0, none⟩) (M.length + 1) cap2) (M ++ [el st.2.2 b])) := ownsRow_keep (OwnInts.snoc hown2) (fun q hq => Below.heap_setCell _ _ _ _ (by
              have hq' : g2 = q := by simpa [Value.ownBlock] using hq
              show q ≠ o
              omega))
            clear hbA hfar hown2 hgrow2 hat2 hlt2 k61 k62 o0 o1 o2 o2' of2 nn p0 p1 p2 p3 p4 e0 e1 e2 e3 e4 c0 c1 c2
            generalize w8.setCell ⟨o, 2, none⟩ (.slice (some ⟨g2, 0, none⟩) (M.length + 1) cap2) = W9 at *
            have hs9 := HCH9.out.size
            have HP9 := hide ((HCH9.out.block pb hpbs (fun e => by
              rcases e with e | e
              · omega
              · exact (HMV.out _ e).1 rfl)).trans HPP.out)
            have HE9 := hide ((HCH9.out.block eb hebs (fun e => by
              rcases e with e | e
              · omega
              · exact (HMV.out _ e).2 rfl)).trans HEE.out)
            have HB9 : Hid (Below o W5 W9) := HB.out.trans (HCH9.out.below (by omega) (fun q hq e => by
              rcases e with e | e
              · omega
              · have := hmvlo _ e
                omega))
            obtain ⟨p0, p1, p2, p3, p4⟩ := cells5 HP9.out
            go_wp2_with fail
            refine (pmoved_any d b _ (by omega) hdb).mono ?_
            rintro e wA ⟨rfl, hbA⟩
            have hPA := blockLater hbA HP9.out
            have hEA := blockLater hbA HE9.out
            obtain ⟨t0, t1, t2, t3, t4⟩ := cells5 hPA
            obtain ⟨e0, e1, e2, e3, e4⟩ := cells5 hEA
            have tf : ∀ o, wA.frozen? ⟨pb, o, none⟩ = false := fun o => frozen_of_row wA pb o _ _ hPA
            have f0 := tf 0
            have f1 := tf 1
            have f2 := tf 2
            have f3 := tf 3
            have f4 := tf 4
            have HPA := hide hPA
            have HEA := hide hEA
            have HBA := hide hbA
            have hsA := hbA.size
            clear hbA hPA hEA tf p0 p1 p2 p3 p4
            unfold pv pc5
            generalize hbu : bump d b = de at *
            go_wp2_with fail
            have hxs : (((((wA.setCell ⟨pb, 0, none⟩ (.int .i8 (de 0))).setCell ⟨pb, 1, none⟩ (.int .i8 (de 1))).setCell ⟨pb, 2, none⟩ (.int .i8 (de 2))).setCell ⟨pb, 3, none⟩ (.int .i8 (de 3))).setCell ⟨pb, 4, none⟩ (.int .i8 (de 4))).heap.size = wA.heap.size := by simp [World.setCell]
            have hxf : ∀ q, q ≠ pb → (((((wA.setCell ⟨pb, 0, none⟩ (.int .i8 (de 0))).setCell ⟨pb, 1, none⟩ (.int .i8 (de 1))).setCell ⟨pb, 2, none⟩ (.int .i8 (de 2))).setCell ⟨pb, 3, none⟩ (.int .i8 (de 3))).setCell ⟨pb, 4, none⟩ (.int .i8 (de 4))).heap[q]? = wA.heap[q]? := fun q hq => by
              rw [Below.heap_setCell _ _ _ _ hq, Below.heap_setCell _ _ _ _ hq, Below.heap_setCell _ _ _ _ hq, Below.heap_setCell _ _ _ _ hq, Below.heap_setCell _ _ _ _ hq]
            have hg9 := ownBlock_lt HW9.out (k := g2) rfl
            have HXB : Hid (Below o W5 (((((wA.setCell ⟨pb, 0, none⟩ (.int .i8 (de 0))).setCell ⟨pb, 1, none⟩ (.int .i8 (de 1))).setCell ⟨pb, 2, none⟩ (.int .i8 (de 2))).setCell ⟨pb, 3, none⟩ (.int .i8 (de 3))).setCell ⟨pb, 4, none⟩ (.int .i8 (de 4)))) := (((((HB9.out.trans (HBA.out.mono (by omega))).setCell (p := ⟨pb, 0, none⟩) (by show o ≤ pb; omega) _).setCell (p := ⟨pb, 1, none⟩) (by show o ≤ pb; omega) _).setCell (p := ⟨pb, 2, none⟩) (by show o ≤ pb; omega) _).setCell (p := ⟨pb, 3, none⟩) (by show o ≤ pb; omega) _).setCell (p := ⟨pb, 4, none⟩) (by show o ≤ pb; omega) _
            have HXO : Hid ((((((wA.setCell ⟨pb, 0, none⟩ (.int .i8 (de 0))).setCell ⟨pb, 1, none⟩ (.int .i8 (de 1))).setCell ⟨pb, 2, none⟩ (.int .i8 (de 2))).setCell ⟨pb, 3, none⟩ (.int .i8 (de 3))).setCell ⟨pb, 4, none⟩ (.int .i8 (de 4))).heap[o]? = some (.cells #[.bool true, .int .i64 vv, .slice (some ⟨g2, 0, none⟩) (M.length + 1) cap2] 42 (0, 0))) := (hxf o (by omega)).trans (blockLater HBA.out HO9.out)
            have HXW : Hid (OwnInts (o + 1) (((((wA.setCell ⟨pb, 0, none⟩ (.int .i8 (de 0))).setCell ⟨pb, 1, none⟩ (.int .i8 (de 1))).setCell ⟨pb, 2, none⟩ (.int .i8 (de 2))).setCell ⟨pb, 3, none⟩ (.int .i8 (de 3))).setCell ⟨pb, 4, none⟩ (.int .i8 (de 4))) (.slice (some ⟨g2, 0, none⟩) (M.length + 1) cap2) (M ++ [el st.2.2 b])) := ownsRow_keep (HW9.out.below HBA.out) (fun q hq => hxf q (by
              have hq' : g2 = q := by simpa [Value.ownBlock] using hq
              omega))
            go_roundg (restR st de)
            case measure =>
              have := HREST.out
              have := HGK.out
              omega
            case rel =>
              change ∃ _ _ _ _ _, _ ∧ _ ∧ _ ∧ _ ∧ _ ∧ _ ∧ _ ∧ _ ∧ OwnInts _ ((((((wA.setCell ⟨pb, 0, none⟩ (.int .i8 (de 0))).setCell ⟨pb, 1, none⟩ (.int .i8 (de 1))).setCell ⟨pb, 2, none⟩ (.int .i8 (de 2))).setCell ⟨pb, 3, none⟩ (.int .i8 (de 3))).setCell ⟨pb, 4, none⟩ (.int .i8 (de 4))).alloc (.cells (pc5 de) 61) |>.alloc (.cells (pc5 (endP st)) 61)) _ _ ∧ _
              generalize ((((wA.setCell ⟨pb, 0, none⟩ (.int .i8 (de 0))).setCell ⟨pb, 1, none⟩ (.int .i8 (de 1))).setCell ⟨pb, 2, none⟩ (.int .i8 (de 2))).setCell ⟨pb, 3, none⟩ (.int .i8 (de 3))).setCell ⟨pb, 4, none⟩ (.int .i8 (de 4)) = X at *
              have hb1 := Joins.below_alloc2 X (.cells (pc5 de) 61) (.cells (pc5 (endP st)) 61)
              refine ⟨de, M ++ [el st.2.2 b], .slice (some ⟨g2, 0, none⟩) (M.length + 1) cap2, X.heap.size, X.heap.size + 1, by rw [hxs], by rw [hxs], rfl, HPV2.out, HFIT2.out, HNN2.out, HOR2.out, HSOL.out, HXW.out.below hb1, blockLater hb1 HXO.out, blockLater (Joins.below_alloc1 _ _) (heap_alloc_new X _), heap_alloc2_new X _ _, by omega, by omega, by omega, fun q e => ?_, HXB.out.trans (hb1.mono (by omega))⟩
              have hq' : g2 = q := by simpa [Value.ownBlock] using e
              omega
  · have hokb : (stOk st != 0) = true := by simp [hok]
    have HF := hide (show solveF st = (false, 0, []) by unfold solveF; rw [if_neg (fun e => hok e.1)])
    clear hok
    generalize stOk st = code at *
    go_wp2_with fail
    refine bodyPost_ret ?_ rfl ⟨.slice none 0 0, rfl, ?_, ((HB1.out.setCell (p := ⟨w.heap.size + 1, 0, none⟩) (by simp) _).setCell (p := ⟨w.heap.size + 1, 1, none⟩) (by simp) _).setCell (p := ⟨w.heap.size + 1, 2, none⟩) (by simp) _⟩
    · rw [HF.out]
      simp [results, Tryd.results18, go_sem, r0, r1, r2]
    · rw [HF.out]
      exact OwnInts.nil _ _
end Go.Proofs.YtmjjigdnoiphbaaDoor
