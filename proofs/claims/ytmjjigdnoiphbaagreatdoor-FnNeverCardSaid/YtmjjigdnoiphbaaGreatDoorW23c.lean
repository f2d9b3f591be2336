/-
  impl.stateBehind, impl.Step, with the room of the paths that they make.
-/
import Derived.Test.YtmjjigdnoiphbaaGreatDoorW23
namespace Go.Proofs.YtmjjigdnoiphbaaGreatDoor
open Go.RowKit Go.Deep
set_option linter.unusedVariables false

set_option maxRecDepth 4000 in
set_option maxHeartbeats 8000000 in
theorem stateBehind_cap (v : Value) (st : St) (d : Nat → Nat) (w : World) (h : StateAt w v st) (hr : RightSt st) (hd : PrOk st d) (hcap : CapSt w v st.2.1.length) :
    Calls Tryz.prog 35 #[v, pv d] w fun e w' => ∃ L : Lies, e = .returned (L.val (behindSt st d)) ∧ OwnS w' L (behindSt st d) ∧ (∀ k, L.F (behindSt st d).2.1.length k → w.heap.size ≤ k) ∧ Below w.heap.size w w' ∧ ∀ i, i < (behindSt st d).2.1.length → (tPath (behindSt st d).2.1 i).length ≤ L.pc i := by
  have HS := hide h
  have HR := hide hr
  have HD := hide hd
  obtain ⟨a1, q1, a2, q2, a3, q3, rfl⟩ := h.form
  have HCAP := hide (hcap _ _ _ _ _ _ _ _ _ rfl)
  obtain ⟨l1, l2, l3, l4⟩ := hr.lens
  have HL4 := hide l4
  clear h hr hcap l4 hd
  unfold pv pc5
  go_enter Tryz.func35, Tryz.ntmps35
  go_wp2_with fail
  obtain ⟨V0, hV0⟩ : ∃ V0, V0 = ((w.alloc (.cells #[.slice a1 st.1.length q1, .slice a2 st.2.1.length q2, .slice a3 st.2.2.length q3] 26)).alloc (.cells #[.int .i8 (d 0), .int .i8 (d 1), .int .i8 (d 2), .int .i8 (d 3), .int .i8 (d 4)] 49)).alloc (.cells #[.slice none 0 0, .slice none 0 0, .slice none 0 0] 26) := ⟨_, rfl⟩
  rw [← hV0]
  have hbV0 : Below w.heap.size w V0 := by rw [hV0]; exact Joins.below_alloc3 _ _ _ _
  have hzV0 : V0.heap.size = w.heap.size + 3 := by rw [hV0]; simp
  have v0 : V0.cell? ⟨w.heap.size, 0, none⟩ = some (.slice a1 st.1.length q1) := by rw [hV0]; exact cell_later (Joins.below_alloc1 _ _) (by simp)
  have v1 : V0.cell? ⟨w.heap.size, 1, none⟩ = some (.slice a2 st.2.1.length q2) := by rw [hV0]; exact cell_later (Joins.below_alloc1 _ _) (by simp)
  have v2 : V0.cell? ⟨w.heap.size, 2, none⟩ = some (.slice a3 st.2.2.length q3) := by rw [hV0]; exact cell_later (Joins.below_alloc1 _ _) (by simp)
  have vP : V0.heap[w.heap.size + 1]? = some (.cells #[.int .i8 (d 0), .int .i8 (d 1), .int .i8 (d 2), .int .i8 (d 3), .int .i8 (d 4)] 49 (0, 0)) := by rw [hV0]; exact blockLater (Joins.below_alloc1 _ _) (heap_alloc2_new _ _ _)
  have vR : V0.heap[w.heap.size + 2]? = some (.cells #[.slice none 0 0, .slice none 0 0, .slice none 0 0] 26 (0, 0)) := by
    rw [hV0]
    have := heap_alloc_new ((w.alloc (.cells #[.slice a1 st.1.length q1, .slice a2 st.2.1.length q2, .slice a3 st.2.2.length q3] 26)).alloc (.cells #[.int .i8 (d 0), .int .i8 (d 1), .int .i8 (d 2), .int .i8 (d 3), .int .i8 (d 4)] 49)) (.cells #[.slice none 0 0, .slice none 0 0, .slice none 0 0] 26)
    simpa using this
  clear hV0
  refine (copied_any _ st.1 _ (HS.out.below hbV0).parts.1 (by omega)).mono ?_
  rintro e w1 ⟨rv, rfl, hrv, hb1⟩
  obtain ⟨ra, rc, rfl, hrF, hrA⟩ := hrv.ownF
  have c0 := cell_later hb1 v0
  have c1 := cell_later hb1 v1
  have c2 := cell_later hb1 v2
  have HP0 := hide (blockLater hb1 vP)
  have d0 : ∃ u, w1.heap[w.heap.size + 2]? = some (.cells #[u, u, u] 26 (0, 0)) := ⟨.slice none 0 0, blockLater hb1 vR⟩
  have hb01 := below_tail hbV0 hb1
  have hz1 : w.heap.size + 3 ≤ w1.heap.size := by have := hb1.size; omega
  have HB1 := hide hb01
  have HRF := hide hrF
  have HRA : Hid (∀ k, FA ra k → w.heap.size + 3 ≤ k ∧ k < w1.heap.size) := fun k hk => by have := hrA k hk; omega
  have hszw : w.heap.size < w1.heap.size := World.block_lt_of_cell? _ _ c0
  have HD0 := hide d0
  clear hb1 hrv hrF hrA hb01 d0 v0 v1 v2 vP vR hbV0 hzV0
  go_wp2_with fail
  obtain ⟨b5, hb5⟩ : ∃ b5, b5 = w1.heap.size := ⟨_, rfl⟩
  obtain ⟨U, hU⟩ : ∃ U, U = w1.alloc (.cells #[.slice ra st.1.length rc, .slice none 0 0, .slice none 0 0] 26) := ⟨_, rfl⟩
  have hMov0 : Mov U b5 (.slice ra st.1.length rc) [] [] U (.slice none 0 0) (.slice none 0 0) (fun _ => none) (fun _ => 0) :=
    ⟨by rw [hU, hb5]; exact heap_alloc_new _ _, Gath.nil _ _ _ _, OwnInts.nil _ _, fun k hk => by simp [Value.ownBlock] at hk, Chg.refl _ _⟩
  have hbU : Below w1.heap.size w1 U := by rw [hU]; exact Joins.below_alloc1 _ _
  rw [← hU, ← hb5]
  rw [← hb5] at hbU hszw hz1 HRA
  have C1 := hide ((hbU.cell (p := ⟨w.heap.size, 1, none⟩) hszw).trans c1)
  have C2 := hide ((hbU.cell (p := ⟨w.heap.size, 2, none⟩) hszw).trans c2)
  have PU : Hid (U.heap[w.heap.size + 1]? = some (.cells #[.int .i8 (d 0), .int .i8 (d 1), .int .i8 (d 2), .int .i8 (d 3), .int .i8 (d 4)] 49 (0, 0))) := (hbU.block _ (by omega)).trans HP0.out
  have D0 : Hid (∃ u, U.heap[w.heap.size + 2]? = some (.cells #[u, u, u] 26 (0, 0))) := by
    obtain ⟨u, hu⟩ := HD0.out
    exact ⟨u, (hbU.block _ (by omega)).trans hu⟩
  have HBU := hide (HB1.out.trans (hbU.mono (by omega)))
  have HRU : Hid (OwnF U ra st.1.length (el st.1)) := HRF.out.keep (fun k hk e => hbU.block k (HRA.out k e).2)
  have HZU : Hid (b5 < U.heap.size) := (Array.getElem?_eq_some_iff.1 hMov0.var).1
  have HM0 := hide hMov0
  clear hU hb5 hbU c0 c1 c2 HD0 HB1 HRF hMov0 HP0
  go_loopw [15] (fun i wr => ∃ k : Nat, k ≤ st.2.1.length ∧ i = .int .i64 k ∧ ∃ tv nv pa pc, Mov U b5 (.slice ra st.1.length rc) (bhT st.2.1 d k) (bhN st.2.1 st.2.2 d k) wr tv nv pa pc) (fun i _ => st.2.1.length - (intOf i).toNat)
  case atStart => exact ⟨0, Nat.zero_le _, rfl, _, _, _, _, HM0.out⟩
  case round =>
    obtain ⟨k, hk, rfl, tv, nv, pa, pc, hmov⟩ := hrel
    have hbo : Below b5 U wr := hmov.old.below (by have := HZU.out; omega) (fun q hq e => by omega)
    by_cases hlt : k < st.2.1.length
    · have e1 := (hbo.cell (p := ⟨w.heap.size, 1, none⟩) hszw).trans C1.out
      have hbw : Below w.heap.size w wr := HBU.out.trans (hbo.mono (by omega))
      obtain ⟨hp1, hp2, hp3⟩ := HS.out.parts
      obtain ⟨b, off, rfl, vp, t0, t1, hI, t2⟩ := hp2.trainAt k hlt
      obtain ⟨ap, cp, rfl, -⟩ := id hI
      have HI0 := hide hI
      have hcp : Hid ((tPath st.2.1 k).length ≤ cp) := HCAP.out k b off _ _ _ hlt rfl t1
      have g0 := cell_later hbw t0
      have g1 := cell_later hbw t1
      have g2 := cell_later hbw t2
      have h8 := (HR.out.train k hlt).2.2.1
      have hdk := HD.out k hlt
      obtain ⟨nb, noff, rfl, n0⟩ := hp3.cellAt k (by have := HL4.out; omega)
      have N0 := hide n0
      have hkn : (k : Int) < (st.2.2.length : Int) := by have := HL4.out; omega
      have hk0 : (0 : Int) ≤ (k : Int) := by omega
      have hk5 : k < 5 := by omega
      have HM := hide hmov
      have HBW := hide hbw
      have hz5 : b5 < wr.heap.size := (Array.getElem?_eq_some_iff.1 hmov.var).1
      have hpb : wr.heap[w.heap.size + 1]? = some (.cells #[.int .i8 (d 0), .int .i8 (d 1), .int .i8 (d 2), .int .i8 (d 3), .int .i8 (d 4)] 49 (0, 0)) := (hbo.block _ (by omega)).trans PU.out
      have HPB := hide hpb
      obtain ⟨p0, p1, p2, p3, p4⟩ := cells5 hpb
      have hplt : w.heap.size + 1 < wr.heap.size := by omega
      clear t0 t1 t2 hI hp1 hp2 hp3 n0 hmov hbo hbw hpb
      go_wp2_with fail
      refine (hasLeft_any d _ _ _ _ _ k _ hk5 (by omega) (by omega)).mono ?_
      rintro e wa ⟨rfl, hba⟩
      have hbT : Below wr.heap.size wr wa := below_tail (Joins.below_alloc1 _ _) hba
      have x0 : wa.cell? ⟨wr.heap.size, 0, none⟩ = some (.int .i64 (tAt st.2.1 k)) := cell_later hba (by simp)
      have x1 : wa.cell? ⟨wr.heap.size, 1, none⟩ = some (.slice ap (tPath st.2.1 k).length cp) := cell_later hba (by simp)
      have x2 : wa.cell? ⟨wr.heap.size, 2, none⟩ = some (.int .i64 (tWt st.2.1 k)) := cell_later hba (by simp)
      have HTB := hide (blockLater hba (heap_alloc_new wr (.cells #[.int .i64 (tAt st.2.1 k), .slice ap (tPath st.2.1 k).length cp, .int .i64 (tWt st.2.1 k)] 78)))
      obtain ⟨r0, r1, r2, r3, r4⟩ := cells5 (blockLater hbT HPB.out)
      have HBT := hide hbT
      clear hba hbT p0 p1 p2 p3 p4 g0 g1 g2
      by_cases hle : (tPath st.2.1 k).length < d k
      · have hleb : decide ((tPath st.2.1 k).length < d k) = true := by simp [hle]
        have HT1 := hide (show bhT st.2.1 d (k + 1) = bhT st.2.1 d k by simp [bhT, bhT1, leftB, hle])
        have HN1 := hide (show bhN st.2.1 st.2.2 d (k + 1) = bhN st.2.1 st.2.2 d k by simp [bhN, leftB, hle])
        rw [hleb]
        clear hle hleb
        go_wp2_with fail
        go_roundw
        case rel => exact ⟨k + 1, by omega, by go_num, tv, nv, pa, pc, by rw [HT1.out, HN1.out]; exact HM.out.below HBT.out⟩
        case measure => simp [intOf]; omega
      · have hleb : decide ((tPath st.2.1 k).length < d k) = false := by simp [hle]
        obtain ⟨p, hpd⟩ : ∃ p, List.drop (d k) (tPath st.2.1 k) = p := ⟨_, rfl⟩
        obtain ⟨x, hx⟩ : ∃ x, farAt (tAt st.2.1 k) (tPath st.2.1 k) (d k) = x := ⟨_, rfl⟩
        have HT1 := hide (show bhT st.2.1 d (k + 1) = bhT st.2.1 d k ++ [(x, p, tWt st.2.1 k)] by simp [bhT, bhT1, leftB, hle, hpd, hx])
        have HN1 := hide (show bhN st.2.1 st.2.2 d (k + 1) = bhN st.2.1 st.2.2 d k ++ [el st.2.2 k] by simp [bhN, leftB, hle])
        have hp8 : p.length ≤ 1048576 := by rw [← hpd, List.length_drop]; omega
        have hle' : d k ≤ (tPath st.2.1 k).length := by omega
        have HPD := hide hpd
        have HX := hide hx
        rw [hleb]
        clear hle hleb hpd hx
        go_wp2_with fail
        refine (trainBehind_at d _ _ x (tPath st.2.1 k) p _ _ k _ hk5 hle' h8 hcp.out (IntsAt.below HI0.out (below_tail HBW.out HBT.out)) HX.out HPD.out).mono ?_
        rintro e wb ⟨a', c', rfl, hI3, -, hbb⟩
        have HI3 := hide (hI3 w HI0.out)
        have HBB := hide (below_tail HBT.out hbb)
        have hTB := blockLater hbb HTB.out
        obtain ⟨j0, j1, j2, jf⟩ := block3 hTB
        have jf0 := jf 0
        have jf1 := jf 1
        have jf2 := jf 2
        clear hbb hI3 x0 x1 x2 r0 r1 r2 r3 r4 jf HTB
        have hMb := HM.out.below HBB.out
        obtain ⟨hG1, hN1⟩ := HM.out.newBlock (T := wr.heap.size) (Nat.le_refl _)
        go_wp2_with fail
        have hTb := block3_set2 (block3_set1 (block3_set0 hTB (.int .i64 x)) (.slice a' p.length c')) (.int .i64 (tWt st.2.1 k))
        have hMV := ((hMb.set (o := 0) (u := .int .i64 x) hz5 hG1 hN1).set (o := 1) (u := .slice a' p.length c') hz5 hG1 hN1).set (o := 2) (u := .int .i64 (tWt st.2.1 k)) hz5 hG1 hN1
        have hbV : Below wr.heap.size wr (((wb.setCell ⟨wr.heap.size, 0, none⟩ (.int .i64 x)).setCell ⟨wr.heap.size, 1, none⟩ (.slice a' p.length c')).setCell ⟨wr.heap.size, 2, none⟩ (.int .i64 (tWt st.2.1 k))) := ((HBB.out.setCell (p := ⟨wr.heap.size, 0, none⟩) (Nat.le_refl _) _).setCell (p := ⟨wr.heap.size, 1, none⟩) (Nat.le_refl _) _).setCell (p := ⟨wr.heap.size, 2, none⟩) (Nat.le_refl _) _
        generalize ((wb.setCell ⟨wr.heap.size, 0, none⟩ (.int .i64 x)).setCell ⟨wr.heap.size, 1, none⟩ (.slice a' p.length c')).setCell ⟨wr.heap.size, 2, none⟩ (.int .i64 (tWt st.2.1 k)) = V at *
        have hIV := IntsAt.below HI3.out (below_tail HBW.out hbV)
        have HBV := hide (below_tail HBW.out hbV)
        obtain ⟨T, hT⟩ : ∃ T, T = wr.heap.size := ⟨_, rfl⟩
        rw [← hT] at hTb hG1 hN1 hz5 ⊢
        generalize tWt st.2.1 k = y at *
        clear hbV hT HM HI0 HBW h8 hcp e1 hMb hTB j0 j1 j2 jf0 jf1 jf2 HI3 HBB HBT
        have hnT : b5 ≠ T := by omega
        have hnT' : ¬ T = b5 := by omega
        have hsT : ¬ w.heap.size = T := by omega
        refine (copied_any _ p _ hIV hp8).mono ?_
        rintro e w2 ⟨pw, rfl, hpv, hb2⟩
        obtain ⟨pp, pq, rfl, hpF, hpA⟩ := hpv.ownF
        have hpq := hpv.capOk
        have hTb2 := (hb2.block T (Array.getElem?_eq_some_iff.1 hTb).1).trans hTb
        obtain ⟨t0, t1, t2, tf⟩ := block3 hTb2
        have hM2 := hMV.below hb2
        obtain ⟨y0, y1, y2, yf⟩ := block3 hM2.var
        have HVT : Hid (T < V.heap.size) := (Array.getElem?_eq_some_iff.1 hTb).1
        have hM3 := hM2.set (o := 1) (u := .slice pp p.length pq) hz5 hG1 hN1
        have HB3 := hide ((below_tail HBV.out hb2).setCell (p := ⟨T, 1, none⟩) (show w.heap.size ≤ T by omega) (.slice pp p.length pq))
        have HP3 : Hid (OwnF (w2.setCell ⟨T, 1, none⟩ (.slice pp p.length pq)) pp p.length (el p)) := hpF.keep (fun q hq e => Below.heap_setCell _ _ _ _ (fun e' => by simp only at e'; have := (hpA q e).1; have := HVT.out; omega))
        have HPA : Hid (∀ q, FA pp q → b5 + 1 ≤ q ∧ q < (w2.setCell ⟨T, 1, none⟩ (.slice pp p.length pq)).heap.size ∧ ¬ FG tv pa (bhT st.2.1 d k).length q ∧ nv.ownBlock ≠ some q) := fun q e => by
          have u1 := hpA q e
          have u2 := HVT.out
          refine ⟨by omega, by simpa [World.setCell] using u1.2, fun e' => ?_, fun e' => ?_⟩
          · have := (hMV.tr.FG_lo e').2
            omega
          · have := (ownBlock_lt hMV.nm e').2
            omega
        have HPQ := hide hpq
        have HM3 := hide hM3
        have HTl := hide (bhT_le st.2.1 d k)
        have HNl := hide (bhN_le st.2.1 st.2.2 d k)
        have f1 := tf 1
        have yf1 := yf 1
        clear hTb hTb2 hM2 hMV hpv hpF hpA hIV hpq hM3 tf yf hG1 hN1 hb2
        obtain ⟨i1, hi, hz0, hz1', hz2⟩ := info_parts Tryz.infoTrain
        have HI1 := hide hi
        have HZ0 := hide hz0
        have HZ1 := hide hz1'
        have HZ2 := hide hz2
        clear hi hz0 hz1' hz2
        go_wp2_with (first | (at_builtin; refine wpList_append_lies _ rfl _ _ 24 rfl (b5 + 1) 78 i1 (.agg #[.int .i64 0, .slice none 0 0, .int .i64 0]) 3 40 Tryz.underlying24 HI1.out HZ0.out HZ1.out HZ2.out rfl (by decide) _ _ _ rfl (HM3.out.tr.row.alloc _) ⟨w2.heap.size, 0, none⟩ 1 1 [.int .i64 x, .slice pp p.length pq, .int .i64 y] rfl rfl ?c1 ?c2 (by decide) ?c3 ?c4 ?c5 (w2.heap.size + 1) ?c6 ?_))
        case c1 =>
          have hh := heap_alloc_new (w2.setCell ⟨T, 1, none⟩ (.slice pp p.length pq)) (.cells #[.int .i64 x, .slice pp p.length pq, .int .i64 y] 78)
          rw [show (w2.setCell ⟨T, 1, none⟩ (.slice pp p.length pq)).heap.size = w2.heap.size by simp [World.setCell]] at hh
          exact World.news_of_block hh
        case c2 => intro u hu; simp at hu; rcases hu with rfl | rfl | rfl <;> rfl
        case c3 => have := HTl.out; unfold maxLen; omega
        case c4 => have := HTl.out; omega
        case c5 => have := World.block_lt_of_cell? _ _ y0; simp [World.setCell] at this ⊢; omega
        case c6 => simp [World.setCell]
        intro g cap w4 hown hgrow hat hlt4
        have hba := Joins.below_alloc1 (w2.setCell ⟨T, 1, none⟩ (.slice pp p.length pq)) (.cells #[.int .i64 x, .slice pp p.length pq, .int .i64 y] 78)
        have hM5 := HM3.out.snocT hba (t := (x, p, y)) HP3.out HPQ.out HPA.out hown hgrow (hat.imp id (fun e => by rw [e]; simp [World.setCell]))
        obtain ⟨_, z1, _, zf⟩ := block3 (HM3.out.grown hba hgrow HM3.out.tvNe)
        have zf1 := zf 1
        have HM5 := hide hM5
        clear hown hgrow hat hlt4 hba hM5 zf t0 t1 t2 y0 y1 y2 f1 yf1 HM3 HP3 HPA
        go_wp2_with fail
        generalize w4.setCell ⟨b5, 1, none⟩ (.slice (some ⟨g, 0, none⟩) ((bhT st.2.1 d k).length + 1) cap) = W5 at *
        have hbo5 : Below b5 U W5 := HM5.out.old.below (by have := HZU.out; omega) (fun q hq e => by omega)
        have s2 := (hbo5.cell (p := ⟨w.heap.size, 2, none⟩) hszw).trans C2.out
        have nn := cell_later (HBU.out.trans (hbo5.mono (by omega))) N0.out
        obtain ⟨_, _, y2, yf⟩ := block3 HM5.out.var
        have yf2 := yf 2
        have hlt5 : b5 < W5.heap.size := (Array.getElem?_eq_some_iff.1 HM5.out.var).1
        have hnl := HNl.out
        have hns : nv.ownBlock ≠ some w.heap.size := fun e => by have := (ownBlock_lt HM5.out.nm e).1; omega
        have hnb : nv.ownBlock ≠ some nb := fun e => by
          have u1 := (ownBlock_lt HM5.out.nm e).1
          have u2 := World.block_lt_of_cell? _ _ N0.out
          simp only at u2
          omega
        have hn5 := HM5.out.nvNe
        have lt1 := World.block_lt_of_cell? _ _ s2
        have lt2 := World.block_lt_of_cell? _ _ nn
        simp only at lt1 lt2
        obtain ⟨i0, hi, hz0, hz1', hz2⟩ := info_parts Tryz.infoInt
        have HJ1 := hide hi
        have HJ2 := hide hz0
        have HJ3 := hide hz1'
        have HJ4 := hide hz2
        have hc3 : (bhN st.2.1 st.2.2 d k).length + 1 ≤ maxLen := by unfold maxLen; omega
        have hc4 : ((bhN st.2.1 st.2.2 d k).length + 1) * 8 ≤ 140737488355328 := by omega
        have hc5 : b5 + 1 ≤ (W5.alloc (.cells #[.int .i64 (el st.2.2 k)] 3)).drew.heap.size := by show _ ≤ (W5.alloc _).heap.size; simp; omega
        have HK6 : Hid (∀ w6, (W5.alloc (.cells #[.int .i64 (el st.2.2 k)] 3)).drew.grownBy w6 nv.ownBlock → (w6.cell? ⟨b5, 2, none⟩ = some nv ∧ w6.frozen? ⟨b5, 2, none⟩ = false ∧ w6.cell? ⟨w.heap.size, 2, none⟩ = some (.slice (some ⟨nb, noff, none⟩) st.2.2.length q3) ∧ w6.cell? ⟨nb, noff + k, none⟩ = some (.int .i64 (el st.2.2 k)))) := fun w6 hg6 => by
          have hbA : Below W5.heap.size W5 (W5.alloc (.cells #[.int .i64 (el st.2.2 k)] 3)).drew := (Joins.below_alloc1 W5 _).drew
          have hl : ∀ q, q < W5.heap.size → q < (W5.alloc (.cells #[.int .i64 (el st.2.2 k)] 3)).drew.heap.size := fun q hq => Nat.lt_of_lt_of_le hq hbA.size
          refine ⟨?_, ?_, ?_, ?_⟩
          · rw [hg6.cell_far ⟨b5, 2, none⟩ (hl _ hlt5) (Ne.symm hn5)]; exact cell_later hbA y2
          · rw [hg6.frozen_far ⟨b5, 2, none⟩ (hl _ hlt5) (Ne.symm hn5), hbA.frozen (p := ⟨b5, 2, none⟩) hlt5]; exact yf2
          · rw [hg6.cell_far ⟨w.heap.size, 2, none⟩ (hl _ lt1) (Ne.symm hns)]; exact cell_later hbA s2
          · rw [hg6.cell_far ⟨nb, noff + k, none⟩ (hl _ lt2) (Ne.symm hnb)]; exact cell_later hbA nn
        clear hi hz0 hz1' hz2 hbo5 yf HVT HB3
        go_region_law ((refine step_append_lies _ (by rfl) _ _ _ (by rfl) (b5 + 1) 3 i0 _ 1 8 Tryz.underlying23 HJ1.out HJ2.out HJ3.out HJ4.out rfl (by omega) nv _ _ (by rfl) ((HM5.out.nm.alloc _).drew) ⟨W5.heap.size, 0, none⟩ 1 1 [.int .i64 (el st.2.2 k)] (by rfl) (by rfl) (World.news_of_block (cs := #[.int .i64 (el st.2.2 k)]) (t := 3) (fr := (0, 0)) (heap_alloc_new W5 _)) (by simp [Value.oneCell']) (by omega) hc3 hc4 hc5 (W5.heap.size + 1) (by simp) ?_; intro g2 cap2 w6 hown2 hgrow2 hat2 hlt2; obtain ⟨k61, k62, k63, k64⟩ := HK6.out _ hgrow2))
        all_goals
          have HM7 := hide (HM5.out.snocN ((Joins.below_alloc1 W5 _).drew) hown2 hgrow2 (hat2.imp id (fun e => by rw [e]; show (W5.alloc _).heap.size ≤ _; simp)))
          clear hown2 hgrow2 hat2 hlt2
          go_wp2_with fail
          go_roundw
          case rel => exact ⟨k + 1, by omega, by go_num, _, _, _, _, by rw [HT1.out, HN1.out]; exact HM7.out⟩
          case measure => simp [intOf]; omega
    · obtain rfl : k = st.2.1.length := by omega
      obtain ⟨y0, y1, y2, yf⟩ := block3 hmov.var
      obtain ⟨u, hu⟩ := D0.out
      have hd := (hbo.block (w.heap.size + 2) (by omega)).trans hu
      obtain ⟨v0, v1, v2, vf⟩ := block3 hd
      have vf0 := vf 0
      have vf1 := vf 1
      have vf2 := vf 2
      obtain ⟨ta, tc, rfl, htc, hoT, hFT⟩ := hmov.tr.ownT
      obtain ⟨na, nc, rfl, hoN, hFN⟩ := hmov.nm.ownF
      have HMV := hide hmov
      have HBO := hide hbo
      have HD := hide hd
      have HOT := hide hoT
      have HFT := hide hFT
      have HON := hide hoN
      have HFN := hide hFN
      have hw1b : w.heap.size + 2 < b5 := by omega
      have HLT : Hid (w.heap.size + 2 < wr.heap.size) := show _ < _ by have := (Array.getElem?_eq_some_iff.1 hmov.var).1; omega
      clear hmov hbo hd vf yf hoT hFT hoN hFN hu
      go_wp2_with fail
      have hc : Chg (fun q => q = w.heap.size + 2) wr (((wr.setCell ⟨w.heap.size + 2, 0, none⟩ (.slice ra st.1.length rc)).setCell ⟨w.heap.size + 2, 1, none⟩ (.slice ta (bhT st.2.1 d st.2.1.length).length tc)).setCell ⟨w.heap.size + 2, 2, none⟩ (.slice na (bhN st.2.1 st.2.2 d st.2.1.length).length nc)) :=
        Chg.setCell (F := fun q => q = w.heap.size + 2) (Chg.setCell (F := fun q => q = w.heap.size + 2) (Chg.setCell (F := fun q => q = w.heap.size + 2) (Chg.refl _ _) rfl _) rfl _) rfl _
      have hvar := block3_set2 (block3_set1 (block3_set0 HD.out (.slice ra st.1.length rc)) (.slice ta (bhT st.2.1 d st.2.1.length).length tc)) (.slice na (bhN st.2.1 st.2.2 d st.2.1.length).length nc)
      have hbF : Below w.heap.size w (((wr.setCell ⟨w.heap.size + 2, 0, none⟩ (.slice ra st.1.length rc)).setCell ⟨w.heap.size + 2, 1, none⟩ (.slice ta (bhT st.2.1 d st.2.1.length).length tc)).setCell ⟨w.heap.size + 2, 2, none⟩ (.slice na (bhN st.2.1 st.2.2 d st.2.1.length).length nc)) :=
        (HBU.out.trans (HBO.out.mono (by omega))).trans (hc.below (by have := HLT.out; omega) (fun q hq e => by omega))
      generalize ((wr.setCell ⟨w.heap.size + 2, 0, none⟩ (.slice ra st.1.length rc)).setCell ⟨w.heap.size + 2, 1, none⟩ (.slice ta (bhT st.2.1 d st.2.1.length).length tc)).setCell ⟨w.heap.size + 2, 2, none⟩ (.slice na (bhN st.2.1 st.2.2 d st.2.1.length).length nc) = WF at *
      have hna : ∀ q, FA na q → Value.ownBlock (.slice na (bhN st.2.1 st.2.2 d st.2.1.length).length nc) = some q := fun q hq => by
        obtain ⟨o, rfl⟩ := hq
        rfl
      obtain ⟨z0, z1, z2, _⟩ := block3 hvar
      refine bodyPost_ret (v := .agg #[.slice ra st.1.length rc, .slice ta (bhT st.2.1 d st.2.1.length).length tc, .slice na (bhN st.2.1 st.2.2 d st.2.1.length).length nc]) (by simp [results, Tryz.results35, go_sem, z0, z1, z2]) rfl ⟨⟨ra, rc, ta, tc, na, nc, pa, pc⟩, rfl, ⟨?_, ?_, ?_, ⟨?_, ?_, ?_, ?_⟩⟩, ?_, hbF, fun i hi => HMV.out.tr.capOk i hi⟩
      · refine (HRU.out.keep (w' := wr) (fun q hq e => HBO.out.block q (HRA.out q e).2)).chg hc (fun q hq e => ?_)
        have := (HRA.out q hq).1
        omega
      · exact HOT.out.keep (fun q hq e => hc.block q hq (fun e' => by have := (HFT.out q e).1; omega))
      · exact HON.out.chg hc (fun q hq e => by have := (HFN.out q hq).1; omega)
      · intro q e e'
        have u1 := (HRA.out q e).2
        have u2 := (HFT.out q e').1
        omega
      · intro q e e'
        exact HMV.out.ap q (hna q e) (HFT.out q e').2.2
      · intro q e e'
        have u1 := (HRA.out q e).2
        have u2 := (HFN.out q e').1
        omega
      · intro q e
        refine Nat.lt_of_lt_of_le ?_ hc.size
        rcases e with e | e | e
        · have u1 := (HRA.out q e).2
          have u2 := (Array.getElem?_eq_some_iff.1 HMV.out.var).1
          omega
        · exact (HFN.out q e).2
        · exact (HFT.out q e).2.1
      · intro q e
        rcases e with e | e | e
        · have u1 := (HRA.out q e).1
          omega
        · have u1 := (HFN.out q e).1
          omega
        · have u1 := (HFT.out q e).1
          omega

theorem stateBehind_one_cap (v : Value) (st : St) (m : Nat) (w : World) (h : StateAt w v st) (hr : RightSt st) (hcap : CapSt w v st.2.1.length) :
    Calls Tryz.prog 35 #[v, pv (bump pz m)] w fun e w' => ∃ L : Lies, e = .returned (.agg #[.slice L.ra (stepSt st m).1.length L.rc, .slice L.ta (stepSt st m).2.1.length L.tc, .slice L.na (stepSt st m).2.2.length L.nc]) ∧ OwnS w' L (stepSt st m) ∧ (∀ k, L.F (stepSt st m).2.1.length k → w.heap.size ≤ k) ∧ Below w.heap.size w w' ∧ ∀ i, i < (stepSt st m).2.1.length → (tPath (stepSt st m).2.1 i).length ≤ L.pc i := by
  have := stateBehind_cap v st (bump pz m) w h hr (bump_ok m) hcap
  rw [behindSt_one] at this
  exact this
set_option maxHeartbeats 1000000 in
theorem implStep_cap (v : Value) (st : St) (x : Int) (w : World) (h : StateAt w v st) (hcap : CapSt w v st.2.1.length) (hp : ∀ i, i < st.2.1.length → (tPath st.2.1 i).length ≤ 4611686018427387904) :
    Calls Tryz.prog 13 #[v, .int .i64 x] w fun e w' => ∃ L : Lies, e = .returned (L.val (stepF st x)) ∧ OwnS w' L (stepF st x) ∧ (∀ k, L.F (stepF st x).2.1.length k → w.heap.size ≤ k) ∧ Below w.heap.size w w' ∧ ∀ i, i < (stepF st x).2.1.length → (tPath (stepF st x).2.1 i).length ≤ L.pc i := by
  have HS := hide h
  have HP := hide hp
  have HC := hide hcap
  obtain ⟨a1, q1, a2, q2, a3, q3, rfl⟩ := h.form
  clear h hp hcap
  go_enter Tryz.func13, Tryz.ntmps13
  go_wp2_with fail
  refine (implStateOk_any _ st _ (HS.out.below (Joins.below_alloc2 _ _ _)) HP.out).mono ?_
  rintro e w1 ⟨rfl, hb1⟩
  have c0 : w1.cell? ⟨w.heap.size, 0, none⟩ = some (.slice a1 st.1.length q1) := cell_later hb1 (by simp)
  have c1 : w1.cell? ⟨w.heap.size, 1, none⟩ = some (.slice a2 st.2.1.length q2) := cell_later hb1 (by simp)
  have c2 : w1.cell? ⟨w.heap.size, 2, none⟩ = some (.slice a3 st.2.2.length q3) := cell_later hb1 (by simp)
  have hd : w1.heap[w.heap.size + 1]? = some (.cells #[.slice none 0 0, .slice none 0 0, .slice none 0 0] 26 (0, 0)) := (hb1.block (w.heap.size + 1) (by simp)).trans (heap_alloc2_new _ _ _)
  have HB1 := hide (below_tail (Joins.below_alloc2 w (.cells #[.slice a1 st.1.length q1, .slice a2 st.2.1.length q2, .slice a3 st.2.2.length q3] 26) (.cells #[.slice none 0 0, .slice none 0 0, .slice none 0 0] 26)) hb1)
  have HD1 := hide hd
  obtain ⟨v0, v1, v2, vf⟩ := block3 hd
  have vf0 := vf 0
  have vf1 := vf 1
  have vf2 := vf 2
  clear hb1 hd vf
  by_cases hok : stOk st = 0
  · have HR := hide (right_of_ok hok)
    have hokb : (stOk st != 0) = false := by simp [hok]
    obtain ⟨l1, l2, l3, l4⟩ := HR.out.lens
    have HL4 := hide l4
    have hn5 : st.2.2.length ≤ 5 := by omega
    clear l4
    have HF : Hid (stepF st x = bif (decide (nameIx st.2.2 x < st.2.2.length) && canB st (nameIx st.2.2 x)) then stepSt st (nameIx st.2.2 x) else ([], [], [])) := by simp [stepF, hok, Hid]
    clear hok
    generalize stOk st = code at *
    go_wp2_with fail
    refine (index_any _ _ _ st.2.2 x _ (HS.out.below HB1.out).parts.2.2 (by omega)).mono ?_
    rintro e w' ⟨rfl, rfl⟩
    by_cases hix : nameIx st.2.2 x < st.2.2.length
    · have hres : nameRes st.2.2 x = (nameIx st.2.2 x : Int) := if_pos hix
      rw [hres]
      clear hres
      generalize nameIx st.2.2 x = k at *
      have hkt : k < st.2.1.length := by have := HL4.out; omega
      have hkd : decide ((k : Int) < 0) = false := by simp
      cases hcan : canB st k with
      | false =>
        have HF2 := hide (show stepF st x = ([], [], []) by rw [HF.out]; simp [hcan])
        have HCAN := hide hcan
        clear hcan
        go_wp2_with fail
        refine (canMove_any _ st pz k _ (HS.out.below HB1.out) (HC.out.below HS.out HB1.out) HR.out (pz_ok st) hkt).mono ?_
        rintro e w2 ⟨rfl, hb2⟩
        rw [canP_pz, HCAN.out]
        obtain ⟨u0, u1, u2, uf⟩ := block3 ((hb2.block _ (Array.getElem?_eq_some_iff.1 HD1.out).1).trans HD1.out)
        have uf0 := uf 0
        have uf1 := uf 1
        have uf2 := uf 2
        have HB2 := hide (below_tail HB1.out hb2)
        clear hb2 uf
        go_wp2_with fail
        refine bodyPost_ret (v := .agg #[.slice none 0 0, .slice none 0 0, .slice none 0 0]) (by simp [results, Tryz.results13, go_sem, u0, u1, u2]) rfl ⟨nilL, by rw [HF2.out]; rfl, by rw [HF2.out]; exact nilL_own _, fun k hk => absurd hk nilL_F, ?_, fun i hi => by rw [HF2.out] at hi; exact absurd hi (Nat.not_lt_zero _)⟩
        exact ((HB2.out.setCell (by simp) _).setCell (by simp) _).setCell (by simp) _
      | true =>
        have HF2 := hide (show stepF st x = stepSt st k by rw [HF.out]; simp [hcan, hix])
        have HCAN := hide hcan
        clear hcan
        go_wp2_with fail
        refine (canMove_any _ st pz k _ (HS.out.below HB1.out) (HC.out.below HS.out HB1.out) HR.out (pz_ok st) hkt).mono ?_
        rintro e w2 ⟨rfl, hb2⟩
        rw [canP_pz, HCAN.out]
        have d0 := cell_later hb2 c0
        have d1 := cell_later hb2 c1
        have d2 := cell_later hb2 c2
        have HB2 := hide (below_tail HB1.out hb2)
        have HD2 := hide ((hb2.block _ (Array.getElem?_eq_some_iff.1 HD1.out).1).trans HD1.out)
        clear hb2 c0 c1 c2 v0 v1 v2 vf0 vf1 vf2
        go_wp2_with fail
        have hk5 : k < 5 := by omega
        have HS2 := hide (HS.out.below HB2.out)
        have HC2 := hide (HC.out.below HS.out HB2.out)
        go_region_with (first | (go_at_call 30; refine (pmoved_any pz k _ hk5 (by unfold pz; omega)).mono ?_; rintro e w3 ⟨rfl, hb3⟩; have f0 := cell_later hb3 (by exact d0); have f1 := cell_later hb3 (by exact d1); have f2 := cell_later hb3 (by exact d2)) | (go_at_call 35; refine (stateBehind_one_cap _ st k _ (HS2.out.below (below_tail (Joins.below_draws _ _ 1) hb3)) HR.out (HC2.out.below HS2.out (below_tail (Joins.below_draws _ _ 1) hb3))).mono ?_; rintro e w4 ⟨L, rfl, hL, hLF, hb4, hcp⟩; have hD4 := blockLater hb4 (blockLater hb3 (by exact HD2.out)); obtain ⟨u0, u1, u2, uf⟩ := block3 hD4; have uf0 := uf 0; have uf1 := uf 1; have uf2 := uf 2))
        all_goals
          have HB4 := hide (below_tail (below_tail HB2.out.drew hb3) hb4)
          have HL := hide hL
          have HCP := hide hcp
          clear hcp
          have HLF : Hid (∀ q, L.F (stepSt st k).2.1.length q → w.heap.size + 2 ≤ q) := fun q hq => by
            have g1 := hLF q hq
            have g2 : w.heap.size + 1 < w2.heap.size := (Array.getElem?_eq_some_iff.1 HD2.out).1
            have g3 : w2.heap.size ≤ w3.heap.size := hb3.size
            omega
          clear hb3 hb4 hL hLF hD4 uf
          go_wp2_with fail
          have hc : Chg (fun q => q = w.heap.size + 1) w4 (((w4.setCell ⟨w.heap.size + 1, 0, none⟩ (.slice L.ra (stepSt st k).1.length L.rc)).setCell ⟨w.heap.size + 1, 1, none⟩ (.slice L.ta (stepSt st k).2.1.length L.tc)).setCell ⟨w.heap.size + 1, 2, none⟩ (.slice L.na (stepSt st k).2.2.length L.nc)) :=
            Chg.setCell (F := fun q => q = w.heap.size + 1) (Chg.setCell (F := fun q => q = w.heap.size + 1) (Chg.setCell (F := fun q => q = w.heap.size + 1) (Chg.refl _ _) rfl _) rfl _) rfl _
          refine bodyPost_ret (v := .agg #[.slice L.ra (stepSt st k).1.length L.rc, .slice L.ta (stepSt st k).2.1.length L.tc, .slice L.na (stepSt st k).2.2.length L.nc]) (by simp [results, Tryz.results13, go_sem, u0, u1, u2]) rfl ⟨L, by rw [HF2.out]; rfl, by rw [HF2.out]; exact HL.out.keep hc.size (fun q hq e => hc.block q hq (fun e' => by have := HLF.out q e; omega)), fun q hq => by rw [HF2.out] at hq; have := HLF.out q hq; omega, ?_, fun i hi => by rw [HF2.out] at hi ⊢; exact HCP.out i hi⟩
          exact ((HB4.out.setCell (by simp) _).setCell (by simp) _).setCell (by simp) _
    · have hres : nameRes st.2.2 x = -1 := if_neg hix
      rw [hres]
      have HF2 := hide (show stepF st x = ([], [], []) by rw [HF.out]; simp [hix])
      clear hres hix
      go_wp2_with fail
      refine bodyPost_ret (v := .agg #[.slice none 0 0, .slice none 0 0, .slice none 0 0]) (by simp [results, Tryz.results13, go_sem, v0, v1, v2]) rfl ⟨nilL, by rw [HF2.out]; rfl, by rw [HF2.out]; exact nilL_own _, fun k hk => absurd hk nilL_F, ?_, fun i hi => by rw [HF2.out] at hi; exact absurd hi (Nat.not_lt_zero _)⟩
      exact ((HB1.out.setCell (by simp) _).setCell (by simp) _).setCell (by simp) _
  · have hokb : (stOk st != 0) = true := by simp [hok]
    have HF2 := hide (show stepF st x = ([], [], []) by simp [stepF, hok])
    clear hok
    generalize stOk st = code at *
    go_wp2_with fail
    refine bodyPost_ret (v := .agg #[.slice none 0 0, .slice none 0 0, .slice none 0 0]) (by simp [results, Tryz.results13, go_sem, v0, v1, v2]) rfl ⟨nilL, by rw [HF2.out]; rfl, by rw [HF2.out]; exact nilL_own _, fun k hk => absurd hk nilL_F, ?_, fun i hi => by rw [HF2.out] at hi; exact absurd hi (Nat.not_lt_zero _)⟩
    exact ((HB1.out.setCell (by simp) _).setCell (by simp) _).setCell (by simp) _
theorem OwnS.cap {w : World} {L : Lies} {st : St} (h : OwnS w L st) (hc : ∀ i, i < st.2.1.length → (tPath st.2.1 i).length ≤ L.pc i) : CapSt w (L.val st) st.2.1.length := fun a1 l1 q1 a2 l2 q2 a3 l3 q3 hv i b off p q c hi ha hcell => by
  simp only [Lies.val, Value.agg.injEq, Array.mk.injEq, List.cons.injEq, Value.slice.injEq, and_true] at hv
  obtain ⟨_, ⟨h1, _, _⟩, _⟩ := hv
  obtain ⟨b', off', e, _, r2, _⟩ := h.t.row i hi
  rw [h1, ha] at e
  simp only [Option.some.injEq, Addr.mk.injEq, and_true] at e
  obtain ⟨rfl, rfl⟩ := e
  rw [hcell] at r2
  simp only [Option.some.injEq, Value.slice.injEq] at r2
  have := hc i hi
  omega
end Go.Proofs.YtmjjigdnoiphbaaGreatDoor
