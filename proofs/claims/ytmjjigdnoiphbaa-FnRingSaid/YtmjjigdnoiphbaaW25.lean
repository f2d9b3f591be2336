/-
  spec.l1step, a train that goes on.
-/
import Derived.Test.YtmjjigdnoiphbaaPst
import Derived.BigRegion
namespace Go.Proofs.Ytmjjigdnoiphbaa
open Go.RowKit Go.Deep
set_option linter.unusedVariables false

theorem OwnT.rowAt {w : World} {b off : Nat} {n : Nat} {pa : Nat → Option Addr} {pl pc : Nat → Nat} {X Y : Nat → Int} {Z : Nat → Nat → Int} (h : OwnT w (some ⟨b, off, none⟩) n pa pl pc X Y Z) (i : Nat) (hi : i < n) :
    w.cell? ⟨b, off + i * 3, none⟩ = some (.int .i64 (X i)) ∧ w.cell? ⟨b, off + i * 3 + 1, none⟩ = some (.slice (pa i) (pl i) (pc i)) ∧ w.cell? ⟨b, off + i * 3 + 2, none⟩ = some (.int .i64 (Y i)) ∧ ∀ o, o < 3 → w.frozen? ⟨b, off + i * 3 + o, none⟩ = false := by
  obtain ⟨b', off', e, r⟩ := h.row i hi
  simp only [Option.some.injEq, Addr.mk.injEq, and_true] at e
  obtain ⟨rfl, rfl⟩ := e
  exact r

set_option maxRecDepth 100000 in
set_option maxHeartbeats 4000000 in
theorem l1step_go (v : Value) (st : St) (m : Nat) (w : World) (h : StateAt w v st) (hs : SmallSt st) (hm : m < st.2.1.length) (hn : st.2.2.length = st.2.1.length) (hgo : ¬ (tPath st.2.1 m).length = 0) :
    Calls Try.prog 51 #[v, .int .i64 m] w fun e w' => ∃ r, e = .returned r ∧ (∀ w'', Chg (fun q => q < w.heap.size) w' w'' → StateAt w'' r (stepSt st m)) ∧ Below w.heap.size w w' := by
  rw [stepSt_go hgo hn]
  have HS := hide h
  have HM := hide hs
  have b2 := hs.tl
  obtain ⟨a1, q1, a2, q2, a3, q3, rfl⟩ := h.form
  clear h hs hn
  go_enter Try.func51, Try.ntmps51
  go_wp2_with fail
  refine (l1copy_any _ st _ (HS.out.below (Joins.below_alloc2 _ _ _)) HM.out).mono ?_
  rintro e w1 ⟨L, rfl, hL, _, _, hpcap, hLF, hb1⟩
  have hd : w1.heap[w.heap.size + 1]? = some (.cells #[.slice none 0 0, .slice none 0 0, .slice none 0 0] 26 (0, 0)) := (hb1.block (w.heap.size + 1) (by simp)).trans (heap_alloc2_new _ _ _)
  have hb01 := below_tail (Joins.below_alloc2 w (.cells #[.slice a1 st.1.length q1, .slice a2 st.2.1.length q2, .slice a3 st.2.2.length q3] 26) (.cells #[.slice none 0 0, .slice none 0 0, .slice none 0 0] 26)) hb1
  have HLF : Hid (∀ k, L.F st.2.1.length k → w.heap.size + 2 ≤ k) := fun k hk => by have := hLF k hk; simpa using this
  obtain ⟨tb, toff, hta, _⟩ := hL.t.row m hm
  have hcpm := hpcap m hm
  have HB1 := hide hb01
  have HL := hide hL
  have HD := hide hd
  clear hb1 hb01 hLF hL hd hpcap
  unfold Lies.val
  rw [hta]
  have HTA := hide hta
  clear hta
  obtain ⟨ra, rc, ta, tc, na, nc, pa, pc⟩ := L
  simp only at *
  have hta := HTA.out
  subst hta
  clear HTA
  obtain ⟨V, hV⟩ : ∃ V, V = w1.alloc (.cells #[.slice ra st.1.length rc, .slice (some ⟨tb, toff, none⟩) st.2.1.length tc, .slice na st.2.2.length nc] 26) := ⟨_, rfl⟩
  have hbV : Below w1.heap.size w1 V := by rw [hV]; exact Joins.below_alloc1 _ _
  have hLV := HL.out.below hbV
  obtain ⟨t0, t1, t2, tf⟩ := hLV.t.rowAt m hm
  have tl1 := HL.out.apart.lt tb (Or.inr (Or.inr (Or.inl (FA_mk _ _))))
  obtain ⟨s0, s1, s2, _⟩ := HL.out.t.rowAt m hm
  have hplt : 0 < (tPath st.2.1 m).length := by omega
  obtain ⟨pb, poff, hpa, px, _⟩ := HL.out.t.path m hm 0 hplt
  rw [Nat.add_zero] at px
  rw [hpa] at t1 s1
  have plt := World.block_lt_of_cell? _ _ px
  simp only at plt
  have hmi : (m : Int) < (st.2.1.length : Int) := by omega
  have hm0 : (0 : Int) ≤ (m : Int) := by omega
  have HPA := hide hpa
  have HLV := hide hLV
  have HBV := hide hbV
  have HVV := hide hV
  clear hV hpa t0 t1 t2 tf hLV hbV
  generalize hnp : (tPath st.2.1 m).length = np at *
  have hgt : decide ((0 : Int) < (np : Int)) = true := by simp; omega
  have HNP := hide hnp
  clear hnp
  go_wp2_with fail
  rw [← HVV.out]
  have k1 : V.cell? ⟨w1.heap.size, 1, none⟩ = some (.slice (some ⟨tb, toff, none⟩) st.2.1.length tc) := by rw [HVV.out]; simp
  have KV : Hid (V.heap[w1.heap.size]? = some (.cells #[.slice ra st.1.length rc, .slice (some ⟨tb, toff, none⟩) st.2.1.length tc, .slice na st.2.2.length nc] 26 (0, 0))) := by rw [HVV.out]; exact heap_alloc_new _ _
  obtain ⟨t0, t1, t2, tf⟩ := HLV.out.t.rowAt m hm
  simp only [HPA.out, HNP.out] at t1
  have f0 := tf 0 (by omega)
  rw [Nat.add_zero] at f0
  have f1 := tf 1 (by omega)
  have pxV := cell_later HBV.out px
  have hpn : 0 < np := by omega
  have hbt : ¬ w1.heap.size = tb := by omega
  have hbt' : ¬ tb = w1.heap.size := by omega
  have hne1 : ¬ pb = tb := fun e => HL.out.t.ne m pb hm ⟨poff, HPA.out⟩ (e ▸ FA_mk _ _)
  have hne2 : ¬ tb = pb := fun e => hne1 e.symm
  clear HVV s0 s1 s2 px tf
  go_region
  obtain ⟨x0, hx0⟩ : ∃ x0, x0 = el (tPath st.2.1 m) 0 := ⟨_, rfl⟩
  rw [← hx0]
  have hO2 : OwnT (V.setCell ⟨tb, toff + m * 3, none⟩ (.int .i64 x0)).drew (some ⟨tb, toff, none⟩) st.2.1.length pa (fun i => (tPath st.2.1 i).length) pc (upd (tAt st.2.1) m x0) (tWt st.2.1) (fun i j => el (tPath st.2.1 i) j) := (HLV.out.t.setAt m x0).keep (fun k _ _ => rfl)
  have hC2 : Chg (fun q => q = tb) V (V.setCell ⟨tb, toff + m * 3, none⟩ (.int .i64 x0)).drew := (Chg.setCell (F := fun q => q = tb) (p := ⟨tb, toff + m * 3, none⟩) (Chg.refl _ _) rfl (.int .i64 x0)).trans (Chg.of_below (Joins.below_draws _ _ 1))
  obtain ⟨V2, hV2⟩ : ∃ V2, V2 = (V.setCell ⟨tb, toff + m * 3, none⟩ (.int .i64 x0)).drew := ⟨_, rfl⟩
  rw [← hV2] at hO2 hC2 ⊢
  have HZV : Hid (w1.heap.size < V.heap.size) := (Array.getElem?_eq_some_iff.1 KV.out).1
  have KV2 : Hid (V2.heap[w1.heap.size]? = some (.cells #[.slice ra st.1.length rc, .slice (some ⟨tb, toff, none⟩) st.2.1.length tc, .slice na st.2.2.length nc] 26 (0, 0))) := (hC2.block _ HZV.out (by omega)).trans KV.out
  obtain ⟨_, k1', _, _⟩ := block3 KV2.out
  obtain ⟨t0', t1', t2', tf'⟩ := hO2.rowAt m hm
  simp only [HPA.out, HNP.out] at t1'
  have f1' := tf' 1 (by omega)
  have HO2 := hide hO2
  have HC2 := hide hC2
  have HX0 := hide hx0
  obtain ⟨A, hA⟩ : ∃ A, (if pc m = 1 then some (⟨pb, poff, none⟩ : Addr) else some ⟨pb, poff + 1, none⟩) = A := ⟨_, rfl⟩
  have hp2 : (1 : Int) ≤ (np : Int) := by omega
  have hp3 : 1 ≤ np := by omega
  have HKP := hide KV
  have pxV2 : V2.cell? ⟨pb, poff, none⟩ = some (.int .i64 x0) := by
    rw [World.cell?_of_block (hC2.block pb (Nat.lt_trans plt HZV.out) hne1), hx0]
    exact pxV
  clear hV2 hx0 hO2 hC2 t0 t1 t2 f0 f1 pxV k1 tf' t0'
  go_wp2_with fail
  go_region
  have hC3 : Chg (fun q => q = tb) V2 (V2.setCell ⟨tb, toff + m * 3 + 1, none⟩ (.slice A (np - 1) (pc m - 1))).drew := (Chg.setCell (F := fun q => q = tb) (p := ⟨tb, toff + m * 3 + 1, none⟩) (Chg.refl _ _) rfl (.slice A (np - 1) (pc m - 1))).trans (Chg.of_below (Joins.below_draws _ _ 1))
  obtain ⟨V3, hV3⟩ : ∃ V3, V3 = (V2.setCell ⟨tb, toff + m * 3 + 1, none⟩ (.slice A (np - 1) (pc m - 1))).drew := ⟨_, rfl⟩
  rw [← hV3] at hC3 ⊢
  have hV2z : V.heap.size ≤ V2.heap.size := HC2.out.size
  have KV3 : V3.heap[w1.heap.size]? = some (.cells #[.slice ra st.1.length rc, .slice (some ⟨tb, toff, none⟩) st.2.1.length tc, .slice na st.2.2.length nc] 26 (0, 0)) := (hC3.block _ (by have := HZV.out; omega) (by omega)).trans KV2.out
  have hDV : V.heap[w.heap.size + 1]? = some (.cells #[.slice none 0 0, .slice none 0 0, .slice none 0 0] 26 (0, 0)) := (HBV.out.block _ (Array.getElem?_eq_some_iff.1 HD.out).1).trans HD.out
  have htb2 : w.heap.size + 2 ≤ tb := HLF.out tb (Or.inr (Or.inr (Or.inl (FA_mk _ _))))
  have hC13 : Chg (fun q => q = tb) V V3 := HC2.out.trans hC3
  have hD3 : V3.heap[w.heap.size + 1]? = some (.cells #[.slice none 0 0, .slice none 0 0, .slice none 0 0] 26 (0, 0)) := (hC13.block _ (Array.getElem?_eq_some_iff.1 hDV).1 (by omega)).trans hDV
  obtain ⟨z0, z1, z2, _⟩ := block3 KV3
  obtain ⟨v0, v1, v2, vf⟩ := block3 hD3
  have vf0 := vf 0
  have vf1 := vf 1
  have vf2 := vf 2
  have hnew : V3.cell? ⟨tb, toff + m * 3 + 1, none⟩ = some (.slice A (np - 1) (pc m - 1)) := by
    rw [hV3]
    exact World.cell?_setCell_same _ _ _ t1'
  have hoth : ∀ o, o ≠ toff + m * 3 + 1 → V3.cell? ⟨tb, o, none⟩ = V2.cell? ⟨tb, o, none⟩ := fun o ho => by
    rw [hV3]
    exact World.cell?_setCell_other _ _ _ _ (by simp <;> omega)
  have HNEW := hide hnew
  have HOTH := hide hoth
  have HC13 := hide hC13
  have HC3 := hide hC3
  have HAA := hide hA
  have HZ2 := hide hV2z
  have hne : ¬ w1.heap.size = w.heap.size + 1 := by have := (Array.getElem?_eq_some_iff.1 HD.out).1; omega
  have HTB2 := hide htb2
  have HD3 := hide hD3
  have HZ13 : Hid (w.heap.size + 1 < w1.heap.size) := (Array.getElem?_eq_some_iff.1 HD.out).1
  clear hV3 KV3 hDV hD3 hC13 hC3 hnew hoth hA vf t1' t2' f1' k1' pxV2 hV2z htb2 hp2 hp3 hpn hgt hgo
  go_wp2_with fail
  have hc : Chg (fun q => q = w.heap.size + 1) V3 (((V3.setCell ⟨w.heap.size + 1, 0, none⟩ (.slice ra st.1.length rc)).setCell ⟨w.heap.size + 1, 1, none⟩ (.slice (some ⟨tb, toff, none⟩) st.2.1.length tc)).setCell ⟨w.heap.size + 1, 2, none⟩ (.slice na st.2.2.length nc)) :=
    Chg.setCell (F := fun q => q = w.heap.size + 1) (Chg.setCell (F := fun q => q = w.heap.size + 1) (Chg.setCell (F := fun q => q = w.heap.size + 1) (Chg.refl _ _) rfl _) rfl _) rfl _
  have hvar := block3_set2 (block3_set1 (block3_set0 HD3.out (.slice ra st.1.length rc)) (.slice (some ⟨tb, toff, none⟩) st.2.1.length tc)) (.slice na st.2.2.length nc)
  generalize ((V3.setCell ⟨w.heap.size + 1, 0, none⟩ (.slice ra st.1.length rc)).setCell ⟨w.heap.size + 1, 1, none⟩ (.slice (some ⟨tb, toff, none⟩) st.2.1.length tc)).setCell ⟨w.heap.size + 1, 2, none⟩ (.slice na st.2.2.length nc) = WF at *
  obtain ⟨r0, r1, r2, _⟩ := block3 hvar
  have hall : Chg (fun q => q = tb ∨ q = w.heap.size + 1) V WF := (HC13.out.mono (fun q e => Or.inl e)).trans (hc.mono (fun q e => Or.inr e))
  have hbF : Below w.heap.size w WF := (HB1.out.trans (HBV.out.mono (by have := HZ13.out; omega))).trans (hall.below (by have := HZV.out; have := HZ13.out; omega) (fun q hq e => by have := HTB2.out; omega))
  have htF : ∀ o, WF.cell? ⟨tb, o, none⟩ = V3.cell? ⟨tb, o, none⟩ := fun o => World.cell?_of_block (hc.block tb (by have := HZV.out; have := HC13.out.size; omega) (by have := HTB2.out; omega))
  refine bodyPost_ret (v := .agg #[.slice ra st.1.length rc, .slice (some ⟨tb, toff, none⟩) st.2.1.length tc, .slice na st.2.2.length nc]) (by simp [results, Try.results51, go_sem, r0, r1, r2]) rfl ⟨_, rfl, fun wz hk => ?_, hbF⟩
  replace htF : ∀ o, wz.cell? ⟨tb, o, none⟩ = V3.cell? ⟨tb, o, none⟩ := fun o => (World.cell?_of_block (hk.block tb (by have := HZV.out; have := HC13.out.size; have := hc.size; omega) (by have := HTB2.out; omega))).trans (htF o)
  replace hall : Chg (fun q => q = tb ∨ q = w.heap.size + 1 ∨ q < w.heap.size) V wz := (hall.mono (fun q e => by omega)).trans (hk.mono (fun q e => by omega))
  refine ⟨_, _, _, rfl, ?_, trainsAt_fn (fun j hj => ⟨tb, toff, rfl, ?_⟩), intsAt_fn (fun j hj => ?_)⟩
  · refine OwnF.at (HLV.out.r.chg hall (fun q hq e => ?_)) (fun _ _ => rfl)
    have u1 := HLF.out q (Or.inl hq)
    rcases e with e | e | e
    · exact HLV.out.apart.rt q hq (Or.inl (e ▸ FA_mk _ _))
    · omega
    · omega
  · obtain ⟨j0, j1, j2, _⟩ := HO2.out.rowAt j hj
    by_cases e : j = m
    · subst e
      refine ⟨.slice A (np - 1) (pc j - 1), ?_, ?_, ?_, ?_⟩
      · rw [htF, HOTH.out _ (by omega), j0, upd_same, HX0.out]
        simp [fT]
      · rw [htF]; exact HNEW.out
      · have hl : (fT st.2.1 j j).2.1 = (tPath st.2.1 j).tail := by simp [fT]
        rw [hl]
        refine ⟨A, pc j - 1, by rw [List.length_tail, HNP.out], fun i hi => ?_⟩
        rw [List.length_tail, HNP.out] at hi
        obtain ⟨b', o', e', hc', _⟩ := HLV.out.t.path j hj (i + 1) (show i + 1 < (tPath st.2.1 j).length by rw [HNP.out]; omega)
        replace e' := HPA.out.symm.trans e'
        simp only [Option.some.injEq, Addr.mk.injEq, and_true] at e'
        obtain ⟨rfl, rfl⟩ := e'
        refine ⟨pb, poff + 1, by rw [← HAA.out, if_neg (by omega)], ?_⟩
        rw [show poff + 1 + i = poff + (i + 1) by omega, World.cell?_of_block (hall.block pb (World.block_lt_of_cell? _ _ hc') (fun e => by
          rcases e with e | e | e
          · exact hne1 e
          · have := HLF.out pb (Or.inr (Or.inr (Or.inr ⟨j, hj, ⟨poff, HPA.out⟩⟩))); omega
          · have := HLF.out pb (Or.inr (Or.inr (Or.inr ⟨j, hj, ⟨poff, HPA.out⟩⟩))); omega)), hc']
        simp [el, List.getElem?_tail]
      · rw [htF, HOTH.out _ (by omega), j2]
        simp [fT]
    · have hf : fT st.2.1 m j = gT st.2.1 j := if_neg e
      rw [hf]
      refine ⟨.slice (pa j) (tPath st.2.1 j).length (pc j), ?_, ?_, ?_, ?_⟩
      · rw [htF, HOTH.out _ (by omega), j0, upd_other _ _ e]; rfl
      · rw [htF, HOTH.out _ (by omega), j1]
      · refine OwnF.at ((HLV.out.t.path j hj).chg hall (fun q hq e' => ?_)) (fun _ _ => rfl)
        have u1 := HLF.out q (Or.inr (Or.inr (Or.inr ⟨j, hj, hq⟩)))
        rcases e' with e' | e' | e'
        · exact HLV.out.t.ne j q hj hq (e' ▸ FA_mk _ _)
        · omega
        · omega
      · rw [htF, HOTH.out _ (by omega), j2]; rfl
  · obtain ⟨b', o', e', hc', _⟩ := HLV.out.n j hj
    refine ⟨b', o', e', ?_⟩
    rw [World.cell?_of_block (hall.block b' (World.block_lt_of_cell? _ _ hc') (fun e => by
      have u1 := HLF.out b' (Or.inr (Or.inl ⟨o', e'⟩))
      rcases e with e | e | e
      · exact HLV.out.apart.nt b' ⟨o', e'⟩ (Or.inl (e ▸ FA_mk _ _))
      · omega
      · omega))]
    exact hc'
end Go.Proofs.Ytmjjigdnoiphbaa
