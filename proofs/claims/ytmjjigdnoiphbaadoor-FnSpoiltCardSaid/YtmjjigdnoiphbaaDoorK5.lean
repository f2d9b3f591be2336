import Derived.Test.YtmjjigdnoiphbaaDoorK3
import Derived.Deep.DrawnRows
import Derived.Deep.RegionHeld3
/-
  (*l5Cur).spoil: another name.
-/
namespace Go.Proofs.YtmjjigdnoiphbaaDoor
open Go.RowKit Go.Deep
set_option linter.unusedVariables false
attribute [local go_sem ↓] Go.wp_at_zero Go.wp_at_succ

set_option maxHeartbeats 40000000 in
set_option maxRecDepth 8000 in
theorem spoil_in4 {w : World} {cb : Nat} {a : Option Addr} {B : List Int} {q : Nat} {c : Cu} (h : CurF w cb a B q c) (hk : c.1 ≤ 700000) {v : Value} {st : St} {N M : Nat} (hS : StateAt w v st) (hz : Sz N M st) (hN : N ≤ 100) (hM : M ≤ 100) (h0 : 0 < st.1.length) (hp : 3 ≤ (pk B 9 c).1) (ht : 0 < st.2.1.length) (hj : (pk B 6 (pk B (st.2.1.length : Int) (pk B 9 c).2).2).1 = 4) :
    Calls Tryd.prog 38 #[.pointer (some ⟨cb, 0, none⟩), v] w (SpPost w cb a B q c N M) := by
  have HC := hide h
  have HS := hide hS
  have HZ := hide hz
  have HM := hide (hz.small (by omega) (by omega))
  have hcb := h.lt
  obtain ⟨a1, q1, a2, q2, a3, q3, rfl⟩ := hS.form
  clear h hS hz
  go_enter Tryd.func38, Tryd.ntmps38
  go_wp2_with fail
  refine (l1copy_own _ st _ (HS.out.below (Joins.below_alloc2 _ _ _)) HM.out).mono ?_
  rintro e w1 ⟨L, rfl, hL, hb1⟩
  obtain ⟨ra, rc, ta, tc, na, nc, pa, pc⟩ := L
  simp only [Lies.val]
  have hBS : ((w.alloc (.cells #[.slice a1 st.1.length q1, .slice a2 st.2.1.length q2, .slice a3 st.2.2.length q3] 26)).alloc (.cells #[.slice none 0 0, .slice none 0 0, .slice none 0 0] 26)).heap.size = w.heap.size + 2 := by simp
  rw [hBS] at hL
  have hd0 : w1.heap[w.heap.size]? = some (.cells #[.slice a1 st.1.length q1, .slice a2 st.2.1.length q2, .slice a3 st.2.2.length q3] 26 (0, 0)) := (hb1.block w.heap.size (by simp; omega)).trans (blockLater (Joins.below_alloc1 _ _) (heap_alloc_new w _))
  have hd1 : w1.heap[w.heap.size + 1]? = some (.cells #[.slice none 0 0, .slice none 0 0, .slice none 0 0] 26 (0, 0)) := (hb1.block (w.heap.size + 1) (by simp)).trans (heap_alloc2_new _ _ _)
  obtain ⟨v0, v1, v2, vf⟩ := block3 hd0
  have vf0 := vf 0
  have vf1 := vf 1
  have vf2 := vf 2
  have HD0 := hide hd0
  have HD1 := hide hd1
  have hz1 : w.heap.size + 2 ≤ w1.heap.size := by have := hb1.size; simpa using this
  have HB1 := hide (below_tail (Joins.below_alloc2 w (.cells #[.slice a1 st.1.length q1, .slice a2 st.2.1.length q2, .slice a3 st.2.2.length q3] 26) (.cells #[.slice none 0 0, .slice none 0 0, .slice none 0 0] 26)) hb1)
  have HL := hide hL
  clear hL hd0 hd1 vf hb1 hBS HS HM
  go_wp2_with fail
  have hc : Chg (fun q => q = w.heap.size) w1 (((w1.setCell ⟨w.heap.size, 0, none⟩ (.slice ra st.1.length rc)).setCell ⟨w.heap.size, 1, none⟩ (.slice ta st.2.1.length tc)).setCell ⟨w.heap.size, 2, none⟩ (.slice na st.2.2.length nc)) :=
    Chg.setCell (F := fun q => q = w.heap.size) (Chg.setCell (F := fun q => q = w.heap.size) (Chg.setCell (F := fun q => q = w.heap.size) (Chg.refl _ _) rfl _) rfl _) rfl _
  have hvar := block3_set2 (block3_set1 (block3_set0 HD0.out (.slice ra st.1.length rc)) (.slice ta st.2.1.length tc)) (.slice na st.2.2.length nc)
  generalize ((w1.setCell ⟨w.heap.size, 0, none⟩ (.slice ra st.1.length rc)).setCell ⟨w.heap.size, 1, none⟩ (.slice ta st.2.1.length tc)).setCell ⟨w.heap.size, 2, none⟩ (.slice na st.2.2.length nc) = W2 at *
  have hzW := hc.size
  have hch2 : Chg (fun b => b = cb) w W2 := Chg.of_below (HB1.out.trans (hc.below (by omega) (fun k hk e => by omega)))
  refine (pick_f (HC.out.below (HB1.out.trans (hc.below (by omega) (fun k hk e => by omega)))) (by omega) 9 (by decide)).mono ?_
  rintro e w3 ⟨rfl, hcu3, hch3⟩
  obtain ⟨p0, hp0⟩ : ∃ p0 : Nat, (pk B 9 c).1 = (p0 : Int) := ⟨(pk B 9 c).1.toNat, by omega⟩
  rw [hp0]
  have hq0 : ((p0 : Int) == 0) = false := by rw [beq_eq_false_iff_ne]; omega
  have hq1 : ((p0 : Int) == 1) = false := by rw [beq_eq_false_iff_ne]; omega
  have hq2 : ((p0 : Int) == 2) = false := by rw [beq_eq_false_iff_ne]; omega
  have hr0 : ¬ (p0 : Int) = 0 := by omega
  have hr1 : ¬ (p0 : Int) = 1 := by omega
  have hr2 : ¬ (p0 : Int) = 2 := by omega
  clear hp0
  have hk3 := (pk_k B 9 c).2
  generalize (pk B 9 c).2 = c3 at *
  obtain ⟨sb, hsb⟩ : ∃ sb, sb = w.heap.size := ⟨_, rfl⟩
  have HSB := hide hsb
  have HV := hide ((hch3.block w.heap.size (by omega) (by omega)).trans hvar)
  have HR := hide ((hch3.block (w.heap.size + 1) (by omega) (by omega)).trans ((hc.block (w.heap.size + 1) (by omega) (by omega)).trans HD1.out))
  have HL3 : Hid (Cpd (w.heap.size + 2) w3 ⟨ra, rc, ta, tc, na, nc, pa, pc⟩ st) := (HL.out.chg hc (fun k e => by omega)).chg hch3 (fun k e => by omega)
  have HCH3 : Hid (Chg (fun b => b = cb) w w3) := hch2.trans hch3
  have HCU3 := hide hcu3
  rw [← hsb] at HV HR HL3 ⊢
  clear hc hvar hch2 hcu3 hch3 hp hzW HD0 HD1 HL HC v0 v1 v2 vf0 vf1 vf2 HB1
  have hcs : cb < sb := by omega
  have hs3 : sb + 1 < w3.heap.size := (Array.getElem?_eq_some_iff.1 HR.out).1
  have hr41 : st.1.length ≤ 41 := HZ.out.r
  have ht100 : st.2.1.length ≤ 100 := by have := HZ.out.t; omega
  have hn100 : st.2.2.length ≤ 100 := by have := HZ.out.n; omega
  generalize hln : st.1.length = ln at *
  generalize hlt : st.2.1.length = lt at *
  generalize hlm : st.2.2.length = lm at *
  have HLN := hide hln
  have HLT := hide hlt
  have HLM := hide hlm
  obtain ⟨s0, s1, s2, sf⟩ := block3 HV.out
  obtain ⟨gt, hgt⟩ : ∃ gt, ta = some ⟨gt, 0, none⟩ := by
    rcases HL3.out.t.2 with ⟨e, e'⟩ | ⟨g, cap, cur, e, _⟩
    · omega
    · simp only [Value.slice.injEq] at e; exact ⟨g, e.1⟩
  subst hgt
  have a1' := pk_lo B (lt : Int) c3
  have a2' := pk_hi B c3 (show (1 : Int) ≤ (lt : Int) by omega)
  have a3' := (pk_k B (lt : Int) c3).2
  generalize hP1 : pk B (lt : Int) c3 = P1 at *
  obtain ⟨u, hu⟩ : ∃ u : Nat, P1.1 = (u : Int) := ⟨P1.1.toNat, by omega⟩
  have hul : u < lt := by omega
  have hq3 : ((lt : Int) == 0) = false := by rw [beq_eq_false_iff_ne]; omega
  have hr3 : ¬ (lt : Int) = 0 := by omega
  have hr4 : ¬ lt = 0 := by omega
  have HP1 := hide hP1
  have HU := hide hu
  have HJ := hide hj
  clear hsb hln hlt hlm hP1 hu hj a1' a2'
  go_wp2_with fail
  refine (pick_f HCU3.out (by omega) (lt : Int) (by omega)).mono ?_
  rw [HP1.out]
  rintro e w4 ⟨rfl, hcu4, hch4⟩
  rw [HU.out]
  have huu0 : (0 : Int) ≤ (u : Int) := by omega
  have huu1 : (u : Int) < (lt : Int) := by omega
  obtain ⟨t0, t1, t2, tf⟩ := block3 (chg_row hch4 HV.out (by omega))
  clear s0 s1 s2 sf
  go_wp2_with fail
  refine (pick_f hcu4 (by omega) 6 (by decide)).mono ?_
  rintro e w5 ⟨rfl, hcu5, hch5⟩
  rw [HJ.out]
  have hk5 := (pk_k B 6 P1.2).2
  generalize (pk B 6 P1.2).2 = c5 at *
  have HC5 : Hid (Chg (fun b => b = cb) w3 w5) := hch4.trans hch5
  have HV5 := hide (chg_row HC5.out HV.out (by omega))
  have HR5 := hide (chg_row HC5.out HR.out (by omega))
  have HL5 : Hid (Cpd (sb + 2) w5 ⟨ra, rc, some ⟨gt, 0, none⟩, tc, na, nc, pa, pc⟩ st) := HL3.out.chg HC5.out (fun k e => by omega)
  have HCU5 := hide hcu5
  have HCH5 : Hid (Chg (fun b => b = cb) w w5) := HCH3.out.trans HC5.out
  have hs5 : sb + 1 < w5.heap.size := (Array.getElem?_eq_some_iff.1 HR5.out).1
  have hgt2 : sb + 2 ≤ gt := HL5.out.new gt (Or.inr (Or.inr (Or.inl (FA_mk _ _))))
  have hgtl : gt < w5.heap.size := HL5.out.own.apart.lt gt (Or.inr (Or.inr (Or.inl (FA_mk _ _))))
  have HSP : Hid (SpT (sb + 2) w5 gt st.2.1 pa pc u) := HL5.out.spT rfl (by rw [HLT.out]; exact hul)
  have hus : u < st.2.1.length := by rw [HLT.out]; exact hul
  have HUS := hide hus
  clear hcu4 hch4 hcu5 hch5 HV HR HL3 HCU3 HCH3 t0 t1 t2 tf hus HJ
  by_cases hum : u < lm
  · have humi : (u : Int) < (lm : Int) := by omega
    obtain ⟨gn, hgn⟩ : ∃ gn, na = some ⟨gn, 0, none⟩ := by
      rcases HL5.out.n.lies with ⟨e, e'⟩ | ⟨g, cap, cur, e, _⟩
      · have := HLM.out; rw [e'] at this; simp at this; omega
      · simp only [Value.slice.injEq] at e; exact ⟨g, e.1⟩
    subst hgn
    have b1' := pk_lo B 4 c5
    have b2' := pk_hi B c5 (show (1 : Int) ≤ 4 by omega)
    have b3' := (pk_k B 4 c5).2
    generalize hP3 : pk B 4 c5 = P3 at *
    obtain ⟨p2, hp2⟩ : ∃ p2 : Nat, P3.1 = (p2 : Int) := ⟨P3.1.toNat, by omega⟩
    have hp3 : p2 < 4 := by omega
    have HPF : Hid (∀ W : World, Below w5.heap.size w5 W → Calls Tryd.prog 37 #[.pointer (some ⟨cb, 0, none⟩), .int .i64 4] W fun e w' => e = .returned (.int .i64 (p2 : Int)) ∧ CurF w' cb a B q P3.2 ∧ Chg (fun b => b = cb) W w' ∧ Chg (fun b => b = cb) w5 w') := fun W hW => by
      have := pick_f (HCU5.out.below hW) (by omega) 4 (by omega)
      rw [hP3, hp2] at this
      exact this.mono (fun e w' ⟨x1, x2, x3⟩ => ⟨x1, x2, x3, (Chg.of_below hW).trans x3⟩)
    obtain ⟨x, hx⟩ : ∃ x : Int, (#[Value.int .i64 (-1), .int .i64 0, .int .i64 1000, .int .i64 1001] : Array Value)[p2]? = some (.int .i64 x) := by
      rcases (show p2 = 0 ∨ p2 = 1 ∨ p2 = 2 ∨ p2 = 3 by omega) with rfl | rfl | rfl | rfl
      · exact ⟨-1, rfl⟩
      · exact ⟨0, rfl⟩
      · exact ⟨1000, rfl⟩
      · exact ⟨1001, rfl⟩
    have hX0 : ∀ V : World, (V.alloc (.cells #[.int .i64 (-1), .int .i64 0, .int .i64 1000, .int .i64 1001] 3)).cell? ⟨V.heap.size, p2, none⟩ = some (.int .i64 x) := fun V => by
      rw [cell_of_row _ _ p2 _ _ (0, 0) (heap_alloc_new V _)]
      exact hx
    have HX0 := hide hX0
    have hpp0 : (0 : Int) ≤ (p2 : Int) := by omega
    have hpp3 : (p2 : Int) < 4 := by omega
    obtain ⟨s0, s1, s2, sf⟩ := block3 HV5.out
    have hgn2 : sb + 2 ≤ gn := HL5.out.new gn (Or.inr (Or.inl (FA_mk _ _)))
    have hgnl : gn < w5.heap.size := HL5.out.own.apart.lt gn (Or.inr (Or.inl (FA_mk _ _)))
    have HGT : Hid (∀ W, Chg (fun b => b = cb) w5 W → W.cell? ⟨gn, u, none⟩ = some (.int .i64 (el st.2.2 u)) ∧ W.frozen? ⟨gn, u, none⟩ = false ∧ W.cell? ⟨sb, 2, none⟩ = some (.slice (some ⟨gn, 0, none⟩) lm nc)) := fun W hW => by
      have hL' := HL5.out.chg hW (fun k e => by omega)
      obtain ⟨b', off', e, h1, h2⟩ := hL'.own.n u (by rw [HLM.out]; exact hum)
      simp only [Option.some.injEq, Addr.mk.injEq, and_true] at e
      obtain ⟨rfl, rfl⟩ := e
      rw [Nat.zero_add] at h1 h2
      exact ⟨h1, h2, chg_cell hW s2 (by omega)⟩
    have hnS5 : ¬ sb = w5.heap.size := by omega
    have s2' := cell_later (Joins.below_alloc1 w5 (.cells #[.int .i64 (-1), .int .i64 0, .int .i64 1000, .int .i64 1001] 3)) s2
    clear hP3 hp2 b1' b2' hX0 s0 s1 sf
    go_wp2_with fail
    go_region_law (first | (go_simp; go_at_call_of 37 (Value.int .i64 4); refine (HPF.out _ ?_).mono ?_; (first | (exact ((Below.refl _ _).drew)) | (exact (below_tail ((Below.refl _ w5).drew) (Joins.below_alloc1 _ _)))); rintro e w6 ⟨rfl, hcu6, hch6, HC6⟩; have hz6 := HC6.size; obtain ⟨k1, k2, k3⟩ := HGT.out w6 HC6; have hg5 : gn < w6.heap.size := World.block_lt_of_cell? _ _ k1; have hg6 : ¬ gn = w6.heap.size := Nat.ne_of_lt hg5; have hg7 : ¬ w6.heap.size = gn := Ne.symm hg6; have k8 := HX0.out w6; have k3' := cell_later (Joins.below_alloc1 w6 (.cells #[.int .i64 (-1), .int .i64 0, .int .i64 1000, .int .i64 1001] 3)) k3; (try (have k5 : w6.cell? ⟨w5.heap.size, p2, none⟩ = some (Value.int .i64 x) := chg_cell hch6 (HX0.out w5.drew) (by omega)))))
    all_goals
      have hOn : OwnInts (sb + 2) (w6.setCell ⟨gn, u, none⟩ (.int .i64 x)) (.slice (some ⟨gn, 0, none⟩) lm nc) (st.2.2.set u x) := by
        have := (HL5.out.chg HC6 (fun k e => by omega)).n.put (k := u) (by rw [HLM.out]; exact hum) x
        simp only [HLM.out] at this
        exact this
      have hcG : Chg (fun b => b = gn) w6 (w6.setCell ⟨gn, u, none⟩ (.int .i64 x)) := Chg.setCell (F := fun b => b = gn) (p := ⟨gn, u, none⟩) (Chg.refl _ _) rfl _
      first
        | (obtain ⟨WF, hWF, hF1, hF2⟩ : ∃ WF, WF = (w6.setCell ⟨gn, u, none⟩ (.int .i64 x)).alloc (.cells #[.int .i64 (-1), .int .i64 0, .int .i64 1000, .int .i64 1001] 3) ∧ OwnInts (sb + 2) WF (.slice (some ⟨gn, 0, none⟩) lm nc) (st.2.2.set u x) ∧ Chg (fun b => b = gn) w6 WF := ⟨_, rfl, hOn.below (Joins.below_alloc1 _ _), hcG.alloc _⟩; rw [← hWF]; clear hWF)
        | (obtain ⟨WF, hWF, hF1, hF2⟩ : ∃ WF, WF = w6.setCell ⟨gn, u, none⟩ (.int .i64 x) ∧ OwnInts (sb + 2) WF (.slice (some ⟨gn, 0, none⟩) lm nc) (st.2.2.set u x) ∧ Chg (fun b => b = gn) w6 WF := ⟨_, rfl, hOn, hcG⟩; rw [← hWF]; clear hWF)
      have hvF := (hF2.block sb (by omega) (by omega)).trans (chg_row HC6 HV5.out (by omega))
      have hrF := (hF2.block (sb + 1) (by omega) (by omega)).trans (chg_row HC6 HR5.out (by omega))
      have HT6 := hide hF1
      have HF2 := hide hF2
      have HC6' := hide HC6
      have HCU6 := hide hcu6
      obtain ⟨d0, d1, d2, df⟩ := block3 hvF
      obtain ⟨e0, e1, e2, ef⟩ := block3 hrF
      have HRF := hide hrF
      have ef0 := ef 0
      have ef1 := ef 1
      have ef2 := ef 2
      clear k1 k2 k3 k3' k8 ef df hvF hrF hOn hcG hF1 hF2 hcu6 hch6 HC6 HX0 HGT HPF s2 s2'
      go_wp2_with fail
      have hR : Chg (fun b => b = sb + 1) WF (((WF.setCell ⟨sb + 1, 0, none⟩ (.slice ra ln rc)).setCell ⟨sb + 1, 1, none⟩ (.slice (some ⟨gt, 0, none⟩) lt tc)).setCell ⟨sb + 1, 2, none⟩ (.slice (some ⟨gn, 0, none⟩) lm nc)) :=
        Chg.setCell (F := fun b => b = sb + 1) (Chg.setCell (F := fun b => b = sb + 1) (Chg.setCell (F := fun b => b = sb + 1) (Chg.refl _ _) rfl _) rfl _) rfl _
      have hvar := block3_set2 (block3_set1 (block3_set0 HRF.out (.slice ra ln rc)) (.slice (some ⟨gt, 0, none⟩) lt tc)) (.slice (some ⟨gn, 0, none⟩) lm nc)
      generalize ((WF.setCell ⟨sb + 1, 0, none⟩ (.slice ra ln rc)).setCell ⟨sb + 1, 1, none⟩ (.slice (some ⟨gt, 0, none⟩) lt tc)).setCell ⟨sb + 1, 2, none⟩ (.slice (some ⟨gn, 0, none⟩) lm nc) = WR at *
      obtain ⟨z0, z1, z2, _⟩ := block3 hvar
      have hsb := HSB.out
      refine bodyPost_ret (v := .agg #[.slice ra ln rc, .slice (some ⟨gt, 0, none⟩) lt tc, .slice (some ⟨gn, 0, none⟩) lm nc]) (by simp [results, Tryd.results38, go_sem, z0, z1, z2]) rfl ?_
      have hzz := HZ.out
      obtain ⟨hr7, ht7⟩ := HL5.out.offN ((HC6'.out.mono (fun k e => Or.inr (by omega))).trans (HF2.out.mono (fun k e => Or.inl (by rw [e]; exact FA_mk _ _))))
      simp only [HLN.out] at hr7
      have hfin := sp_end (c := c) (N := N) (M := M) (tc := tc) hsb hcs ((HCH5.out.mono (fun k e => Or.inl e)).trans ((HC6'.out.mono (fun k e => Or.inl e)).trans (HF2.out.mono (fun k e => Or.inr (by omega))))) (HCU6.out.keep HF2.out (fun b hb => by omega)) (by omega) hr7 HT6.out ht7 ⟨hzz.r, by have := hzz.t; simp; omega, by have := hzz.n; simp; omega, fun i hi => by have := hzz.p i hi; simp; omega⟩ hR
      rw [HLT.out] at hfin
      exact hfin
  · have humi : ¬ ((u : Int) < (lm : Int)) := by omega
    have hvF := HV5.out
    have hrF := HR5.out
    obtain ⟨d0, d1, d2, df⟩ := block3 hvF
    obtain ⟨e0, e1, e2, ef⟩ := block3 hrF
    have HRF := hide hrF
    have ef0 := ef 0
    have ef1 := ef 1
    have ef2 := ef 2
    clear ef df hvF hrF
    go_wp2_with fail
    have hR : Chg (fun b => b = sb + 1) w5 (((w5.setCell ⟨sb + 1, 0, none⟩ (.slice ra ln rc)).setCell ⟨sb + 1, 1, none⟩ (.slice (some ⟨gt, 0, none⟩) lt tc)).setCell ⟨sb + 1, 2, none⟩ (.slice na lm nc)) :=
      Chg.setCell (F := fun b => b = sb + 1) (Chg.setCell (F := fun b => b = sb + 1) (Chg.setCell (F := fun b => b = sb + 1) (Chg.refl _ _) rfl _) rfl _) rfl _
    have hvar := block3_set2 (block3_set1 (block3_set0 HRF.out (.slice ra ln rc)) (.slice (some ⟨gt, 0, none⟩) lt tc)) (.slice na lm nc)
    generalize ((w5.setCell ⟨sb + 1, 0, none⟩ (.slice ra ln rc)).setCell ⟨sb + 1, 1, none⟩ (.slice (some ⟨gt, 0, none⟩) lt tc)).setCell ⟨sb + 1, 2, none⟩ (.slice na lm nc) = WR at *
    obtain ⟨z0, z1, z2, _⟩ := block3 hvar
    have hsb := HSB.out
    refine bodyPost_ret (v := .agg #[.slice ra ln rc, .slice (some ⟨gt, 0, none⟩) lt tc, .slice na lm nc]) (by simp [results, Tryd.results38, go_sem, z0, z1, z2]) rfl ?_
    have hzz := HZ.out
    have hr7 := HL5.out.r
    have hn7 := HL5.out.n
    simp only [HLN.out] at hr7
    simp only [HLM.out] at hn7
    have hfin := sp_end (c := c) (N := N) (M := M) (tc := tc) hsb hcs (HCH5.out.mono (fun k e => Or.inl e)) HCU5.out (by omega) hr7 hn7 HL5.out.rowT ⟨hzz.r, by have := hzz.t; simp; omega, by have := hzz.n; simp; omega, fun i hi => by have := hzz.p i hi; simp; omega⟩ hR
    rw [HLT.out] at hfin
    exact hfin
end Go.Proofs.YtmjjigdnoiphbaaDoor

/-
  (*l5Cur).spoil: a train once more.
-/
namespace Go.Proofs.YtmjjigdnoiphbaaDoor
open Go.RowKit Go.Deep
set_option linter.unusedVariables false
attribute [local go_sem ↓] Go.wp_at_zero Go.wp_at_succ

set_option maxHeartbeats 40000000 in
set_option maxRecDepth 8000 in
theorem spoil_in5 {w : World} {cb : Nat} {a : Option Addr} {B : List Int} {q : Nat} {c : Cu} (h : CurF w cb a B q c) (hk : c.1 ≤ 700000) {v : Value} {st : St} {N M : Nat} (hS : StateAt w v st) (hz : Sz N M st) (hN : N ≤ 100) (hM : M ≤ 100) (h0 : 0 < st.1.length) (hp : 3 ≤ (pk B 9 c).1) (ht : 0 < st.2.1.length) (hj : (pk B 6 (pk B (st.2.1.length : Int) (pk B 9 c).2).2).1 = 5) :
    Calls Tryd.prog 38 #[.pointer (some ⟨cb, 0, none⟩), v] w (SpPost w cb a B q c N M) := by
  have HC := hide h
  have HS := hide hS
  have HZ := hide hz
  have HM := hide (hz.small (by omega) (by omega))
  have hcb := h.lt
  obtain ⟨a1, q1, a2, q2, a3, q3, rfl⟩ := hS.form
  clear h hS hz
  go_enter Tryd.func38, Tryd.ntmps38
  go_wp2_with fail
  refine (l1copy_own _ st _ (HS.out.below (Joins.below_alloc2 _ _ _)) HM.out).mono ?_
  rintro e w1 ⟨L, rfl, hL, hb1⟩
  obtain ⟨ra, rc, ta, tc, na, nc, pa, pc⟩ := L
  simp only [Lies.val]
  have hBS : ((w.alloc (.cells #[.slice a1 st.1.length q1, .slice a2 st.2.1.length q2, .slice a3 st.2.2.length q3] 26)).alloc (.cells #[.slice none 0 0, .slice none 0 0, .slice none 0 0] 26)).heap.size = w.heap.size + 2 := by simp
  rw [hBS] at hL
  have hd0 : w1.heap[w.heap.size]? = some (.cells #[.slice a1 st.1.length q1, .slice a2 st.2.1.length q2, .slice a3 st.2.2.length q3] 26 (0, 0)) := (hb1.block w.heap.size (by simp; omega)).trans (blockLater (Joins.below_alloc1 _ _) (heap_alloc_new w _))
  have hd1 : w1.heap[w.heap.size + 1]? = some (.cells #[.slice none 0 0, .slice none 0 0, .slice none 0 0] 26 (0, 0)) := (hb1.block (w.heap.size + 1) (by simp)).trans (heap_alloc2_new _ _ _)
  obtain ⟨v0, v1, v2, vf⟩ := block3 hd0
  have vf0 := vf 0
  have vf1 := vf 1
  have vf2 := vf 2
  have HD0 := hide hd0
  have HD1 := hide hd1
  have hz1 : w.heap.size + 2 ≤ w1.heap.size := by have := hb1.size; simpa using this
  have HB1 := hide (below_tail (Joins.below_alloc2 w (.cells #[.slice a1 st.1.length q1, .slice a2 st.2.1.length q2, .slice a3 st.2.2.length q3] 26) (.cells #[.slice none 0 0, .slice none 0 0, .slice none 0 0] 26)) hb1)
  have HL := hide hL
  clear hL hd0 hd1 vf hb1 hBS HS HM
  go_wp2_with fail
  have hc : Chg (fun q => q = w.heap.size) w1 (((w1.setCell ⟨w.heap.size, 0, none⟩ (.slice ra st.1.length rc)).setCell ⟨w.heap.size, 1, none⟩ (.slice ta st.2.1.length tc)).setCell ⟨w.heap.size, 2, none⟩ (.slice na st.2.2.length nc)) :=
    Chg.setCell (F := fun q => q = w.heap.size) (Chg.setCell (F := fun q => q = w.heap.size) (Chg.setCell (F := fun q => q = w.heap.size) (Chg.refl _ _) rfl _) rfl _) rfl _
  have hvar := block3_set2 (block3_set1 (block3_set0 HD0.out (.slice ra st.1.length rc)) (.slice ta st.2.1.length tc)) (.slice na st.2.2.length nc)
  generalize ((w1.setCell ⟨w.heap.size, 0, none⟩ (.slice ra st.1.length rc)).setCell ⟨w.heap.size, 1, none⟩ (.slice ta st.2.1.length tc)).setCell ⟨w.heap.size, 2, none⟩ (.slice na st.2.2.length nc) = W2 at *
  have hzW := hc.size
  have hch2 : Chg (fun b => b = cb) w W2 := Chg.of_below (HB1.out.trans (hc.below (by omega) (fun k hk e => by omega)))
  refine (pick_f (HC.out.below (HB1.out.trans (hc.below (by omega) (fun k hk e => by omega)))) (by omega) 9 (by decide)).mono ?_
  rintro e w3 ⟨rfl, hcu3, hch3⟩
  obtain ⟨p0, hp0⟩ : ∃ p0 : Nat, (pk B 9 c).1 = (p0 : Int) := ⟨(pk B 9 c).1.toNat, by omega⟩
  rw [hp0]
  have hq0 : ((p0 : Int) == 0) = false := by rw [beq_eq_false_iff_ne]; omega
  have hq1 : ((p0 : Int) == 1) = false := by rw [beq_eq_false_iff_ne]; omega
  have hq2 : ((p0 : Int) == 2) = false := by rw [beq_eq_false_iff_ne]; omega
  have hr0 : ¬ (p0 : Int) = 0 := by omega
  have hr1 : ¬ (p0 : Int) = 1 := by omega
  have hr2 : ¬ (p0 : Int) = 2 := by omega
  clear hp0
  have hk3 := (pk_k B 9 c).2
  generalize (pk B 9 c).2 = c3 at *
  obtain ⟨sb, hsb⟩ : ∃ sb, sb = w.heap.size := ⟨_, rfl⟩
  have HSB := hide hsb
  have HV := hide ((hch3.block w.heap.size (by omega) (by omega)).trans hvar)
  have HR := hide ((hch3.block (w.heap.size + 1) (by omega) (by omega)).trans ((hc.block (w.heap.size + 1) (by omega) (by omega)).trans HD1.out))
  have HL3 : Hid (Cpd (w.heap.size + 2) w3 ⟨ra, rc, ta, tc, na, nc, pa, pc⟩ st) := (HL.out.chg hc (fun k e => by omega)).chg hch3 (fun k e => by omega)
  have HCH3 : Hid (Chg (fun b => b = cb) w w3) := hch2.trans hch3
  have HCU3 := hide hcu3
  rw [← hsb] at HV HR HL3 ⊢
  clear hc hvar hch2 hcu3 hch3 hp hzW HD0 HD1 HL HC v0 v1 v2 vf0 vf1 vf2 HB1
  have hcs : cb < sb := by omega
  have hs3 : sb + 1 < w3.heap.size := (Array.getElem?_eq_some_iff.1 HR.out).1
  have hr41 : st.1.length ≤ 41 := HZ.out.r
  have ht100 : st.2.1.length ≤ 100 := by have := HZ.out.t; omega
  have hn100 : st.2.2.length ≤ 100 := by have := HZ.out.n; omega
  generalize hln : st.1.length = ln at *
  generalize hlt : st.2.1.length = lt at *
  generalize hlm : st.2.2.length = lm at *
  have HLN := hide hln
  have HLT := hide hlt
  have HLM := hide hlm
  obtain ⟨s0, s1, s2, sf⟩ := block3 HV.out
  obtain ⟨gt, hgt⟩ : ∃ gt, ta = some ⟨gt, 0, none⟩ := by
    rcases HL3.out.t.2 with ⟨e, e'⟩ | ⟨g, cap, cur, e, _⟩
    · omega
    · simp only [Value.slice.injEq] at e; exact ⟨g, e.1⟩
  subst hgt
  have a1' := pk_lo B (lt : Int) c3
  have a2' := pk_hi B c3 (show (1 : Int) ≤ (lt : Int) by omega)
  have a3' := (pk_k B (lt : Int) c3).2
  generalize hP1 : pk B (lt : Int) c3 = P1 at *
  obtain ⟨u, hu⟩ : ∃ u : Nat, P1.1 = (u : Int) := ⟨P1.1.toNat, by omega⟩
  have hul : u < lt := by omega
  have hq3 : ((lt : Int) == 0) = false := by rw [beq_eq_false_iff_ne]; omega
  have hr3 : ¬ (lt : Int) = 0 := by omega
  have hr4 : ¬ lt = 0 := by omega
  have HP1 := hide hP1
  have HU := hide hu
  have HJ := hide hj
  clear hsb hln hlt hlm hP1 hu hj a1' a2'
  go_wp2_with fail
  refine (pick_f HCU3.out (by omega) (lt : Int) (by omega)).mono ?_
  rw [HP1.out]
  rintro e w4 ⟨rfl, hcu4, hch4⟩
  rw [HU.out]
  have huu0 : (0 : Int) ≤ (u : Int) := by omega
  have huu1 : (u : Int) < (lt : Int) := by omega
  obtain ⟨t0, t1, t2, tf⟩ := block3 (chg_row hch4 HV.out (by omega))
  clear s0 s1 s2 sf
  go_wp2_with fail
  refine (pick_f hcu4 (by omega) 6 (by decide)).mono ?_
  rintro e w5 ⟨rfl, hcu5, hch5⟩
  rw [HJ.out]
  have hk5 := (pk_k B 6 P1.2).2
  generalize (pk B 6 P1.2).2 = c5 at *
  have HC5 : Hid (Chg (fun b => b = cb) w3 w5) := hch4.trans hch5
  have HV5 := hide (chg_row HC5.out HV.out (by omega))
  have HR5 := hide (chg_row HC5.out HR.out (by omega))
  have HL5 : Hid (Cpd (sb + 2) w5 ⟨ra, rc, some ⟨gt, 0, none⟩, tc, na, nc, pa, pc⟩ st) := HL3.out.chg HC5.out (fun k e => by omega)
  have HCU5 := hide hcu5
  have HCH5 : Hid (Chg (fun b => b = cb) w w5) := HCH3.out.trans HC5.out
  have hs5 : sb + 1 < w5.heap.size := (Array.getElem?_eq_some_iff.1 HR5.out).1
  have hgt2 : sb + 2 ≤ gt := HL5.out.new gt (Or.inr (Or.inr (Or.inl (FA_mk _ _))))
  have hgtl : gt < w5.heap.size := HL5.out.own.apart.lt gt (Or.inr (Or.inr (Or.inl (FA_mk _ _))))
  have HSP : Hid (SpT (sb + 2) w5 gt st.2.1 pa pc u) := HL5.out.spT rfl (by rw [HLT.out]; exact hul)
  have hus : u < st.2.1.length := by rw [HLT.out]; exact hul
  have HUS := hide hus
  clear hcu4 hch4 hcu5 hch5 HV HR HL3 HCU3 HCH3 t0 t1 t2 tf hus HJ
  obtain ⟨s0, s1, s2, sf⟩ := block3 HV5.out
  have hC0 : Chg (fun b => b = cb) w5 w5 := Chg.refl _ _
  obtain ⟨b', off', eT, g0, g1, g2, gf⟩ := (HSP.out.keep hC0.size (fun q h1 h2 => hC0.block q h2 (by omega))).t.row u HUS.out
  simp only [Option.some.injEq, Addr.mk.injEq, and_true] at eT
  obtain ⟨rfl, rfl⟩ := eT
  have gf0 := gf 0 (by omega)
  have gf1 := gf 1 (by omega)
  have gf2 := gf 2 (by omega)
  rw [Nat.zero_add] at g0 g1 g2 gf0 gf1 gf2
  rw [Nat.add_zero] at gf0
  have hTR : w5.ownsRow (sb + 2) 35 3 (.slice (some ⟨gt, 0, none⟩) lt tc) lt (trVals st.2.1 pa pc) := by have := HL5.out.t; simp only [HLT.out] at this; exact this
  have HTR := hide hTR
  obtain ⟨i1, hi1, hz0, hz1', hz2⟩ := info_parts Tryd.infoTrain
  have HI1 := hide hi1
  have HZ0 := hide hz0
  have HZ1 := hide hz1'
  have HZ2 := hide hz2
  generalize hpl : (tPath st.2.1 u).length = pl at *
  have HPL := hide hpl
  generalize htA : tAt st.2.1 u = tA at *
  generalize htW : tWt st.2.1 u = tW at *
  have HTA := hide htA
  have HTW := hide htW
  have sf1 := sf 1
  clear hTR hi1 hz0 hz1' hz2 hpl htA htW hC0 gf sf
  have hc3 : lt + 1 ≤ maxLen := by unfold maxLen; omega
  have hc4 : (lt + 1) * 40 ≤ 140737488355328 := by omega
  have HVB : Hid (∀ W, Chg (fun b => FA (some ⟨gt, 0, none⟩) b) w5 W → W.cell? ⟨sb, 1, none⟩ = some (.slice (some ⟨gt, 0, none⟩) lt tc) ∧ W.frozen? ⟨sb, 1, none⟩ = false) := fun W hW => by
    obtain ⟨-, x1, -, xf⟩ := block3 ((hW.block sb (by omega) (fun e => by have := FA_some e; omega)).trans HV5.out)
    exact ⟨x1, xf 1⟩
  have HTF : Hid (∀ k, Value.ownBlock (.slice (some ⟨gt, 0, none⟩) lt tc) = some k → FA (some ⟨gt, 0, none⟩) k) := fun k hk => HL5.out.taFA (by rw [HLT.out]; exact hk)
  have s1' := cell_later (Joins.below_alloc1 w5 (.cells #[.int .i64 tA, .slice (pa u) pl (pc u), .int .i64 tW] 35)) s1
  have hnS5 : ¬ sb = w5.heap.size := by omega
  have hnG5 : ¬ gt = w5.heap.size := by omega
  go_wp2_with fail
  go_region_law (first | (refine step_append_lies _ (by rfl) _ _ _ (by rfl) (sb + 2) 35 i1 _ 3 40 Tryd.underlying24 HI1.out HZ0.out HZ1.out HZ2.out rfl (by omega) (.slice (some ⟨gt, 0, none⟩) lt tc) _ _ (by rfl) (HTR.out.alloc _) ⟨w5.heap.size, 0, none⟩ 1 1 [.int .i64 tA, .slice (pa u) pl (pc u), .int .i64 tW] (by rfl) (by rfl) (World.news_of_block (cs := #[.int .i64 tA, .slice (pa u) pl (pc u), .int .i64 tW]) (t := 35) (fr := (0, 0)) (heap_alloc_new w5 _)) (by simp [Value.oneCell']) (by omega) hc3 hc4 (by simp; omega) (w5.heap.size + 1) (by simp) ?_; intro g cap w6 hown hgrow hat hlt6; have hba := (Joins.below_alloc1 w5 (.cells #[.int .i64 tA, .slice (pa u) pl (pc u), .int .i64 tW] 35)).drew; have hc6 : Chg (fun b => FA (some ⟨gt, 0, none⟩) b) w5 w6 := (grown_chg hba hgrow).mono HTF.out; obtain ⟨y1, yf1⟩ := HVB.out w6 hc6))
  all_goals
    have hT6 := HL5.out.shareT hba HUS.out (g := g) (cap := cap) (w' := w6) (by
      rw [HTA.out, HTW.out, HPL.out, HLT.out]
      exact hown) (by rw [HLT.out]; exact hgrow) (by
      rw [HLT.out]
      rcases hat with e | e
      · exact Or.inl e
      · exact Or.inr (by rw [e]; simp))
    have hv6 := (hc6.block sb (by omega) (fun e => by have := FA_some e; omega)).trans HV5.out
    have hr6 := (hc6.block (sb + 1) (by omega) (fun e => by have := FA_some e; omega)).trans HR5.out
    obtain ⟨d0, d1, d2, df⟩ := block3 hv6
    have df1 := df 1
    have hs6 : sb + 1 < w6.heap.size := (Array.getElem?_eq_some_iff.1 hr6).1
    have hcS : Chg (fun b => b = sb) w6 (w6.setCell ⟨sb, 1, none⟩ (.slice (some ⟨g, 0, none⟩) (lt + 1) cap)) := Chg.setCell (F := fun b => b = sb) (p := ⟨sb, 1, none⟩) (Chg.refl _ _) rfl _
    obtain ⟨hr7, hn7⟩ := HL5.out.offT ((hc6.mono (fun k e => Or.inl (Or.inl e))).trans (hcS.mono (fun k e => Or.inr (by omega))))
    simp only [HLN.out] at hr7
    simp only [HLM.out] at hn7
    have hv7 := block3_set1 hv6 (.slice (some ⟨g, 0, none⟩) (lt + 1) cap)
    have hr7' := (hcS.block (sb + 1) (by omega) (by omega)).trans hr6
    have hT7 := hT6.keep (w' := w6.setCell ⟨sb, 1, none⟩ (.slice (some ⟨g, 0, none⟩) (lt + 1) cap)) (fun k hk e => hcS.block k hk (by have := hT6.lo k e; omega))
    have hcA : Chg (fun b => b = cb ∨ sb ≤ b) w (w6.setCell ⟨sb, 1, none⟩ (.slice (some ⟨g, 0, none⟩) (lt + 1) cap)) := (HCH5.out.mono (fun k e => Or.inl e)).trans ((hc6.mono (fun k e => Or.inr (by have := FA_some e; omega))).trans (hcS.mono (fun k e => Or.inr (by omega))))
    have hcu7 : CurF (w6.setCell ⟨sb, 1, none⟩ (.slice (some ⟨g, 0, none⟩) (lt + 1) cap)) cb a B q c5 := (HCU5.out.keep hc6 (fun b hb e => by have := FA_some e; omega)).keep hcS (fun b hb => by omega)
    have hgg : g < w6.heap.size := hlt6
    have hNT : ∀ k, Value.ownBlock (.slice na lm nc) = some k → ¬ FT (some ⟨g, 0, none⟩) (upd pa st.2.1.length (pa u)) (st.2.1 ++ [(tAt st.2.1 u, tPath st.2.1 u, tWt st.2.1 u)]).length k := fun k hk e => by
      have hn5 := HL5.out.n
      simp only [HLM.out] at hn5
      have u1 := (hn5.own hk).2
      have u2 := hn5.fa hk
      rcases e with e | ⟨i, hi, e⟩
      · rw [FA_some e] at u1 u2
        rcases hat with e' | e'
        · exact HL5.out.own.apart.nt g u2 (Or.inl (HL5.out.taFA (by rw [HLT.out]; exact e')))
        · omega
      · rw [List.length_append, List.length_singleton] at hi
        by_cases e2 : i < st.2.1.length
        · rw [upd_other _ _ (by omega)] at e
          exact HL5.out.own.apart.nt k u2 (Or.inr ⟨i, e2, e⟩)
        · rw [show i = st.2.1.length by omega, upd_same] at e
          exact HL5.out.own.apart.nt k u2 (Or.inr ⟨u, HUS.out, e⟩)
    have hNR : ∀ k, Value.ownBlock (.slice na lm nc) = some k → Value.ownBlock (.slice ra ln rc) ≠ some k := fun k hk e => by
      have hn5 := HL5.out.n
      simp only [HLM.out] at hn5
      have hr5 := HL5.out.r
      simp only [HLN.out] at hr5
      exact HL5.out.own.apart.rn k (hr5.fa e) (hn5.fa hk)
    have HB := hide (And.intro hr7 (And.intro hn7 (And.intro hT7 (And.intro hcA (And.intro hcu7 (And.intro hNT (And.intro hNR (And.intro hv7 hr7'))))))))
    clear hown hgrow hat hlt6 hba hT6 hc6 hv6 hr6 df hr7 hn7 hv7 hr7' hT7 hcA hcu7 hNT hNR hcS s0 s1 s1' s2 sf1 y1 yf1 g0 g1 g2 gf0 gf1 gf2
    have hw7s : sb + 2 ≤ (w6.setCell ⟨sb, 1, none⟩ (.slice (some ⟨g, 0, none⟩) (lt + 1) cap)).heap.size := by simp; omega
    have HW7 := hide hw7s
    have HG1 : Hid (∀ o, ((w6.setCell ⟨sb, 1, none⟩ (.slice (some ⟨g, 0, none⟩) (lt + 1) cap)).alloc o).heap[w6.heap.size]? = some o) := fun o => by
      have := heap_alloc_new (w6.setCell ⟨sb, 1, none⟩ (.slice (some ⟨g, 0, none⟩) (lt + 1) cap)) o
      simpa using this
    clear hw7s
    go_wp2_with (first | (at_builtin; refine wpList_push rfl _ _ rfl (sb + 2) _ _ 1000 w6.heap.size rfl rfl (HB.out.2.1.below (Joins.below_alloc1 _ _)) (HG1.out _) (by rw [HLM.out]; omega) (by have := HW7.out; simp at this ⊢; omega) ?_))
    intro g2' cap2 w8 hown hgrow hat hlt8
    obtain ⟨hr7, hn7, hT7, hcA, hcu7, hNT, hNR, hv7, hr7'⟩ := HB.out
    generalize hW7 : w6.setCell ⟨sb, 1, none⟩ (.slice (some ⟨g, 0, none⟩) (lt + 1) cap) = W7 at *
    have hz7 : sb + 1 < W7.heap.size := (Array.getElem?_eq_some_iff.1 hr7').1
    have hc8 : Chg (fun b => Value.ownBlock (.slice na lm nc) = some b) W7 w8 := grown_chg (Joins.below_alloc1 _ _) hgrow
    have hown2 : ∀ k, Value.ownBlock (.slice na lm nc) = some k → sb + 2 ≤ k := fun k hk => (hn7.own hk).1
    have hvF := (hc8.block sb (by omega) (fun e => by have := hown2 _ e; omega)).trans hv7
    have hrF := (hc8.block (sb + 1) (by omega) (fun e => by have := hown2 _ e; omega)).trans hr7'
    have hs8 : sb + 1 < w8.heap.size := (Array.getElem?_eq_some_iff.1 hrF).1
    have HB8 := hide (And.intro (hr7.far (w' := w8) (fun k hk => hc8.block k (hr7.own hk).2 (fun e => hNR k e hk))) (And.intro (hT7.keep (w' := w8) (fun k hk e => hc8.block k hk (fun e' => hNT k e' e))) (And.intro (hcA.trans (hc8.mono (fun k e => Or.inr (by have := hown2 _ e; omega)))) (And.intro (hcu7.keep hc8 (fun b hb e => by have := hown2 _ e; omega)) hown))))
    obtain ⟨d0', d1', d2', df⟩ := block3 hvF
    obtain ⟨e0, e1, e2, ef⟩ := block3 hrF
    have HRF := hide hrF
    have ef0 := ef 0
    have ef1 := ef 1
    have ef2 := ef 2
    have df2 := df 2
    clear HB HG1 HW7 hr7 hn7 hT7 hcA hcu7 hNT hNR hv7 hr7' hown hgrow hat hlt8 hc8 hown2 df ef hvF hrF hW7 d0 d1 d2 df1
    generalize hlm1 : st.2.2.length + 1 = lm1 at *
    go_wp2_with fail
    have hcS : Chg (fun b => b = sb) w8 (w8.setCell ⟨sb, 2, none⟩ (.slice (some ⟨g2', 0, none⟩) lm1 cap2)) := Chg.setCell (F := fun b => b = sb) (p := ⟨sb, 2, none⟩) (Chg.refl _ _) rfl _
    have hRW := (hcS.block (sb + 1) (by omega) (by omega)).trans HRF.out
    generalize w8.setCell ⟨sb, 2, none⟩ (.slice (some ⟨g2', 0, none⟩) lm1 cap2) = WF at *
    clear HRF
    have HRF := hide hRW
    have hR : Chg (fun b => b = sb + 1) WF (((WF.setCell ⟨sb + 1, 0, none⟩ (.slice ra ln rc)).setCell ⟨sb + 1, 1, none⟩ (.slice (some ⟨g, 0, none⟩) (lt + 1) cap)).setCell ⟨sb + 1, 2, none⟩ (.slice (some ⟨g2', 0, none⟩) lm1 cap2)) :=
      Chg.setCell (F := fun b => b = sb + 1) (Chg.setCell (F := fun b => b = sb + 1) (Chg.setCell (F := fun b => b = sb + 1) (Chg.refl _ _) rfl _) rfl _) rfl _
    have hvar := block3_set2 (block3_set1 (block3_set0 HRF.out (.slice ra ln rc)) (.slice (some ⟨g, 0, none⟩) (lt + 1) cap)) (.slice (some ⟨g2', 0, none⟩) lm1 cap2)
    generalize ((WF.setCell ⟨sb + 1, 0, none⟩ (.slice ra ln rc)).setCell ⟨sb + 1, 1, none⟩ (.slice (some ⟨g, 0, none⟩) (lt + 1) cap)).setCell ⟨sb + 1, 2, none⟩ (.slice (some ⟨g2', 0, none⟩) lm1 cap2) = WR at *
    obtain ⟨z0, z1, z2, _⟩ := block3 hvar
    have hsb := HSB.out
    refine bodyPost_ret (v := .agg #[.slice ra ln rc, .slice (some ⟨g, 0, none⟩) (lt + 1) cap, .slice (some ⟨g2', 0, none⟩) lm1 cap2]) (by simp [results, Tryd.results38, go_sem, z0, z1, z2]) rfl ?_
    have hzz := HZ.out
    obtain ⟨hr8, hT8, hcA8, hcu8, hn8⟩ := HB8.out
    have hfin := sp_end (c := c) (N := N) (M := M) (tc := cap) hsb hcs (hcA8.trans (hcS.mono (fun k e => Or.inr (by omega)))) (hcu8.keep hcS (fun b hb => by omega)) (by omega) (hr8.far (fun k hk => hcS.block k (hr8.own hk).2 (by have := (hr8.own hk).1; omega))) (hn8.far (fun k hk => hcS.block k (hn8.own hk).2 (by have := (hn8.own hk).1; omega))) (hT8.keep (fun k hk e => hcS.block k hk (by have := hT8.lo k e; omega))) ⟨hzz.r, by have := hzz.t; simp; omega, by have := hzz.n; simp; omega, fun i hi => by
      simp only [List.length_append, List.length_singleton] at hi
      by_cases e2 : i < st.2.1.length
      · simp only [tPath_snoc e2]
        have := hzz.p i e2
        omega
      · rw [show i = st.2.1.length by omega]
        simp only [tPath_last]
        have := hzz.p u HUS.out
        omega⟩ hR
    rw [List.length_append, List.length_singleton, HLT.out] at hfin
    exact hfin
end Go.Proofs.YtmjjigdnoiphbaaDoor
