import Derived.Test.YtmjjigdnoiphbaaDoorK3
import Derived.Deep.DrawnRows
import Derived.Deep.RegionHeld3
/-
  (*l5Cur).spoil: a path grows by one.
-/
namespace Go.Proofs.YtmjjigdnoiphbaaDoor
open Go.RowKit Go.Deep
set_option linter.unusedVariables false
attribute [local go_sem ↓] Go.wp_at_zero Go.wp_at_succ

set_option maxHeartbeats 40000000 in
set_option maxRecDepth 8000 in
theorem spoil_in1 {w : World} {cb : Nat} {a : Option Addr} {B : List Int} {q : Nat} {c : Cu} (h : CurF w cb a B q c) (hk : c.1 ≤ 700000) {v : Value} {st : St} {N M : Nat} (hS : StateAt w v st) (hz : Sz N M st) (hN : N ≤ 100) (hM : M ≤ 100) (h0 : 0 < st.1.length) (hp : 3 ≤ (pk B 9 c).1) (ht : 0 < st.2.1.length) (hj : (pk B 6 (pk B (st.2.1.length : Int) (pk B 9 c).2).2).1 = 1) :
    Calls Tryd.prog 38 #[.pointer (some ⟨cb, 0, none⟩), v] w (SpPost w cb a B q c N M) := by
  have HC := hide h
  have HS := hide hS
  have HZ := hide hz
  have HM := hide (hz.small (by omega) (by omega))
  have hcb := h.lt
  obtain ⟨a1, q1, a2, q2, a3, q3, rfl⟩ := hS.form
  clear h hS hz
  go_enter Tryd.func38, Tryd.ntmps38
  go_wp2_with fail
  refine (l1copy_own _ st _ (HS.out.below (Joins.below_alloc2 _ _ _)) HM.out).mono ?_
  rintro e w1 ⟨L, rfl, hL, hb1⟩
  obtain ⟨ra, rc, ta, tc, na, nc, pa, pc⟩ := L
  simp only [Lies.val]
  have hBS : ((w.alloc (.cells #[.slice a1 st.1.length q1, .slice a2 st.2.1.length q2, .slice a3 st.2.2.length q3] 26)).alloc (.cells #[.slice none 0 0, .slice none 0 0, .slice none 0 0] 26)).heap.size = w.heap.size + 2 := by simp
  rw [hBS] at hL
  have hd0 : w1.heap[w.heap.size]? = some (.cells #[.slice a1 st.1.length q1, .slice a2 st.2.1.length q2, .slice a3 st.2.2.length q3] 26 (0, 0)) := (hb1.block w.heap.size (by simp; omega)).trans (blockLater (Joins.below_alloc1 _ _) (heap_alloc_new w _))
  have hd1 : w1.heap[w.heap.size + 1]? = some (.cells #[.slice none 0 0, .slice none 0 0, .slice none 0 0] 26 (0, 0)) := (hb1.block (w.heap.size + 1) (by simp)).trans (heap_alloc2_new _ _ _)
  obtain ⟨v0, v1, v2, vf⟩ := block3 hd0
  have vf0 := vf 0
  have vf1 := vf 1
  have vf2 := vf 2
  have HD0 := hide hd0
  have HD1 := hide hd1
  have hz1 : w.heap.size + 2 ≤ w1.heap.size := by have := hb1.size; simpa using this
  have HB1 := hide (below_tail (Joins.below_alloc2 w (.cells #[.slice a1 st.1.length q1, .slice a2 st.2.1.length q2, .slice a3 st.2.2.length q3] 26) (.cells #[.slice none 0 0, .slice none 0 0, .slice none 0 0] 26)) hb1)
  have HL := hide hL
  clear hL hd0 hd1 vf hb1 hBS HS HM
  go_wp2_with fail
  have hc : Chg (fun q => q = w.heap.size) w1 (((w1.setCell ⟨w.heap.size, 0, none⟩ (.slice ra st.1.length rc)).setCell ⟨w.heap.size, 1, none⟩ (.slice ta st.2.1.length tc)).setCell ⟨w.heap.size, 2, none⟩ (.slice na st.2.2.length nc)) :=
    Chg.setCell (F := fun q => q = w.heap.size) (Chg.setCell (F := fun q => q = w.heap.size) (Chg.setCell (F := fun q => q = w.heap.size) (Chg.refl _ _) rfl _) rfl _) rfl _
  have hvar := block3_set2 (block3_set1 (block3_set0 HD0.out (.slice ra st.1.length rc)) (.slice ta st.2.1.length tc)) (.slice na st.2.2.length nc)
  generalize ((w1.setCell ⟨w.heap.size, 0, none⟩ (.slice ra st.1.length rc)).setCell ⟨w.heap.size, 1, none⟩ (.slice ta st.2.1.length tc)).setCell ⟨w.heap.size, 2, none⟩ (.slice na st.2.2.length nc) = W2 at *
  have hzW := hc.size
  have hch2 : Chg (fun b => b = cb) w W2 := Chg.of_below (HB1.out.trans (hc.below (by omega) (fun k hk e => by omega)))
  refine (pick_f (HC.out.below (HB1.out.trans (hc.below (by omega) (fun k hk e => by omega)))) (by omega) 9 (by decide)).mono ?_
  rintro e w3 ⟨rfl, hcu3, hch3⟩
  obtain ⟨p0, hp0⟩ : ∃ p0 : Nat, (pk B 9 c).1 = (p0 : Int) := ⟨(pk B 9 c).1.toNat, by omega⟩
  rw [hp0]
  have hq0 : ((p0 : Int) == 0) = false := by rw [beq_eq_false_iff_ne]; omega
  have hq1 : ((p0 : Int) == 1) = false := by rw [beq_eq_false_iff_ne]; omega
  have hq2 : ((p0 : Int) == 2) = false := by rw [beq_eq_false_iff_ne]; omega
  have hr0 : ¬ (p0 : Int) = 0 := by omega
  have hr1 : ¬ (p0 : Int) = 1 := by omega
  have hr2 : ¬ (p0 : Int) = 2 := by omega
  clear hp0
  have hk3 := (pk_k B 9 c).2
  generalize (pk B 9 c).2 = c3 at *
  obtain ⟨sb, hsb⟩ : ∃ sb, sb = w.heap.size := ⟨_, rfl⟩
  have HSB := hide hsb
  have HV := hide ((hch3.block w.heap.size (by omega) (by omega)).trans hvar)
  have HR := hide ((hch3.block (w.heap.size + 1) (by omega) (by omega)).trans ((hc.block (w.heap.size + 1) (by omega) (by omega)).trans HD1.out))
  have HL3 : Hid (Cpd (w.heap.size + 2) w3 ⟨ra, rc, ta, tc, na, nc, pa, pc⟩ st) := (HL.out.chg hc (fun k e => by omega)).chg hch3 (fun k e => by omega)
  have HCH3 : Hid (Chg (fun b => b = cb) w w3) := hch2.trans hch3
  have HCU3 := hide hcu3
  rw [← hsb] at HV HR HL3 ⊢
  clear hc hvar hch2 hcu3 hch3 hp hzW HD0 HD1 HL HC v0 v1 v2 vf0 vf1 vf2 HB1
  have hcs : cb < sb := by omega
  have hs3 : sb + 1 < w3.heap.size := (Array.getElem?_eq_some_iff.1 HR.out).1
  have hr41 : st.1.length ≤ 41 := HZ.out.r
  have ht100 : st.2.1.length ≤ 100 := by have := HZ.out.t; omega
  have hn100 : st.2.2.length ≤ 100 := by have := HZ.out.n; omega
  generalize hln : st.1.length = ln at *
  generalize hlt : st.2.1.length = lt at *
  generalize hlm : st.2.2.length = lm at *
  have HLN := hide hln
  have HLT := hide hlt
  have HLM := hide hlm
  obtain ⟨s0, s1, s2, sf⟩ := block3 HV.out
  obtain ⟨gt, hgt⟩ : ∃ gt, ta = some ⟨gt, 0, none⟩ := by
    rcases HL3.out.t.2 with ⟨e, e'⟩ | ⟨g, cap, cur, e, _⟩
    · omega
    · simp only [Value.slice.injEq] at e; exact ⟨g, e.1⟩
  subst hgt
  have a1' := pk_lo B (lt : Int) c3
  have a2' := pk_hi B c3 (show (1 : Int) ≤ (lt : Int) by omega)
  have a3' := (pk_k B (lt : Int) c3).2
  generalize hP1 : pk B (lt : Int) c3 = P1 at *
  obtain ⟨u, hu⟩ : ∃ u : Nat, P1.1 = (u : Int) := ⟨P1.1.toNat, by omega⟩
  have hul : u < lt := by omega
  have hq3 : ((lt : Int) == 0) = false := by rw [beq_eq_false_iff_ne]; omega
  have hr3 : ¬ (lt : Int) = 0 := by omega
  have hr4 : ¬ lt = 0 := by omega
  have HP1 := hide hP1
  have HU := hide hu
  have HJ := hide hj
  clear hsb hln hlt hlm hP1 hu hj a1' a2'
  go_wp2_with fail
  refine (pick_f HCU3.out (by omega) (lt : Int) (by omega)).mono ?_
  rw [HP1.out]
  rintro e w4 ⟨rfl, hcu4, hch4⟩
  rw [HU.out]
  have huu0 : (0 : Int) ≤ (u : Int) := by omega
  have huu1 : (u : Int) < (lt : Int) := by omega
  obtain ⟨t0, t1, t2, tf⟩ := block3 (chg_row hch4 HV.out (by omega))
  clear s0 s1 s2 sf
  go_wp2_with fail
  refine (pick_f hcu4 (by omega) 6 (by decide)).mono ?_
  rintro e w5 ⟨rfl, hcu5, hch5⟩
  rw [HJ.out]
  have hk5 := (pk_k B 6 P1.2).2
  generalize (pk B 6 P1.2).2 = c5 at *
  have HC5 : Hid (Chg (fun b => b = cb) w3 w5) := hch4.trans hch5
  have HV5 := hide (chg_row HC5.out HV.out (by omega))
  have HR5 := hide (chg_row HC5.out HR.out (by omega))
  have HL5 : Hid (Cpd (sb + 2) w5 ⟨ra, rc, some ⟨gt, 0, none⟩, tc, na, nc, pa, pc⟩ st) := HL3.out.chg HC5.out (fun k e => by omega)
  have HCU5 := hide hcu5
  have HCH5 : Hid (Chg (fun b => b = cb) w w5) := HCH3.out.trans HC5.out
  have hs5 : sb + 1 < w5.heap.size := (Array.getElem?_eq_some_iff.1 HR5.out).1
  have hgt2 : sb + 2 ≤ gt := HL5.out.new gt (Or.inr (Or.inr (Or.inl (FA_mk _ _))))
  have hgtl : gt < w5.heap.size := HL5.out.own.apart.lt gt (Or.inr (Or.inr (Or.inl (FA_mk _ _))))
  have HSP : Hid (SpT (sb + 2) w5 gt st.2.1 pa pc u) := HL5.out.spT rfl (by rw [HLT.out]; exact hul)
  have hus : u < st.2.1.length := by rw [HLT.out]; exact hul
  have HUS := hide hus
  clear hcu4 hch4 hcu5 hch5 HV HR HL3 HCU3 HCH3 t0 t1 t2 tf hus HJ
  obtain ⟨s0, s1, s2, sf⟩ := block3 HV5.out
  have hC0 : Chg (fun b => b = cb) w5 w5 := Chg.refl _ _
  obtain ⟨b', off', eT, g0, g1, g2, gf⟩ := (HSP.out.keep hC0.size (fun q h1 h2 => hC0.block q h2 (by omega))).t.row u HUS.out
  simp only [Option.some.injEq, Addr.mk.injEq, and_true] at eT
  obtain ⟨rfl, rfl⟩ := eT
  have gf0 := gf 0 (by omega)
  have gf1 := gf 1 (by omega)
  have gf2 := gf 2 (by omega)
  rw [Nat.zero_add] at g0 g1 g2 gf0 gf1 gf2
  rw [Nat.add_zero] at gf0
  obtain ⟨i0, hi0, hz0, hz1', hz2⟩ := info_parts Tryd.infoInt
  have HJ1 := hide hi0
  have HJ2 := hide hz0
  have HJ3 := hide hz1'
  have HJ4 := hide hz2
  clear hi0 hz0 hz1' hz2
  generalize hpl : (tPath st.2.1 u).length = pl at *
  have hpl100 : pl ≤ 100 := by have := HZ.out.p u HUS.out; omega
  have HPL := hide hpl
  have b1' := pk_lo B ((ln : Int) + 2) c5
  have b2' := pk_hi B c5 (show (1 : Int) ≤ (ln : Int) + 2 by omega)
  have b3' := (pk_k B ((ln : Int) + 2) c5).2
  generalize hP3 : pk B ((ln : Int) + 2) c5 = P3 at *
  obtain ⟨x3, hx3⟩ : ∃ x3 : Nat, P3.1 = (x3 : Int) := ⟨P3.1.toNat, by omega⟩
  obtain ⟨y, hy⟩ : ∃ y : Int, (x3 : Int) - 1 = y := ⟨_, rfl⟩
  have hw2 : IntKind.i64.wrap ((x3 : Int) - 1) = y := by rw [IntKind.wrap_i64]; omega
  have hw4 : IntKind.i64.wrap y = y := by rw [IntKind.wrap_i64]; omega
  have hw3 : IntKind.i64.wrap ((ln : Int) + 2) = (ln : Int) + 2 := by rw [IntKind.wrap_i64]; omega
  have HPF : Hid (∀ W : World, Below w5.heap.size w5 W → Calls Tryd.prog 37 #[.pointer (some ⟨cb, 0, none⟩), .int .i64 ((ln : Int) + 2)] W fun e w' => e = .returned (.int .i64 (x3 : Int)) ∧ CurF w' cb a B q P3.2 ∧ Chg (fun b => b = cb) w5 w') := fun W hW => by
    have := pick_f (HCU5.out.below hW) (by omega) ((ln : Int) + 2) (by omega)
    rw [hP3, hx3] at this
    exact this.mono (fun e w' ⟨x1, x2, x3⟩ => ⟨x1, x2, (Chg.of_below hW).trans x3⟩)
  have HG6 : Hid (∀ W, Chg (fun b => b = cb) w5 W → SpT (sb + 2) W gt st.2.1 pa pc u ∧ OwnInts (sb + 2) W (.slice (pa u) pl (pc u)) (tPath st.2.1 u) ∧ W.cell? ⟨gt, u * 3 + 1, none⟩ = some (.slice (pa u) pl (pc u))) := fun W hW => by
    have h1 := HSP.out.keep hW.size (fun q h1 h2 => hW.block q h2 (by omega))
    have h2 := h1.own
    rw [hpl] at h2
    exact ⟨h1, h2, chg_cell hW g1 (by omega)⟩
  have HG7 : Hid (∀ w6 W, Chg (fun b => b = cb) w5 w6 → Chg (fun b => Value.ownBlock (.slice (pa u) pl (pc u)) = some b) w6 W → W.cell? ⟨gt, u * 3 + 1, none⟩ = some (.slice (pa u) pl (pc u)) ∧ W.frozen? ⟨gt, u * 3 + 1, none⟩ = false) := fun w6 W h6 hW => by
    obtain ⟨h1, h2, h3⟩ := HG6.out w6 h6
    have hgt6 : gt < w6.heap.size := World.block_lt_of_cell? _ _ h3
    have hne : Value.ownBlock (.slice (pa u) pl (pc u)) ≠ some gt := fun e => h1.t.ne u gt HUS.out (h2.fa e) (FA_mk _ _)
    refine ⟨(World.cell?_of_block (a := ⟨gt, u * 3 + 1, none⟩) (hW.block gt hgt6 hne)).trans h3, ?_⟩
    rw [World.frozen?_of_block (a := ⟨gt, u * 3 + 1, none⟩) (hW.block gt hgt6 hne), chg_frozen h6 hgtl (by omega)]
    exact gf1
  have HPO : Hid (∀ W : World, OwnInts (sb + 2) W (.slice (pa u) pl (pc u)) (tPath st.2.1 u) → W.ownsRow (sb + 2) 3 1 (.slice (pa u) pl (pc u)) pl ((tPath st.2.1 u).map (Value.int .i64))) := fun W h => by
    unfold OwnInts at h
    rw [hpl] at h
    exact h
  have hc3 : pl + 1 ≤ maxLen := by unfold maxLen; omega
  have hc4 : (pl + 1) * 8 ≤ 140737488355328 := by omega
  have HC3 := hide hc3
  have HC4 := hide hc4
  clear hP3 hx3 b1' b2' hpl hC0 gf sf hc3 hc4 s1 s2
  go_wp2_with fail
  go_region_law (first | (go_simp; go_at_call 37; refine (HPF.out _ ?_).mono ?_; (exact ((Below.refl _ _).drew)); rintro e w6 ⟨rfl, hcu6, HC6⟩; have hz6 := HC6.size; obtain ⟨h1, h2, h3⟩ := HG6.out w6 HC6; have HO6 : Hid (w6.ownsRow (sb + 2) 3 1 (.slice (pa u) pl (pc u)) pl ((tPath st.2.1 u).map (Value.int .i64))) := HPO.out w6 h2; have hnG6 : ¬ gt = w6.heap.size := (by omega); have h3' := cell_later (Joins.below_alloc1 w6 (.cells #[.int .i64 y] 3)) h3; clear h1 h2) | (refine step_append_lies _ (by rfl) _ _ _ (by rfl) (sb + 2) 3 i0 _ 1 8 Tryd.underlying23 HJ1.out HJ2.out HJ3.out HJ4.out rfl (by omega) (.slice (pa u) pl (pc u)) _ _ (by rfl) (HO6.out.alloc _) ⟨w6.heap.size, 0, none⟩ 1 1 [.int .i64 y] (by rfl) (by rfl) (World.news_of_block (cs := #[.int .i64 y]) (t := 3) (fr := (0, 0)) (heap_alloc_new w6 _)) (by simp [Value.oneCell']) (by omega) HC3.out HC4.out (by simp; omega) (w6.heap.size + 1) (by simp) ?_; intro g cap w7 hown hgrow hat hlt7; have hc7 : Chg (fun b => Value.ownBlock (.slice (pa u) pl (pc u)) = some b) w6 w7 := grown_chg (Joins.below_alloc1 w6 _) hgrow; obtain ⟨y1, yf1⟩ := HG7.out w6 w7 HC6 hc7))
  all_goals
    obtain ⟨h1, h2, -⟩ := HG6.out w6 HC6
    have hT7 := h1.push (x := y) (w' := w7) (g := g) (cap := cap) (by omega) (Joins.below_alloc1 w6 (.cells #[.int .i64 y] 3)) (by rw [← HPL.out] at hown; exact OwnInts.snoc hown) (by rw [HPL.out]; exact hgrow) (by
      rw [HPL.out]
      rcases hat with e | e
      · exact Or.inl e
      · exact Or.inr (by rw [e]; simp))
    rw [Nat.zero_add, HPL.out] at hT7
    have hownFA : ∀ k, Value.ownBlock (.slice (pa u) pl (pc u)) = some k → FA (pa u) k := fun k hk => h2.fa hk
    have hlo : ∀ k, Value.ownBlock (.slice (pa u) pl (pc u)) = some k → sb + 2 ≤ k := fun k hk => (h2.own hk).1
    have hvF := (hc7.block sb (by omega) (fun e => by have := hlo _ e; omega)).trans (chg_row HC6 HV5.out (by omega))
    have hrF := (hc7.block (sb + 1) (by omega) (fun e => by have := hlo _ e; omega)).trans (chg_row HC6 HR5.out (by omega))
    have hs7 : sb + 1 < w7.heap.size := (Array.getElem?_eq_some_iff.1 hrF).1
    have hcG : Chg (fun b => b = gt) w7 (w7.setCell ⟨gt, u * 3 + 1, none⟩ (.slice (some ⟨g, 0, none⟩) (pl + 1) cap)) := Chg.setCell (F := fun b => b = gt) (p := ⟨gt, u * 3 + 1, none⟩) (Chg.refl _ _) rfl _
    have hvG := (hcG.block sb (by omega) (by omega)).trans hvF
    have hrG := (hcG.block (sb + 1) (by omega) (by omega)).trans hrF
    generalize w7.setCell ⟨gt, u * 3 + 1, none⟩ (.slice (some ⟨g, 0, none⟩) (pl + 1) cap) = WF at *
    obtain ⟨d0, d1, d2, df⟩ := block3 hvG
    obtain ⟨e0, e1, e2, ef⟩ := block3 hrG
    have HRF := hide hrG
    have ef0 := ef 0
    have ef1 := ef 1
    have ef2 := ef 2
    have HT7 := hide hT7.t
    have HC7 := hide (And.intro HC6 (And.intro hc7 (And.intro hcG (And.intro hownFA (And.intro hlo hcu6)))))
    clear h1 h2 hT7 hownFA hlo hvF hrF hvG hrG hcG ef df y1 yf1 hown hgrow hat hlt7 hc7 hcu6 HC6 h3 h3' s0 HG6 HG7 HPF HO6
    go_wp2_with fail
    have hR : Chg (fun b => b = sb + 1) WF (((WF.setCell ⟨sb + 1, 0, none⟩ (.slice ra ln rc)).setCell ⟨sb + 1, 1, none⟩ (.slice (some ⟨gt, 0, none⟩) lt tc)).setCell ⟨sb + 1, 2, none⟩ (.slice na lm nc)) :=
      Chg.setCell (F := fun b => b = sb + 1) (Chg.setCell (F := fun b => b = sb + 1) (Chg.setCell (F := fun b => b = sb + 1) (Chg.refl _ _) rfl _) rfl _) rfl _
    have hvar := block3_set2 (block3_set1 (block3_set0 HRF.out (.slice ra ln rc)) (.slice (some ⟨gt, 0, none⟩) lt tc)) (.slice na lm nc)
    generalize ((WF.setCell ⟨sb + 1, 0, none⟩ (.slice ra ln rc)).setCell ⟨sb + 1, 1, none⟩ (.slice (some ⟨gt, 0, none⟩) lt tc)).setCell ⟨sb + 1, 2, none⟩ (.slice na lm nc) = WR at *
    obtain ⟨z0, z1, z2, _⟩ := block3 hvar
    have hsb := HSB.out
    refine bodyPost_ret (v := .agg #[.slice ra ln rc, .slice (some ⟨gt, 0, none⟩) lt tc, .slice na lm nc]) (by simp [results, Tryd.results38, go_sem, z0, z1, z2]) rfl ?_
    have hzz := HZ.out
    obtain ⟨k1, k2, k3, k4, k5, k6⟩ := HC7.out
    obtain ⟨hr7, hn7⟩ := HL5.out.offT ((k1.mono (fun k e => Or.inr (by omega))).trans ((k2.mono (fun k e => Or.inl (Or.inr ⟨u, HUS.out, k4 k e⟩))).trans (k3.mono (fun k e => Or.inl (Or.inl (by rw [e]; exact FA_mk _ _))))))
    simp only [HLN.out] at hr7
    simp only [HLM.out] at hn7
    have hfin := sp_end (c := c) (N := N) (M := M) (tc := tc) hsb hcs ((HCH5.out.mono (fun k e => Or.inl e)).trans ((k1.mono (fun k e => Or.inl e)).trans ((k2.mono (fun k e => Or.inr (by have := k5 k e; omega))).trans (k3.mono (fun k e => Or.inr (by omega)))))) ((k6.keep k2 (fun b hb e => by have := k5 b e; omega)).keep k3 (fun b hb => by omega)) (by omega) hr7 hn7 HT7.out ⟨hzz.r, by have := hzz.t; simp; omega, by have := hzz.n; simp; omega, fun i hi => by
      simp only [List.length_set] at hi
      simp only [tPath_set _ _ HUS.out]
      have h1 := hzz.p i hi
      have h2 := hzz.p u HUS.out
      split
      · simp <;> omega
      · simp <;> omega⟩ hR
    rw [List.length_set, HLT.out] at hfin
    exact hfin
end Go.Proofs.YtmjjigdnoiphbaaDoor

/-
  (*l5Cur).spoil: a path that is too long.
-/
namespace Go.Proofs.YtmjjigdnoiphbaaDoor
open Go.RowKit Go.Deep
set_option linter.unusedVariables false
attribute [local go_sem ↓] Go.wp_at_zero Go.wp_at_succ

theorem wrapN8 (x : Nat) (h : x < 2) : wrap64 (8 + (x : Int)) = 8 + (x : Int) := by unfold wrap64; omega
theorem Chg.cut2 {F : Nat → Prop} {w w1 : World} (h : Chg (fun b => F b ∨ w.heap.size ≤ b) w w1) : Chg F w w1 :=
  ⟨h.os, h.tape, h.output, h.size, fun k hk hf => h.block k hk (fun e => by
    rcases e with e | e
    · exact hf e
    · omega)⟩
/-- how long the path at a cell is -/
def pathLen (w : World) (b o : Nat) : Nat :=
  match w.cell? ⟨b, o, none⟩ with
  | some (.slice _ n _) => n
  | _ => 0
theorem pathLen_at {w : World} {b o : Nat} {a : Option Addr} {n c : Nat} (h : w.cell? ⟨b, o, none⟩ = some (.slice a n c)) : pathLen w b o = n := by unfold pathLen; rw [h]

set_option maxHeartbeats 40000000 in
set_option maxRecDepth 8000 in
theorem spoil_in2 {w : World} {cb : Nat} {a : Option Addr} {B : List Int} {q : Nat} {c : Cu} (h : CurF w cb a B q c) (hk : c.1 ≤ 700000) {v : Value} {st : St} {N M : Nat} (hS : StateAt w v st) (hz : Sz N M st) (hN : N ≤ 100) (hM : M ≤ 100) (h0 : 0 < st.1.length) (hp : 3 ≤ (pk B 9 c).1) (ht : 0 < st.2.1.length) (hj : (pk B 6 (pk B (st.2.1.length : Int) (pk B 9 c).2).2).1 = 2) :
    Calls Tryd.prog 38 #[.pointer (some ⟨cb, 0, none⟩), v] w (SpPost w cb a B q c N M) := by
  have HC := hide h
  have HS := hide hS
  have HZ := hide hz
  have HM := hide (hz.small (by omega) (by omega))
  have hcb := h.lt
  obtain ⟨a1, q1, a2, q2, a3, q3, rfl⟩ := hS.form
  clear h hS hz
  go_enter Tryd.func38, Tryd.ntmps38
  go_wp2_with fail
  refine (l1copy_own _ st _ (HS.out.below (Joins.below_alloc2 _ _ _)) HM.out).mono ?_
  rintro e w1 ⟨L, rfl, hL, hb1⟩
  obtain ⟨ra, rc, ta, tc, na, nc, pa, pc⟩ := L
  simp only [Lies.val]
  have hBS : ((w.alloc (.cells #[.slice a1 st.1.length q1, .slice a2 st.2.1.length q2, .slice a3 st.2.2.length q3] 26)).alloc (.cells #[.slice none 0 0, .slice none 0 0, .slice none 0 0] 26)).heap.size = w.heap.size + 2 := by simp
  rw [hBS] at hL
  have hd0 : w1.heap[w.heap.size]? = some (.cells #[.slice a1 st.1.length q1, .slice a2 st.2.1.length q2, .slice a3 st.2.2.length q3] 26 (0, 0)) := (hb1.block w.heap.size (by simp; omega)).trans (blockLater (Joins.below_alloc1 _ _) (heap_alloc_new w _))
  have hd1 : w1.heap[w.heap.size + 1]? = some (.cells #[.slice none 0 0, .slice none 0 0, .slice none 0 0] 26 (0, 0)) := (hb1.block (w.heap.size + 1) (by simp)).trans (heap_alloc2_new _ _ _)
  obtain ⟨v0, v1, v2, vf⟩ := block3 hd0
  have vf0 := vf 0
  have vf1 := vf 1
  have vf2 := vf 2
  have HD0 := hide hd0
  have HD1 := hide hd1
  have hz1 : w.heap.size + 2 ≤ w1.heap.size := by have := hb1.size; simpa using this
  have HB1 := hide (below_tail (Joins.below_alloc2 w (.cells #[.slice a1 st.1.length q1, .slice a2 st.2.1.length q2, .slice a3 st.2.2.length q3] 26) (.cells #[.slice none 0 0, .slice none 0 0, .slice none 0 0] 26)) hb1)
  have HL := hide hL
  clear hL hd0 hd1 vf hb1 hBS HS HM
  go_wp2_with fail
  have hc : Chg (fun q => q = w.heap.size) w1 (((w1.setCell ⟨w.heap.size, 0, none⟩ (.slice ra st.1.length rc)).setCell ⟨w.heap.size, 1, none⟩ (.slice ta st.2.1.length tc)).setCell ⟨w.heap.size, 2, none⟩ (.slice na st.2.2.length nc)) :=
    Chg.setCell (F := fun q => q = w.heap.size) (Chg.setCell (F := fun q => q = w.heap.size) (Chg.setCell (F := fun q => q = w.heap.size) (Chg.refl _ _) rfl _) rfl _) rfl _
  have hvar := block3_set2 (block3_set1 (block3_set0 HD0.out (.slice ra st.1.length rc)) (.slice ta st.2.1.length tc)) (.slice na st.2.2.length nc)
  generalize ((w1.setCell ⟨w.heap.size, 0, none⟩ (.slice ra st.1.length rc)).setCell ⟨w.heap.size, 1, none⟩ (.slice ta st.2.1.length tc)).setCell ⟨w.heap.size, 2, none⟩ (.slice na st.2.2.length nc) = W2 at *
  have hzW := hc.size
  have hch2 : Chg (fun b => b = cb) w W2 := Chg.of_below (HB1.out.trans (hc.below (by omega) (fun k hk e => by omega)))
  refine (pick_f (HC.out.below (HB1.out.trans (hc.below (by omega) (fun k hk e => by omega)))) (by omega) 9 (by decide)).mono ?_
  rintro e w3 ⟨rfl, hcu3, hch3⟩
  obtain ⟨p0, hp0⟩ : ∃ p0 : Nat, (pk B 9 c).1 = (p0 : Int) := ⟨(pk B 9 c).1.toNat, by omega⟩
  rw [hp0]
  have hq0 : ((p0 : Int) == 0) = false := by rw [beq_eq_false_iff_ne]; omega
  have hq1 : ((p0 : Int) == 1) = false := by rw [beq_eq_false_iff_ne]; omega
  have hq2 : ((p0 : Int) == 2) = false := by rw [beq_eq_false_iff_ne]; omega
  have hr0 : ¬ (p0 : Int) = 0 := by omega
  have hr1 : ¬ (p0 : Int) = 1 := by omega
  have hr2 : ¬ (p0 : Int) = 2 := by omega
  clear hp0
  have hk3 := (pk_k B 9 c).2
  generalize (pk B 9 c).2 = c3 at *
  obtain ⟨sb, hsb⟩ : ∃ sb, sb = w.heap.size := ⟨_, rfl⟩
  have HSB := hide hsb
  have HV := hide ((hch3.block w.heap.size (by omega) (by omega)).trans hvar)
  have HR := hide ((hch3.block (w.heap.size + 1) (by omega) (by omega)).trans ((hc.block (w.heap.size + 1) (by omega) (by omega)).trans HD1.out))
  have HL3 : Hid (Cpd (w.heap.size + 2) w3 ⟨ra, rc, ta, tc, na, nc, pa, pc⟩ st) := (HL.out.chg hc (fun k e => by omega)).chg hch3 (fun k e => by omega)
  have HCH3 : Hid (Chg (fun b => b = cb) w w3) := hch2.trans hch3
  have HCU3 := hide hcu3
  rw [← hsb] at HV HR HL3 ⊢
  clear hc hvar hch2 hcu3 hch3 hp hzW HD0 HD1 HL HC v0 v1 v2 vf0 vf1 vf2 HB1
  have hcs : cb < sb := by omega
  have hs3 : sb + 1 < w3.heap.size := (Array.getElem?_eq_some_iff.1 HR.out).1
  have hr41 : st.1.length ≤ 41 := HZ.out.r
  have ht100 : st.2.1.length ≤ 100 := by have := HZ.out.t; omega
  have hn100 : st.2.2.length ≤ 100 := by have := HZ.out.n; omega
  generalize hln : st.1.length = ln at *
  generalize hlt : st.2.1.length = lt at *
  generalize hlm : st.2.2.length = lm at *
  have HLN := hide hln
  have HLT := hide hlt
  have HLM := hide hlm
  obtain ⟨s0, s1, s2, sf⟩ := block3 HV.out
  obtain ⟨gt, hgt⟩ : ∃ gt, ta = some ⟨gt, 0, none⟩ := by
    rcases HL3.out.t.2 with ⟨e, e'⟩ | ⟨g, cap, cur, e, _⟩
    · omega
    · simp only [Value.slice.injEq] at e; exact ⟨g, e.1⟩
  subst hgt
  have a1' := pk_lo B (lt : Int) c3
  have a2' := pk_hi B c3 (show (1 : Int) ≤ (lt : Int) by omega)
  have a3' := (pk_k B (lt : Int) c3).2
  generalize hP1 : pk B (lt : Int) c3 = P1 at *
  obtain ⟨u, hu⟩ : ∃ u : Nat, P1.1 = (u : Int) := ⟨P1.1.toNat, by omega⟩
  have hul : u < lt := by omega
  have hq3 : ((lt : Int) == 0) = false := by rw [beq_eq_false_iff_ne]; omega
  have hr3 : ¬ (lt : Int) = 0 := by omega
  have hr4 : ¬ lt = 0 := by omega
  have HP1 := hide hP1
  have HU := hide hu
  have HJ := hide hj
  clear hsb hln hlt hlm hP1 hu hj a1' a2'
  go_wp2_with fail
  refine (pick_f HCU3.out (by omega) (lt : Int) (by omega)).mono ?_
  rw [HP1.out]
  rintro e w4 ⟨rfl, hcu4, hch4⟩
  rw [HU.out]
  have huu0 : (0 : Int) ≤ (u : Int) := by omega
  have huu1 : (u : Int) < (lt : Int) := by omega
  obtain ⟨t0, t1, t2, tf⟩ := block3 (chg_row hch4 HV.out (by omega))
  clear s0 s1 s2 sf
  go_wp2_with fail
  refine (pick_f hcu4 (by omega) 6 (by decide)).mono ?_
  rintro e w5 ⟨rfl, hcu5, hch5⟩
  rw [HJ.out]
  have hk5 := (pk_k B 6 P1.2).2
  generalize (pk B 6 P1.2).2 = c5 at *
  have HC5 : Hid (Chg (fun b => b = cb) w3 w5) := hch4.trans hch5
  have HV5 := hide (chg_row HC5.out HV.out (by omega))
  have HR5 := hide (chg_row HC5.out HR.out (by omega))
  have HL5 : Hid (Cpd (sb + 2) w5 ⟨ra, rc, some ⟨gt, 0, none⟩, tc, na, nc, pa, pc⟩ st) := HL3.out.chg HC5.out (fun k e => by omega)
  have HCU5 := hide hcu5
  have HCH5 : Hid (Chg (fun b => b = cb) w w5) := HCH3.out.trans HC5.out
  have hs5 : sb + 1 < w5.heap.size := (Array.getElem?_eq_some_iff.1 HR5.out).1
  have hgt2 : sb + 2 ≤ gt := HL5.out.new gt (Or.inr (Or.inr (Or.inl (FA_mk _ _))))
  have hgtl : gt < w5.heap.size := HL5.out.own.apart.lt gt (Or.inr (Or.inr (Or.inl (FA_mk _ _))))
  have HSP : Hid (SpT (sb + 2) w5 gt st.2.1 pa pc u) := HL5.out.spT rfl (by rw [HLT.out]; exact hul)
  have hus : u < st.2.1.length := by rw [HLT.out]; exact hul
  have HUS := hide hus
  clear hcu4 hch4 hcu5 hch5 HV HR HL3 HCU3 HCH3 t0 t1 t2 tf hus HJ
  obtain ⟨s0, s1, s2, sf⟩ := block3 HV5.out
  clear s0 s1 s2 sf
  go_wp2_with fail
  refine (pick_f HCU5.out (by omega) 2 (by decide)).mono ?_
  rintro e w6 ⟨rfl, hcu6, hch6⟩
  have b1' := pk_lo B 2 c5
  have b2' := pk_hi B c5 (show (1 : Int) ≤ 2 by omega)
  have b3' := (pk_k B 2 c5).2
  generalize hP3 : pk B 2 c5 = P3 at *
  obtain ⟨p2, hp2⟩ : ∃ p2 : Nat, P3.1 = (p2 : Int) := ⟨P3.1.toNat, by omega⟩
  have hp3 : p2 < 2 := by omega
  rw [hp2]
  obtain ⟨kk, hkk, hk9⟩ : ∃ kk : Nat, wrap64 (8 + (p2 : Int)) = (kk : Int) ∧ kk ≤ 9 := ⟨8 + p2, by rw [wrapN8 p2 hp3]; omega, by omega⟩
  clear hp3
  have HSP6 : Hid (SpT (sb + 2) w6 gt st.2.1 pa pc u) := HSP.out.keep hch6.size (fun q h1 h2 => hch6.block q h2 (by omega))
  have HV6 := hide (chg_row hch6 HV5.out (by omega))
  have HR6 := hide (chg_row hch6 HR5.out (by omega))
  have HL6 : Hid (Cpd (sb + 2) w6 ⟨ra, rc, some ⟨gt, 0, none⟩, tc, na, nc, pa, pc⟩ st) := HL5.out.chg hch6 (fun k e => by omega)
  have HCU6 := hide hcu6
  have HCH6 : Hid (Chg (fun b => b = cb) w w6) := HCH5.out.trans hch6
  have hs6 : sb + 1 < w6.heap.size := (Array.getElem?_eq_some_iff.1 HR6.out).1
  have hgt6 : gt < w6.heap.size := by have := hch6.size; omega
  obtain ⟨i0, hi0, hz0, hz1', hz2⟩ := info_parts Tryd.infoInt
  have HJ1 := hide hi0
  have HJ2 := hide hz0
  have HJ3 := hide hz1'
  have HJ4 := hide hz2
  clear hi0 hz0 hz1' hz2
  clear hP3 hp2 b1' b2' hcu6 hch6 HV5 HR5 HL5 HCU5 HCH5 HSP
  go_wp2_with fail
  rw [hkk]
  clear hkk
  go_loopw [80] (fun _ wr => ∃ (ts : List Tr) (pa' : Nat → Option Addr) (pc' : Nat → Nat), ts.length = st.2.1.length ∧ (∀ i, i < ts.length → (tPath ts i).length ≤ M + 9) ∧ SpT (sb + 2) wr gt ts pa' pc' u ∧ (∀ k, FA (pa' u) k → FA (pa u) k ∨ w6.heap.size ≤ k) ∧ Chg (fun b => (b = gt ∨ FA (pa u) b) ∨ w6.heap.size ≤ b) w6 wr) (fun _ wr => 9 - pathLen wr gt (u * 3 + 1))
  case atStart => exact ⟨st.2.1, pa, pc, rfl, fun i hi => by have := HZ.out.p i hi; omega, HSP6.out, fun k e => Or.inl e, Chg.refl _ _⟩
  case round =>
    obtain ⟨ts, pa', pc', htl, htp, hsp, hfa, hch⟩ := hrel
    have hu' : u < ts.length := hsp.k
    obtain ⟨b', off', eT, g0, g1, g2, gf⟩ := hsp.t.row u hu'
    simp only [Option.some.injEq, Addr.mk.injEq, and_true] at eT
    obtain ⟨rfl, rfl⟩ := eT
    have gf1 := gf 1 (by omega)
    rw [Nat.zero_add] at g0 g1 g2 gf1
    have HCH := hide hch
    have HSPW := hide hsp
    have HFA := hide hfa
    have HTP := hide htp
    have HTL := hide htl
    have HUL := hide hu'
    generalize hpl : (tPath ts u).length = pl at *
    have HPL := hide hpl
    have hwz := hch.size
    by_cases hlx : pl < kk
    · have hlxi : (pl : Int) < (kk : Int) := by omega
      obtain ⟨y, hy⟩ : ∃ y : Nat, (pl : Int) % 2 = (y : Int) := ⟨pl % 2, by omega⟩
      have hyt : (pl : Int).tmod 2 = (y : Int) := by rw [Int.tmod_eq_emod_of_nonneg (by omega)]; exact hy
      have hyl : y < 2 := by omega
      have hyw : IntKind.i64.wrap (y : Int) = (y : Int) := by rw [IntKind.wrap_i64]; omega
      have HO6 : Hid (wr.ownsRow (sb + 2) 3 1 (.slice (pa' u) pl (pc' u)) pl ((tPath ts u).map (Value.int .i64))) := by
        have h := hsp.own
        unfold OwnInts at h
        rw [hpl] at h
        exact h
      have HG7 : Hid (∀ W, Chg (fun b => Value.ownBlock (.slice (pa' u) pl (pc' u)) = some b) wr W → W.cell? ⟨gt, u * 3 + 1, none⟩ = some (.slice (pa' u) pl (pc' u)) ∧ W.frozen? ⟨gt, u * 3 + 1, none⟩ = false) := fun W hW => by
        have h2 := hsp.own
        rw [hpl] at h2
        have hne : Value.ownBlock (.slice (pa' u) pl (pc' u)) ≠ some gt := fun e => hsp.t.ne u gt hu' (h2.fa e) (FA_mk _ _)
        have hgtw : gt < wr.heap.size := by omega
        refine ⟨(World.cell?_of_block (a := ⟨gt, u * 3 + 1, none⟩) (hW.block gt hgtw hne)).trans g1, ?_⟩
        rw [World.frozen?_of_block (a := ⟨gt, u * 3 + 1, none⟩) (hW.block gt hgtw hne)]
        exact gf1
      have hc3 : pl + 1 ≤ maxLen := by unfold maxLen; omega
      have hc4 : (pl + 1) * 8 ≤ 140737488355328 := by omega
      have HC3 := hide hc3
      have HC4 := hide hc4
      have hnGw : ¬ gt = wr.heap.size := by omega
      have g1' := cell_later (Joins.below_alloc1 wr (.cells #[.int .i64 (y : Int)] 3)) g1
      clear hc3 hc4 hsp hfa htp htl hch gf hpl
      go_wp2_with fail
      go_region_law (first | (refine step_append_lies _ (by rfl) _ _ _ (by rfl) (sb + 2) 3 i0 _ 1 8 Tryd.underlying23 HJ1.out HJ2.out HJ3.out HJ4.out rfl (by omega) (.slice (pa' u) pl (pc' u)) _ _ (by rfl) (HO6.out.alloc _) ⟨wr.heap.size, 0, none⟩ 1 1 [.int .i64 (y : Int)] (by rfl) (by rfl) (World.news_of_block (cs := #[.int .i64 (y : Int)]) (t := 3) (fr := (0, 0)) (heap_alloc_new wr _)) (by simp [Value.oneCell']) (by omega) HC3.out HC4.out (by simp; omega) (wr.heap.size + 1) (by simp) ?_; intro g cap w7 hown hgrow hat hlt7; have hc7 : Chg (fun b => Value.ownBlock (.slice (pa' u) pl (pc' u)) = some b) wr w7 := grown_chg ((Joins.below_alloc1 wr _).drew) hgrow; obtain ⟨y1, yf1⟩ := HG7.out w7 hc7))
      all_goals
        have hT7 := HSPW.out.push (x := (y : Int)) (w' := w7) (g := g) (cap := cap) (by omega) ((Joins.below_alloc1 wr (.cells #[.int .i64 (y : Int)] 3)).drew) (by rw [← HPL.out] at hown; exact OwnInts.snoc hown) (by rw [HPL.out]; exact hgrow) (by
          rw [HPL.out]
          rcases hat with e | e
          · exact Or.inl e
          · exact Or.inr (by rw [e]; simp))
        rw [Nat.zero_add, HPL.out] at hT7
        have HT7 := hide hT7
        have HC7 := hide hc7
        have HAT : Hid (Value.ownBlock (.slice (pa' u) pl (pc' u)) = some g ∨ wr.heap.size ≤ g) := by
          rcases hat with e | e
          · exact Or.inl e
          · exact Or.inr (by omega)
        clear hT7 hc7 hown hgrow hat hlt7 y1 yf1 HG7 HO6 g1'
        go_wp2_with fail
        go_roundw
        case rel =>
          have hOW : ∀ k, Value.ownBlock (.slice (pa' u) pl (pc' u)) = some k → FA (pa' u) k := fun k hk => by
            have h2 := HSPW.out.own
            rw [HPL.out] at h2
            exact h2.fa hk
          refine ⟨ts.set u (tAt ts u, tPath ts u ++ [(y : Int)], tWt ts u), upd pa' u (some ⟨g, 0, none⟩), upd pc' u cap, by rw [List.length_set]; exact HTL.out, fun i hi => ?_, HT7.out, fun k hk => ?_, ?_⟩
          · rw [List.length_set] at hi
            rw [tPath_set _ _ HUL.out]
            have h1 := HTP.out i hi
            have h2 := HPL.out
            split
            · simp; omega
            · exact h1
          · rw [upd_same] at hk
            rw [FA_some hk]
            rcases HAT.out with e | e
            · exact HFA.out g (hOW g e)
            · exact Or.inr (by omega)
          · refine HCH.out.trans ((HC7.out.mono (fun k e => ?_)).trans (Chg.setCell (F := fun b => (b = gt ∨ FA (pa u) b) ∨ w6.heap.size ≤ b) (p := ⟨gt, u * 3 + 1, none⟩) (Chg.refl _ _) (Or.inl (Or.inl rfl)) _))
            rcases HFA.out k (hOW k e) with e' | e'
            · exact Or.inl (Or.inr e')
            · exact Or.inr e'
        case measure =>
          have hm1 : pathLen wr gt (u * 3 + 1) = pl := pathLen_at g1
          obtain ⟨b', off', eT, -, x1, -⟩ := HT7.out.t.row u (by rw [List.length_set]; exact HUL.out)
          simp only [Option.some.injEq, Addr.mk.injEq, and_true] at eT
          obtain ⟨rfl, rfl⟩ := eT
          rw [Nat.zero_add] at x1
          rw [hm1, pathLen_at x1, tPath_set _ _ HUL.out, if_pos rfl]
          have h2 := HPL.out
          simp
          omega
    · have hlxi : ¬ ((pl : Int) < (kk : Int)) := by omega
      have hcF := Chg.cut2 hch
      have hPA : ∀ b, FA (pa u) b → sb + 2 ≤ b := fun b e => HL6.out.new b (Or.inr (Or.inr (Or.inr ⟨u, HUS.out, e⟩)))
      have hvF := (hcF.block sb (by omega) (fun e => by
        rcases e with e | e
        · omega
        · have := hPA _ e; omega)).trans HV6.out
      have hrF := (hcF.block (sb + 1) (by omega) (fun e => by
        rcases e with e | e
        · omega
        · have := hPA _ e; omega)).trans HR6.out
      have HPA := hide hPA
      obtain ⟨d0, d1, d2, df⟩ := block3 hvF
      obtain ⟨e0, e1, e2, ef⟩ := block3 hrF
      have HRF := hide hrF
      have ef0 := ef 0
      have ef1 := ef 1
      have ef2 := ef 2
      clear ef df hvF hrF hcF hPA hch hsp hfa htp htl hpl gf gf1 g0 g2
      go_wp2_with fail
      have hR : Chg (fun b => b = sb + 1) wr (((wr.setCell ⟨sb + 1, 0, none⟩ (.slice ra ln rc)).setCell ⟨sb + 1, 1, none⟩ (.slice (some ⟨gt, 0, none⟩) lt tc)).setCell ⟨sb + 1, 2, none⟩ (.slice na lm nc)) :=
        Chg.setCell (F := fun b => b = sb + 1) (Chg.setCell (F := fun b => b = sb + 1) (Chg.setCell (F := fun b => b = sb + 1) (Chg.refl _ _) rfl _) rfl _) rfl _
      have hvar := block3_set2 (block3_set1 (block3_set0 HRF.out (.slice ra ln rc)) (.slice (some ⟨gt, 0, none⟩) lt tc)) (.slice na lm nc)
      generalize ((wr.setCell ⟨sb + 1, 0, none⟩ (.slice ra ln rc)).setCell ⟨sb + 1, 1, none⟩ (.slice (some ⟨gt, 0, none⟩) lt tc)).setCell ⟨sb + 1, 2, none⟩ (.slice na lm nc) = WR at *
      obtain ⟨z0, z1, z2, _⟩ := block3 hvar
      have hsb := HSB.out
      refine bodyPost_ret (v := .agg #[.slice ra ln rc, .slice (some ⟨gt, 0, none⟩) lt tc, .slice na lm nc]) (by simp [results, Tryd.results38, go_sem, z0, z1, z2]) rfl ?_
      have hzz := HZ.out
      have hcF := Chg.cut2 HCH.out
      obtain ⟨hr7, hn7⟩ := HL6.out.offT (hcF.mono (fun k e => Or.inl (by
        rcases e with e | e
        · rw [e]; exact Or.inl (FA_mk _ _)
        · exact Or.inr ⟨u, HUS.out, e⟩)))
      simp only [HLN.out] at hr7
      simp only [HLM.out] at hn7
      have hfin := sp_end (c := c) (N := N) (M := M) (tc := tc) hsb hcs ((HCH6.out.mono (fun k e => Or.inl e)).trans (hcF.mono (fun k e => Or.inr (by
        rcases e with e | e
        · omega
        · have := HPA.out k e; omega)))) (HCU6.out.keep hcF (fun b hb e => by
        rcases e with e | e
        · omega
        · have := HPA.out b e; omega)) (by omega) hr7 hn7 HSPW.out.t ⟨hzz.r, by have := hzz.t; have := HTL.out; simp; omega, by have := hzz.n; simp; omega, fun i hi => HTP.out i hi⟩ hR
      rw [HTL.out, HLT.out] at hfin
      exact hfin
end Go.Proofs.YtmjjigdnoiphbaaDoor
