/-
  (*l5Cur).spoil: a room is changed.
-/
import Derived.Test.YtmjjigdnoiphbaaDoorK3
import Derived.Deep.DrawnRows
import Derived.Deep.RegionHeld3
namespace Go.Proofs.YtmjjigdnoiphbaaDoor
open Go.RowKit Go.Deep
set_option linter.unusedVariables false
attribute [local go_sem ↓] Go.wp_at_zero Go.wp_at_succ

set_option maxHeartbeats 40000000 in
set_option maxRecDepth 8000 in
theorem spoil_0 {w : World} {cb : Nat} {a : Option Addr} {B : List Int} {q : Nat} {c : Cu} (h : CurF w cb a B q c) (hk : c.1 ≤ 700000) {v : Value} {st : St} {N M : Nat} (hS : StateAt w v st) (hz : Sz N M st) (hN : N ≤ 100) (hM : M ≤ 100) (h0 : 0 < st.1.length) (hp : (pk B 9 c).1 = 0) :
    Calls Tryd.prog 38 #[.pointer (some ⟨cb, 0, none⟩), v] w (SpPost w cb a B q c N M) := by
  have HC := hide h
  have HS := hide hS
  have HZ := hide hz
  have HM := hide (hz.small (by omega) (by omega))
  have hcb := h.lt
  obtain ⟨a1, q1, a2, q2, a3, q3, rfl⟩ := hS.form
  clear h hS hz
  go_enter Tryd.func38, Tryd.ntmps38
  go_wp2_with fail
  refine (l1copy_own _ st _ (HS.out.below (Joins.below_alloc2 _ _ _)) HM.out).mono ?_
  rintro e w1 ⟨L, rfl, hL, hb1⟩
  obtain ⟨ra, rc, ta, tc, na, nc, pa, pc⟩ := L
  simp only [Lies.val]
  have hBS : ((w.alloc (.cells #[.slice a1 st.1.length q1, .slice a2 st.2.1.length q2, .slice a3 st.2.2.length q3] 26)).alloc (.cells #[.slice none 0 0, .slice none 0 0, .slice none 0 0] 26)).heap.size = w.heap.size + 2 := by simp
  rw [hBS] at hL
  have hd0 : w1.heap[w.heap.size]? = some (.cells #[.slice a1 st.1.length q1, .slice a2 st.2.1.length q2, .slice a3 st.2.2.length q3] 26 (0, 0)) := (hb1.block w.heap.size (by simp; omega)).trans (blockLater (Joins.below_alloc1 _ _) (heap_alloc_new w _))
  have hd1 : w1.heap[w.heap.size + 1]? = some (.cells #[.slice none 0 0, .slice none 0 0, .slice none 0 0] 26 (0, 0)) := (hb1.block (w.heap.size + 1) (by simp)).trans (heap_alloc2_new _ _ _)
  obtain ⟨v0, v1, v2, vf⟩ := block3 hd0
  have vf0 := vf 0
  have vf1 := vf 1
  have vf2 := vf 2
  have HD0 := hide hd0
  have HD1 := hide hd1
  have hz1 : w.heap.size + 2 ≤ w1.heap.size := by have := hb1.size; simpa using this
  have HB1 := hide (below_tail (Joins.below_alloc2 w (.cells #[.slice a1 st.1.length q1, .slice a2 st.2.1.length q2, .slice a3 st.2.2.length q3] 26) (.cells #[.slice none 0 0, .slice none 0 0, .slice none 0 0] 26)) hb1)
  have HL := hide hL
  clear hL hd0 hd1 vf hb1 hBS HS HM
  go_wp2_with fail
  have hc : Chg (fun q => q = w.heap.size) w1 (((w1.setCell ⟨w.heap.size, 0, none⟩ (.slice ra st.1.length rc)).setCell ⟨w.heap.size, 1, none⟩ (.slice ta st.2.1.length tc)).setCell ⟨w.heap.size, 2, none⟩ (.slice na st.2.2.length nc)) :=
    Chg.setCell (F := fun q => q = w.heap.size) (Chg.setCell (F := fun q => q = w.heap.size) (Chg.setCell (F := fun q => q = w.heap.size) (Chg.refl _ _) rfl _) rfl _) rfl _
  have hvar := block3_set2 (block3_set1 (block3_set0 HD0.out (.slice ra st.1.length rc)) (.slice ta st.2.1.length tc)) (.slice na st.2.2.length nc)
  generalize ((w1.setCell ⟨w.heap.size, 0, none⟩ (.slice ra st.1.length rc)).setCell ⟨w.heap.size, 1, none⟩ (.slice ta st.2.1.length tc)).setCell ⟨w.heap.size, 2, none⟩ (.slice na st.2.2.length nc) = W2 at *
  have hzW := hc.size
  have hch2 : Chg (fun b => b = cb) w W2 := Chg.of_below (HB1.out.trans (hc.below (by omega) (fun k hk e => by omega)))
  refine (pick_f (HC.out.below (HB1.out.trans (hc.below (by omega) (fun k hk e => by omega)))) (by omega) 9 (by decide)).mono ?_
  rintro e w3 ⟨rfl, hcu3, hch3⟩
  rw [hp]
  have hk3 := (pk_k B 9 c).2
  generalize (pk B 9 c).2 = c3 at *
  obtain ⟨sb, hsb⟩ : ∃ sb, sb = w.heap.size := ⟨_, rfl⟩
  have HSB := hide hsb
  have HV := hide ((hch3.block w.heap.size (by omega) (by omega)).trans hvar)
  have HR := hide ((hch3.block (w.heap.size + 1) (by omega) (by omega)).trans ((hc.block (w.heap.size + 1) (by omega) (by omega)).trans HD1.out))
  have HL3 : Hid (Cpd (w.heap.size + 2) w3 ⟨ra, rc, ta, tc, na, nc, pa, pc⟩ st) := (HL.out.chg hc (fun k e => by omega)).chg hch3 (fun k e => by omega)
  have HCH3 : Hid (Chg (fun b => b = cb) w w3) := hch2.trans hch3
  have HCU3 := hide hcu3
  rw [← hsb] at HV HR HL3 ⊢
  clear hc hvar hch2 hcu3 hch3 hp hzW HD0 HD1 HL HC v0 v1 v2 vf0 vf1 vf2 HB1
  have hcs : cb < sb := by omega
  have hs3 : sb + 1 < w3.heap.size := (Array.getElem?_eq_some_iff.1 HR.out).1
  -- case 0
  obtain ⟨g, hg⟩ : ∃ g, ra = some ⟨g, 0, none⟩ := by
    rcases HL3.out.r.lies with ⟨e, e'⟩ | ⟨g, cap, cur, e, _⟩
    · rw [e'] at h0; exact absurd h0 (Nat.lt_irrefl _)
    · simp only [Value.slice.injEq] at e; exact ⟨g, e.1⟩
  subst hg
  obtain ⟨s0, s1, s2, sf⟩ := block3 HV.out
  have hr41 : st.1.length ≤ 41 := HZ.out.r
  generalize hln : st.1.length = ln at *
  generalize hlt : st.2.1.length = lt at *
  generalize hlm : st.2.2.length = lm at *
  have HLN := hide hln
  have HLT := hide hlt
  have HLM := hide hlm
  have a1' := pk_lo B (ln : Int) c3
  have a2' := pk_hi B c3 (show (1 : Int) ≤ (ln : Int) by omega)
  have a3' := (pk_k B (ln : Int) c3).2
  generalize hpk : pk B (ln : Int) c3 = P1 at *
  obtain ⟨u, hu⟩ : ∃ u : Nat, P1.1 = (u : Int) := ⟨P1.1.toNat, by omega⟩
  have hul : u < ln := by omega
  have HPK := hide hpk
  have HU := hide hu
  have HPF : Hid (∀ W : World, Below w3.heap.size w3 W → Calls Tryd.prog 37 #[.pointer (some ⟨cb, 0, none⟩), .int .i64 (ln : Int)] W fun e w' => e = .returned (.int .i64 (u : Int)) ∧ CurF w' cb a B q P1.2 ∧ Chg (fun b => b = cb) W w' ∧ Chg (fun b => b = cb) w3 w') := fun W hW => by
    have := pick_f (HCU3.out.below hW) (by omega) (ln : Int) (by omega)
    rw [hpk, hu] at this
    exact this.mono (fun e w' ⟨x1, x2, x3⟩ => ⟨x1, x2, x3, (Chg.of_below hW).trans x3⟩)
  have b1' := pk_lo B 3 P1.2
  have b2' := pk_hi B P1.2 (show (1 : Int) ≤ 3 by omega)
  have b3' := (pk_k B 3 P1.2).2
  generalize hpk2 : pk B 3 P1.2 = P2 at *
  obtain ⟨p2, hp2⟩ : ∃ p2 : Nat, P2.1 = (p2 : Int) := ⟨P2.1.toNat, by omega⟩
  have hp3 : p2 < 3 := by omega
  have HPF2 : Hid (∀ w4 W : World, CurF w4 cb a B q P1.2 → Chg (fun b => b = cb) w3 w4 → Below w4.heap.size w4 W → Calls Tryd.prog 37 #[.pointer (some ⟨cb, 0, none⟩), .int .i64 3] W fun e w' => e = .returned (.int .i64 (p2 : Int)) ∧ CurF w' cb a B q P2.2 ∧ Chg (fun b => b = cb) W w' ∧ Chg (fun b => b = cb) w3 w') := fun w4 W h4 hc hW => by
    have := pick_f (h4.below hW) (by omega) 3 (by omega)
    rw [hpk2, hp2] at this
    exact this.mono (fun e w' ⟨x1, x2, x3⟩ => ⟨x1, x2, x3, hc.trans ((Chg.of_below hW).trans x3)⟩)
  obtain ⟨x, hx⟩ : ∃ x : Int, (#[Value.int .i64 0, .int .i64 5, .int .i64 6] : Array Value)[p2]? = some (.int .i64 x) := by
    rcases (show p2 = 0 ∨ p2 = 1 ∨ p2 = 2 by omega) with rfl | rfl | rfl
    · exact ⟨0, rfl⟩
    · exact ⟨5, rfl⟩
    · exact ⟨6, rfl⟩
  have hX0 : ∀ V : World, (V.alloc (.cells #[.int .i64 0, .int .i64 5, .int .i64 6] 3)).cell? ⟨V.heap.size, p2, none⟩ = some (.int .i64 x) := fun V => by
    rw [cell_of_row _ _ p2 _ _ (0, 0) (heap_alloc_new V _)]
    exact hx
  have HX0 := hide hX0
  have HG3 : Hid (∀ W, Chg (fun b => b = cb) w3 W → W.cell? ⟨g, u, none⟩ = some (.int .i64 (el st.1 u)) ∧ W.frozen? ⟨g, u, none⟩ = false ∧ W.cell? ⟨sb, 0, none⟩ = some (.slice (some ⟨g, 0, none⟩) ln rc)) := fun W hW => by
    have hL' := HL3.out.chg hW (fun k e => by omega)
    obtain ⟨b', off', e, h1, h2⟩ := hL'.own.r u (by rw [HLN.out]; exact hul)
    simp only [Option.some.injEq, Addr.mk.injEq, and_true] at e
    obtain ⟨rfl, rfl⟩ := e
    rw [Nat.zero_add] at h1 h2
    exact ⟨h1, h2, chg_cell hW s0 (by omega)⟩
  have hgl : sb + 2 ≤ g := HL3.out.new g (Or.inl (FA_mk _ _))
  have hne1 : ¬ g = sb := by omega
  have hne2 : ¬ sb = cb := by omega
  have hpp0 : (0 : Int) ≤ (p2 : Int) := by omega
  have hpp3 : (p2 : Int) < 3 := by omega
  have huu0 : (0 : Int) ≤ (u : Int) := by omega
  have huu3 : (u : Int) < (ln : Int) := by omega
  clear hsb hu a1' a2' hln hlt hlm hpk b1' b2' hpk2 hp2 hX0
  have HAP : Hid ((∀ k, k = g → FA na k → False) ∧ ∀ k, k = g → FT ta pa st.2.1.length k → False) := ⟨fun k e h => HL3.out.own.apart.rn g (FA_mk _ _) (e ▸ h), fun k e h => HL3.out.own.apart.rt g (FA_mk _ _) (e ▸ h)⟩
  go_wp2_with fail
  have hnS3 : ¬ sb = w3.heap.size := by omega
  have s0' := cell_later (Joins.below_alloc1 w3 (.cells #[.int .i64 0, .int .i64 5, .int .i64 6] 3)) s0
  go_region_law (first | (go_simp; go_at_call_of 37 (Value.int .i64 (ln : Int)); refine (HPF.out _ ?_).mono ?_; (first | (exact ((Below.refl _ _).drew)) | (exact (below_tail ((Below.refl _ w3).drew) (Joins.below_alloc1 _ _)))); rintro e w4 ⟨rfl, hcu4, hch4, HC4⟩; have hz4 := HC4.size; have k0 := (HG3.out w4 HC4).2.2; have hs4 : ¬ sb = w4.heap.size := (by omega); have k0' := cell_later (Joins.below_alloc1 w4 (.cells #[.int .i64 0, .int .i64 5, .int .i64 6] 3)) k0; (try (have k5 : w4.cell? ⟨w3.heap.size, p2, none⟩ = some (Value.int .i64 x) := chg_cell hch4 (HX0.out w3.drew) (by omega)))) | (go_simp; go_at_call_of 37 (Value.int .i64 3); refine (HPF2.out w4 _ hcu4 HC4 ?_).mono ?_; (first | (exact (Below.refl _ _)) | (exact (Joins.below_alloc1 _ _))); rintro e w5 ⟨rfl, hcu5, hch5, HC5⟩; obtain ⟨k1, k2, k3⟩ := HG3.out w5 HC5; have hg5 : g < w5.heap.size := World.block_lt_of_cell? _ _ k1; have hg6 : ¬ g = w5.heap.size := Nat.ne_of_lt hg5; have hg7 : ¬ w5.heap.size = g := Ne.symm hg6; have k8 := HX0.out w5; have k3' := cell_later (Joins.below_alloc1 w5 (.cells #[.int .i64 0, .int .i64 5, .int .i64 6] 3)) k3; (try (have k6 : w5.cell? ⟨w3.heap.size, p2, none⟩ = some (Value.int .i64 x) := chg_cell hch5 k5 (by omega))); (try (have k7 : w5.cell? ⟨w4.heap.size, p2, none⟩ = some (Value.int .i64 x) := chg_cell hch5 (HX0.out w4) (by omega)))))
  all_goals
    have HL5 := HL3.out.chg HC5 (fun k e => by omega)
    have hOr : OwnInts (sb + 2) (w5.setCell ⟨g, u, none⟩ (.int .i64 x)) (.slice (some ⟨g, 0, none⟩) ln rc) (st.1.set u x) := by
      have := HL5.r.put (k := u) (by rw [HLN.out]; exact hul) x
      simp only [HLN.out] at this
      exact this
    have hcG : Chg (fun b => b = g) w5 (w5.setCell ⟨g, u, none⟩ (.int .i64 x)) := Chg.setCell (F := fun b => b = g) (p := ⟨g, u, none⟩) (Chg.refl _ _) rfl _
    have hCW : Chg (fun b => b = cb) w w5 := HCH3.out.trans HC5
    have HVR := hide (And.intro (chg_row HC5 HV.out (by omega)) (chg_row HC5 HR.out (by omega)))
    first
      | (obtain ⟨WF, hWF, hF1, hF2⟩ : ∃ WF, WF = (w5.setCell ⟨g, u, none⟩ (.int .i64 x)).alloc (.cells #[.int .i64 0, .int .i64 5, .int .i64 6] 3) ∧ OwnInts (sb + 2) WF (.slice (some ⟨g, 0, none⟩) ln rc) (st.1.set u x) ∧ Chg (fun b => b = g) w5 WF := ⟨_, rfl, hOr.below (Joins.below_alloc1 _ _), hcG.alloc _⟩; rw [← hWF]; clear hWF)
      | (obtain ⟨WF, hWF, hF1, hF2⟩ : ∃ WF, WF = w5.setCell ⟨g, u, none⟩ (.int .i64 x) ∧ OwnInts (sb + 2) WF (.slice (some ⟨g, 0, none⟩) ln rc) (st.1.set u x) ∧ Chg (fun b => b = g) w5 WF := ⟨_, rfl, hOr, hcG⟩; rw [← hWF]; clear hWF)
    have hs5 : sb + 1 < w5.heap.size := by have := HC5.size; omega
    have HLF := hide hF1
    have HF2 := hide hF2
    have HLT5 := hide HL5.rowT
    have HLN5 := hide HL5.n
    have HCW := hide hCW
    have HCU5 := hide hcu5
    have hvF := (hF2.block sb (by omega) (by omega)).trans HVR.out.1
    have hrF := (hF2.block (sb + 1) (by omega) (by omega)).trans HVR.out.2
    obtain ⟨d0, d1, d2, df⟩ := block3 hvF
    obtain ⟨e0, e1, e2, ef⟩ := block3 hrF
    have HRF := hide hrF
    have ef0 := ef 0
    have ef1 := ef 1
    have ef2 := ef 2
    clear s0 s0' s1 s2 sf k0 k0' k1 k2 k3 k3' k8 ef df hvF hrF hOr hcG hCW HL5 hF1 hF2 hcu5 hch5 HC5 hcu4 hch4 HC4 HX0 HG3 HPF HPF2
    go_wp2_with fail
    have hR : Chg (fun b => b = sb + 1) WF (((WF.setCell ⟨sb + 1, 0, none⟩ (.slice (some ⟨g, 0, none⟩) ln rc)).setCell ⟨sb + 1, 1, none⟩ (.slice ta lt tc)).setCell ⟨sb + 1, 2, none⟩ (.slice na lm nc)) :=
      Chg.setCell (F := fun b => b = sb + 1) (Chg.setCell (F := fun b => b = sb + 1) (Chg.setCell (F := fun b => b = sb + 1) (Chg.refl _ _) rfl _) rfl _) rfl _
    have hvar := block3_set2 (block3_set1 (block3_set0 HRF.out (.slice (some ⟨g, 0, none⟩) ln rc)) (.slice ta lt tc)) (.slice na lm nc)
    generalize ((WF.setCell ⟨sb + 1, 0, none⟩ (.slice (some ⟨g, 0, none⟩) ln rc)).setCell ⟨sb + 1, 1, none⟩ (.slice ta lt tc)).setCell ⟨sb + 1, 2, none⟩ (.slice na lm nc) = WR at *
    obtain ⟨z0, z1, z2, _⟩ := block3 hvar
    have hsb := HSB.out
    refine bodyPost_ret (v := .agg #[.slice (some ⟨g, 0, none⟩) ln rc, .slice ta lt tc, .slice na lm nc]) (by simp [results, Tryd.results38, go_sem, z0, z1, z2]) rfl ?_
    rw [← HLT.out]
    have hzz := HZ.out
    have hn5 := HLN5.out
    simp only [HLM.out] at hn5
    refine sp_end (c' := P2.2) hsb hcs ((HCW.out.mono (fun k e => Or.inl e)).trans (HF2.out.mono (fun k e => by omega))) (HCU5.out.keep HF2.out (fun b hb => by omega)) (by omega) HLF.out (hn5.far (fun k hk => HF2.out.block k (hn5.own hk).2 (fun e => ?_))) (HLT5.out.keep (fun k hk e => HF2.out.block k hk (fun e' => ?_))) ⟨by simp; exact hzz.r, by have := hzz.t; simp; omega, by have := hzz.n; simp; omega, fun i hi => by have := hzz.p i hi; simp; omega⟩ hR
    · exact HAP.out.1 k e (hn5.fa hk)
    · exact HAP.out.2 k e' e
end Go.Proofs.YtmjjigdnoiphbaaDoor
