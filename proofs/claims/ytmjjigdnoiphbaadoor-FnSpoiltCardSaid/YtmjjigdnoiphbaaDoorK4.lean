import Derived.Test.YtmjjigdnoiphbaaDoorK3
import Derived.Deep.DrawnRows
import Derived.Deep.RegionHeld3
/-
  (*l5Cur).spoil: a name too many.
-/
namespace Go.Proofs.YtmjjigdnoiphbaaDoor
open Go.RowKit Go.Deep
set_option linter.unusedVariables false
attribute [local go_sem ↓] Go.wp_at_zero Go.wp_at_succ

set_option maxHeartbeats 40000000 in
set_option maxRecDepth 8000 in
theorem spoil_2 {w : World} {cb : Nat} {a : Option Addr} {B : List Int} {q : Nat} {c : Cu} (h : CurF w cb a B q c) (hk : c.1 ≤ 700000) {v : Value} {st : St} {N M : Nat} (hS : StateAt w v st) (hz : Sz N M st) (hN : N ≤ 100) (hM : M ≤ 100) (h0 : 0 < st.1.length) (hp : (pk B 9 c).1 = 2) :
    Calls Tryd.prog 38 #[.pointer (some ⟨cb, 0, none⟩), v] w (SpPost w cb a B q c N M) := by
  have HC := hide h
  have HS := hide hS
  have HZ := hide hz
  have HM := hide (hz.small (by omega) (by omega))
  have hcb := h.lt
  obtain ⟨a1, q1, a2, q2, a3, q3, rfl⟩ := hS.form
  clear h hS hz
  go_enter Tryd.func38, Tryd.ntmps38
  go_wp2_with fail
  refine (l1copy_own _ st _ (HS.out.below (Joins.below_alloc2 _ _ _)) HM.out).mono ?_
  rintro e w1 ⟨L, rfl, hL, hb1⟩
  obtain ⟨ra, rc, ta, tc, na, nc, pa, pc⟩ := L
  simp only [Lies.val]
  have hBS : ((w.alloc (.cells #[.slice a1 st.1.length q1, .slice a2 st.2.1.length q2, .slice a3 st.2.2.length q3] 26)).alloc (.cells #[.slice none 0 0, .slice none 0 0, .slice none 0 0] 26)).heap.size = w.heap.size + 2 := by simp
  rw [hBS] at hL
  have hd0 : w1.heap[w.heap.size]? = some (.cells #[.slice a1 st.1.length q1, .slice a2 st.2.1.length q2, .slice a3 st.2.2.length q3] 26 (0, 0)) := (hb1.block w.heap.size (by simp; omega)).trans (blockLater (Joins.below_alloc1 _ _) (heap_alloc_new w _))
  have hd1 : w1.heap[w.heap.size + 1]? = some (.cells #[.slice none 0 0, .slice none 0 0, .slice none 0 0] 26 (0, 0)) := (hb1.block (w.heap.size + 1) (by simp)).trans (heap_alloc2_new _ _ _)
  obtain ⟨v0, v1, v2, vf⟩ := block3 hd0
  have vf0 := vf 0
  have vf1 := vf 1
  have vf2 := vf 2
  have HD0 := hide hd0
  have HD1 := hide hd1
  have hz1 : w.heap.size + 2 ≤ w1.heap.size := by have := hb1.size; simpa using this
  have HB1 := hide (below_tail (Joins.below_alloc2 w (.cells #[.slice a1 st.1.length q1, .slice a2 st.2.1.length q2, .slice a3 st.2.2.length q3] 26) (.cells #[.slice none 0 0, .slice none 0 0, .slice none 0 0] 26)) hb1)
  have HL := hide hL
  clear hL hd0 hd1 vf hb1 hBS HS HM
  go_wp2_with fail
  have hc : Chg (fun q => q = w.heap.size) w1 (((w1.setCell ⟨w.heap.size, 0, none⟩ (.slice ra st.1.length rc)).setCell ⟨w.heap.size, 1, none⟩ (.slice ta st.2.1.length tc)).setCell ⟨w.heap.size, 2, none⟩ (.slice na st.2.2.length nc)) :=
    Chg.setCell (F := fun q => q = w.heap.size) (Chg.setCell (F := fun q => q = w.heap.size) (Chg.setCell (F := fun q => q = w.heap.size) (Chg.refl _ _) rfl _) rfl _) rfl _
  have hvar := block3_set2 (block3_set1 (block3_set0 HD0.out (.slice ra st.1.length rc)) (.slice ta st.2.1.length tc)) (.slice na st.2.2.length nc)
  generalize ((w1.setCell ⟨w.heap.size, 0, none⟩ (.slice ra st.1.length rc)).setCell ⟨w.heap.size, 1, none⟩ (.slice ta st.2.1.length tc)).setCell ⟨w.heap.size, 2, none⟩ (.slice na st.2.2.length nc) = W2 at *
  have hzW := hc.size
  have hch2 : Chg (fun b => b = cb) w W2 := Chg.of_below (HB1.out.trans (hc.below (by omega) (fun k hk e => by omega)))
  refine (pick_f (HC.out.below (HB1.out.trans (hc.below (by omega) (fun k hk e => by omega)))) (by omega) 9 (by decide)).mono ?_
  rintro e w3 ⟨rfl, hcu3, hch3⟩
  rw [hp]
  have hk3 := (pk_k B 9 c).2
  generalize (pk B 9 c).2 = c3 at *
  obtain ⟨sb, hsb⟩ : ∃ sb, sb = w.heap.size := ⟨_, rfl⟩
  have HSB := hide hsb
  have HV := hide ((hch3.block w.heap.size (by omega) (by omega)).trans hvar)
  have HR := hide ((hch3.block (w.heap.size + 1) (by omega) (by omega)).trans ((hc.block (w.heap.size + 1) (by omega) (by omega)).trans HD1.out))
  have HL3 : Hid (Cpd (w.heap.size + 2) w3 ⟨ra, rc, ta, tc, na, nc, pa, pc⟩ st) := (HL.out.chg hc (fun k e => by omega)).chg hch3 (fun k e => by omega)
  have HCH3 : Hid (Chg (fun b => b = cb) w w3) := hch2.trans hch3
  have HCU3 := hide hcu3
  rw [← hsb] at HV HR HL3 ⊢
  clear hc hvar hch2 hcu3 hch3 hp hzW HD0 HD1 HL HC v0 v1 v2 vf0 vf1 vf2 HB1
  have hcs : cb < sb := by omega
  have hs3 : sb + 1 < w3.heap.size := (Array.getElem?_eq_some_iff.1 HR.out).1
  have hn100 : st.2.2.length ≤ 100 := by have := HZ.out.n; omega
  generalize hln : st.1.length = ln at *
  generalize hlt : st.2.1.length = lt at *
  generalize hlm : st.2.2.length = lm at *
  have HLN := hide hln
  have HLT := hide hlt
  have HLM := hide hlm
  obtain ⟨s0, s1, s2, sf⟩ := block3 HV.out
  have hN3 : OwnInts (sb + 2) w3 (.slice na lm nc) st.2.2 := by have := HL3.out.n; simp only [hlm] at this; exact this
  have HN3 := hide hN3
  clear hsb hln hlt hlm hN3
  go_wp2_with (first | (at_builtin; refine wpList_push rfl _ _ rfl (sb + 2) _ _ 9 w3.heap.size rfl rfl (HN3.out.below (Joins.below_alloc1 _ _)) (heap_alloc_new _ _) (by rw [HLM.out]; omega) (by simp; omega) ?_))
  intro g cap w4 hown hgrow hat hlt4
  have hNA : ∀ b, FA na b → sb + 2 ≤ b := fun b e => HL3.out.new b (Or.inr (Or.inl e))
  have hcA : Chg (fun b => FA na b) w3 w4 := (grown_chg (Joins.below_alloc1 _ _) hgrow).mono (fun k hk => HN3.out.fa hk)
  have hvF := (hcA.block sb (by omega) (fun e => by have := hNA sb e; omega)).trans HV.out
  have hrF := (hcA.block (sb + 1) (by omega) (fun e => by have := hNA (sb + 1) e; omega)).trans HR.out
  have HCA := hide hcA
  have HOWN := hide hown
  have HNA := hide hNA
  obtain ⟨d0, d1, d2, df⟩ := block3 hvF
  obtain ⟨e0, e1, e2, ef⟩ := block3 hrF
  have HRF := hide hrF
  have ef0 := ef 0
  have ef1 := ef 1
  have ef2 := ef 2
  have df2 := df 2
  have hs4 : sb + 1 < w4.heap.size := (Array.getElem?_eq_some_iff.1 hrF).1
  clear s0 s1 s2 sf df ef hvF hrF hcA hown hgrow hat hlt4 hNA
  generalize hlm1 : st.2.2.length + 1 = lm1 at *
  go_wp2_with fail
  have hcS : Chg (fun b => b = sb) w4 (w4.setCell ⟨sb, 2, none⟩ (.slice (some ⟨g, 0, none⟩) lm1 cap)) := Chg.setCell (F := fun b => b = sb) (p := ⟨sb, 2, none⟩) (Chg.refl _ _) rfl _
  have hRW := (hcS.block (sb + 1) (by omega) (by omega)).trans HRF.out
  generalize w4.setCell ⟨sb, 2, none⟩ (.slice (some ⟨g, 0, none⟩) lm1 cap) = WF at *
  clear HRF
  have HRF := hide hRW
  have hR : Chg (fun b => b = sb + 1) WF (((WF.setCell ⟨sb + 1, 0, none⟩ (.slice ra ln rc)).setCell ⟨sb + 1, 1, none⟩ (.slice ta lt tc)).setCell ⟨sb + 1, 2, none⟩ (.slice (some ⟨g, 0, none⟩) lm1 cap)) :=
    Chg.setCell (F := fun b => b = sb + 1) (Chg.setCell (F := fun b => b = sb + 1) (Chg.setCell (F := fun b => b = sb + 1) (Chg.refl _ _) rfl _) rfl _) rfl _
  have hvar := block3_set2 (block3_set1 (block3_set0 HRF.out (.slice ra ln rc)) (.slice ta lt tc)) (.slice (some ⟨g, 0, none⟩) lm1 cap)
  generalize ((WF.setCell ⟨sb + 1, 0, none⟩ (.slice ra ln rc)).setCell ⟨sb + 1, 1, none⟩ (.slice ta lt tc)).setCell ⟨sb + 1, 2, none⟩ (.slice (some ⟨g, 0, none⟩) lm1 cap) = WR at *
  obtain ⟨z0, z1, z2, _⟩ := block3 hvar
  have hsb := HSB.out
  refine bodyPost_ret (v := .agg #[.slice ra ln rc, .slice ta lt tc, .slice (some ⟨g, 0, none⟩) lm1 cap]) (by simp [results, Tryd.results38, go_sem, z0, z1, z2]) rfl ?_
  rw [← HLT.out]
  have hzz := HZ.out
  have hcF : Chg (fun b => FA na b ∨ b < sb + 2) w3 WF := (HCA.out.mono (fun k e => Or.inl e)).trans (hcS.mono (fun k e => Or.inr (by omega)))
  obtain ⟨hr5, ht5⟩ := HL3.out.offN hcF
  simp only [HLN.out] at hr5
  refine sp_end hsb hcs ((HCH3.out.mono (fun k e => Or.inl e)).trans ((HCA.out.mono (fun k e => Or.inr (by have := HNA.out k e; omega))).trans (hcS.mono (fun k e => Or.inr (by omega))))) ((HCU3.out.keep HCA.out (fun b hb e => by have := HNA.out b e; omega)).keep hcS (fun b hb => by omega)) (by omega) hr5 (HOWN.out.far (fun k hk => hcS.block k (HOWN.out.own hk).2 (by have := (HOWN.out.own hk).1; omega))) ht5 ⟨hzz.r, by have := hzz.t; simp; omega, by have := hzz.n; simp; omega, fun i hi => by have := hzz.p i hi; simp; omega⟩ hR
end Go.Proofs.YtmjjigdnoiphbaaDoor

/-
  (*l5Cur).spoil: more rooms.
-/
namespace Go.Proofs.YtmjjigdnoiphbaaDoor
open Go.RowKit Go.Deep
set_option linter.unusedVariables false
attribute [local go_sem ↓] Go.wp_at_zero Go.wp_at_succ

theorem Chg.cut {F : Nat → Prop} {w w1 : World} (h : Chg (fun b => F b ∨ w.heap.size ≤ b) w w1) : Chg F w w1 :=
  ⟨h.os, h.tape, h.output, h.size, fun k hk hf => h.block k hk (fun e => by
    rcases e with e | e
    · exact hf e
    · omega)⟩
/-- how many rooms the variable at block sb has -/
def roomLen (w : World) (sb : Nat) : Nat :=
  match w.cell? ⟨sb, 0, none⟩ with
  | some (.slice _ n _) => n
  | _ => 0
theorem roomLen_at {w : World} {sb : Nat} {a : Option Addr} {n c : Nat} (h : w.cell? ⟨sb, 0, none⟩ = some (.slice a n c)) : roomLen w sb = n := by unfold roomLen; rw [h]

set_option maxHeartbeats 40000000 in
set_option maxRecDepth 8000 in
theorem spoil_1 {w : World} {cb : Nat} {a : Option Addr} {B : List Int} {q : Nat} {c : Cu} (h : CurF w cb a B q c) (hk : c.1 ≤ 700000) {v : Value} {st : St} {N M : Nat} (hS : StateAt w v st) (hz : Sz N M st) (hN : N ≤ 100) (hM : M ≤ 100) (h0 : 0 < st.1.length) (hp : (pk B 9 c).1 = 1) :
    Calls Tryd.prog 38 #[.pointer (some ⟨cb, 0, none⟩), v] w (SpPost w cb a B q c N M) := by
  have HC := hide h
  have HS := hide hS
  have HZ := hide hz
  have HM := hide (hz.small (by omega) (by omega))
  have hcb := h.lt
  obtain ⟨a1, q1, a2, q2, a3, q3, rfl⟩ := hS.form
  clear h hS hz
  go_enter Tryd.func38, Tryd.ntmps38
  go_wp2_with fail
  refine (l1copy_own _ st _ (HS.out.below (Joins.below_alloc2 _ _ _)) HM.out).mono ?_
  rintro e w1 ⟨L, rfl, hL, hb1⟩
  obtain ⟨ra, rc, ta, tc, na, nc, pa, pc⟩ := L
  simp only [Lies.val]
  have hBS : ((w.alloc (.cells #[.slice a1 st.1.length q1, .slice a2 st.2.1.length q2, .slice a3 st.2.2.length q3] 26)).alloc (.cells #[.slice none 0 0, .slice none 0 0, .slice none 0 0] 26)).heap.size = w.heap.size + 2 := by simp
  rw [hBS] at hL
  have hd0 : w1.heap[w.heap.size]? = some (.cells #[.slice a1 st.1.length q1, .slice a2 st.2.1.length q2, .slice a3 st.2.2.length q3] 26 (0, 0)) := (hb1.block w.heap.size (by simp; omega)).trans (blockLater (Joins.below_alloc1 _ _) (heap_alloc_new w _))
  have hd1 : w1.heap[w.heap.size + 1]? = some (.cells #[.slice none 0 0, .slice none 0 0, .slice none 0 0] 26 (0, 0)) := (hb1.block (w.heap.size + 1) (by simp)).trans (heap_alloc2_new _ _ _)
  obtain ⟨v0, v1, v2, vf⟩ := block3 hd0
  have vf0 := vf 0
  have vf1 := vf 1
  have vf2 := vf 2
  have HD0 := hide hd0
  have HD1 := hide hd1
  have hz1 : w.heap.size + 2 ≤ w1.heap.size := by have := hb1.size; simpa using this
  have HB1 := hide (below_tail (Joins.below_alloc2 w (.cells #[.slice a1 st.1.length q1, .slice a2 st.2.1.length q2, .slice a3 st.2.2.length q3] 26) (.cells #[.slice none 0 0, .slice none 0 0, .slice none 0 0] 26)) hb1)
  have HL := hide hL
  clear hL hd0 hd1 vf hb1 hBS HS HM
  go_wp2_with fail
  have hc : Chg (fun q => q = w.heap.size) w1 (((w1.setCell ⟨w.heap.size, 0, none⟩ (.slice ra st.1.length rc)).setCell ⟨w.heap.size, 1, none⟩ (.slice ta st.2.1.length tc)).setCell ⟨w.heap.size, 2, none⟩ (.slice na st.2.2.length nc)) :=
    Chg.setCell (F := fun q => q = w.heap.size) (Chg.setCell (F := fun q => q = w.heap.size) (Chg.setCell (F := fun q => q = w.heap.size) (Chg.refl _ _) rfl _) rfl _) rfl _
  have hvar := block3_set2 (block3_set1 (block3_set0 HD0.out (.slice ra st.1.length rc)) (.slice ta st.2.1.length tc)) (.slice na st.2.2.length nc)
  generalize ((w1.setCell ⟨w.heap.size, 0, none⟩ (.slice ra st.1.length rc)).setCell ⟨w.heap.size, 1, none⟩ (.slice ta st.2.1.length tc)).setCell ⟨w.heap.size, 2, none⟩ (.slice na st.2.2.length nc) = W2 at *
  have hzW := hc.size
  have hch2 : Chg (fun b => b = cb) w W2 := Chg.of_below (HB1.out.trans (hc.below (by omega) (fun k hk e => by omega)))
  refine (pick_f (HC.out.below (HB1.out.trans (hc.below (by omega) (fun k hk e => by omega)))) (by omega) 9 (by decide)).mono ?_
  rintro e w3 ⟨rfl, hcu3, hch3⟩
  rw [hp]
  have hk3 := (pk_k B 9 c).2
  generalize (pk B 9 c).2 = c3 at *
  obtain ⟨sb, hsb⟩ : ∃ sb, sb = w.heap.size := ⟨_, rfl⟩
  have HSB := hide hsb
  have HV := hide ((hch3.block w.heap.size (by omega) (by omega)).trans hvar)
  have HR := hide ((hch3.block (w.heap.size + 1) (by omega) (by omega)).trans ((hc.block (w.heap.size + 1) (by omega) (by omega)).trans HD1.out))
  have HL3 : Hid (Cpd (w.heap.size + 2) w3 ⟨ra, rc, ta, tc, na, nc, pa, pc⟩ st) := (HL.out.chg hc (fun k e => by omega)).chg hch3 (fun k e => by omega)
  have HCH3 : Hid (Chg (fun b => b = cb) w w3) := hch2.trans hch3
  have HCU3 := hide hcu3
  rw [← hsb] at HV HR HL3 ⊢
  clear hc hvar hch2 hcu3 hch3 hp hzW HD0 HD1 HL HC v0 v1 v2 vf0 vf1 vf2 HB1
  have hcs : cb < sb := by omega
  have hs3 : sb + 1 < w3.heap.size := (Array.getElem?_eq_some_iff.1 HR.out).1
  generalize hln : st.1.length = ln at *
  generalize hlt : st.2.1.length = lt at *
  generalize hlm : st.2.2.length = lm at *
  have HLN := hide hln
  have HLT := hide hlt
  have HLM := hide hlm
  obtain ⟨s0, s1, s2, sf⟩ := block3 HV.out
  have hr41 : ln ≤ 41 := by rw [← hln]; exact HZ.out.r
  have hR3 : OwnInts (sb + 2) w3 (.slice ra ln rc) st.1 := by have := HL3.out.r; simp only [hln] at this; exact this
  have HR3 := hide hR3
  have hRA : ∀ b, FA ra b → sb + 2 ≤ b := fun b e => HL3.out.new b (Or.inl e)
  have HRA := hide hRA
  clear hsb hlt hlm hR3 hRA s0 s1 s2 sf
  go_wp2_with fail
  go_loopw [143] (fun _ wr => ∃ (rv : Value) (xs : List Int) (cj : Cu), xs.length ≤ 41 ∧ cj.1 + 2 * (41 - xs.length) ≤ c3.1 + 100 ∧ wr.heap[sb]? = some (.cells #[rv, .slice ta lt tc, .slice na lm nc] 26 (0, 0)) ∧ OwnInts (sb + 2) wr rv xs ∧ (∀ k, rv.ownBlock = some k → FA ra k ∨ w3.heap.size ≤ k) ∧ CurF wr cb a B q cj ∧ Chg (fun b => (b = cb ∨ b = sb ∨ FA ra b) ∨ w3.heap.size ≤ b) w3 wr) (fun _ wr => 41 - roomLen wr sb)
  case atStart => exact ⟨_, st.1, c3, by omega, by omega, HV.out, HR3.out, fun k hk => Or.inl (HR3.out.fa hk), HCU3.out, Chg.refl _ _⟩
  case round =>
    obtain ⟨rv, xs, cj, hx41, hcj, hrow, ho, hown, hcu, hch⟩ := hrel
    obtain ⟨ra', rc', hrv⟩ := ho.form
    subst hrv
    have HROW := hide hrow
    have HO := hide ho
    have HOWN := hide hown
    have HCU := hide hcu
    have HCH := hide hch
    have hswr : sb + 1 < wr.heap.size := by have := hch.size; omega
    have b1 := pk_lo B 2 cj
    have b2 := pk_hi B cj (show (1 : Int) ≤ 2 by omega)
    have b3 := (pk_k B 2 cj).2
    generalize hpk : pk B 2 cj = P at *
    obtain ⟨p, hp⟩ : ∃ p : Nat, P.1 = (p : Int) := ⟨P.1.toNat, by omega⟩
    have hp1 : p ≤ 1 := by omega
    have hcj9 : cj.1 ≤ 900000 := by omega
    have HPF : Hid (∀ W : World, Below wr.heap.size wr W → Calls Tryd.prog 37 #[.pointer (some ⟨cb, 0, none⟩), .int .i64 2] W fun e w' => e = .returned (.int .i64 (p : Int)) ∧ CurF w' cb a B q P.2 ∧ Chg (fun b => b = cb) wr w') := fun W hW => by
      have := pick_f (HCU.out.below hW) hcj9 2 (by omega)
      rw [hpk, hp] at this
      exact this.mono (fun e w' ⟨x1, x2, x3⟩ => ⟨x1, x2, (Chg.of_below hW).trans x3⟩)
    obtain ⟨s0, s1, s2, sf⟩ := block3 hrow
    generalize hxl : xs.length = xl at *
    have HXL := hide hxl
    have hq1 : IntKind.i64.wrap (40 + (p : Int)) = 40 + (p : Int) := by rw [IntKind.wrap_i64]; omega
    clear hrow ho hown hcu hch b1 b2 hpk hp hxl
    go_wp2_with fail
    go_region_held3 (fun W => W.cell? ⟨sb, 0, none⟩ = some (.slice ra' xl rc'))
      (first | (exact (chg_cell HC4 s0 (by omega))) | go_keep)
      (first | (go_at_call_of 37 (Value.int .i64 2); refine (HPF.out _ ?_).mono ?_; (exact ((Below.refl _ _).drew)); rintro e w4 ⟨rfl, hcu4, HC4⟩))
    by_cases hlx : xl < 40 + p
    · have hlxi : (xl : Int) < 40 + (p : Int) := by omega
      have hO4 : OwnInts (sb + 2) w4 (.slice ra' xl rc') xs := HO.out.far (fun k hk => HC4.block k (HO.out.own hk).2 (by have := (HO.out.own hk).1; omega))
      have hrow4 := chg_row HC4 HROW.out (by omega)
      obtain ⟨t0, t1, t2, tf⟩ := block3 hrow4
      have HO4 := hide hO4
      have HROW4 := hide hrow4
      have HCU4 := hide hcu4
      have HC4' := hide HC4
      have hs4 : sb + 1 < w4.heap.size := by have := HC4.size; omega
      clear s0 s1 s2 sf tf hO4 hrow4 hcu4 HC4
      go_wp2_with (first | (at_builtin; refine wpList_push rfl _ _ rfl (sb + 2) _ _ 1 w4.heap.size rfl rfl (HO4.out.below (Joins.below_alloc1 _ _)) (heap_alloc_new _ _) (by rw [HXL.out]; omega) (by simp; omega) ?_))
      intro g cap w5 ho5 hgrow hat hlt5
      have hc5 : Chg (fun b => Value.ownBlock (.slice ra' xl rc') = some b) w4 w5 := grown_chg (Joins.below_alloc1 _ _) hgrow
      have hrow5 := (hc5.block sb (by omega) (fun e => by have := (HO4.out.own e).1; omega)).trans HROW4.out
      obtain ⟨t0', t1', t2', tf'⟩ := block3 hrow5
      have tf0 := tf' 0
      have HROW5 := hide hrow5
      have HC5 := hide hc5
      have HO5 := hide ho5
      have HAT : Hid (Value.ownBlock (.slice ra' xl rc') = some g ∨ w4.heap.size ≤ g) := hat.imp id (fun e => by omega)
      have hs5 : sb + 1 < w5.heap.size := by have := hc5.size; omega
      clear ho5 hgrow hat hlt5 hc5 hrow5 tf' t0 t1 t2
      generalize hxl1 : xs.length + 1 = xl1 at *
      have HXE : Hid (xl1 = xl + 1) := by show xl1 = xl + 1; have := HXL.out; omega
      clear hxl1
      go_wp2_with fail
      go_roundw
      case rel =>
        have hcS : Chg (fun b => b = sb) w5 (w5.setCell ⟨sb, 0, none⟩ (.slice (some ⟨g, 0, none⟩) xl1 cap)) := Chg.setCell (F := fun b => b = sb) (p := ⟨sb, 0, none⟩) (Chg.refl _ _) rfl _
        have hz3 := HCH.out.size
        have hz4 := HC4'.out.size
        have hxe := HXE.out
        refine ⟨_, xs ++ [1], P.2, by have := HXL.out; simp; omega, by have := HXL.out; simp; omega, block3_set0 HROW5.out _, HO5.out.far (fun k hk => hcS.block k (HO5.out.own hk).2 (by have := (HO5.out.own hk).1; omega)), fun k hk => ?_, ((HCU4.out.keep HC5.out (fun b hb e => by have := (HO4.out.own e).1; omega)).keep hcS (fun b hb => by omega)), ?_⟩
        · simp [Value.ownBlock] at hk
          subst hk
          rcases HAT.out with e | e
          · exact HOWN.out g e
          · exact Or.inr (by omega)
        · refine HCH.out.trans ((HC4'.out.mono (fun k e => Or.inl (Or.inl e))).trans ((HC5.out.mono (fun k e => ?_)).trans (hcS.mono (fun k e => Or.inl (Or.inr (Or.inl e))))))
          rcases HOWN.out k e with e' | e'
          · exact Or.inl (Or.inr (Or.inr e'))
          · exact Or.inr e'
      case measure =>
        have hm1 : roomLen wr sb = xl := roomLen_at (block3 HROW.out).1
        have hm2 : roomLen (w5.setCell ⟨sb, 0, none⟩ (.slice (some ⟨g, 0, none⟩) xl1 cap)) sb = xl1 := roomLen_at (block3 (block3_set0 HROW5.out (.slice (some ⟨g, 0, none⟩) xl1 cap))).1
        rw [hm1, hm2]
        have hxe := HXE.out
        omega
    · have hlxi : ¬ ((xl : Int) < 40 + (p : Int)) := by omega
      have hz3 := HCH.out.size
      have hvF := chg_row HC4 HROW.out (by omega)
      have hrF := chg_row HC4 ((HCH.out.block (sb + 1) hs3 (fun e => by
        rcases e with (e | e | e) | e
        · omega
        · omega
        · have := HRA.out _ e; omega
        · omega)).trans HR.out) (by omega)
      have hO4 : OwnInts (sb + 2) w4 (.slice ra' xl rc') xs := HO.out.far (fun k hk => HC4.block k (HO.out.own hk).2 (by have := (HO.out.own hk).1; omega))
      have HO4 := hide hO4
      have HCU4 := hide hcu4
      have HC4' := hide HC4
      obtain ⟨d0, d1, d2, df⟩ := block3 hvF
      obtain ⟨e0, e1, e2, ef⟩ := block3 hrF
      have HRF := hide hrF
      have ef0 := ef 0
      have ef1 := ef 1
      have ef2 := ef 2
      have hs4 : sb + 1 < w4.heap.size := (Array.getElem?_eq_some_iff.1 hrF).1
      clear s0 s1 s2 sf df ef hvF hrF hO4 hcu4 HC4
      go_wp2_with fail
      have hR : Chg (fun b => b = sb + 1) w4 (((w4.setCell ⟨sb + 1, 0, none⟩ (.slice ra' xl rc')).setCell ⟨sb + 1, 1, none⟩ (.slice ta lt tc)).setCell ⟨sb + 1, 2, none⟩ (.slice na lm nc)) :=
        Chg.setCell (F := fun b => b = sb + 1) (Chg.setCell (F := fun b => b = sb + 1) (Chg.setCell (F := fun b => b = sb + 1) (Chg.refl _ _) rfl _) rfl _) rfl _
      have hvar := block3_set2 (block3_set1 (block3_set0 HRF.out (.slice ra' xl rc')) (.slice ta lt tc)) (.slice na lm nc)
      generalize ((w4.setCell ⟨sb + 1, 0, none⟩ (.slice ra' xl rc')).setCell ⟨sb + 1, 1, none⟩ (.slice ta lt tc)).setCell ⟨sb + 1, 2, none⟩ (.slice na lm nc) = WR at *
      obtain ⟨z0, z1, z2, _⟩ := block3 hvar
      have hsb := HSB.out
      refine bodyPost_ret (v := .agg #[.slice ra' xl rc', .slice ta lt tc, .slice na lm nc]) (by simp [results, Tryd.results38, go_sem, z0, z1, z2]) rfl ?_
      rw [← HLT.out]
      have hzz := HZ.out
      have hcF : Chg (fun b => FA ra b ∨ b < sb + 2) w3 w4 := (Chg.cut (HCH.out.trans (HC4'.out.mono (fun k e => Or.inl (Or.inl e))))).mono (fun k e => by
        rcases e with e | e | e
        · exact Or.inr (by omega)
        · exact Or.inr (by omega)
        · exact Or.inl e)
      obtain ⟨hn5, ht5⟩ := HL3.out.offR hcF
      simp only [HLM.out] at hn5
      refine sp_end hsb hcs ((HCH3.out.mono (fun k e => Or.inl e)).trans ((Chg.cut (HCH.out.trans (HC4'.out.mono (fun k e => Or.inl (Or.inl e))))).mono (fun k e => ?_))) HCU4.out (by omega) HO4.out hn5 ht5 ⟨by have := HXL.out; simp; omega, by have := hzz.t; simp; omega, by have := hzz.n; simp; omega, fun i hi => by have := hzz.p i hi; simp; omega⟩ hR
      rcases e with e | e | e
      · exact Or.inl e
      · exact Or.inr (by omega)
      · exact Or.inr (by have := HRA.out _ e; omega)
end Go.Proofs.YtmjjigdnoiphbaaDoor

/-
  (*l5Cur).spoil: no trains.
-/
namespace Go.Proofs.YtmjjigdnoiphbaaDoor
open Go.RowKit Go.Deep
set_option linter.unusedVariables false
attribute [local go_sem ↓] Go.wp_at_zero Go.wp_at_succ

set_option maxHeartbeats 40000000 in
set_option maxRecDepth 8000 in
theorem spoil_none {w : World} {cb : Nat} {a : Option Addr} {B : List Int} {q : Nat} {c : Cu} (h : CurF w cb a B q c) (hk : c.1 ≤ 700000) {v : Value} {st : St} {N M : Nat} (hS : StateAt w v st) (hz : Sz N M st) (hN : N ≤ 100) (hM : M ≤ 100) (h0 : 0 < st.1.length) (hp : 3 ≤ (pk B 9 c).1) (ht : Hid (st.2.1.length = 0)) :
    Calls Tryd.prog 38 #[.pointer (some ⟨cb, 0, none⟩), v] w (SpPost w cb a B q c N M) := by
  have HC := hide h
  have HS := hide hS
  have HZ := hide hz
  have HM := hide (hz.small (by omega) (by omega))
  have hcb := h.lt
  obtain ⟨a1, q1, a2, q2, a3, q3, rfl⟩ := hS.form
  clear h hS hz
  go_enter Tryd.func38, Tryd.ntmps38
  go_wp2_with fail
  refine (l1copy_own _ st _ (HS.out.below (Joins.below_alloc2 _ _ _)) HM.out).mono ?_
  rintro e w1 ⟨L, rfl, hL, hb1⟩
  obtain ⟨ra, rc, ta, tc, na, nc, pa, pc⟩ := L
  simp only [Lies.val]
  have hBS : ((w.alloc (.cells #[.slice a1 st.1.length q1, .slice a2 st.2.1.length q2, .slice a3 st.2.2.length q3] 26)).alloc (.cells #[.slice none 0 0, .slice none 0 0, .slice none 0 0] 26)).heap.size = w.heap.size + 2 := by simp
  rw [hBS] at hL
  have hd0 : w1.heap[w.heap.size]? = some (.cells #[.slice a1 st.1.length q1, .slice a2 st.2.1.length q2, .slice a3 st.2.2.length q3] 26 (0, 0)) := (hb1.block w.heap.size (by simp; omega)).trans (blockLater (Joins.below_alloc1 _ _) (heap_alloc_new w _))
  have hd1 : w1.heap[w.heap.size + 1]? = some (.cells #[.slice none 0 0, .slice none 0 0, .slice none 0 0] 26 (0, 0)) := (hb1.block (w.heap.size + 1) (by simp)).trans (heap_alloc2_new _ _ _)
  obtain ⟨v0, v1, v2, vf⟩ := block3 hd0
  have vf0 := vf 0
  have vf1 := vf 1
  have vf2 := vf 2
  have HD0 := hide hd0
  have HD1 := hide hd1
  have hz1 : w.heap.size + 2 ≤ w1.heap.size := by have := hb1.size; simpa using this
  have HB1 := hide (below_tail (Joins.below_alloc2 w (.cells #[.slice a1 st.1.length q1, .slice a2 st.2.1.length q2, .slice a3 st.2.2.length q3] 26) (.cells #[.slice none 0 0, .slice none 0 0, .slice none 0 0] 26)) hb1)
  have HL := hide hL
  clear hL hd0 hd1 vf hb1 hBS HS HM
  go_wp2_with fail
  have hc : Chg (fun q => q = w.heap.size) w1 (((w1.setCell ⟨w.heap.size, 0, none⟩ (.slice ra st.1.length rc)).setCell ⟨w.heap.size, 1, none⟩ (.slice ta st.2.1.length tc)).setCell ⟨w.heap.size, 2, none⟩ (.slice na st.2.2.length nc)) :=
    Chg.setCell (F := fun q => q = w.heap.size) (Chg.setCell (F := fun q => q = w.heap.size) (Chg.setCell (F := fun q => q = w.heap.size) (Chg.refl _ _) rfl _) rfl _) rfl _
  have hvar := block3_set2 (block3_set1 (block3_set0 HD0.out (.slice ra st.1.length rc)) (.slice ta st.2.1.length tc)) (.slice na st.2.2.length nc)
  generalize ((w1.setCell ⟨w.heap.size, 0, none⟩ (.slice ra st.1.length rc)).setCell ⟨w.heap.size, 1, none⟩ (.slice ta st.2.1.length tc)).setCell ⟨w.heap.size, 2, none⟩ (.slice na st.2.2.length nc) = W2 at *
  have hzW := hc.size
  have hch2 : Chg (fun b => b = cb) w W2 := Chg.of_below (HB1.out.trans (hc.below (by omega) (fun k hk e => by omega)))
  refine (pick_f (HC.out.below (HB1.out.trans (hc.below (by omega) (fun k hk e => by omega)))) (by omega) 9 (by decide)).mono ?_
  rintro e w3 ⟨rfl, hcu3, hch3⟩
  obtain ⟨p0, hp0⟩ : ∃ p0 : Nat, (pk B 9 c).1 = (p0 : Int) := ⟨(pk B 9 c).1.toNat, by omega⟩
  rw [hp0]
  have hq0 : ((p0 : Int) == 0) = false := by rw [beq_eq_false_iff_ne]; omega
  have hq1 : ((p0 : Int) == 1) = false := by rw [beq_eq_false_iff_ne]; omega
  have hq2 : ((p0 : Int) == 2) = false := by rw [beq_eq_false_iff_ne]; omega
  have hr0 : ¬ (p0 : Int) = 0 := by omega
  have hr1 : ¬ (p0 : Int) = 1 := by omega
  have hr2 : ¬ (p0 : Int) = 2 := by omega
  clear hp0
  have hk3 := (pk_k B 9 c).2
  generalize (pk B 9 c).2 = c3 at *
  obtain ⟨sb, hsb⟩ : ∃ sb, sb = w.heap.size := ⟨_, rfl⟩
  have HSB := hide hsb
  have HV := hide ((hch3.block w.heap.size (by omega) (by omega)).trans hvar)
  have HR := hide ((hch3.block (w.heap.size + 1) (by omega) (by omega)).trans ((hc.block (w.heap.size + 1) (by omega) (by omega)).trans HD1.out))
  have HL3 : Hid (Cpd (w.heap.size + 2) w3 ⟨ra, rc, ta, tc, na, nc, pa, pc⟩ st) := (HL.out.chg hc (fun k e => by omega)).chg hch3 (fun k e => by omega)
  have HCH3 : Hid (Chg (fun b => b = cb) w w3) := hch2.trans hch3
  have HCU3 := hide hcu3
  rw [← hsb] at HV HR HL3 ⊢
  clear hc hvar hch2 hcu3 hch3 hp hzW HD0 HD1 HL HC v0 v1 v2 vf0 vf1 vf2 HB1
  have hcs : cb < sb := by omega
  have hs3 : sb + 1 < w3.heap.size := (Array.getElem?_eq_some_iff.1 HR.out).1
  have HT0 : Hid (st.2.1.length = 0) := ht
  rw [ht.out] at HV ⊢
  clear ht
  generalize hln : st.1.length = ln at *
  generalize hlm : st.2.2.length = lm at *
  have HLN := hide hln
  have HLM := hide hlm
  obtain ⟨s0, s1, s2, sf⟩ := block3 HV.out
  have sf0 := sf 0
  have hrF := HR.out
  obtain ⟨e0, e1, e2, ef⟩ := block3 hrF
  have HRF := hide hrF
  have ef0 := ef 0
  have ef1 := ef 1
  have ef2 := ef 2
  clear hsb hln hlm sf ef hrF
  go_wp2_with fail
  have hcS : Chg (fun b => b = sb) w3 (w3.setCell ⟨sb, 0, none⟩ (.slice none 0 0)) := Chg.setCell (F := fun b => b = sb) (p := ⟨sb, 0, none⟩) (Chg.refl _ _) rfl _
  have hRW := (hcS.block (sb + 1) (by omega) (by omega)).trans HRF.out
  generalize w3.setCell ⟨sb, 0, none⟩ (.slice none 0 0) = WF at *
  clear HRF
  have HRF := hide hRW
  have hR : Chg (fun b => b = sb + 1) WF (((WF.setCell ⟨sb + 1, 0, none⟩ (.slice none 0 0)).setCell ⟨sb + 1, 1, none⟩ (.slice ta 0 tc)).setCell ⟨sb + 1, 2, none⟩ (.slice na lm nc)) :=
    Chg.setCell (F := fun b => b = sb + 1) (Chg.setCell (F := fun b => b = sb + 1) (Chg.setCell (F := fun b => b = sb + 1) (Chg.refl _ _) rfl _) rfl _) rfl _
  have hvar := block3_set2 (block3_set1 (block3_set0 HRF.out (.slice none 0 0)) (.slice ta 0 tc)) (.slice na lm nc)
  generalize ((WF.setCell ⟨sb + 1, 0, none⟩ (.slice none 0 0)).setCell ⟨sb + 1, 1, none⟩ (.slice ta 0 tc)).setCell ⟨sb + 1, 2, none⟩ (.slice na lm nc) = WR at *
  obtain ⟨z0, z1, z2, _⟩ := block3 hvar
  have hsb := HSB.out
  refine bodyPost_ret (v := .agg #[.slice none 0 0, .slice ta 0 tc, .slice na lm nc]) (by simp [results, Tryd.results38, go_sem, z0, z1, z2]) rfl ?_
  have hzz := HZ.out
  obtain ⟨hn5, ht5⟩ := HL3.out.offR (hcS.mono (fun k e => Or.inr (by omega)))
  simp only [HLM.out] at hn5
  have hfin := sp_end (c := c) (N := N) (M := M) (tc := tc) (rs := []) hsb hcs ((HCH3.out.mono (fun k e => Or.inl e)).trans (hcS.mono (fun k e => Or.inr (by omega)))) (HCU3.out.keep hcS (fun b hb => by omega)) (by omega) (OwnInts.nil _ _) hn5 ht5 ⟨by simp, by have := hzz.t; simp; omega, by have := hzz.n; simp; omega, fun i hi => by have := hzz.p i hi; simp; omega⟩ hR
  rw [HT0.out] at hfin
  exact hfin
end Go.Proofs.YtmjjigdnoiphbaaDoor

/-
  (*l5Cur).spoil: a train stands elsewhere.
-/
namespace Go.Proofs.YtmjjigdnoiphbaaDoor
open Go.RowKit Go.Deep
set_option linter.unusedVariables false
attribute [local go_sem ↓] Go.wp_at_zero Go.wp_at_succ

set_option maxHeartbeats 40000000 in
set_option maxRecDepth 8000 in
theorem spoil_in0 {w : World} {cb : Nat} {a : Option Addr} {B : List Int} {q : Nat} {c : Cu} (h : CurF w cb a B q c) (hk : c.1 ≤ 700000) {v : Value} {st : St} {N M : Nat} (hS : StateAt w v st) (hz : Sz N M st) (hN : N ≤ 100) (hM : M ≤ 100) (h0 : 0 < st.1.length) (hp : 3 ≤ (pk B 9 c).1) (ht : 0 < st.2.1.length) (hj : (pk B 6 (pk B (st.2.1.length : Int) (pk B 9 c).2).2).1 = 0) :
    Calls Tryd.prog 38 #[.pointer (some ⟨cb, 0, none⟩), v] w (SpPost w cb a B q c N M) := by
  have HC := hide h
  have HS := hide hS
  have HZ := hide hz
  have HM := hide (hz.small (by omega) (by omega))
  have hcb := h.lt
  obtain ⟨a1, q1, a2, q2, a3, q3, rfl⟩ := hS.form
  clear h hS hz
  go_enter Tryd.func38, Tryd.ntmps38
  go_wp2_with fail
  refine (l1copy_own _ st _ (HS.out.below (Joins.below_alloc2 _ _ _)) HM.out).mono ?_
  rintro e w1 ⟨L, rfl, hL, hb1⟩
  obtain ⟨ra, rc, ta, tc, na, nc, pa, pc⟩ := L
  simp only [Lies.val]
  have hBS : ((w.alloc (.cells #[.slice a1 st.1.length q1, .slice a2 st.2.1.length q2, .slice a3 st.2.2.length q3] 26)).alloc (.cells #[.slice none 0 0, .slice none 0 0, .slice none 0 0] 26)).heap.size = w.heap.size + 2 := by simp
  rw [hBS] at hL
  have hd0 : w1.heap[w.heap.size]? = some (.cells #[.slice a1 st.1.length q1, .slice a2 st.2.1.length q2, .slice a3 st.2.2.length q3] 26 (0, 0)) := (hb1.block w.heap.size (by simp; omega)).trans (blockLater (Joins.below_alloc1 _ _) (heap_alloc_new w _))
  have hd1 : w1.heap[w.heap.size + 1]? = some (.cells #[.slice none 0 0, .slice none 0 0, .slice none 0 0] 26 (0, 0)) := (hb1.block (w.heap.size + 1) (by simp)).trans (heap_alloc2_new _ _ _)
  obtain ⟨v0, v1, v2, vf⟩ := block3 hd0
  have vf0 := vf 0
  have vf1 := vf 1
  have vf2 := vf 2
  have HD0 := hide hd0
  have HD1 := hide hd1
  have hz1 : w.heap.size + 2 ≤ w1.heap.size := by have := hb1.size; simpa using this
  have HB1 := hide (below_tail (Joins.below_alloc2 w (.cells #[.slice a1 st.1.length q1, .slice a2 st.2.1.length q2, .slice a3 st.2.2.length q3] 26) (.cells #[.slice none 0 0, .slice none 0 0, .slice none 0 0] 26)) hb1)
  have HL := hide hL
  clear hL hd0 hd1 vf hb1 hBS HS HM
  go_wp2_with fail
  have hc : Chg (fun q => q = w.heap.size) w1 (((w1.setCell ⟨w.heap.size, 0, none⟩ (.slice ra st.1.length rc)).setCell ⟨w.heap.size, 1, none⟩ (.slice ta st.2.1.length tc)).setCell ⟨w.heap.size, 2, none⟩ (.slice na st.2.2.length nc)) :=
    Chg.setCell (F := fun q => q = w.heap.size) (Chg.setCell (F := fun q => q = w.heap.size) (Chg.setCell (F := fun q => q = w.heap.size) (Chg.refl _ _) rfl _) rfl _) rfl _
  have hvar := block3_set2 (block3_set1 (block3_set0 HD0.out (.slice ra st.1.length rc)) (.slice ta st.2.1.length tc)) (.slice na st.2.2.length nc)
  generalize ((w1.setCell ⟨w.heap.size, 0, none⟩ (.slice ra st.1.length rc)).setCell ⟨w.heap.size, 1, none⟩ (.slice ta st.2.1.length tc)).setCell ⟨w.heap.size, 2, none⟩ (.slice na st.2.2.length nc) = W2 at *
  have hzW := hc.size
  have hch2 : Chg (fun b => b = cb) w W2 := Chg.of_below (HB1.out.trans (hc.below (by omega) (fun k hk e => by omega)))
  refine (pick_f (HC.out.below (HB1.out.trans (hc.below (by omega) (fun k hk e => by omega)))) (by omega) 9 (by decide)).mono ?_
  rintro e w3 ⟨rfl, hcu3, hch3⟩
  obtain ⟨p0, hp0⟩ : ∃ p0 : Nat, (pk B 9 c).1 = (p0 : Int) := ⟨(pk B 9 c).1.toNat, by omega⟩
  rw [hp0]
  have hq0 : ((p0 : Int) == 0) = false := by rw [beq_eq_false_iff_ne]; omega
  have hq1 : ((p0 : Int) == 1) = false := by rw [beq_eq_false_iff_ne]; omega
  have hq2 : ((p0 : Int) == 2) = false := by rw [beq_eq_false_iff_ne]; omega
  have hr0 : ¬ (p0 : Int) = 0 := by omega
  have hr1 : ¬ (p0 : Int) = 1 := by omega
  have hr2 : ¬ (p0 : Int) = 2 := by omega
  clear hp0
  have hk3 := (pk_k B 9 c).2
  generalize (pk B 9 c).2 = c3 at *
  obtain ⟨sb, hsb⟩ : ∃ sb, sb = w.heap.size := ⟨_, rfl⟩
  have HSB := hide hsb
  have HV := hide ((hch3.block w.heap.size (by omega) (by omega)).trans hvar)
  have HR := hide ((hch3.block (w.heap.size + 1) (by omega) (by omega)).trans ((hc.block (w.heap.size + 1) (by omega) (by omega)).trans HD1.out))
  have HL3 : Hid (Cpd (w.heap.size + 2) w3 ⟨ra, rc, ta, tc, na, nc, pa, pc⟩ st) := (HL.out.chg hc (fun k e => by omega)).chg hch3 (fun k e => by omega)
  have HCH3 : Hid (Chg (fun b => b = cb) w w3) := hch2.trans hch3
  have HCU3 := hide hcu3
  rw [← hsb] at HV HR HL3 ⊢
  clear hc hvar hch2 hcu3 hch3 hp hzW HD0 HD1 HL HC v0 v1 v2 vf0 vf1 vf2 HB1
  have hcs : cb < sb := by omega
  have hs3 : sb + 1 < w3.heap.size := (Array.getElem?_eq_some_iff.1 HR.out).1
  have hr41 : st.1.length ≤ 41 := HZ.out.r
  have ht100 : st.2.1.length ≤ 100 := by have := HZ.out.t; omega
  have hn100 : st.2.2.length ≤ 100 := by have := HZ.out.n; omega
  generalize hln : st.1.length = ln at *
  generalize hlt : st.2.1.length = lt at *
  generalize hlm : st.2.2.length = lm at *
  have HLN := hide hln
  have HLT := hide hlt
  have HLM := hide hlm
  obtain ⟨s0, s1, s2, sf⟩ := block3 HV.out
  obtain ⟨gt, hgt⟩ : ∃ gt, ta = some ⟨gt, 0, none⟩ := by
    rcases HL3.out.t.2 with ⟨e, e'⟩ | ⟨g, cap, cur, e, _⟩
    · omega
    · simp only [Value.slice.injEq] at e; exact ⟨g, e.1⟩
  subst hgt
  have a1' := pk_lo B (lt : Int) c3
  have a2' := pk_hi B c3 (show (1 : Int) ≤ (lt : Int) by omega)
  have a3' := (pk_k B (lt : Int) c3).2
  generalize hP1 : pk B (lt : Int) c3 = P1 at *
  obtain ⟨u, hu⟩ : ∃ u : Nat, P1.1 = (u : Int) := ⟨P1.1.toNat, by omega⟩
  have hul : u < lt := by omega
  have hq3 : ((lt : Int) == 0) = false := by rw [beq_eq_false_iff_ne]; omega
  have hr3 : ¬ (lt : Int) = 0 := by omega
  have hr4 : ¬ lt = 0 := by omega
  have HP1 := hide hP1
  have HU := hide hu
  have HJ := hide hj
  clear hsb hln hlt hlm hP1 hu hj a1' a2'
  go_wp2_with fail
  refine (pick_f HCU3.out (by omega) (lt : Int) (by omega)).mono ?_
  rw [HP1.out]
  rintro e w4 ⟨rfl, hcu4, hch4⟩
  rw [HU.out]
  have huu0 : (0 : Int) ≤ (u : Int) := by omega
  have huu1 : (u : Int) < (lt : Int) := by omega
  obtain ⟨t0, t1, t2, tf⟩ := block3 (chg_row hch4 HV.out (by omega))
  clear s0 s1 s2 sf
  go_wp2_with fail
  refine (pick_f hcu4 (by omega) 6 (by decide)).mono ?_
  rintro e w5 ⟨rfl, hcu5, hch5⟩
  rw [HJ.out]
  have hk5 := (pk_k B 6 P1.2).2
  generalize (pk B 6 P1.2).2 = c5 at *
  have HC5 : Hid (Chg (fun b => b = cb) w3 w5) := hch4.trans hch5
  have HV5 := hide (chg_row HC5.out HV.out (by omega))
  have HR5 := hide (chg_row HC5.out HR.out (by omega))
  have HL5 : Hid (Cpd (sb + 2) w5 ⟨ra, rc, some ⟨gt, 0, none⟩, tc, na, nc, pa, pc⟩ st) := HL3.out.chg HC5.out (fun k e => by omega)
  have HCU5 := hide hcu5
  have HCH5 : Hid (Chg (fun b => b = cb) w w5) := HCH3.out.trans HC5.out
  have hs5 : sb + 1 < w5.heap.size := (Array.getElem?_eq_some_iff.1 HR5.out).1
  have hgt2 : sb + 2 ≤ gt := HL5.out.new gt (Or.inr (Or.inr (Or.inl (FA_mk _ _))))
  have hgtl : gt < w5.heap.size := HL5.out.own.apart.lt gt (Or.inr (Or.inr (Or.inl (FA_mk _ _))))
  have HSP : Hid (SpT (sb + 2) w5 gt st.2.1 pa pc u) := HL5.out.spT rfl (by rw [HLT.out]; exact hul)
  have hus : u < st.2.1.length := by rw [HLT.out]; exact hul
  have HUS := hide hus
  clear hcu4 hch4 hcu5 hch5 HV HR HL3 HCU3 HCH3 t0 t1 t2 tf hus HJ
  obtain ⟨s0, s1, s2, sf⟩ := block3 HV5.out
  have b1' := pk_lo B ((ln : Int) + 2) c5
  have b2' := pk_hi B c5 (show (1 : Int) ≤ (ln : Int) + 2 by omega)
  have b3' := (pk_k B ((ln : Int) + 2) c5).2
  generalize hP3 : pk B ((ln : Int) + 2) c5 = P3 at *
  obtain ⟨x3, hx3⟩ : ∃ x3 : Nat, P3.1 = (x3 : Int) := ⟨P3.1.toNat, by omega⟩
  have hw2 : wrap64 ((x3 : Int) - 1) = (x3 : Int) - 1 := by unfold wrap64; omega
  have HP3 := hide hP3
  have HX3 := hide hx3
  clear hP3 hx3 b1' b2'
  go_wp2_with fail
  refine (pick_f HCU5.out (by omega) ((ln : Int) + 2) (by omega)).mono ?_
  rw [HP3.out]
  rintro e w6 ⟨rfl, hcu6, hch6⟩
  rw [HX3.out]
  obtain ⟨b', off', eT, g0, g1, g2, gf⟩ := (HSP.out.keep hch6.size (fun q h1 h2 => hch6.block q h2 (by omega))).t.row u HUS.out
  simp only [Option.some.injEq, Addr.mk.injEq, and_true] at eT
  obtain ⟨rfl, rfl⟩ := eT
  have gf0 := gf 0 (by omega)
  have gf1 := gf 1 (by omega)
  have gf2 := gf 2 (by omega)
  rw [Nat.zero_add] at g0 g1 g2 gf0 gf1 gf2
  rw [Nat.add_zero] at gf0
  have HG6 : Hid (SpT (sb + 2) w6 gt st.2.1 pa pc u) := HSP.out.keep hch6.size (fun q h1 h2 => hch6.block q h2 (by omega))
  have hvF := chg_row hch6 HV5.out (by omega)
  have hrF := chg_row hch6 HR5.out (by omega)
  obtain ⟨d0, d1, d2, df⟩ := block3 hvF
  obtain ⟨e0, e1, e2, ef⟩ := block3 hrF
  have HRF := hide hrF
  have ef0 := ef 0
  have ef1 := ef 1
  have ef2 := ef 2
  have HCU6 := hide hcu6
  have HC6 := hide hch6
  have hs6 : sb + 1 < w6.heap.size := (Array.getElem?_eq_some_iff.1 hrF).1
  have hnG : ¬ gt = sb + 1 := by omega
  have hnG' : ¬ sb + 1 = gt := by omega
  have hnS : ¬ sb = gt := by omega
  have hnS' : ¬ gt = sb := by omega
  clear s0 s1 s2 sf df ef hvF hrF hcu6 hch6 gf
  go_wp2_with fail
  have hcS : Chg (fun b => b = gt) w6 (w6.setCell ⟨gt, u * 3, none⟩ (.int .i64 ((x3 : Int) - 1))) := Chg.setCell (F := fun b => b = gt) (p := ⟨gt, u * 3, none⟩) (Chg.refl _ _) rfl _
  have hT6 := HG6.out.t.setAt HUS.out ((x3 : Int) - 1)
  rw [Nat.zero_add] at hT6
  have hRW := (hcS.block (sb + 1) (by omega) (by omega)).trans HRF.out
  generalize w6.setCell ⟨gt, u * 3, none⟩ (.int .i64 ((x3 : Int) - 1)) = WF at *
  clear HRF
  have HRF := hide hRW
  have hR : Chg (fun b => b = sb + 1) WF (((WF.setCell ⟨sb + 1, 0, none⟩ (.slice ra ln rc)).setCell ⟨sb + 1, 1, none⟩ (.slice (some ⟨gt, 0, none⟩) lt tc)).setCell ⟨sb + 1, 2, none⟩ (.slice na lm nc)) :=
    Chg.setCell (F := fun b => b = sb + 1) (Chg.setCell (F := fun b => b = sb + 1) (Chg.setCell (F := fun b => b = sb + 1) (Chg.refl _ _) rfl _) rfl _) rfl _
  have hvar := block3_set2 (block3_set1 (block3_set0 HRF.out (.slice ra ln rc)) (.slice (some ⟨gt, 0, none⟩) lt tc)) (.slice na lm nc)
  generalize ((WF.setCell ⟨sb + 1, 0, none⟩ (.slice ra ln rc)).setCell ⟨sb + 1, 1, none⟩ (.slice (some ⟨gt, 0, none⟩) lt tc)).setCell ⟨sb + 1, 2, none⟩ (.slice na lm nc) = WR at *
  obtain ⟨z0, z1, z2, _⟩ := block3 hvar
  have hsb := HSB.out
  refine bodyPost_ret (v := .agg #[.slice ra ln rc, .slice (some ⟨gt, 0, none⟩) lt tc, .slice na lm nc]) (by simp [results, Tryd.results38, go_sem, z0, z1, z2]) rfl ?_
  have hzz := HZ.out
  obtain ⟨hr7, hn7⟩ := HL5.out.offT ((HC6.out.mono (fun k e => Or.inr (by omega))).trans (hcS.mono (fun k e => Or.inl (Or.inl (by rw [e]; exact FA_mk _ _)))))
  simp only [HLN.out] at hr7
  simp only [HLM.out] at hn7
  have hfin := sp_end (c := c) (N := N) (M := M) (tc := tc) hsb hcs ((HCH5.out.mono (fun k e => Or.inl e)).trans ((HC6.out.mono (fun k e => Or.inl e)).trans (hcS.mono (fun k e => Or.inr (by omega))))) (HCU6.out.keep hcS (fun b hb => by omega)) (by omega) hr7 hn7 hT6 ⟨hzz.r, by have := hzz.t; simp; omega, by have := hzz.n; simp; omega, fun i hi => by
    simp only [List.length_set] at hi
    simp only [tPath_set _ _ HUS.out]
    have h1 := hzz.p i hi
    have h2 := hzz.p u HUS.out
    split
    · simp <;> omega
    · simp <;> omega⟩ hR
  rw [List.length_set, HLT.out] at hfin
  exact hfin
end Go.Proofs.YtmjjigdnoiphbaaDoor

/-
  (*l5Cur).spoil: another weight.
-/
namespace Go.Proofs.YtmjjigdnoiphbaaDoor
open Go.RowKit Go.Deep
set_option linter.unusedVariables false
attribute [local go_sem ↓] Go.wp_at_zero Go.wp_at_succ

set_option maxHeartbeats 40000000 in
set_option maxRecDepth 8000 in
theorem spoil_in3 {w : World} {cb : Nat} {a : Option Addr} {B : List Int} {q : Nat} {c : Cu} (h : CurF w cb a B q c) (hk : c.1 ≤ 700000) {v : Value} {st : St} {N M : Nat} (hS : StateAt w v st) (hz : Sz N M st) (hN : N ≤ 100) (hM : M ≤ 100) (h0 : 0 < st.1.length) (hp : 3 ≤ (pk B 9 c).1) (ht : 0 < st.2.1.length) (hj : (pk B 6 (pk B (st.2.1.length : Int) (pk B 9 c).2).2).1 = 3) :
    Calls Tryd.prog 38 #[.pointer (some ⟨cb, 0, none⟩), v] w (SpPost w cb a B q c N M) := by
  have HC := hide h
  have HS := hide hS
  have HZ := hide hz
  have HM := hide (hz.small (by omega) (by omega))
  have hcb := h.lt
  obtain ⟨a1, q1, a2, q2, a3, q3, rfl⟩ := hS.form
  clear h hS hz
  go_enter Tryd.func38, Tryd.ntmps38
  go_wp2_with fail
  refine (l1copy_own _ st _ (HS.out.below (Joins.below_alloc2 _ _ _)) HM.out).mono ?_
  rintro e w1 ⟨L, rfl, hL, hb1⟩
  obtain ⟨ra, rc, ta, tc, na, nc, pa, pc⟩ := L
  simp only [Lies.val]
  have hBS : ((w.alloc (.cells #[.slice a1 st.1.length q1, .slice a2 st.2.1.length q2, .slice a3 st.2.2.length q3] 26)).alloc (.cells #[.slice none 0 0, .slice none 0 0, .slice none 0 0] 26)).heap.size = w.heap.size + 2 := by simp
  rw [hBS] at hL
  have hd0 : w1.heap[w.heap.size]? = some (.cells #[.slice a1 st.1.length q1, .slice a2 st.2.1.length q2, .slice a3 st.2.2.length q3] 26 (0, 0)) := (hb1.block w.heap.size (by simp; omega)).trans (blockLater (Joins.below_alloc1 _ _) (heap_alloc_new w _))
  have hd1 : w1.heap[w.heap.size + 1]? = some (.cells #[.slice none 0 0, .slice none 0 0, .slice none 0 0] 26 (0, 0)) := (hb1.block (w.heap.size + 1) (by simp)).trans (heap_alloc2_new _ _ _)
  obtain ⟨v0, v1, v2, vf⟩ := block3 hd0
  have vf0 := vf 0
  have vf1 := vf 1
  have vf2 := vf 2
  have HD0 := hide hd0
  have HD1 := hide hd1
  have hz1 : w.heap.size + 2 ≤ w1.heap.size := by have := hb1.size; simpa using this
  have HB1 := hide (below_tail (Joins.below_alloc2 w (.cells #[.slice a1 st.1.length q1, .slice a2 st.2.1.length q2, .slice a3 st.2.2.length q3] 26) (.cells #[.slice none 0 0, .slice none 0 0, .slice none 0 0] 26)) hb1)
  have HL := hide hL
  clear hL hd0 hd1 vf hb1 hBS HS HM
  go_wp2_with fail
  have hc : Chg (fun q => q = w.heap.size) w1 (((w1.setCell ⟨w.heap.size, 0, none⟩ (.slice ra st.1.length rc)).setCell ⟨w.heap.size, 1, none⟩ (.slice ta st.2.1.length tc)).setCell ⟨w.heap.size, 2, none⟩ (.slice na st.2.2.length nc)) :=
    Chg.setCell (F := fun q => q = w.heap.size) (Chg.setCell (F := fun q => q = w.heap.size) (Chg.setCell (F := fun q => q = w.heap.size) (Chg.refl _ _) rfl _) rfl _) rfl _
  have hvar := block3_set2 (block3_set1 (block3_set0 HD0.out (.slice ra st.1.length rc)) (.slice ta st.2.1.length tc)) (.slice na st.2.2.length nc)
  generalize ((w1.setCell ⟨w.heap.size, 0, none⟩ (.slice ra st.1.length rc)).setCell ⟨w.heap.size, 1, none⟩ (.slice ta st.2.1.length tc)).setCell ⟨w.heap.size, 2, none⟩ (.slice na st.2.2.length nc) = W2 at *
  have hzW := hc.size
  have hch2 : Chg (fun b => b = cb) w W2 := Chg.of_below (HB1.out.trans (hc.below (by omega) (fun k hk e => by omega)))
  refine (pick_f (HC.out.below (HB1.out.trans (hc.below (by omega) (fun k hk e => by omega)))) (by omega) 9 (by decide)).mono ?_
  rintro e w3 ⟨rfl, hcu3, hch3⟩
  obtain ⟨p0, hp0⟩ : ∃ p0 : Nat, (pk B 9 c).1 = (p0 : Int) := ⟨(pk B 9 c).1.toNat, by omega⟩
  rw [hp0]
  have hq0 : ((p0 : Int) == 0) = false := by rw [beq_eq_false_iff_ne]; omega
  have hq1 : ((p0 : Int) == 1) = false := by rw [beq_eq_false_iff_ne]; omega
  have hq2 : ((p0 : Int) == 2) = false := by rw [beq_eq_false_iff_ne]; omega
  have hr0 : ¬ (p0 : Int) = 0 := by omega
  have hr1 : ¬ (p0 : Int) = 1 := by omega
  have hr2 : ¬ (p0 : Int) = 2 := by omega
  clear hp0
  have hk3 := (pk_k B 9 c).2
  generalize (pk B 9 c).2 = c3 at *
  obtain ⟨sb, hsb⟩ : ∃ sb, sb = w.heap.size := ⟨_, rfl⟩
  have HSB := hide hsb
  have HV := hide ((hch3.block w.heap.size (by omega) (by omega)).trans hvar)
  have HR := hide ((hch3.block (w.heap.size + 1) (by omega) (by omega)).trans ((hc.block (w.heap.size + 1) (by omega) (by omega)).trans HD1.out))
  have HL3 : Hid (Cpd (w.heap.size + 2) w3 ⟨ra, rc, ta, tc, na, nc, pa, pc⟩ st) := (HL.out.chg hc (fun k e => by omega)).chg hch3 (fun k e => by omega)
  have HCH3 : Hid (Chg (fun b => b = cb) w w3) := hch2.trans hch3
  have HCU3 := hide hcu3
  rw [← hsb] at HV HR HL3 ⊢
  clear hc hvar hch2 hcu3 hch3 hp hzW HD0 HD1 HL HC v0 v1 v2 vf0 vf1 vf2 HB1
  have hcs : cb < sb := by omega
  have hs3 : sb + 1 < w3.heap.size := (Array.getElem?_eq_some_iff.1 HR.out).1
  have hr41 : st.1.length ≤ 41 := HZ.out.r
  have ht100 : st.2.1.length ≤ 100 := by have := HZ.out.t; omega
  have hn100 : st.2.2.length ≤ 100 := by have := HZ.out.n; omega
  generalize hln : st.1.length = ln at *
  generalize hlt : st.2.1.length = lt at *
  generalize hlm : st.2.2.length = lm at *
  have HLN := hide hln
  have HLT := hide hlt
  have HLM := hide hlm
  obtain ⟨s0, s1, s2, sf⟩ := block3 HV.out
  obtain ⟨gt, hgt⟩ : ∃ gt, ta = some ⟨gt, 0, none⟩ := by
    rcases HL3.out.t.2 with ⟨e, e'⟩ | ⟨g, cap, cur, e, _⟩
    · omega
    · simp only [Value.slice.injEq] at e; exact ⟨g, e.1⟩
  subst hgt
  have a1' := pk_lo B (lt : Int) c3
  have a2' := pk_hi B c3 (show (1 : Int) ≤ (lt : Int) by omega)
  have a3' := (pk_k B (lt : Int) c3).2
  generalize hP1 : pk B (lt : Int) c3 = P1 at *
  obtain ⟨u, hu⟩ : ∃ u : Nat, P1.1 = (u : Int) := ⟨P1.1.toNat, by omega⟩
  have hul : u < lt := by omega
  have hq3 : ((lt : Int) == 0) = false := by rw [beq_eq_false_iff_ne]; omega
  have hr3 : ¬ (lt : Int) = 0 := by omega
  have hr4 : ¬ lt = 0 := by omega
  have HP1 := hide hP1
  have HU := hide hu
  have HJ := hide hj
  clear hsb hln hlt hlm hP1 hu hj a1' a2'
  go_wp2_with fail
  refine (pick_f HCU3.out (by omega) (lt : Int) (by omega)).mono ?_
  rw [HP1.out]
  rintro e w4 ⟨rfl, hcu4, hch4⟩
  rw [HU.out]
  have huu0 : (0 : Int) ≤ (u : Int) := by omega
  have huu1 : (u : Int) < (lt : Int) := by omega
  obtain ⟨t0, t1, t2, tf⟩ := block3 (chg_row hch4 HV.out (by omega))
  clear s0 s1 s2 sf
  go_wp2_with fail
  refine (pick_f hcu4 (by omega) 6 (by decide)).mono ?_
  rintro e w5 ⟨rfl, hcu5, hch5⟩
  rw [HJ.out]
  have hk5 := (pk_k B 6 P1.2).2
  generalize (pk B 6 P1.2).2 = c5 at *
  have HC5 : Hid (Chg (fun b => b = cb) w3 w5) := hch4.trans hch5
  have HV5 := hide (chg_row HC5.out HV.out (by omega))
  have HR5 := hide (chg_row HC5.out HR.out (by omega))
  have HL5 : Hid (Cpd (sb + 2) w5 ⟨ra, rc, some ⟨gt, 0, none⟩, tc, na, nc, pa, pc⟩ st) := HL3.out.chg HC5.out (fun k e => by omega)
  have HCU5 := hide hcu5
  have HCH5 : Hid (Chg (fun b => b = cb) w w5) := HCH3.out.trans HC5.out
  have hs5 : sb + 1 < w5.heap.size := (Array.getElem?_eq_some_iff.1 HR5.out).1
  have hgt2 : sb + 2 ≤ gt := HL5.out.new gt (Or.inr (Or.inr (Or.inl (FA_mk _ _))))
  have hgtl : gt < w5.heap.size := HL5.out.own.apart.lt gt (Or.inr (Or.inr (Or.inl (FA_mk _ _))))
  have HSP : Hid (SpT (sb + 2) w5 gt st.2.1 pa pc u) := HL5.out.spT rfl (by rw [HLT.out]; exact hul)
  have hus : u < st.2.1.length := by rw [HLT.out]; exact hul
  have HUS := hide hus
  clear hcu4 hch4 hcu5 hch5 HV HR HL3 HCU3 HCH3 t0 t1 t2 tf hus HJ
  have b1' := pk_lo B 3 c5
  have b2' := pk_hi B c5 (show (1 : Int) ≤ 3 by omega)
  have b3' := (pk_k B 3 c5).2
  generalize hP3 : pk B 3 c5 = P3 at *
  obtain ⟨p2, hp2⟩ : ∃ p2 : Nat, P3.1 = (p2 : Int) := ⟨P3.1.toNat, by omega⟩
  have hp3 : p2 < 3 := by omega
  have HPF : Hid (∀ W : World, Below w5.heap.size w5 W → Calls Tryd.prog 37 #[.pointer (some ⟨cb, 0, none⟩), .int .i64 3] W fun e w' => e = .returned (.int .i64 (p2 : Int)) ∧ CurF w' cb a B q P3.2 ∧ Chg (fun b => b = cb) W w' ∧ Chg (fun b => b = cb) w5 w') := fun W hW => by
    have := pick_f (HCU5.out.below hW) (by omega) 3 (by omega)
    rw [hP3, hp2] at this
    exact this.mono (fun e w' ⟨x1, x2, x3⟩ => ⟨x1, x2, x3, (Chg.of_below hW).trans x3⟩)
  obtain ⟨x, hx⟩ : ∃ x : Int, (#[Value.int .i64 0, .int .i64 100, .int .i64 101] : Array Value)[p2]? = some (.int .i64 x) := by
    rcases (show p2 = 0 ∨ p2 = 1 ∨ p2 = 2 by omega) with rfl | rfl | rfl
    · exact ⟨0, rfl⟩
    · exact ⟨100, rfl⟩
    · exact ⟨101, rfl⟩
  have hX0 : ∀ V : World, (V.alloc (.cells #[.int .i64 0, .int .i64 100, .int .i64 101] 3)).cell? ⟨V.heap.size, p2, none⟩ = some (.int .i64 x) := fun V => by
    rw [cell_of_row _ _ p2 _ _ (0, 0) (heap_alloc_new V _)]
    exact hx
  have HX0 := hide hX0
  have hpp0 : (0 : Int) ≤ (p2 : Int) := by omega
  have hpp3 : (p2 : Int) < 3 := by omega
  obtain ⟨s0, s1, s2, sf⟩ := block3 HV5.out
  have HGT : Hid (∀ W, Chg (fun b => b = cb) w5 W → W.cell? ⟨gt, u * 3 + 2, none⟩ = some (.int .i64 (tWt st.2.1 u)) ∧ W.frozen? ⟨gt, u * 3 + 2, none⟩ = false) := fun W hW => by
    obtain ⟨b', off', eT, g0, g1, g2, gf⟩ := (HSP.out.keep hW.size (fun q h1 h2 => hW.block q h2 (by omega))).t.row u HUS.out
    simp only [Option.some.injEq, Addr.mk.injEq, and_true] at eT
    obtain ⟨rfl, rfl⟩ := eT
    have gf0 := gf 0 (by omega)
    have gf1 := gf 1 (by omega)
    have gf2 := gf 2 (by omega)
    rw [Nat.zero_add] at g0 g1 g2 gf0 gf1 gf2
    rw [Nat.add_zero] at gf0
    exact ⟨g2, gf2⟩
  clear hP3 hp2 b1' b2' hX0 s0 s1 s2 sf
  go_wp2_with fail
  refine (HPF.out _ (Joins.below_alloc1 _ _)).mono ?_
  rintro e w6 ⟨rfl, hcu6, hch6, HC6⟩
  have hz6 := HC6.size
  obtain ⟨k1, k2⟩ := HGT.out w6 HC6
  have k8 := k1
  have k5 : w6.cell? ⟨w5.heap.size, p2, none⟩ = some (Value.int .i64 x) := chg_cell hch6 (HX0.out w5) (by omega)
  have hvF := chg_row HC6 HV5.out (by omega)
  have hrF := chg_row HC6 HR5.out (by omega)
  obtain ⟨d0', d1', d2', df'⟩ := block3 hvF
  obtain ⟨e0', e1', e2', ef'⟩ := block3 hrF
  have ef0' := ef' 0
  have ef1' := ef' 1
  have ef2' := ef' 2
  have hnG : ¬ gt = sb + 1 := by omega
  have hnG' : ¬ sb + 1 = gt := by omega
  have hnS : ¬ sb = gt := by omega
  have hnS' : ¬ gt = sb := by omega
  have hs6 : sb + 1 < w6.heap.size := by omega
  clear hvF hrF df' ef'
  go_wp2_with fail
  have HG6 : Hid (SpT (sb + 2) w6 gt st.2.1 pa pc u) := HSP.out.keep HC6.size (fun q h1 h2 => HC6.block q h2 (by omega))
  have hT6 := HG6.out.t.setWt HUS.out x
  rw [Nat.zero_add] at hT6
  have hcG : Chg (fun b => b = gt) w6 (w6.setCell ⟨gt, u * 3 + 2, none⟩ (.int .i64 x)) := Chg.setCell (F := fun b => b = gt) (p := ⟨gt, u * 3 + 2, none⟩) (Chg.refl _ _) rfl _
  have HRF := hide ((hcG.block (sb + 1) (by omega) (by omega)).trans (chg_row HC6 HR5.out (by omega)))
  generalize w6.setCell ⟨gt, u * 3 + 2, none⟩ (.int .i64 x) = WF at *
  have HT6 := hide hT6
  have HF2 := hide hcG
  have HC6' := hide HC6
  have HCU6 := hide hcu6
  have hR : Chg (fun b => b = sb + 1) WF (((WF.setCell ⟨sb + 1, 0, none⟩ (.slice ra ln rc)).setCell ⟨sb + 1, 1, none⟩ (.slice (some ⟨gt, 0, none⟩) lt tc)).setCell ⟨sb + 1, 2, none⟩ (.slice na lm nc)) :=
    Chg.setCell (F := fun b => b = sb + 1) (Chg.setCell (F := fun b => b = sb + 1) (Chg.setCell (F := fun b => b = sb + 1) (Chg.refl _ _) rfl _) rfl _) rfl _
  have hvar := block3_set2 (block3_set1 (block3_set0 HRF.out (.slice ra ln rc)) (.slice (some ⟨gt, 0, none⟩) lt tc)) (.slice na lm nc)
  generalize ((WF.setCell ⟨sb + 1, 0, none⟩ (.slice ra ln rc)).setCell ⟨sb + 1, 1, none⟩ (.slice (some ⟨gt, 0, none⟩) lt tc)).setCell ⟨sb + 1, 2, none⟩ (.slice na lm nc) = WR at *
  obtain ⟨z0, z1, z2, _⟩ := block3 hvar
  have hsb := HSB.out
  refine bodyPost_ret (v := .agg #[.slice ra ln rc, .slice (some ⟨gt, 0, none⟩) lt tc, .slice na lm nc]) (by simp [results, Tryd.results38, go_sem, z0, z1, z2]) rfl ?_
  have hzz := HZ.out
  obtain ⟨hr7, hn7⟩ := HL5.out.offT ((HC6'.out.mono (fun k e => Or.inr (by omega))).trans (HF2.out.mono (fun k e => Or.inl (Or.inl (by rw [e]; exact FA_mk _ _)))))
  simp only [HLN.out] at hr7
  simp only [HLM.out] at hn7
  have hfin := sp_end (c := c) (N := N) (M := M) (tc := tc) hsb hcs ((HCH5.out.mono (fun k e => Or.inl e)).trans ((HC6'.out.mono (fun k e => Or.inl e)).trans (HF2.out.mono (fun k e => Or.inr (by omega))))) (HCU6.out.keep HF2.out (fun b hb => by omega)) (by omega) hr7 hn7 HT6.out ⟨hzz.r, by have := hzz.t; simp; omega, by have := hzz.n; simp; omega, fun i hi => by
    simp only [List.length_set] at hi
    simp only [tPath_set _ _ HUS.out]
    have h1 := hzz.p i hi
    have h2 := hzz.p u HUS.out
    split
    · simp <;> omega
    · simp <;> omega⟩ hR
  rw [List.length_set, HLT.out] at hfin
  exact hfin
end Go.Proofs.YtmjjigdnoiphbaaDoor
