/-
  append OF A LIST OF INTEGERS, nil OR NOT, TO AN EMPTY ONE; spec.l1copy.
-/
import Derived.Test.YtmjjigdnoiphbaaDoorL2
import Derived.Test.YtmjjigdnoiphbaaDoorW23
import Derived.Deep.AppendSrc
namespace Go.Proofs.YtmjjigdnoiphbaaDoor
open Go.RowKit Go.Deep
set_option linter.unusedVariables false

/-- the trains of a list, one by one -/
def upT (ts : List Tr) : Nat → List Tr
  | 0 => []
  | k + 1 => upT ts k ++ [(tAt ts k, tPath ts k, tWt ts k)]
theorem upT_length (ts : List Tr) : ∀ k, (upT ts k).length = k
  | 0 => rfl
  | k + 1 => by simp [upT, upT_length ts k]
theorem upT_take (ts : List Tr) : ∀ k, k ≤ ts.length → upT ts k = ts.take k
  | 0, _ => by simp [upT]
  | k + 1, hk => by
    rw [upT, upT_take ts k (by omega), List.take_succ_eq_append_getElem (by omega)]
    congr 1
    simp [tAt, tPath, tWt, show k < ts.length by omega]
theorem upT_all (ts : List Tr) : upT ts ts.length = ts := by rw [upT_take ts _ (Nat.le_refl _), List.take_length]

/-- where l1copy stands behind k rounds: the variable 'out' is block b5 -/
structure Cop (U : World) (b5 : Nat) (rv nv : Value) (ts' : List Tr) (w : World) (tv : Value) (pa : Nat → Option Addr) (pc : Nat → Nat) : Prop where
  var : w.heap[b5]? = some (.cells #[rv, tv, nv] 26 (0, 0))
  tr : Gath U.heap.size w tv ts' pa pc
  old : Chg (fun q => q = b5 ∨ U.heap.size ≤ q) U w

theorem Cop.below {U : World} {b5 : Nat} {rv nv : Value} {ts' : List Tr} {w w' : World} {tv : Value} {pa : Nat → Option Addr} {pc : Nat → Nat} (h : Cop U b5 rv nv ts' w tv pa pc) (hb : Below w.heap.size w w') : Cop U b5 rv nv ts' w' tv pa pc :=
  ⟨(hb.block b5 (Array.getElem?_eq_some_iff.1 h.var).1).trans h.var, h.tr.below hb, h.old.trans (Chg.of_below hb)⟩
theorem Cop.set {U : World} {b5 : Nat} {rv nv : Value} {ts' : List Tr} {w : World} {tv : Value} {pa : Nat → Option Addr} {pc : Nat → Nat} (h : Cop U b5 rv nv ts' w tv pa pc) {T o : Nat} {u : Value} (hT : U.heap.size ≤ T) (h5 : b5 ≠ T) (hG : ¬ FG tv pa ts'.length T) : Cop U b5 rv nv ts' (w.setCell ⟨T, o, none⟩ u) tv pa pc := by
  have hc : Chg (fun q => q = T) w (w.setCell ⟨T, o, none⟩ u) := Chg.setCell (F := fun q => q = T) (p := ⟨T, o, none⟩) (Chg.refl _ _) rfl _
  exact ⟨(Below.heap_setCell _ _ _ _ (by simpa using h5)).trans h.var, h.tr.chg hc (fun k hk e => hG (e ▸ hk)), h.old.setCell (Or.inr hT) _⟩
theorem Cop.tvNe {U : World} {b5 : Nat} {rv nv : Value} {ts' : List Tr} {w : World} {tv : Value} {pa : Nat → Option Addr} {pc : Nat → Nat} (h : Cop U b5 rv nv ts' w tv pa pc) (hb5 : b5 < U.heap.size) : tv.ownBlock ≠ some b5 := fun e => by have := (ownBlock_lt h.tr.row e).1; omega
theorem Cop.grown {U : World} {b5 : Nat} {rv nv : Value} {ts' : List Tr} {w wa w' : World} {tv : Value} {pa : Nat → Option Addr} {pc : Nat → Nat} (h : Cop U b5 rv nv ts' w tv pa pc) (hb5 : b5 < U.heap.size) (hba : Below w.heap.size w wa) (hgrow : wa.grownBy w' tv.ownBlock) : w'.heap[b5]? = some (.cells #[rv, tv, nv] 26 (0, 0)) := by
  have hlt : b5 < w.heap.size := (Array.getElem?_eq_some_iff.1 h.var).1
  rw [hgrow.block b5 (Nat.lt_of_lt_of_le hlt hba.size) (fun e => h.tvNe hb5 e.symm), hba.block b5 hlt]
  exact h.var
theorem Cop.snocT {U : World} {b5 : Nat} {rv nv : Value} {ts' : List Tr} {w wa w' : World} {tv : Value} {pa : Nat → Option Addr} {pc : Nat → Nat} (h : Cop U b5 rv nv ts' w tv pa pc) (hb5 : b5 < U.heap.size) (hba : Below w.heap.size w wa) {t : Tr} {a : Option Addr} {c g cap : Nat}
    (hp : OwnF w a t.2.1.length (el t.2.1)) (hcap : t.2.1.length ≤ c) (hlo : ∀ k, FA a k → U.heap.size ≤ k ∧ k < w.heap.size ∧ ¬ FG tv pa ts'.length k)
    (hown : w'.ownsRow U.heap.size 35 3 (.slice (some ⟨g, 0, none⟩) (ts'.length + 1) cap) (ts'.length + 1) (trVals ts' pa pc ++ [.int .i64 t.1, .slice a t.2.1.length c, .int .i64 t.2.2]))
    (hgrow : wa.grownBy w' tv.ownBlock) (hat : tv.ownBlock = some g ∨ wa.heap.size ≤ g) :
    Cop U b5 rv nv (ts' ++ [t]) (w'.setCell ⟨b5, 1, none⟩ (.slice (some ⟨g, 0, none⟩) (ts'.length + 1) cap)) (.slice (some ⟨g, 0, none⟩) (ts'.length + 1) cap) (upd pa ts'.length a) (upd pc ts'.length c) := by
  have hG := (h.tr.below hba).snoc (hp.below hba) hcap (fun k hk => ⟨(hlo k hk).1, Nat.lt_of_lt_of_le (hlo k hk).2.1 hba.size, (hlo k hk).2.2⟩) hown hgrow hat
  have hc5 : Chg (fun q => q = b5) w' (w'.setCell ⟨b5, 1, none⟩ (.slice (some ⟨g, 0, none⟩) (ts'.length + 1) cap)) := Chg.setCell (F := fun q => q = b5) (p := ⟨b5, 1, none⟩) (Chg.refl _ _) rfl _
  refine ⟨block3_set1 (h.grown hb5 hba hgrow) _, hG.chg hc5 (fun k hk e => by have := (hG.FG_lo hk).1; omega), ?_⟩
  exact (chg_grown (h.old.trans (Chg.of_below hba)) hgrow (fun k hk => Or.inr (ownBlock_lt h.tr.row hk).1)).setCell (Or.inl rfl) _

set_option maxHeartbeats 4000000 in
theorem l1copy_any (v : Value) (st : St) (w : World) (h : StateAt w v st) (hs : SmallSt st) :
    Calls Tryd.prog 24 #[v] w fun e w' => ∃ L : Lies, e = .returned (L.val st) ∧ OwnS w' L st ∧ st.2.1.length ≤ L.tc ∧ st.2.2.length ≤ L.nc ∧ (∀ i, i < st.2.1.length → (tPath st.2.1 i).length ≤ L.pc i) ∧ (∀ k, L.F st.2.1.length k → w.heap.size ≤ k) ∧ Below w.heap.size w w' := by
  have HS := hide h
  have HM := hide hs
  have b1 := hs.rl
  have b2 := hs.tl
  have b3 := hs.nl
  obtain ⟨a1, q1, a2, q2, a3, q3, rfl⟩ := h.form
  have HI1 := hide h.parts.1
  have HI3 := hide h.parts.2.2
  clear h hs
  go_enter Tryd.func24, Tryd.ntmps24
  go_wp2_with (first | (at_builtin; refine wpList_append_ints rfl _ _ rfl (w.heap.size + 3) _ _ st.1 rfl rfl (OwnInts.nil _ _) (HI1.out.below (Joins.below_alloc3 _ _ _ _)) b1 ?_ ?_))
  · simp
  intro rv w1 hrv hg1
  obtain ⟨ra, rc, rfl, hrF, hrA⟩ := hrv.ownF
  have hb1 := (Joins.below_alloc3 w (.cells #[.slice a1 st.1.length q1, .slice a2 st.2.1.length q2, .slice a3 st.2.2.length q3] 26) (.cells #[.slice none 0 0, .slice none 0 0, .slice none 0 0] 26) (.cells #[.slice none 0 0, .slice none 0 0, .slice none 0 0] 26))
  have hbA : Below (w.heap.size + 3) (((w.alloc (.cells #[.slice a1 st.1.length q1, .slice a2 st.2.1.length q2, .slice a3 st.2.2.length q3] 26)).alloc (.cells #[.slice none 0 0, .slice none 0 0, .slice none 0 0] 26)).alloc (.cells #[.slice none 0 0, .slice none 0 0, .slice none 0 0] 26)) w1 := (Below.refl _ _).grown hg1 (by simp) (fun k hk => by simp [Value.ownBlock] at hk)
  obtain ⟨hc, hf⟩ := bcell hbA
  have HB1 := hide (hb1.trans (hbA.mono (by omega)))
  have HRF := hide hrF
  have HRA := hide hrA
  have hz1 : w.heap.size + 3 ≤ w1.heap.size := by have := hbA.size; simpa using this
  have HZ1 := hide hz1
  have HBA := hide hbA
  clear hb1 hbA hrv hrF hrA hg1
  go_wp2_with (first | (at_builtin; refine wpList_append_ints rfl _ _ rfl w1.heap.size _ _ st.2.2 rfl rfl (OwnInts.nil _ _) (HI3.out.below (HB1.out.setCell (by simp; omega) _)) b3 ?_ ?_))
  · simp [World.setCell]
  intro nv w2 hnv hg2
  obtain ⟨na, nc, rfl, hnF, hnA⟩ := hnv.ownF
  have hncap := hnv.capOk
  have hW : (w1.setCell ⟨w.heap.size + 1 + 1, 0, none⟩ (.slice ra st.1.length rc)).heap.size = w1.heap.size := by simp [World.setCell]
  have hbB : Below w1.heap.size (w1.setCell ⟨w.heap.size + 1 + 1, 0, none⟩ (.slice ra st.1.length rc)) w2 := (Below.refl _ _).grown hg2 (by omega) (fun k hk => by simp [Value.ownBlock] at hk)
  have hv1 : w1.heap[w.heap.size + 1 + 1]? = some (.cells #[.slice none 0 0, .slice none 0 0, .slice none 0 0] 26 (0, 0)) := by
    rw [HBA.out.block _ (by omega)]
    have := heap_alloc_new ((w.alloc (.cells #[.slice a1 st.1.length q1, .slice a2 st.2.1.length q2, .slice a3 st.2.2.length q3] 26)).alloc (.cells #[.slice none 0 0, .slice none 0 0, .slice none 0 0] 26)) (.cells #[.slice none 0 0, .slice none 0 0, .slice none 0 0] 26)
    simpa using this
  have hr1 : w1.heap[w.heap.size + 1]? = some (.cells #[.slice none 0 0, .slice none 0 0, .slice none 0 0] 26 (0, 0)) := by
    rw [HBA.out.block _ (by omega), Below.heap_alloc _ _ _ (by simp)]
    exact heap_alloc2_new _ _ _
  have hv2 : w2.heap[w.heap.size + 1 + 1]? = some (.cells #[.slice ra st.1.length rc, .slice none 0 0, .slice none 0 0] 26 (0, 0)) := (hbB.block _ (by omega)).trans (block3_set0 hv1 _)
  have hr2 : w2.heap[w.heap.size + 1]? = some (.cells #[.slice none 0 0, .slice none 0 0, .slice none 0 0] 26 (0, 0)) := by
    rw [hbB.block _ (by omega), Below.heap_setCell _ _ _ _ (by simp)]
    exact hr1
  have c0 : w2.cell? ⟨w.heap.size, 0, none⟩ = some (.slice a1 st.1.length q1) := by
    rw [hbB.cell (p := ⟨w.heap.size, 0, none⟩) (show w.heap.size < w1.heap.size by omega)]
    exact (World.cell?_of_block (a := ⟨w.heap.size, 0, none⟩) (Below.heap_setCell _ _ _ _ (show w.heap.size ≠ w.heap.size + 1 + 1 by omega))).trans ((hc _ _ (by omega)).trans (cell_later (Joins.below_alloc2 _ _ _) (by simp)))
  have c1 : w2.cell? ⟨w.heap.size, 1, none⟩ = some (.slice a2 st.2.1.length q2) := by
    rw [hbB.cell (p := ⟨w.heap.size, 1, none⟩) (show w.heap.size < w1.heap.size by omega)]
    exact (World.cell?_of_block (a := ⟨w.heap.size, 1, none⟩) (Below.heap_setCell _ _ _ _ (show w.heap.size ≠ w.heap.size + 1 + 1 by omega))).trans ((hc _ _ (by omega)).trans (cell_later (Joins.below_alloc2 _ _ _) (by simp)))
  obtain ⟨y0, y1, y2, yf⟩ := block3 hv2
  have yf2 := yf 2
  have hzw : w.heap.size < w2.heap.size := World.block_lt_of_cell? _ _ c0
  have hb02 : Below w.heap.size w w2 := (HB1.out.setCell (p := ⟨w.heap.size + 1 + 1, 0, none⟩) (by simp; omega) (.slice ra st.1.length rc)).trans (hbB.mono (by omega))
  have HR2 : Hid (OwnF w2 ra st.1.length (el st.1)) := HRF.out.keep (fun k hk e => by
    rw [hbB.block k hk, Below.heap_setCell _ _ _ _ (by have := (HRA.out k e).1; simp; omega)])
  have HRL : Hid (∀ k, FA ra k → w.heap.size + 3 ≤ k ∧ k < w1.heap.size) := HRA.out
  have HNF := hide hnF
  have HNA := hide hnA
  have HNC := hide hncap
  have HV2 := hide hv2
  have HRR := hide hr2
  have HB2 := hide hb02
  have hz12 : w1.heap.size ≤ w2.heap.size := by have := hbB.size; omega
  have HZ12 := hide hz12
  clear hnv hnF hnA hncap hW hbB hv1 hr1 hv2 hr2 yf hb02 hc hf hg2 HRF HRA HBA HB1 hz12
  go_wp2_with fail
  obtain ⟨b5, hb5⟩ : ∃ b5, b5 = w.heap.size + 1 + 1 := ⟨_, rfl⟩
  obtain ⟨U, hU⟩ : ∃ U, U = w2.setCell ⟨w.heap.size + 1 + 1, 2, none⟩ (.slice na st.2.2.length nc) := ⟨_, rfl⟩
  have hUz : U.heap.size = w2.heap.size := by rw [hU]; simp [World.setCell]
  have hUc : Chg (fun q => q = b5) w2 U := by rw [hU, hb5]; exact Chg.setCell (F := fun q => q = w.heap.size + 1 + 1) (p := ⟨w.heap.size + 1 + 1, 2, none⟩) (Chg.refl _ _) rfl _
  have hC0 : Cop U b5 (.slice ra st.1.length rc) (.slice na st.2.2.length nc) [] U (.slice none 0 0) (fun _ => none) (fun _ => 0) :=
    ⟨by rw [hU, hb5]; exact block3_set2 HV2.out _, Gath.nil _ _ _ _, Chg.refl _ _⟩
  rw [← hU, ← hb5]
  have C0 : Hid (U.cell? ⟨w.heap.size, 0, none⟩ = some (.slice a1 st.1.length q1)) := (World.cell?_of_block (hUc.block w.heap.size hzw (by omega))).trans c0
  have C1 : Hid (U.cell? ⟨w.heap.size, 1, none⟩ = some (.slice a2 st.2.1.length q2)) := (World.cell?_of_block (hUc.block w.heap.size hzw (by omega))).trans c1
  have D0 : Hid (U.heap[w.heap.size + 1]? = some (.cells #[.slice none 0 0, .slice none 0 0, .slice none 0 0] 26 (0, 0))) := (hUc.block _ (by have := HZ12.out; omega) (by omega)).trans HRR.out
  have HBU : Hid (Below w.heap.size w U) := HB2.out.trans (hUc.below (by omega) (fun q hq e => by omega))
  have HRU : Hid (OwnF U ra st.1.length (el st.1)) := HR2.out.chg hUc (fun q hq e => by have := (HRL.out q hq).1; omega)
  have HNU : Hid (OwnF U na st.2.2.length (el st.2.2)) := HNF.out.chg hUc (fun q hq e => by have := (HNA.out q hq).1; omega)
  have HRL2 : Hid (∀ k, FA ra k → b5 < k ∧ k < w1.heap.size) := fun k hk => by have := HRL.out k hk; omega
  have HNL2 : Hid (∀ k, FA na k → b5 < k ∧ w1.heap.size ≤ k ∧ k < U.heap.size) := fun k hk => by have := HNA.out k hk; omega
  have HZ5 : Hid (b5 < U.heap.size) := show b5 < _ by have := HZ12.out; omega
  have HZW : Hid (w1.heap.size ≤ U.heap.size) := show _ ≤ _ by have := HZ12.out; omega
  have HSB : Hid (w.heap.size + 2 = b5) := show _ = _ by omega
  have hsb : w.heap.size < b5 := by omega
  have HC := hide hC0
  clear hU hUz hUc hC0 c0 c1 y0 y1 y2 yf2 HV2 HRR HB2 HR2 HNF HNA HRL HZ12 hzw hb5
  go_loopw [22] (fun i wr => ∃ k : Nat, k ≤ st.2.1.length ∧ i = .int .i64 k ∧ ∃ tv pa pc, Cop U b5 (.slice ra st.1.length rc) (.slice na st.2.2.length nc) (upT st.2.1 k) wr tv pa pc) (fun i _ => st.2.1.length - (intOf i).toNat)
  case atStart => exact ⟨0, Nat.zero_le _, rfl, _, _, _, HC.out⟩
  case round =>
    obtain ⟨k, hk, rfl, tv, pa, pc, hcop⟩ := hrel
    have hbo : Below b5 U wr := hcop.old.below (by have := HZ5.out; omega) (fun q hq e => by have := HZ5.out; omega)
    by_cases hlt : k < st.2.1.length
    · have hbw : Below w.heap.size w wr := HBU.out.trans (hbo.mono (by omega))
      obtain ⟨b, off, rfl, vp, t0, t1, hI, t2⟩ := HS.out.parts.2.1.trainAt k hlt
      have hI' := hI.below hbw
      obtain ⟨ap, cp, rfl, _⟩ := id hI
      have g0 := cell_later hbw t0
      have g1 := cell_later hbw t1
      have g2 := cell_later hbw t2
      have hp8 := HM.out.pl k hlt
      have HCW := hide hcop
      have HI := hide hI'
      have HT1 := hide (show upT st.2.1 (k + 1) = upT st.2.1 k ++ [(tAt st.2.1 k, tPath st.2.1 k, tWt st.2.1 k)] from rfl)
      have hz5 : b5 < wr.heap.size := (Array.getElem?_eq_some_iff.1 hcop.var).1
      have HUW := hide hcop.old.size
      have HUL := hide (upT_length st.2.1 k)
      clear t0 t1 t2 hI hI' hcop hbo hbw
      generalize tAt st.2.1 k = x at *
      generalize tPath st.2.1 k = p at *
      generalize tWt st.2.1 k = y at *
      go_wp2_with (first | (at_builtin; refine wpList_append_ints rfl _ _ rfl (wr.heap.size + 2) _ _ p rfl rfl ?c0 (HI.out.below (Joins.below_alloc3 _ _ _ _)) hp8 ?c1 ?_))
      case c0 =>
        have := ownInts_made ((wr.alloc (.cells #[.int .i64 x, .slice ap p.length cp, .int .i64 y] 35)).alloc (.cells #[.int .i64 x, .slice ap p.length cp, .int .i64 y] 35)) (wr.heap.size + 2) (by simp)
        simpa [Act.eval] using this
      case c1 => simp
      intro pv w3 hpv hg3
      obtain ⟨pp, pq, rfl, hpF, hpA⟩ := hpv.ownF
      have hpq := hpv.capOk
      have hb3' := Joins.below_alloc3 wr (.cells #[.int .i64 x, .slice ap p.length cp, .int .i64 y] 35) (.cells #[.int .i64 x, .slice ap p.length cp, .int .i64 y] 35) (.cells #[] 3)
      have hbC : Below (wr.heap.size + 2) (((wr.alloc (.cells #[.int .i64 x, .slice ap p.length cp, .int .i64 y] 35)).alloc (.cells #[.int .i64 x, .slice ap p.length cp, .int .i64 y] 35)).alloc (.cells #[] 3)) w3 := (Below.refl _ _).grown hg3 (by simp) (fun k hk => by simp [Value.ownBlock] at hk; omega)
      have hb3 : Below wr.heap.size wr w3 := hb3'.trans (hbC.mono (by omega))
      have hz3 : wr.heap.size + 3 ≤ w3.heap.size := by have := hbC.size; simpa using this
      have hTb : w3.heap[wr.heap.size + 1]? = some (.cells #[.int .i64 x, .slice ap p.length cp, .int .i64 y] 35 (0, 0)) := by
        rw [hbC.block _ (by omega), Below.heap_alloc _ _ _ (by simp)]
        exact heap_alloc2_new _ _ _
      have hC3 := HCW.out.below hb3
      obtain ⟨T, hT⟩ : ∃ T, T = wr.heap.size + 1 := ⟨_, rfl⟩
      rw [← hT] at hTb ⊢
      have hG1 : ¬ FG tv pa (upT st.2.1 k).length T := fun e => by have := (HCW.out.tr.FG_lo e).2; omega
      have hUT : U.heap.size ≤ T := by have := HUW.out; omega
      have hnT : b5 ≠ T := by omega
      have hnT' : ¬ T = b5 := by omega
      have hzT : T + 2 ≤ w3.heap.size := by omega
      obtain ⟨t0, t1, t2, tf⟩ := block3 hTb
      obtain ⟨y0, y1, y2, yf⟩ := block3 hC3.var
      have hC4 := hC3.set (o := 1) (u := .slice pp p.length pq) hUT hnT hG1
      have HP3 : Hid (OwnF (w3.setCell ⟨T, 1, none⟩ (.slice pp p.length pq)) pp p.length (el p)) := hpF.keep (fun q hq e => Below.heap_setCell _ _ _ _ (fun e' => by simp only at e'; have := (hpA q e).1; omega))
      have HPA : Hid (∀ q, FA pp q → U.heap.size ≤ q ∧ q < (w3.setCell ⟨T, 1, none⟩ (.slice pp p.length pq)).heap.size ∧ ¬ FG tv pa (upT st.2.1 k).length q) := fun q e => by
        have u1 := hpA q e
        refine ⟨by omega, by simpa [World.setCell] using u1.2, fun e' => ?_⟩
        have := (HCW.out.tr.FG_lo e').2
        omega
      have HPQ := hide hpq
      have HC4 := hide hC4
      have f1 := tf 1
      have yf1 := yf 1
      clear hTb hpv hpF hpA hpq hC3 hC4 tf yf hG1 hb3 hb3' hbC hg3 hT HCW HI g0 g1 g2
      obtain ⟨i1, hi, hz0, hz1', hz2⟩ := info_parts Tryd.infoTrain
      have HI1' := hide hi
      have HZ0 := hide hz0
      have HZ1' := hide hz1'
      have HZ2 := hide hz2
      clear hi hz0 hz1' hz2
      go_wp2_with (first | (at_builtin; refine wpList_append_lies _ rfl _ _ 24 rfl U.heap.size 35 i1 (.agg #[.int .i64 0, .slice none 0 0, .int .i64 0]) 3 40 Tryd.underlying24 HI1'.out HZ0.out HZ1'.out HZ2.out rfl (by decide) _ _ _ rfl (HC4.out.tr.row.alloc _) ⟨w3.heap.size, 0, none⟩ 1 1 [.int .i64 x, .slice pp p.length pq, .int .i64 y] rfl rfl ?d1 ?d2 (by decide) ?d3 ?d4 ?d5 (w3.heap.size + 1) ?d6 ?_))
      case d1 =>
        have hh := heap_alloc_new (w3.setCell ⟨T, 1, none⟩ (.slice pp p.length pq)) (.cells #[.int .i64 x, .slice pp p.length pq, .int .i64 y] 35)
        rw [show (w3.setCell ⟨T, 1, none⟩ (.slice pp p.length pq)).heap.size = w3.heap.size by simp [World.setCell]] at hh
        exact World.news_of_block hh
      case d2 => intro u hu; simp at hu; rcases hu with rfl | rfl | rfl <;> rfl
      case d3 => have := HUL.out; unfold maxLen; omega
      case d4 => have := HUL.out; omega
      case d5 => simp [World.setCell]; omega
      case d6 => simp [World.setCell]
      intro g cap w4 hown hgrow hat hlt4
      have hba := Joins.below_alloc1 (w3.setCell ⟨T, 1, none⟩ (.slice pp p.length pq)) (.cells #[.int .i64 x, .slice pp p.length pq, .int .i64 y] 35)
      have hC5 := HC4.out.snocT HZ5.out hba (t := (x, p, y)) HP3.out HPQ.out HPA.out hown hgrow (hat.imp id (fun e => by rw [e]; simp [World.setCell]))
      obtain ⟨_, z1, _, zf⟩ := block3 (HC4.out.grown HZ5.out hba hgrow)
      have zf1 := zf 1
      have HC5 := hide hC5
      clear hown hgrow hat hlt4 hba hC5 zf t0 t1 t2 y0 y1 y2 f1 yf1 HC4 HP3 HPA
      go_wp2_with fail
      go_roundw
      case rel => exact ⟨k + 1, by omega, by go_num, _, _, _, by rw [HT1.out]; exact HC5.out⟩
      case measure => simp [intOf]; omega
    · obtain rfl : k = st.2.1.length := by omega
      obtain ⟨y0, y1, y2, yf⟩ := block3 hcop.var
      have hd := (hbo.block (w.heap.size + 1) (by have := HSB.out; omega)).trans D0.out
      obtain ⟨v0, v1, v2, vf⟩ := block3 hd
      have vf0 := vf 0
      have vf1 := vf 1
      have vf2 := vf 2
      have hcT := hcop.tr
      rw [upT_all] at hcT
      obtain ⟨ta, tc, rfl, htc, hoT, hFT⟩ := hcT.ownT
      have hpc := hcT.capOk
      have HBO := hide hbo
      have HD := hide hd
      have HOT := hide hoT
      have HFT := hide hFT
      have HOL := hide hcop.old
      have HPC := hide hpc
      have HLT : Hid (b5 < wr.heap.size) := (Array.getElem?_eq_some_iff.1 hcop.var).1
      have hnT' : ¬ b5 = w.heap.size + 1 := by have := HSB.out; omega
      clear hcop hbo hd vf yf hoT hFT hcT hpc
      go_wp2_with fail
      have hc : Chg (fun q => q = w.heap.size + 1) wr (((wr.setCell ⟨w.heap.size + 1, 0, none⟩ (.slice ra st.1.length rc)).setCell ⟨w.heap.size + 1, 1, none⟩ (.slice ta st.2.1.length tc)).setCell ⟨w.heap.size + 1, 2, none⟩ (.slice na st.2.2.length nc)) :=
        Chg.setCell (F := fun q => q = w.heap.size + 1) (Chg.setCell (F := fun q => q = w.heap.size + 1) (Chg.setCell (F := fun q => q = w.heap.size + 1) (Chg.refl _ _) rfl _) rfl _) rfl _
      have hvar := block3_set2 (block3_set1 (block3_set0 HD.out (.slice ra st.1.length rc)) (.slice ta st.2.1.length tc)) (.slice na st.2.2.length nc)
      have hbF : Below w.heap.size w (((wr.setCell ⟨w.heap.size + 1, 0, none⟩ (.slice ra st.1.length rc)).setCell ⟨w.heap.size + 1, 1, none⟩ (.slice ta st.2.1.length tc)).setCell ⟨w.heap.size + 1, 2, none⟩ (.slice na st.2.2.length nc)) :=
        (HBU.out.trans (HBO.out.mono (by omega))).trans (hc.below (by have := HLT.out; omega) (fun q hq e => by omega))
      generalize ((wr.setCell ⟨w.heap.size + 1, 0, none⟩ (.slice ra st.1.length rc)).setCell ⟨w.heap.size + 1, 1, none⟩ (.slice ta st.2.1.length tc)).setCell ⟨w.heap.size + 1, 2, none⟩ (.slice na st.2.2.length nc) = WF at *
      obtain ⟨z0, z1, z2, _⟩ := block3 hvar
      have k5 := HSB.out
      refine bodyPost_ret (v := .agg #[.slice ra st.1.length rc, .slice ta st.2.1.length tc, .slice na st.2.2.length nc]) (by simp [results, Tryd.results24, go_sem, z0, z1, z2]) rfl ⟨⟨ra, rc, ta, tc, na, nc, pa, pc⟩, rfl, ⟨?_, ?_, ?_, ⟨?_, ?_, ?_, ?_⟩⟩, htc, HNC.out, HPC.out, ?_, hbF⟩
      · refine (HRU.out.keep (w' := wr) (fun q hq e => HOL.out.block q hq (fun e' => ?_))).chg hc (fun q hq e => ?_)
        · have u1 := HRL2.out q e
          have u2 := HZW.out
          omega
        · have u1 := HRL2.out q hq
          omega
      · exact HOT.out.keep (fun q hq e => hc.block q hq (fun e' => by have u1 := (HFT.out q e).1; have u2 := HZ5.out; omega))
      · refine (HNU.out.keep (w' := wr) (fun q hq e => HOL.out.block q hq (fun e' => ?_))).chg hc (fun q hq e => ?_)
        · have u1 := HNL2.out q e
          omega
        · have u1 := HNL2.out q hq
          omega
      · intro q e e'
        have u1 := HRL2.out q e
        have u2 := (HFT.out q e').1
        have u3 := HZW.out
        omega
      · intro q e e'
        have u1 := HNL2.out q e
        have u2 := (HFT.out q e').1
        omega
      · intro q e e'
        have u1 := HRL2.out q e
        have u2 := HNL2.out q e'
        omega
      · intro q e
        refine Nat.lt_of_lt_of_le ?_ hc.size
        have u0 := HOL.out.size
        rcases e with e | e | e
        · have u1 := HRL2.out q e
          have u3 := HZW.out
          omega
        · have u1 := HNL2.out q e
          omega
        · exact (HFT.out q e).2.1
      · intro q e
        rcases e with e | e | e
        · have u1 := HRL2.out q e
          omega
        · have u1 := HNL2.out q e
          omega
        · have u1 := (HFT.out q e).1
          have u2 := HZ5.out
          omega
end Go.Proofs.YtmjjigdnoiphbaaDoor
