import Derived.Test.YtmjjigdnoiphbaaDoorW24
import Derived.Test.YtmjjigdnoiphbaaDoorL2
import Derived.Test.YtmjjigdnoiphbaaDoorJ7
import Derived.Test.YtmjjigdnoiphbaaDoorJ4
import Derived.Deep.DrawnRows
import Derived.Deep.RegionHeld3
/-
  spec.l1copy AGAIN: each list of the copy is a row of its own (so that one can be appended to).
-/
namespace Go.Proofs.YtmjjigdnoiphbaaDoor
open Go.RowKit Go.Deep
set_option linter.unusedVariables false

theorem OwnInts.fa {base : Nat} {w : World} {a : Option Addr} {n c : Nat} {xs : List Int} {k : Nat} (h : OwnInts base w (.slice a n c) xs) (hk : Value.ownBlock (.slice a n c) = some k) : FA a k := by
  rcases h.lies with ⟨e, _⟩ | ⟨g, cap, cur, e, _⟩
  · simp only [Value.slice.injEq] at e
    obtain ⟨rfl, -, -⟩ := e
    simp [Value.ownBlock] at hk
  · simp only [Value.slice.injEq] at e
    obtain ⟨rfl, -, -⟩ := e
    simp [Value.ownBlock] at hk
    exact ⟨0, by rw [hk]⟩

/-- a copy: its lists are rows of their own, in blocks from B on -/
structure Cpd (B : Nat) (w : World) (L : Lies) (st : St) : Prop where
  own : OwnS w L st
  r : OwnInts B w (.slice L.ra st.1.length L.rc) st.1
  n : OwnInts B w (.slice L.na st.2.2.length L.nc) st.2.2
  t : w.ownsRow B 35 3 (.slice L.ta st.2.1.length L.tc) st.2.1.length (trVals st.2.1 L.pa L.pc)
  p : ∀ i, i < st.2.1.length → OwnInts B w (.slice (L.pa i) (tPath st.2.1 i).length (L.pc i)) (tPath st.2.1 i)
  new : ∀ k, L.F st.2.1.length k → B ≤ k

structure CopO (U : World) (b5 : Nat) (rv nv : Value) (ts' : List Tr) (w : World) (tv : Value) (pa : Nat → Option Addr) (pc : Nat → Nat) : Prop where
  c : Cop U b5 rv nv ts' w tv pa pc
  po : ∀ i, i < ts'.length → OwnInts U.heap.size w (.slice (pa i) (tPath ts' i).length (pc i)) (tPath ts' i)

theorem CopO.below {U : World} {b5 : Nat} {rv nv : Value} {ts' : List Tr} {w w' : World} {tv : Value} {pa : Nat → Option Addr} {pc : Nat → Nat} (h : CopO U b5 rv nv ts' w tv pa pc) (hb : Below w.heap.size w w') : CopO U b5 rv nv ts' w' tv pa pc :=
  ⟨h.c.below hb, fun i hi => (h.po i hi).below hb⟩
theorem CopO.set {U : World} {b5 : Nat} {rv nv : Value} {ts' : List Tr} {w : World} {tv : Value} {pa : Nat → Option Addr} {pc : Nat → Nat} (h : CopO U b5 rv nv ts' w tv pa pc) {T o : Nat} {u : Value} (hT : U.heap.size ≤ T) (h5 : b5 ≠ T) (hG : ¬ FG tv pa ts'.length T) : CopO U b5 rv nv ts' (w.setCell ⟨T, o, none⟩ u) tv pa pc :=
  ⟨h.c.set hT h5 hG, fun i hi => (h.po i hi).far (fun k hk => Below.heap_setCell _ _ _ _ (fun e => hG (Or.inr ⟨i, hi, by simp only at e; rw [← e]; exact (h.po i hi).fa hk⟩)))⟩
theorem CopO.snocT {U : World} {b5 : Nat} {rv nv : Value} {ts' : List Tr} {w wa w' : World} {tv : Value} {pa : Nat → Option Addr} {pc : Nat → Nat} (h : CopO U b5 rv nv ts' w tv pa pc) (hb5 : b5 < U.heap.size) (hba : Below w.heap.size w wa) {t : Tr} {a : Option Addr} {c g cap : Nat}
    (hp : OwnF w a t.2.1.length (el t.2.1)) (hcap : t.2.1.length ≤ c) (hlo : ∀ k, FA a k → U.heap.size ≤ k ∧ k < w.heap.size ∧ ¬ FG tv pa ts'.length k)
    (hpo : OwnInts U.heap.size w (.slice a t.2.1.length c) t.2.1)
    (hown : w'.ownsRow U.heap.size 35 3 (.slice (some ⟨g, 0, none⟩) (ts'.length + 1) cap) (ts'.length + 1) (trVals ts' pa pc ++ [.int .i64 t.1, .slice a t.2.1.length c, .int .i64 t.2.2]))
    (hgrow : wa.grownBy w' tv.ownBlock) (hat : tv.ownBlock = some g ∨ wa.heap.size ≤ g) :
    CopO U b5 rv nv (ts' ++ [t]) (w'.setCell ⟨b5, 1, none⟩ (.slice (some ⟨g, 0, none⟩) (ts'.length + 1) cap)) (.slice (some ⟨g, 0, none⟩) (ts'.length + 1) cap) (upd pa ts'.length a) (upd pc ts'.length c) := by
  refine ⟨h.c.snocT hb5 hba hp hcap hlo hown hgrow hat, fun i hi => ?_⟩
  have hfar : ∀ k, k < w.heap.size → U.heap.size ≤ k → tv.ownBlock ≠ some k → (w'.setCell ⟨b5, 1, none⟩ (.slice (some ⟨g, 0, none⟩) (ts'.length + 1) cap)).heap[k]? = w.heap[k]? := fun k hk hU hne => by
    rw [Below.heap_setCell _ _ _ _ (show k ≠ b5 by omega), hgrow.block k (Nat.lt_of_lt_of_le hk hba.size) (fun e => hne e.symm), hba.block k hk]
  rw [List.length_append, List.length_singleton] at hi
  by_cases e : i < ts'.length
  · rw [tPath_snoc e, upd_other _ _ (by omega), upd_other _ _ (by omega)]
    refine (h.po i e).far (fun k hk => ?_)
    have u := (h.po i e).own hk
    exact hfar k u.2 u.1 (h.c.tr.lo i k e ((h.po i e).fa hk)).2.2
  · obtain rfl : i = ts'.length := by omega
    rw [tPath_last, upd_same, upd_same]
    refine hpo.far (fun k hk => ?_)
    have u := hpo.own hk
    exact hfar k u.2 u.1 (fun e2 => (hlo k (hpo.fa hk)).2.2 (Or.inl e2))

set_option maxHeartbeats 4000000 in
theorem l1copy_own (v : Value) (st : St) (w : World) (h : StateAt w v st) (hs : SmallSt st) :
    Calls Tryd.prog 24 #[v] w fun e w' => ∃ L : Lies, e = .returned (L.val st) ∧ Cpd w.heap.size w' L st ∧ Below w.heap.size w w' := by
  have HS := hide h
  have HM := hide hs
  have b1 := hs.rl
  have b2 := hs.tl
  have b3 := hs.nl
  obtain ⟨a1, q1, a2, q2, a3, q3, rfl⟩ := h.form
  have HI1 := hide h.parts.1
  have HI3 := hide h.parts.2.2
  clear h hs
  go_enter Tryd.func24, Tryd.ntmps24
  go_wp2_with (first | (at_builtin; refine wpList_append_ints rfl _ _ rfl (w.heap.size + 3) _ _ st.1 rfl rfl (OwnInts.nil _ _) (HI1.out.below (Joins.below_alloc3 _ _ _ _)) b1 ?_ ?_))
  · simp
  intro rv w1 hrv hg1
  obtain ⟨ra, rc, rfl, hrF, hrA⟩ := hrv.ownF
  have hb1 := (Joins.below_alloc3 w (.cells #[.slice a1 st.1.length q1, .slice a2 st.2.1.length q2, .slice a3 st.2.2.length q3] 26) (.cells #[.slice none 0 0, .slice none 0 0, .slice none 0 0] 26) (.cells #[.slice none 0 0, .slice none 0 0, .slice none 0 0] 26))
  have hbA : Below (w.heap.size + 3) (((w.alloc (.cells #[.slice a1 st.1.length q1, .slice a2 st.2.1.length q2, .slice a3 st.2.2.length q3] 26)).alloc (.cells #[.slice none 0 0, .slice none 0 0, .slice none 0 0] 26)).alloc (.cells #[.slice none 0 0, .slice none 0 0, .slice none 0 0] 26)) w1 := (Below.refl _ _).grown hg1 (by simp) (fun k hk => by simp [Value.ownBlock] at hk)
  obtain ⟨hc, hf⟩ := bcell hbA
  have HB1 := hide (hb1.trans (hbA.mono (by omega)))
  have HRF := hide hrF
  have HRO := hide hrv
  have HRA := hide hrA
  have hz1 : w.heap.size + 3 ≤ w1.heap.size := by have := hbA.size; simpa using this
  have HZ1 := hide hz1
  have HBA := hide hbA
  clear hb1 hbA hrv hrF hrA hg1
  go_wp2_with (first | (at_builtin; refine wpList_append_ints rfl _ _ rfl w1.heap.size _ _ st.2.2 rfl rfl (OwnInts.nil _ _) (HI3.out.below (HB1.out.setCell (by simp; omega) _)) b3 ?_ ?_))
  · simp [World.setCell]
  intro nv w2 hnv hg2
  obtain ⟨na, nc, rfl, hnF, hnA⟩ := hnv.ownF
  have hncap := hnv.capOk
  have hW : (w1.setCell ⟨w.heap.size + 1 + 1, 0, none⟩ (.slice ra st.1.length rc)).heap.size = w1.heap.size := by simp [World.setCell]
  have hbB : Below w1.heap.size (w1.setCell ⟨w.heap.size + 1 + 1, 0, none⟩ (.slice ra st.1.length rc)) w2 := (Below.refl _ _).grown hg2 (by omega) (fun k hk => by simp [Value.ownBlock] at hk)
  have hv1 : w1.heap[w.heap.size + 1 + 1]? = some (.cells #[.slice none 0 0, .slice none 0 0, .slice none 0 0] 26 (0, 0)) := by
    rw [HBA.out.block _ (by omega)]
    have := heap_alloc_new ((w.alloc (.cells #[.slice a1 st.1.length q1, .slice a2 st.2.1.length q2, .slice a3 st.2.2.length q3] 26)).alloc (.cells #[.slice none 0 0, .slice none 0 0, .slice none 0 0] 26)) (.cells #[.slice none 0 0, .slice none 0 0, .slice none 0 0] 26)
    simpa using this
  have hr1 : w1.heap[w.heap.size + 1]? = some (.cells #[.slice none 0 0, .slice none 0 0, .slice none 0 0] 26 (0, 0)) := by
    rw [HBA.out.block _ (by omega), Below.heap_alloc _ _ _ (by simp)]
    exact heap_alloc2_new _ _ _
  have hv2 : w2.heap[w.heap.size + 1 + 1]? = some (.cells #[.slice ra st.1.length rc, .slice none 0 0, .slice none 0 0] 26 (0, 0)) := (hbB.block _ (by omega)).trans (block3_set0 hv1 _)
  have hr2 : w2.heap[w.heap.size + 1]? = some (.cells #[.slice none 0 0, .slice none 0 0, .slice none 0 0] 26 (0, 0)) := by
    rw [hbB.block _ (by omega), Below.heap_setCell _ _ _ _ (by simp)]
    exact hr1
  have c0 : w2.cell? ⟨w.heap.size, 0, none⟩ = some (.slice a1 st.1.length q1) := by
    rw [hbB.cell (p := ⟨w.heap.size, 0, none⟩) (show w.heap.size < w1.heap.size by omega)]
    exact (World.cell?_of_block (a := ⟨w.heap.size, 0, none⟩) (Below.heap_setCell _ _ _ _ (show w.heap.size ≠ w.heap.size + 1 + 1 by omega))).trans ((hc _ _ (by omega)).trans (cell_later (Joins.below_alloc2 _ _ _) (by simp)))
  have c1 : w2.cell? ⟨w.heap.size, 1, none⟩ = some (.slice a2 st.2.1.length q2) := by
    rw [hbB.cell (p := ⟨w.heap.size, 1, none⟩) (show w.heap.size < w1.heap.size by omega)]
    exact (World.cell?_of_block (a := ⟨w.heap.size, 1, none⟩) (Below.heap_setCell _ _ _ _ (show w.heap.size ≠ w.heap.size + 1 + 1 by omega))).trans ((hc _ _ (by omega)).trans (cell_later (Joins.below_alloc2 _ _ _) (by simp)))
  obtain ⟨y0, y1, y2, yf⟩ := block3 hv2
  have yf2 := yf 2
  have hzw : w.heap.size < w2.heap.size := World.block_lt_of_cell? _ _ c0
  have hb02 : Below w.heap.size w w2 := (HB1.out.setCell (p := ⟨w.heap.size + 1 + 1, 0, none⟩) (by simp; omega) (.slice ra st.1.length rc)).trans (hbB.mono (by omega))
  have HR2 : Hid (OwnF w2 ra st.1.length (el st.1)) := HRF.out.keep (fun k hk e => by
    rw [hbB.block k hk, Below.heap_setCell _ _ _ _ (by have := (HRA.out k e).1; simp; omega)])
  have HRL : Hid (∀ k, FA ra k → w.heap.size + 3 ≤ k ∧ k < w1.heap.size) := HRA.out
  have HNF := hide hnF
  have HNO := hide hnv
  have HRO2 : Hid (OwnInts (w.heap.size + 3) w2 (.slice ra st.1.length rc) st.1) := HRO.out.far (fun k hk => by
    have u := HRO.out.own hk
    rw [hbB.block k u.2, Below.heap_setCell _ _ _ _ (by simp; omega)])
  have HNA := hide hnA
  have HNC := hide hncap
  have HV2 := hide hv2
  have HRR := hide hr2
  have HB2 := hide hb02
  have hz12 : w1.heap.size ≤ w2.heap.size := by have := hbB.size; omega
  have HZ12 := hide hz12
  clear hnv hnF hnA hncap hW hbB hv1 hr1 hv2 hr2 yf hb02 hc hf hg2 HRF HRA HBA HB1 hz12
  go_wp2_with fail
  obtain ⟨b5, hb5⟩ : ∃ b5, b5 = w.heap.size + 1 + 1 := ⟨_, rfl⟩
  obtain ⟨U, hU⟩ : ∃ U, U = w2.setCell ⟨w.heap.size + 1 + 1, 2, none⟩ (.slice na st.2.2.length nc) := ⟨_, rfl⟩
  have hUz : U.heap.size = w2.heap.size := by rw [hU]; simp [World.setCell]
  have hUc : Chg (fun q => q = b5) w2 U := by rw [hU, hb5]; exact Chg.setCell (F := fun q => q = w.heap.size + 1 + 1) (p := ⟨w.heap.size + 1 + 1, 2, none⟩) (Chg.refl _ _) rfl _
  have hC0 : Cop U b5 (.slice ra st.1.length rc) (.slice na st.2.2.length nc) [] U (.slice none 0 0) (fun _ => none) (fun _ => 0) :=
    ⟨by rw [hU, hb5]; exact block3_set2 HV2.out _, Gath.nil _ _ _ _, Chg.refl _ _⟩
  rw [← hU, ← hb5]
  have C0 : Hid (U.cell? ⟨w.heap.size, 0, none⟩ = some (.slice a1 st.1.length q1)) := (World.cell?_of_block (hUc.block w.heap.size hzw (by omega))).trans c0
  have C1 : Hid (U.cell? ⟨w.heap.size, 1, none⟩ = some (.slice a2 st.2.1.length q2)) := (World.cell?_of_block (hUc.block w.heap.size hzw (by omega))).trans c1
  have D0 : Hid (U.heap[w.heap.size + 1]? = some (.cells #[.slice none 0 0, .slice none 0 0, .slice none 0 0] 26 (0, 0))) := (hUc.block _ (by have := HZ12.out; omega) (by omega)).trans HRR.out
  have HBU : Hid (Below w.heap.size w U) := HB2.out.trans (hUc.below (by omega) (fun q hq e => by omega))
  have HRU : Hid (OwnF U ra st.1.length (el st.1)) := HR2.out.chg hUc (fun q hq e => by have := (HRL.out q hq).1; omega)
  have HNU : Hid (OwnF U na st.2.2.length (el st.2.2)) := HNF.out.chg hUc (fun q hq e => by have := (HNA.out q hq).1; omega)
  have HROU : Hid (OwnInts w.heap.size U (.slice ra st.1.length rc) st.1) := (HRO2.out.far (fun k hk => by
    have u := HRO2.out.own hk
    exact hUc.block k u.2 (by omega))).le (by omega)
  have HNOU : Hid (OwnInts w.heap.size U (.slice na st.2.2.length nc) st.2.2) := (HNO.out.far (fun k hk => by
    have u := HNO.out.own hk
    exact hUc.block k u.2 (by have := HZ1.out; omega))).le (by have := HZ1.out; omega)
  have HRL2 : Hid (∀ k, FA ra k → b5 < k ∧ k < w1.heap.size) := fun k hk => by have := HRL.out k hk; omega
  have HNL2 : Hid (∀ k, FA na k → b5 < k ∧ w1.heap.size ≤ k ∧ k < U.heap.size) := fun k hk => by have := HNA.out k hk; omega
  have HZ5 : Hid (b5 < U.heap.size) := show b5 < _ by have := HZ12.out; omega
  have HZW : Hid (w1.heap.size ≤ U.heap.size) := show _ ≤ _ by have := HZ12.out; omega
  have HSB : Hid (w.heap.size + 2 = b5) := show _ = _ by omega
  have hsb : w.heap.size < b5 := by omega
  have HC : Hid (CopO U b5 (.slice ra st.1.length rc) (.slice na st.2.2.length nc) [] U (.slice none 0 0) (fun _ => none) (fun _ => 0)) := ⟨hC0, fun i hi => absurd hi (Nat.not_lt_zero _)⟩
  clear hU hUz hUc hC0 c0 c1 y0 y1 y2 yf2 HV2 HRR HB2 HR2 HNF HNA HRL HZ12 hzw hb5
  go_loopw [22] (fun i wr => ∃ k : Nat, k ≤ st.2.1.length ∧ i = .int .i64 k ∧ ∃ tv pa pc, CopO U b5 (.slice ra st.1.length rc) (.slice na st.2.2.length nc) (upT st.2.1 k) wr tv pa pc) (fun i _ => st.2.1.length - (intOf i).toNat)
  case atStart => exact ⟨0, Nat.zero_le _, rfl, _, _, _, HC.out⟩
  case round =>
    obtain ⟨k, hk, rfl, tv, pa, pc, hco⟩ := hrel
    have hcop := hco.c
    have hbo : Below b5 U wr := hcop.old.below (by have := HZ5.out; omega) (fun q hq e => by have := HZ5.out; omega)
    by_cases hlt : k < st.2.1.length
    · have hbw : Below w.heap.size w wr := HBU.out.trans (hbo.mono (by omega))
      obtain ⟨b, off, rfl, vp, t0, t1, hI, t2⟩ := HS.out.parts.2.1.trainAt k hlt
      have hI' := hI.below hbw
      obtain ⟨ap, cp, rfl, _⟩ := id hI
      have g0 := cell_later hbw t0
      have g1 := cell_later hbw t1
      have g2 := cell_later hbw t2
      have hp8 := HM.out.pl k hlt
      have HCW := hide hco
      have HI := hide hI'
      have HT1 := hide (show upT st.2.1 (k + 1) = upT st.2.1 k ++ [(tAt st.2.1 k, tPath st.2.1 k, tWt st.2.1 k)] from rfl)
      have hz5 : b5 < wr.heap.size := (Array.getElem?_eq_some_iff.1 hcop.var).1
      have HUW := hide hcop.old.size
      have HUL := hide (upT_length st.2.1 k)
      clear t0 t1 t2 hI hI' hcop hco hbo hbw
      generalize tAt st.2.1 k = x at *
      generalize tPath st.2.1 k = p at *
      generalize tWt st.2.1 k = y at *
      go_wp2_with (first | (at_builtin; refine wpList_append_ints rfl _ _ rfl (wr.heap.size + 2) _ _ p rfl rfl ?c0 (HI.out.below (Joins.below_alloc3 _ _ _ _)) hp8 ?c1 ?_))
      case c0 =>
        have := ownInts_made ((wr.alloc (.cells #[.int .i64 x, .slice ap p.length cp, .int .i64 y] 35)).alloc (.cells #[.int .i64 x, .slice ap p.length cp, .int .i64 y] 35)) (wr.heap.size + 2) (by simp)
        simpa [Act.eval] using this
      case c1 => simp
      intro pv w3 hpv hg3
      obtain ⟨pp, pq, rfl, hpF, hpA⟩ := hpv.ownF
      have hpq := hpv.capOk
      have hb3' := Joins.below_alloc3 wr (.cells #[.int .i64 x, .slice ap p.length cp, .int .i64 y] 35) (.cells #[.int .i64 x, .slice ap p.length cp, .int .i64 y] 35) (.cells #[] 3)
      have hbC : Below (wr.heap.size + 2) (((wr.alloc (.cells #[.int .i64 x, .slice ap p.length cp, .int .i64 y] 35)).alloc (.cells #[.int .i64 x, .slice ap p.length cp, .int .i64 y] 35)).alloc (.cells #[] 3)) w3 := (Below.refl _ _).grown hg3 (by simp) (fun k hk => by simp [Value.ownBlock] at hk; omega)
      have hb3 : Below wr.heap.size wr w3 := hb3'.trans (hbC.mono (by omega))
      have hz3 : wr.heap.size + 3 ≤ w3.heap.size := by have := hbC.size; simpa using this
      have hTb : w3.heap[wr.heap.size + 1]? = some (.cells #[.int .i64 x, .slice ap p.length cp, .int .i64 y] 35 (0, 0)) := by
        rw [hbC.block _ (by omega), Below.heap_alloc _ _ _ (by simp)]
        exact heap_alloc2_new _ _ _
      have hC3 := HCW.out.below hb3
      obtain ⟨T, hT⟩ : ∃ T, T = wr.heap.size + 1 := ⟨_, rfl⟩
      rw [← hT] at hTb ⊢
      have hG1 : ¬ FG tv pa (upT st.2.1 k).length T := fun e => by have := (HCW.out.c.tr.FG_lo e).2; omega
      have hUT : U.heap.size ≤ T := by have := HUW.out; omega
      have hnT : b5 ≠ T := by omega
      have hnT' : ¬ T = b5 := by omega
      have hzT : T + 2 ≤ w3.heap.size := by omega
      obtain ⟨t0, t1, t2, tf⟩ := block3 hTb
      obtain ⟨y0, y1, y2, yf⟩ := block3 hC3.c.var
      have hC4 := hC3.set (o := 1) (u := .slice pp p.length pq) hUT hnT hG1
      have HP3 : Hid (OwnF (w3.setCell ⟨T, 1, none⟩ (.slice pp p.length pq)) pp p.length (el p)) := hpF.keep (fun q hq e => Below.heap_setCell _ _ _ _ (fun e' => by simp only at e'; have := (hpA q e).1; omega))
      have HPO : Hid (OwnInts U.heap.size (w3.setCell ⟨T, 1, none⟩ (.slice pp p.length pq)) (.slice pp p.length pq) p) := (hpv.far (fun q hq => Below.heap_setCell _ _ _ _ (fun e' => by simp only at e'; have := (hpv.own hq).1; omega))).le (by have := HUW.out; omega)
      have HPA : Hid (∀ q, FA pp q → U.heap.size ≤ q ∧ q < (w3.setCell ⟨T, 1, none⟩ (.slice pp p.length pq)).heap.size ∧ ¬ FG tv pa (upT st.2.1 k).length q) := fun q e => by
        have u1 := hpA q e
        refine ⟨by omega, by simpa [World.setCell] using u1.2, fun e' => ?_⟩
        have := (HCW.out.c.tr.FG_lo e').2
        omega
      have HPQ := hide hpq
      have HC4 := hide hC4
      have f1 := tf 1
      have yf1 := yf 1
      clear hTb hpv hpF hpA hpq hC3 hC4 tf yf hG1 hb3 hb3' hbC hg3 hT HCW HI g0 g1 g2
      obtain ⟨i1, hi, hz0, hz1', hz2⟩ := info_parts Tryd.infoTrain
      have HI1' := hide hi
      have HZ0 := hide hz0
      have HZ1' := hide hz1'
      have HZ2 := hide hz2
      clear hi hz0 hz1' hz2
      go_wp2_with (first | (at_builtin; refine wpList_append_lies _ rfl _ _ 24 rfl U.heap.size 35 i1 (.agg #[.int .i64 0, .slice none 0 0, .int .i64 0]) 3 40 Tryd.underlying24 HI1'.out HZ0.out HZ1'.out HZ2.out rfl (by decide) _ _ _ rfl (HC4.out.c.tr.row.alloc _) ⟨w3.heap.size, 0, none⟩ 1 1 [.int .i64 x, .slice pp p.length pq, .int .i64 y] rfl rfl ?d1 ?d2 (by decide) ?d3 ?d4 ?d5 (w3.heap.size + 1) ?d6 ?_))
      case d1 =>
        have hh := heap_alloc_new (w3.setCell ⟨T, 1, none⟩ (.slice pp p.length pq)) (.cells #[.int .i64 x, .slice pp p.length pq, .int .i64 y] 35)
        rw [show (w3.setCell ⟨T, 1, none⟩ (.slice pp p.length pq)).heap.size = w3.heap.size by simp [World.setCell]] at hh
        exact World.news_of_block hh
      case d2 => intro u hu; simp at hu; rcases hu with rfl | rfl | rfl <;> rfl
      case d3 => have := HUL.out; unfold maxLen; omega
      case d4 => have := HUL.out; omega
      case d5 => simp [World.setCell]; omega
      case d6 => simp [World.setCell]
      intro g cap w4 hown hgrow hat hlt4
      have hba := Joins.below_alloc1 (w3.setCell ⟨T, 1, none⟩ (.slice pp p.length pq)) (.cells #[.int .i64 x, .slice pp p.length pq, .int .i64 y] 35)
      have hC5 := HC4.out.snocT HZ5.out hba (t := (x, p, y)) HP3.out HPQ.out HPA.out HPO.out hown hgrow (hat.imp id (fun e => by rw [e]; simp [World.setCell]))
      obtain ⟨_, z1, _, zf⟩ := block3 (HC4.out.c.grown HZ5.out hba hgrow)
      have zf1 := zf 1
      have HC5 := hide hC5
      clear hown hgrow hat hlt4 hba hC5 zf t0 t1 t2 y0 y1 y2 f1 yf1 HC4 HP3 HPA
      go_wp2_with fail
      go_roundw
      case rel => exact ⟨k + 1, by omega, by go_num, _, _, _, by rw [HT1.out]; exact HC5.out⟩
      case measure => simp [intOf]; omega
    · obtain rfl : k = st.2.1.length := by omega
      obtain ⟨y0, y1, y2, yf⟩ := block3 hcop.var
      have hd := (hbo.block (w.heap.size + 1) (by have := HSB.out; omega)).trans D0.out
      obtain ⟨v0, v1, v2, vf⟩ := block3 hd
      have vf0 := vf 0
      have vf1 := vf 1
      have vf2 := vf 2
      have hcT := hcop.tr
      rw [upT_all] at hcT
      obtain ⟨ta, tc, rfl, htc, hoT, hFT⟩ := hcT.ownT
      have hpc := hcT.capOk
      have HBO := hide hbo
      have HD := hide hd
      have HOT := hide hoT
      have HFT := hide hFT
      have HOL := hide hcop.old
      have HPC := hide hpc
      have hpo := hco.po
      rw [upT_all] at hpo
      have HPO := hide hpo
      have HTR := hide hcT.row
      have HLT : Hid (b5 < wr.heap.size) := (Array.getElem?_eq_some_iff.1 hcop.var).1
      have hnT' : ¬ b5 = w.heap.size + 1 := by have := HSB.out; omega
      clear hcop hco hbo hd vf yf hoT hFT hcT hpc hpo
      go_wp2_with fail
      have hc : Chg (fun q => q = w.heap.size + 1) wr (((wr.setCell ⟨w.heap.size + 1, 0, none⟩ (.slice ra st.1.length rc)).setCell ⟨w.heap.size + 1, 1, none⟩ (.slice ta st.2.1.length tc)).setCell ⟨w.heap.size + 1, 2, none⟩ (.slice na st.2.2.length nc)) :=
        Chg.setCell (F := fun q => q = w.heap.size + 1) (Chg.setCell (F := fun q => q = w.heap.size + 1) (Chg.setCell (F := fun q => q = w.heap.size + 1) (Chg.refl _ _) rfl _) rfl _) rfl _
      have hvar := block3_set2 (block3_set1 (block3_set0 HD.out (.slice ra st.1.length rc)) (.slice ta st.2.1.length tc)) (.slice na st.2.2.length nc)
      have hbF : Below w.heap.size w (((wr.setCell ⟨w.heap.size + 1, 0, none⟩ (.slice ra st.1.length rc)).setCell ⟨w.heap.size + 1, 1, none⟩ (.slice ta st.2.1.length tc)).setCell ⟨w.heap.size + 1, 2, none⟩ (.slice na st.2.2.length nc)) :=
        (HBU.out.trans (HBO.out.mono (by omega))).trans (hc.below (by have := HLT.out; omega) (fun q hq e => by omega))
      generalize ((wr.setCell ⟨w.heap.size + 1, 0, none⟩ (.slice ra st.1.length rc)).setCell ⟨w.heap.size + 1, 1, none⟩ (.slice ta st.2.1.length tc)).setCell ⟨w.heap.size + 1, 2, none⟩ (.slice na st.2.2.length nc) = WF at *
      obtain ⟨z0, z1, z2, _⟩ := block3 hvar
      have k5 := HSB.out
      refine bodyPost_ret (v := .agg #[.slice ra st.1.length rc, .slice ta st.2.1.length tc, .slice na st.2.2.length nc]) (by simp [results, Tryd.results24, go_sem, z0, z1, z2]) rfl ⟨⟨ra, rc, ta, tc, na, nc, pa, pc⟩, rfl, ⟨⟨?_, ?_, ?_, ⟨?_, ?_, ?_, ?_⟩⟩, ?o1, ?o2, ?o3, ?o4, ?o5⟩, hbF⟩
      rotate_left 7
      · refine HROU.out.far (fun k hk => ?_)
        have u := HROU.out.own hk
        rw [hc.block k (Nat.lt_of_lt_of_le u.2 HOL.out.size) (fun e => ?_), HOL.out.block k u.2 (fun e => ?_)]
        · have u1 := (HRL2.out k (HROU.out.fa hk)).1
          omega
        · have u1 := HRL2.out k (HROU.out.fa hk)
          have u2 := HZW.out
          omega
      · refine HNOU.out.far (fun k hk => ?_)
        have u := HNOU.out.own hk
        rw [hc.block k (Nat.lt_of_lt_of_le u.2 HOL.out.size) (fun e => ?_), HOL.out.block k u.2 (fun e => ?_)]
        · have u1 := HNL2.out k (HNOU.out.fa hk)
          omega
        · have u1 := HNL2.out k (HNOU.out.fa hk)
          omega
      · refine Joins.ownsRow_le (ownsRow_keep HTR.out (fun k hk => ?_)) (by have := HZ5.out; omega)
        have u := ownBlock_lt HTR.out hk
        exact hc.block k u.2 (by have := HZ5.out; omega)
      · intro i hi
        refine ((HPO.out i hi).far (fun k hk => ?_)).le (by have := HZ5.out; omega)
        have u := (HPO.out i hi).own hk
        exact hc.block k u.2 (by have := HZ5.out; omega)
      · intro q e
        rcases e with e | e | e
        · have u1 := HRL2.out q e
          omega
        · have u1 := HNL2.out q e
          omega
        · have u1 := (HFT.out q e).1
          have u2 := HZ5.out
          omega
      · refine (HRU.out.keep (w' := wr) (fun q hq e => HOL.out.block q hq (fun e' => ?_))).chg hc (fun q hq e => ?_)
        · have u1 := HRL2.out q e
          have u2 := HZW.out
          omega
        · have u1 := HRL2.out q hq
          omega
      · exact HOT.out.keep (fun q hq e => hc.block q hq (fun e' => by have u1 := (HFT.out q e).1; have u2 := HZ5.out; omega))
      · refine (HNU.out.keep (w' := wr) (fun q hq e => HOL.out.block q hq (fun e' => ?_))).chg hc (fun q hq e => ?_)
        · have u1 := HNL2.out q e
          omega
        · have u1 := HNL2.out q hq
          omega
      · intro q e e'
        have u1 := HRL2.out q e
        have u2 := (HFT.out q e').1
        have u3 := HZW.out
        omega
      · intro q e e'
        have u1 := HNL2.out q e
        have u2 := (HFT.out q e').1
        omega
      · intro q e e'
        have u1 := HRL2.out q e
        have u2 := HNL2.out q e'
        omega
      · intro q e
        refine Nat.lt_of_lt_of_le ?_ hc.size
        have u0 := HOL.out.size
        rcases e with e | e | e
        · have u1 := HRL2.out q e
          have u3 := HZW.out
          omega
        · have u1 := HNL2.out q e
          omega
        · exact (HFT.out q e).2.1
end Go.Proofs.YtmjjigdnoiphbaaDoor

/-
  A STATE THAT IS BEING SPOILT: its trains as a row whose cells are written, whose paths grow.
-/
namespace Go.Proofs.YtmjjigdnoiphbaaDoor
open Go.RowKit Go.Deep
set_option linter.unusedVariables false

theorem tGet_set (ts : List Tr) {k : Nat} (t : Tr) (hk : k < ts.length) (i : Nat) : (ts.set k t)[i]? = if i = k then some t else ts[i]? := by
  rw [List.getElem?_set]
  by_cases e : k = i
  · subst e; simp [hk]
  · rw [if_neg e, if_neg (fun e' => e e'.symm)]
theorem tAt_set (ts : List Tr) {k : Nat} (t : Tr) (hk : k < ts.length) (i : Nat) : tAt (ts.set k t) i = if i = k then t.1 else tAt ts i := by
  unfold tAt; rw [tGet_set ts t hk]; split <;> simp
theorem tPath_set (ts : List Tr) {k : Nat} (t : Tr) (hk : k < ts.length) (i : Nat) : tPath (ts.set k t) i = if i = k then t.2.1 else tPath ts i := by
  unfold tPath; rw [tGet_set ts t hk]; split <;> simp
theorem tWt_set (ts : List Tr) {k : Nat} (t : Tr) (hk : k < ts.length) (i : Nat) : tWt (ts.set k t) i = if i = k then t.2.2 else tWt ts i := by
  unfold tWt; rw [tGet_set ts t hk]; split <;> simp

/-- a row of trains that can be read; what it lies in begins at B -/
structure RowT (B : Nat) (w : World) (a : Option Addr) (ts : List Tr) (pa : Nat → Option Addr) (pc : Nat → Nat) : Prop where
  row : ∀ i, i < ts.length → ∃ b off, a = some ⟨b, off, none⟩ ∧ w.cell? ⟨b, off + i * 3, none⟩ = some (.int .i64 (tAt ts i)) ∧ w.cell? ⟨b, off + i * 3 + 1, none⟩ = some (.slice (pa i) (tPath ts i).length (pc i)) ∧ w.cell? ⟨b, off + i * 3 + 2, none⟩ = some (.int .i64 (tWt ts i)) ∧ ∀ o, o < 3 → w.frozen? ⟨b, off + i * 3 + o, none⟩ = false
  path : ∀ i, i < ts.length → OwnF w (pa i) (tPath ts i).length (el (tPath ts i))
  cap : ∀ i, i < ts.length → (tPath ts i).length ≤ pc i
  ne : ∀ i k, i < ts.length → FA (pa i) k → ¬ FA a k
  lo : ∀ k, FT a pa ts.length k → B ≤ k

section
variable {B : Nat} {w w' : World} {a : Option Addr} {ts : List Tr} {pa : Nat → Option Addr} {pc : Nat → Nat}

theorem RowT.keep (h : RowT B w a ts pa pc) (hb : ∀ k, k < w.heap.size → FT a pa ts.length k → w'.heap[k]? = w.heap[k]?) : RowT B w' a ts pa pc :=
  ⟨fun i hi => by
    obtain ⟨b, off, e, h0, h1, h2, h3⟩ := h.row i hi
    have hk := hb b (World.block_lt_of_cell? _ _ h0) (Or.inl ⟨off, e⟩)
    exact ⟨b, off, e, (World.cell?_of_block (a := ⟨b, off + i * 3, none⟩) hk).trans h0, (World.cell?_of_block (a := ⟨b, off + i * 3 + 1, none⟩) hk).trans h1, (World.cell?_of_block (a := ⟨b, off + i * 3 + 2, none⟩) hk).trans h2, fun o ho => (World.frozen?_of_block (a := ⟨b, off + i * 3 + o, none⟩) hk).trans (h3 o ho)⟩,
   fun i hi => (h.path i hi).keep (fun k hk e => hb k hk (Or.inr ⟨i, hi, e⟩)), h.cap, h.ne, h.lo⟩
theorem RowT.later (h : RowT B w a ts pa pc) (hc : Chg (fun q => q < B) w w') : RowT B w' a ts pa pc :=
  h.keep (fun k hk e => hc.block k hk (by have := h.lo k e; omega))
theorem RowT.at (h : RowT B w a ts pa pc) (cap : Nat) : TrainsAt w (.slice a ts.length cap) ts :=
  ⟨a, cap, rfl, fun i hi => by
    obtain ⟨b, off, ha, h0, h1, h2, _⟩ := h.row i hi
    exact ⟨b, off, ha, .slice (pa i) (tPath ts i).length (pc i), h0, h1, (h.path i hi).at (fun j hj => rfl), h2⟩⟩
theorem RowT.capT (h : RowT B w a ts pa pc) : CapT w a ts.length := by
  intro i b off p q c hi ha hc
  obtain ⟨b', off', e, _, h1, _⟩ := h.row i hi
  rw [e] at ha
  simp only [Option.some.injEq, Addr.mk.injEq, and_true] at ha
  obtain ⟨rfl, rfl⟩ := ha
  rw [h1] at hc
  simp only [Option.some.injEq, Value.slice.injEq] at hc
  obtain ⟨_, rfl, rfl⟩ := hc
  exact h.cap i hi

theorem RowT.setAt {b off : Nat} (h : RowT B w (some ⟨b, off, none⟩) ts pa pc) {k : Nat} (hk : k < ts.length) (x : Int) : RowT B (w.setCell ⟨b, off + k * 3, none⟩ (.int .i64 x)) (some ⟨b, off, none⟩) (ts.set k (x, tPath ts k, tWt ts k)) pa pc := by
  have hP : ∀ i, tPath (ts.set k (x, tPath ts k, tWt ts k)) i = tPath ts i := fun i => by rw [tPath_set ts _ hk]; split <;> simp_all
  refine ⟨fun i hi => ?_, fun i hi => ?_, fun i hi => ?_, fun i q hi => ?_, fun q hq => ?_⟩
  · rw [List.length_set] at hi
    obtain ⟨b', off', e, h0, h1, h2, h3⟩ := h.row i hi
    simp only [Option.some.injEq, Addr.mk.injEq, and_true] at e
    obtain ⟨rfl, rfl⟩ := e
    refine ⟨b, off, rfl, ?_, ?_, ?_, fun o ho => by rw [frozen_setCell]; exact h3 o ho⟩
    · rw [tAt_set ts _ hk]
      by_cases e : i = k
      · subst e
        rw [if_pos rfl, World.cell?_setCell_same _ _ _ h0]
      · rw [if_neg e, World.cell?_setCell_other _ _ _ _ (by simp <;> omega)]
        exact h0
    · rw [hP, World.cell?_setCell_other _ _ _ _ (by simp <;> omega)]
      exact h1
    · rw [tWt_set ts _ hk, World.cell?_setCell_other _ _ _ _ (by simp <;> omega), h2]
      split <;> simp_all
  · rw [List.length_set] at hi
    rw [hP]
    exact (h.path i hi).keep (fun k' _ e => Below.heap_setCell _ _ _ _ (fun e' => h.ne i k' hi e (by simp only at e'; rw [e']; exact FA_mk _ _)))
  · rw [List.length_set] at hi
    rw [hP]
    exact h.cap i hi
  · rw [List.length_set] at hi
    exact h.ne i q hi
  · rw [List.length_set] at hq
    exact h.lo q hq
theorem RowT.setWt {b off : Nat} (h : RowT B w (some ⟨b, off, none⟩) ts pa pc) {k : Nat} (hk : k < ts.length) (x : Int) : RowT B (w.setCell ⟨b, off + k * 3 + 2, none⟩ (.int .i64 x)) (some ⟨b, off, none⟩) (ts.set k (tAt ts k, tPath ts k, x)) pa pc := by
  have hP : ∀ i, tPath (ts.set k (tAt ts k, tPath ts k, x)) i = tPath ts i := fun i => by rw [tPath_set ts _ hk]; split <;> simp_all
  refine ⟨fun i hi => ?_, fun i hi => ?_, fun i hi => ?_, fun i q hi => ?_, fun q hq => ?_⟩
  · rw [List.length_set] at hi
    obtain ⟨b', off', e, h0, h1, h2, h3⟩ := h.row i hi
    simp only [Option.some.injEq, Addr.mk.injEq, and_true] at e
    obtain ⟨rfl, rfl⟩ := e
    refine ⟨b, off, rfl, ?_, ?_, ?_, fun o ho => by rw [frozen_setCell]; exact h3 o ho⟩
    · rw [tAt_set ts _ hk, World.cell?_setCell_other _ _ _ _ (by simp <;> omega), h0]
      split <;> simp_all
    · rw [hP, World.cell?_setCell_other _ _ _ _ (by simp <;> omega)]
      exact h1
    · rw [tWt_set ts _ hk]
      by_cases e : i = k
      · subst e
        rw [if_pos rfl, World.cell?_setCell_same _ _ _ h2]
      · rw [if_neg e, World.cell?_setCell_other _ _ _ _ (by simp <;> omega)]
        exact h2
  · rw [List.length_set] at hi
    rw [hP]
    exact (h.path i hi).keep (fun k' _ e => Below.heap_setCell _ _ _ _ (fun e' => h.ne i k' hi e (by simp only at e'; rw [e']; exact FA_mk _ _)))
  · rw [List.length_set] at hi
    rw [hP]
    exact h.cap i hi
  · rw [List.length_set] at hi
    exact h.ne i q hi
  · rw [List.length_set] at hq
    exact h.lo q hq

/-- out of a row of the call's own -/
theorem rowT_owns {c : Nat} (h : w.ownsRow B 35 3 (.slice a ts.length c) ts.length (trVals ts pa pc)) (hp : ∀ i, i < ts.length → OwnF w (pa i) (tPath ts i).length (el (tPath ts i))) (hc : ∀ i, i < ts.length → (tPath ts i).length ≤ pc i) (hn : ∀ i k, i < ts.length → FA (pa i) k → ¬ FA a k) (hl : ∀ i k, i < ts.length → FA (pa i) k → B ≤ k) : RowT B w a ts pa pc := by
  refine ⟨fun i hi => ?_, hp, hc, hn, fun k hk => ?_⟩
  · rcases h.2 with ⟨e, h0⟩ | ⟨g, cap, cur, e, hg, hh, hc1, hc2, hc3, hc4⟩
    · omega
    · simp only [Value.slice.injEq] at e
      obtain ⟨rfl, -, rfl⟩ := e
      have hcell : ∀ i o u, i < ts.length → o < 3 → (trVals ts pa pc)[i * 3 + o]? = some u → w.cell? ⟨g, 0 + i * 3 + o, none⟩ = some u := fun i o u hi ho hu => by
        rw [Nat.zero_add, cell_of_row w g (i * 3 + o) cur 35 (0, 0) hh, ← Array.getElem?_toList, take_get hc4 (by omega)]
        exact hu
      obtain ⟨v0, v1, v2⟩ := trVals_get ts pa pc hi
      exact ⟨g, 0, rfl, hcell i 0 _ hi (by omega) v0, hcell i 1 _ hi (by omega) v1, hcell i 2 _ hi (by omega) v2, fun o _ => by simp [World.frozen?, hh]⟩
  · rcases hk with hk | ⟨i, hi, e⟩
    · rcases h.2 with ⟨e, h0⟩ | ⟨g, cap, cur, e, hg, hh, hc1, hc2, hc3, hc4⟩
      · simp only [Value.slice.injEq] at e
        obtain ⟨rfl, -, -⟩ := e
        obtain ⟨off, e⟩ := hk
        cases e
      · simp only [Value.slice.injEq] at e
        obtain ⟨rfl, -, rfl⟩ := e
        rw [FA_some hk]
        exact hg
    · exact hl i k hi e
end

theorem Cpd.rowT {B : Nat} {w : World} {L : Lies} {st : St} (h : Cpd B w L st) : RowT B w L.ta st.2.1 L.pa L.pc :=
  rowT_owns h.t (fun i hi => h.own.t.path i hi) (fun i hi => (h.p i hi).capOk) h.own.t.ne (fun i k hi e => h.new k (Or.inr (Or.inr (Or.inr ⟨i, hi, e⟩))))

theorem Cpd.keep {B : Nat} {w w' : World} {L : Lies} {st : St} (h : Cpd B w L st) (hz : w.heap.size ≤ w'.heap.size) (hb : ∀ k, B ≤ k → k < w.heap.size → w'.heap[k]? = w.heap[k]?) : Cpd B w' L st :=
  ⟨h.own.keep hz (fun k hk e => hb k (h.new k e) hk), h.r.far (fun k hk => hb k (h.r.own hk).1 (h.r.own hk).2), h.n.far (fun k hk => hb k (h.n.own hk).1 (h.n.own hk).2), ownsRow_keep h.t (fun k hk => hb k (ownBlock_lt h.t hk).1 (ownBlock_lt h.t hk).2), fun i hi => (h.p i hi).far (fun k hk => hb k ((h.p i hi).own hk).1 ((h.p i hi).own hk).2), h.new⟩
theorem Cpd.chg {B : Nat} {w w' : World} {L : Lies} {st : St} {F : Nat → Prop} (h : Cpd B w L st) (hc : Chg F w w') (hF : ∀ k, F k → k < B) : Cpd B w' L st :=
  h.keep hc.size (fun k hk h1 => hc.block k h1 (fun e => by have := hF k e; omega))

/-- a row of trains, and the one whose path may grow -/
structure SpT (B : Nat) (w : World) (b : Nat) (ts : List Tr) (pa : Nat → Option Addr) (pc : Nat → Nat) (k : Nat) : Prop where
  t : RowT B w (some ⟨b, 0, none⟩) ts pa pc
  inj : ∀ i q, i < ts.length → i ≠ k → FA (pa i) q → ¬ FA (pa k) q
  lt : ∀ q, FT (some ⟨b, 0, none⟩) pa ts.length q → q < w.heap.size
  own : OwnInts B w (.slice (pa k) (tPath ts k).length (pc k)) (tPath ts k)
  k : k < ts.length

theorem Cpd.spT {B : Nat} {w : World} {L : Lies} {st : St} (h : Cpd B w L st) {b : Nat} (e : L.ta = some ⟨b, 0, none⟩) {k : Nat} (hk : k < st.2.1.length) : SpT B w b st.2.1 L.pa L.pc k :=
  ⟨by rw [← e]; exact h.rowT, fun i q hi hne => h.own.t.inj i k q hi hk hne, fun q hq => h.own.apart.lt q (Or.inr (Or.inr (by rw [e]; exact hq))), h.p k hk, hk⟩

theorem SpT.keep {B : Nat} {w w' : World} {b : Nat} {ts : List Tr} {pa : Nat → Option Addr} {pc : Nat → Nat} {k : Nat} (h : SpT B w b ts pa pc k) (hz : w.heap.size ≤ w'.heap.size) (hb : ∀ q, B ≤ q → q < w.heap.size → w'.heap[q]? = w.heap[q]?) : SpT B w' b ts pa pc k :=
  ⟨h.t.keep (fun q hq e => hb q (h.t.lo q e) hq), h.inj, fun q hq => Nat.lt_of_lt_of_le (h.lt q hq) hz, h.own.far (fun q hq => hb q (h.own.own hq).1 (h.own.own hq).2), h.k⟩

theorem SpT.push {B : Nat} {w wa w' : World} {b : Nat} {ts : List Tr} {pa : Nat → Option Addr} {pc : Nat → Nat} {k : Nat} (h : SpT B w b ts pa pc k) (hBw : B ≤ w.heap.size) (hba : Below w.heap.size w wa) {x : Int} {g cap : Nat}
    (hown : OwnInts B w' (.slice (some ⟨g, 0, none⟩) ((tPath ts k).length + 1) cap) (tPath ts k ++ [x]))
    (hgrow : wa.grownBy w' (Value.ownBlock (.slice (pa k) (tPath ts k).length (pc k)))) (hat : Value.ownBlock (.slice (pa k) (tPath ts k).length (pc k)) = some g ∨ wa.heap.size ≤ g) :
    SpT B (w'.setCell ⟨b, 0 + k * 3 + 1, none⟩ (.slice (some ⟨g, 0, none⟩) ((tPath ts k).length + 1) cap)) b (ts.set k (tAt ts k, tPath ts k ++ [x], tWt ts k)) (upd pa k (some ⟨g, 0, none⟩)) (upd pc k cap) k := by
  have hk := h.k
  have hsz : w.heap.size ≤ w'.heap.size := Nat.le_trans hba.size hgrow.size
  have hkeep : ∀ q, q < w.heap.size → ¬ FA (pa k) q → w'.heap[q]? = w.heap[q]? := fun q hq hne => by
    rw [hgrow.block q (Nat.lt_of_lt_of_le hq hba.size) (fun e => hne (h.own.fa e.symm)), hba.block q hq]
  have hg : ∀ q, FA (some ⟨g, 0, none⟩) q → FA (pa k) q ∨ w.heap.size ≤ q := fun q hq => by
    rw [FA_some hq]
    rcases hat with hat | hat
    · exact Or.inl (h.own.fa hat)
    · exact Or.inr (Nat.le_trans hba.size hat)
  have hbk : FA (some ⟨b, 0, none⟩) b := FA_mk _ _
  have hbl : b < w.heap.size := h.lt b (Or.inl hbk)
  have hgb : ¬ g = b := fun e => by
    rcases hg g (FA_mk _ _) with e' | e'
    · exact h.t.ne k g hk e' (by rw [e]; exact hbk)
    · omega
  have hrowW : w'.heap[b]? = w.heap[b]? := hkeep b hbl (fun e => h.t.ne k b hk e hbk)
  have hset : ∀ q, q ≠ b → (w'.setCell ⟨b, 0 + k * 3 + 1, none⟩ (.slice (some ⟨g, 0, none⟩) ((tPath ts k).length + 1) cap)).heap[q]? = w'.heap[q]? := fun q hq => Below.heap_setCell _ _ _ _ hq
  have hownS := hown.far (w' := w'.setCell ⟨b, 0 + k * 3 + 1, none⟩ (.slice (some ⟨g, 0, none⟩) ((tPath ts k).length + 1) cap)) (fun q hq => hset q (by simp [Value.ownBlock] at hq; omega))
  have hlenk : (tPath ts k ++ [x]).length = (tPath ts k).length + 1 := by simp
  refine ⟨⟨fun i hi => ?_, fun i hi => ?_, fun i hi => ?_, fun i q hi e => ?_, fun q hq => ?_⟩, fun i q hi hne e => ?_, fun q hq => ?_, ?_, by rw [List.length_set]; exact hk⟩
  · rw [List.length_set] at hi
    obtain ⟨b', off', e, h0, h1, h2, h3⟩ := h.t.row i hi
    simp only [Option.some.injEq, Addr.mk.injEq, and_true] at e
    obtain ⟨rfl, rfl⟩ := e
    have h0 := (World.cell?_of_block (a := ⟨b, 0 + i * 3, none⟩) hrowW).trans h0
    have h1 := (World.cell?_of_block (a := ⟨b, 0 + i * 3 + 1, none⟩) hrowW).trans h1
    have h2 := (World.cell?_of_block (a := ⟨b, 0 + i * 3 + 2, none⟩) hrowW).trans h2
    refine ⟨b, 0, rfl, ?_, ?_, ?_, fun o ho => by rw [frozen_setCell, World.frozen?_of_block (a := ⟨b, 0 + i * 3 + o, none⟩) hrowW]; exact h3 o ho⟩
    · rw [tAt_set ts _ hk, World.cell?_setCell_other _ _ _ _ (by simp <;> omega), h0]
      split <;> simp_all
    · rw [tPath_set ts _ hk]
      by_cases e : i = k
      · subst e
        rw [if_pos rfl, World.cell?_setCell_same _ _ _ h1, upd_same, upd_same, hlenk]
      · rw [if_neg e, World.cell?_setCell_other _ _ _ _ (by simp <;> omega), upd_other _ _ e, upd_other _ _ e]
        exact h1
    · rw [tWt_set ts _ hk, World.cell?_setCell_other _ _ _ _ (by simp <;> omega), h2]
      split <;> simp_all
  · rw [List.length_set] at hi
    rw [tPath_set ts _ hk]
    by_cases e : i = k
    · subst e
      rw [if_pos rfl, upd_same]
      obtain ⟨a', c', e', hF, -⟩ := hownS.ownF
      simp only [Value.slice.injEq] at e'
      rw [← e'.1] at hF
      exact hF
    · rw [if_neg e, upd_other _ _ e]
      refine (h.t.path i hi).keep (fun q hq e' => ?_)
      rw [hset q (fun eb => h.t.ne i q hi e' (by rw [eb]; exact hbk)), hkeep q hq (h.inj i q hi e e')]
  · rw [List.length_set] at hi
    rw [tPath_set ts _ hk]
    by_cases e : i = k
    · subst e
      rw [if_pos rfl, upd_same]
      exact hown.capOk
    · rw [if_neg e, upd_other _ _ e]
      exact h.t.cap i hi
  · rw [List.length_set] at hi
    by_cases e2 : i = k
    · subst e2
      rw [upd_same] at e
      intro e3
      rw [FA_some e, ] at e3
      exact hgb (FA_some e3)
    · rw [upd_other _ _ e2] at e
      exact h.t.ne i q hi e
  · rw [List.length_set] at hq
    rcases hq with hq | ⟨i, hi, e⟩
    · exact h.t.lo q (Or.inl hq)
    · by_cases e2 : i = k
      · subst e2
        rw [upd_same] at e
        rcases hg q e with e' | e'
        · exact h.t.lo q (Or.inr ⟨i, hi, e'⟩)
        · omega
      · rw [upd_other _ _ e2] at e
        exact h.t.lo q (Or.inr ⟨i, hi, e⟩)
  · rw [List.length_set] at hi
    rw [upd_other _ _ hne] at e
    rw [upd_same]
    intro e3
    rcases hg q e3 with e' | e'
    · exact h.inj i q hi hne e e'
    · have := h.lt q (Or.inr ⟨i, hi, e⟩)
      omega
  · rw [List.length_set] at hq
    rcases hq with hq | ⟨i, hi, e⟩
    · have := h.lt q (Or.inl hq)
      simp
      omega
    · by_cases e2 : i = k
      · subst e2
        rw [upd_same] at e
        rw [FA_some e]
        have := (hownS.own (q := g) rfl).2
        exact this
      · rw [upd_other _ _ e2] at e
        have := h.lt q (Or.inr ⟨i, hi, e⟩)
        simp
        omega
  · rw [tPath_set ts _ hk, if_pos rfl, upd_same, upd_same]
    simp only [hlenk]
    exact hownS

/-- how great a state is -/
structure Sz (N M : Nat) (st : St) : Prop where
  r : st.1.length ≤ 41
  t : st.2.1.length ≤ N
  n : st.2.2.length ≤ N
  p : ∀ i, i < st.2.1.length → (tPath st.2.1 i).length ≤ M
theorem Sz.small {N M : Nat} {st : St} (h : Sz N M st) (hN : N ≤ 1000) (hM : M ≤ 1000) : SmallSt st :=
  ⟨by have := h.r; omega, by have := h.n; omega, by have := h.t; omega, fun i hi => by have := h.p i hi; omega⟩

/-- a state whose lists lie from B on: what it is in a later world -/
theorem state_later {B : Nat} {w w'' : World} {rv nv : Value} {ta : Option Addr} {tc : Nat} {rs ns : List Int} {ts : List Tr} {pa : Nat → Option Addr} {pc : Nat → Nat} (hr : OwnInts B w rv rs) (hn : OwnInts B w nv ns) (ht : RowT B w ta ts pa pc) (hc : Chg (fun q => q < B) w w'') :
    StateAt w'' (.agg #[rv, .slice ta ts.length tc, nv]) (rs, ts, ns) ∧ CapSt w'' (.agg #[rv, .slice ta ts.length tc, nv]) ts.length := by
  refine ⟨⟨rv, _, nv, rfl, ?_, (ht.later hc).at tc, ?_⟩, ?_⟩
  · exact (hr.far (fun q hq => hc.block q (hr.own hq).2 (by have := (hr.own hq).1; omega))).at
  · exact (hn.far (fun q hq => hc.block q (hn.own hq).2 (by have := (hn.own hq).1; omega))).at
  · intro a1 l1 q1 a2 l2 q2 a3 l3 q3 hv
    simp only [Value.agg.injEq, Array.mk.injEq, List.cons.injEq, Value.slice.injEq, and_true] at hv
    obtain ⟨_, ⟨rfl, _, _⟩, _⟩ := hv
    exact (ht.later hc).capT

/-- a number of such a row is written -/
theorem OwnInts.put {B : Nat} {w : World} {g n c : Nat} {xs : List Int} (h : OwnInts B w (.slice (some ⟨g, 0, none⟩) n c) xs) {k : Nat} (hk : k < xs.length) (x : Int) : OwnInts B (w.setCell ⟨g, k, none⟩ (.int .i64 x)) (.slice (some ⟨g, 0, none⟩) n c) (xs.set k x) := by
  obtain ⟨h1, h2⟩ := h
  refine ⟨by simp, ?_⟩
  rcases h2 with ⟨e, _⟩ | ⟨g', cap, cur, e, hg, hh, hc1, hc2, hc3, hc4⟩
  · simp at e
  · simp only [Value.slice.injEq, Option.some.injEq, Addr.mk.injEq, and_true] at e
    obtain ⟨rfl, rfl, rfl⟩ := e
    refine Or.inr ⟨g, c, cur.setIfInBounds k (.int .i64 x), by simp, hg, ?_, ?_, hc2, ?_, ?_⟩
    · have := Joins.block_setCell (i := k) hh (.int .i64 x)
      simpa using this
    · rw [List.length_set]; exact hc1
    · simpa using hc3
    · rw [List.length_set, Array.toList_setIfInBounds, List.take_set, hc4, List.map_set]
end Go.Proofs.YtmjjigdnoiphbaaDoor

/-
  (*l5Cur).spoil: what it leaves.
-/
namespace Go.Proofs.YtmjjigdnoiphbaaDoor
open Go.RowKit Go.Deep
set_option linter.unusedVariables false
attribute [local go_sem ↓] Go.wp_at_zero Go.wp_at_succ

/-- what spoil leaves: some state, not much greater, in blocks of its own -/
def SpPost (w : World) (cb : Nat) (a : Option Addr) (B : List Int) (q : Nat) (c : Cu) (N M : Nat) (e : Ending) (w' : World) : Prop :=
  ∃ (r : Value) (st' : St) (c' : Cu), e = .returned r ∧ Sz (N + 1) (M + 9) st' ∧ (∀ w'', Chg (fun q => q < w.heap.size) w' w'' → StateAt w'' r st' ∧ CapSt w'' r st'.2.1.length) ∧ CurF w' cb a B q c' ∧ c'.1 ≤ c.1 + 200 ∧ Chg (fun b => b = cb) w w'

theorem sp_end {w WF WR : World} {cb sb : Nat} {a : Option Addr} {B : List Int} {q : Nat} {c c' : Cu} {N M : Nat} {rv nv : Value} {ta : Option Addr} {tc : Nat} {rs ns : List Int} {ts : List Tr} {pa : Nat → Option Addr} {pc : Nat → Nat}
    (hsb : sb = w.heap.size) (hcs : cb < sb) (hch : Chg (fun b => b = cb ∨ sb ≤ b) w WF) (hcu : CurF WF cb a B q c') (hc' : c'.1 ≤ c.1 + 200) (hr : OwnInts (sb + 2) WF rv rs) (hn : OwnInts (sb + 2) WF nv ns) (ht : RowT (sb + 2) WF ta ts pa pc) (hz : Sz (N + 1) (M + 9) (rs, ts, ns)) (hR : Chg (fun b => b = sb + 1) WF WR) :
    SpPost w cb a B q c N M (.returned (.agg #[rv, .slice ta ts.length tc, nv])) WR := by
  refine ⟨_, _, c', rfl, hz, fun w'' hw => ?_, hcu.keep hR (fun b hb => by omega), hc', ?_⟩
  · exact state_later hr hn ht ((hR.mono (fun k e => by omega)).trans (hw.mono (fun k e => by omega)))
  · have h2 := hch.trans (hR.mono (G := fun b => b = cb ∨ sb ≤ b) (fun k e => by omega))
    exact ⟨h2.os, h2.tape, h2.output, h2.size, fun k hk hne => h2.block k hk (fun e => by omega)⟩
theorem chg_row {V W : World} {cb : Nat} (h : Chg (fun b => b = cb) V W) {k : Nat} {o : Obj} (hc : V.heap[k]? = some o) (hne : k ≠ cb) : W.heap[k]? = some o :=
  (h.block k (Array.getElem?_eq_some_iff.1 hc).1 hne).trans hc

theorem chg_cell {V W : World} {cb : Nat} (h : Chg (fun b => b = cb) V W) {k o : Nat} {x : Value} (hc : V.cell? ⟨k, o, none⟩ = some x) (hne : k ≠ cb) : W.cell? ⟨k, o, none⟩ = some x :=
  (World.cell?_of_block (a := ⟨k, o, none⟩) (h.block k (World.block_lt_of_cell? _ _ hc) hne)).trans hc
theorem chg_frozen {V W : World} {cb : Nat} (h : Chg (fun b => b = cb) V W) {k o : Nat} (hlt : k < V.heap.size) (hne : k ≠ cb) : W.frozen? ⟨k, o, none⟩ = V.frozen? ⟨k, o, none⟩ :=
  World.frozen?_of_block (a := ⟨k, o, none⟩) (h.block k hlt hne)


theorem Cpd.offN {B : Nat} {w w' : World} {L : Lies} {st : St} (h : Cpd B w L st) (hc : Chg (fun b => FA L.na b ∨ b < B) w w') : OwnInts B w' (.slice L.ra st.1.length L.rc) st.1 ∧ RowT B w' L.ta st.2.1 L.pa L.pc :=
  ⟨h.r.far (fun k hk => hc.block k (h.r.own hk).2 (fun e => by
    rcases e with e | e
    · exact h.own.apart.rn k (h.r.fa hk) e
    · have := (h.r.own hk).1; omega)), h.rowT.keep (fun k hk e => hc.block k hk (fun e' => by
    rcases e' with e' | e'
    · exact h.own.apart.nt k e' e
    · have := h.rowT.lo k e; omega))⟩
theorem Cpd.offR {B : Nat} {w w' : World} {L : Lies} {st : St} (h : Cpd B w L st) (hc : Chg (fun b => FA L.ra b ∨ b < B) w w') : OwnInts B w' (.slice L.na st.2.2.length L.nc) st.2.2 ∧ RowT B w' L.ta st.2.1 L.pa L.pc :=
  ⟨h.n.far (fun k hk => hc.block k (h.n.own hk).2 (fun e => by
    rcases e with e | e
    · exact h.own.apart.rn k e (h.n.fa hk)
    · have := (h.n.own hk).1; omega)), h.rowT.keep (fun k hk e => hc.block k hk (fun e' => by
    rcases e' with e' | e'
    · exact h.own.apart.rt k e' e
    · have := h.rowT.lo k e; omega))⟩
theorem Cpd.offT {B : Nat} {w w' : World} {L : Lies} {st : St} (h : Cpd B w L st) (hc : Chg (fun b => FT L.ta L.pa st.2.1.length b ∨ b < B) w w') : OwnInts B w' (.slice L.ra st.1.length L.rc) st.1 ∧ OwnInts B w' (.slice L.na st.2.2.length L.nc) st.2.2 :=
  ⟨h.r.far (fun k hk => hc.block k (h.r.own hk).2 (fun e => by
    rcases e with e | e
    · exact h.own.apart.rt k (h.r.fa hk) e
    · have := (h.r.own hk).1; omega)), h.n.far (fun k hk => hc.block k (h.n.own hk).2 (fun e => by
    rcases e with e | e
    · exact h.own.apart.nt k (h.n.fa hk) e
    · have := (h.n.own hk).1; omega))⟩
/-- a row that has grown: what else there was is as it was -/
theorem grown_chg {w wa w' : World} {v : Value} (hba : Below w.heap.size w wa) (hg : wa.grownBy w' v.ownBlock) : Chg (fun b => v.ownBlock = some b) w w' :=
  chg_grown (Chg.of_below hba) hg (fun k hk => hk)
theorem Cpd.taFA {B : Nat} {w : World} {L : Lies} {st : St} (h : Cpd B w L st) {k : Nat} (hk : Value.ownBlock (.slice L.ta st.2.1.length L.tc) = some k) : FA L.ta k := by
  rcases h.t.2 with ⟨e, e'⟩ | ⟨g, cap, cur, e, _⟩
  · simp only [Value.slice.injEq] at e
    rw [e.1] at hk
    simp [Value.ownBlock] at hk
  · simp only [Value.slice.injEq] at e
    rw [e.1] at hk ⊢
    simp [Value.ownBlock] at hk
    rw [hk]
    exact FA_mk _ _
/-- a train once more, its path shared -/
theorem Cpd.shareT {B : Nat} {w wa w' : World} {L : Lies} {st : St} (h : Cpd B w L st) (hba : Below w.heap.size w wa) {u : Nat} (hu : u < st.2.1.length) {g cap : Nat}
    (hown : w'.ownsRow B 35 3 (.slice (some ⟨g, 0, none⟩) (st.2.1.length + 1) cap) (st.2.1.length + 1) (trVals st.2.1 L.pa L.pc ++ [.int .i64 (tAt st.2.1 u), .slice (L.pa u) (tPath st.2.1 u).length (L.pc u), .int .i64 (tWt st.2.1 u)]))
    (hgrow : wa.grownBy w' (Value.ownBlock (.slice L.ta st.2.1.length L.tc))) (hat : Value.ownBlock (.slice L.ta st.2.1.length L.tc) = some g ∨ wa.heap.size ≤ g) :
    RowT B w' (some ⟨g, 0, none⟩) (st.2.1 ++ [(tAt st.2.1 u, tPath st.2.1 u, tWt st.2.1 u)]) (upd L.pa st.2.1.length (L.pa u)) (upd L.pc st.2.1.length (L.pc u)) := by
  have hfar : ∀ k, k < w.heap.size → ¬ FA L.ta k → w'.heap[k]? = w.heap[k]? := fun k hk hne => by
    rw [hgrow.block k (Nat.lt_of_lt_of_le hk hba.size) (fun e => hne (h.taFA e.symm)), hba.block k hk]
  have hpa : ∀ i k, i < st.2.1.length → FA (L.pa i) k → k < w.heap.size ∧ B ≤ k ∧ ¬ FA L.ta k := fun i k hi e =>
    ⟨h.own.apart.lt k (Or.inr (Or.inr (Or.inr ⟨i, hi, e⟩))), h.new k (Or.inr (Or.inr (Or.inr ⟨i, hi, e⟩))), h.own.t.ne i k hi e⟩
  have hix : ∀ i, i < (st.2.1 ++ [(tAt st.2.1 u, tPath st.2.1 u, tWt st.2.1 u)]).length → ∃ j, j < st.2.1.length ∧ upd L.pa st.2.1.length (L.pa u) i = L.pa j ∧ upd L.pc st.2.1.length (L.pc u) i = L.pc j ∧ tPath (st.2.1 ++ [(tAt st.2.1 u, tPath st.2.1 u, tWt st.2.1 u)]) i = tPath st.2.1 j := fun i hi => by
    rw [List.length_append, List.length_singleton] at hi
    by_cases e : i < st.2.1.length
    · exact ⟨i, e, upd_other _ _ (by omega), upd_other _ _ (by omega), tPath_snoc e⟩
    · obtain rfl : i = st.2.1.length := by omega
      exact ⟨u, hu, upd_same _ _ _, upd_same _ _ _, tPath_last _ _⟩
  refine rowT_owns (c := cap) ?_ (fun i hi => ?_) (fun i hi => ?_) (fun i k hi e e' => ?_) (fun i k hi e => ?_)
  · rw [List.length_append, List.length_singleton, trVals_snoc]
    exact hown
  · obtain ⟨j, hj, e1, e2, e3⟩ := hix i hi
    rw [e1, e3]
    exact (h.own.t.path j hj).keep (fun k hk e => hfar k hk (hpa j k hj e).2.2)
  · obtain ⟨j, hj, e1, e2, e3⟩ := hix i hi
    rw [e2, e3]
    exact (h.p j hj).capOk
  · obtain ⟨j, hj, e1, e2, e3⟩ := hix i hi
    rw [e1] at e
    have u1 := hpa j k hj e
    rw [FA_some e'] at u1
    rcases hat with hat | hat
    · exact u1.2.2 (h.taFA hat)
    · have := hba.size; omega
  · obtain ⟨j, hj, e1, e2, e3⟩ := hix i hi
    rw [e1] at e
    exact (hpa j k hj e).2.1
end Go.Proofs.YtmjjigdnoiphbaaDoor
