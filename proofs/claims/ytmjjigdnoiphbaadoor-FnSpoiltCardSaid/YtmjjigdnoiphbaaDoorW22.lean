/-
  impl.stateBehind.
-/
import Derived.Test.YtmjjigdnoiphbaaDoorL2
import Derived.Deep.RegionLaw
namespace Go.Proofs.YtmjjigdnoiphbaaDoor
open Go.RowKit Go.Deep
set_option linter.unusedVariables false

/-- what becomes of train i when train m moves: nothing, or one train -/
def mvT1 (ts : List Tr) (m i : Nat) : List Tr :=
  if i = m then (if (tPath ts i).length = 0 then [] else [(el (tPath ts i) 0, (tPath ts i).tail, tWt ts i)]) else [(tAt ts i, tPath ts i, tWt ts i)]
def mvT (ts : List Tr) (m : Nat) : Nat → List Tr
  | 0 => []
  | k + 1 => mvT ts m k ++ mvT1 ts m k
def mvN (ts : List Tr) (ns : List Int) (m : Nat) : Nat → List Int
  | 0 => []
  | k + 1 => mvN ts ns m k ++ (if k = m ∧ (tPath ts k).length = 0 then [] else [el ns k])
/-- the state behind a move of train m -/
def stepSt (st : St) (m : Nat) : St := (st.1, mvT st.2.1 m st.2.1.length, mvN st.2.1 st.2.2 m st.2.1.length)

theorem mvT_le (ts : List Tr) (m : Nat) : ∀ k, (mvT ts m k).length ≤ k
  | 0 => Nat.le_refl _
  | k + 1 => by
    have := mvT_le ts m k
    simp only [mvT, List.length_append]
    unfold mvT1
    split
    · split <;> simp <;> omega
    · simp; omega
theorem mvN_le (ts : List Tr) (ns : List Int) (m : Nat) : ∀ k, (mvN ts ns m k).length ≤ k
  | 0 => Nat.le_refl _
  | k + 1 => by
    have := mvN_le ts ns m k
    simp only [mvN, List.length_append]
    split <;> simp <;> omega

theorem OwnInts.capOk {base : Nat} {w : World} {a : Option Addr} {l c : Nat} {xs : List Int} (h : OwnInts base w (.slice a l c) xs) : xs.length ≤ c := by
  rcases h.lies with ⟨hv, rfl⟩ | ⟨g, cap, cur, hv, _, _, h1, _⟩
  · simp
  · simp only [Value.slice.injEq] at hv
    obtain ⟨_, _, rfl⟩ := hv
    exact h1

/-- where 'moved' stands behind k rounds: the variable 'behind' is block b5; what it has gathered lies behind it -/
structure Mov (U : World) (b5 : Nat) (rv : Value) (ts' : List Tr) (ns' : List Int) (w : World) (tv nv : Value) (pa : Nat → Option Addr) (pc : Nat → Nat) : Prop where
  var : w.heap[b5]? = some (.cells #[rv, tv, nv] 26 (0, 0))
  tr : Gath (b5 + 1) w tv ts' pa pc
  nm : OwnInts (b5 + 1) w nv ns'
  ap : ∀ k, nv.ownBlock = some k → ¬ FG tv pa ts'.length k
  old : Chg (fun q => q = b5 ∨ b5 < q) U w

theorem Mov.below {U : World} {b5 : Nat} {rv : Value} {ts' : List Tr} {ns' : List Int} {w w' : World} {tv nv : Value} {pa : Nat → Option Addr} {pc : Nat → Nat} (h : Mov U b5 rv ts' ns' w tv nv pa pc) (hb : Below w.heap.size w w') : Mov U b5 rv ts' ns' w' tv nv pa pc :=
  ⟨(hb.block b5 (Array.getElem?_eq_some_iff.1 h.var).1).trans h.var, h.tr.below hb, h.nm.below hb, h.ap, h.old.trans (Chg.of_below hb)⟩
/-- a store into a new variable of the round -/
theorem Mov.set {U : World} {b5 : Nat} {rv : Value} {ts' : List Tr} {ns' : List Int} {w : World} {tv nv : Value} {pa : Nat → Option Addr} {pc : Nat → Nat} (h : Mov U b5 rv ts' ns' w tv nv pa pc) {T o : Nat} {u : Value} (hT : b5 < T) (hG : ¬ FG tv pa ts'.length T) (hN : nv.ownBlock ≠ some T) : Mov U b5 rv ts' ns' (w.setCell ⟨T, o, none⟩ u) tv nv pa pc := by
  have hc : Chg (fun q => q = T) w (w.setCell ⟨T, o, none⟩ u) := Chg.setCell (F := fun q => q = T) (p := ⟨T, o, none⟩) (Chg.refl _ _) rfl _
  refine ⟨(Below.heap_setCell _ _ _ _ (by simp; omega)).trans h.var, h.tr.chg hc (fun k hk e => hG (e ▸ hk)), ownsRow_keep h.nm (fun k hk => Below.heap_setCell _ _ _ _ (fun e => hN (by simp only at e; rw [← e]; exact hk))), h.ap, h.old.setCell (Or.inr hT) _⟩
theorem Mov.newBlock {U : World} {b5 : Nat} {rv : Value} {ts' : List Tr} {ns' : List Int} {w : World} {tv nv : Value} {pa : Nat → Option Addr} {pc : Nat → Nat} (h : Mov U b5 rv ts' ns' w tv nv pa pc) {T : Nat} (hT : w.heap.size ≤ T) : ¬ FG tv pa ts'.length T ∧ nv.ownBlock ≠ some T :=
  ⟨fun e => by have := (h.tr.FG_lo e).2; omega, fun e => by have := (ownBlock_lt h.nm e).2; omega⟩

/-- behind an append the variable 'behind' is as it was -/
theorem Mov.grown {U : World} {b5 : Nat} {rv : Value} {ts' : List Tr} {ns' : List Int} {w wa w' : World} {tv nv : Value} {pa : Nat → Option Addr} {pc : Nat → Nat} (h : Mov U b5 rv ts' ns' w tv nv pa pc) (hba : Below w.heap.size w wa) {row : Option Nat} (hgrow : wa.grownBy w' row) (hrow : row ≠ some b5) : w'.heap[b5]? = some (.cells #[rv, tv, nv] 26 (0, 0)) := by
  have hlt : b5 < w.heap.size := (Array.getElem?_eq_some_iff.1 h.var).1
  rw [hgrow.block b5 (Nat.lt_of_lt_of_le hlt hba.size) (fun e => hrow e.symm), hba.block b5 hlt]
  exact h.var
theorem Mov.tvNe {U : World} {b5 : Nat} {rv : Value} {ts' : List Tr} {ns' : List Int} {w : World} {tv nv : Value} {pa : Nat → Option Addr} {pc : Nat → Nat} (h : Mov U b5 rv ts' ns' w tv nv pa pc) : tv.ownBlock ≠ some b5 := fun e => by have := (ownBlock_lt h.tr.row e).1; omega
theorem Mov.nvNe {U : World} {b5 : Nat} {rv : Value} {ts' : List Tr} {ns' : List Int} {w : World} {tv nv : Value} {pa : Nat → Option Addr} {pc : Nat → Nat} (h : Mov U b5 rv ts' ns' w tv nv pa pc) : nv.ownBlock ≠ some b5 := fun e => by have := (ownBlock_lt h.nm e).1; omega

theorem chg_grown {F : Nat → Prop} {a w w' : World} {row : Option Nat} (h : Chg F a w) (hg : w.grownBy w' row) (hr : ∀ k, row = some k → F k) : Chg F a w' :=
  h.trans ⟨hg.os, hg.tape, hg.output, hg.size, fun k hk hf => hg.block k hk (fun e => hf (hr k e.symm))⟩

theorem Mov.snocT {U : World} {b5 : Nat} {rv : Value} {ts' : List Tr} {ns' : List Int} {w wa w' : World} {tv nv : Value} {pa : Nat → Option Addr} {pc : Nat → Nat} (h : Mov U b5 rv ts' ns' w tv nv pa pc) (hba : Below w.heap.size w wa) {t : Tr} {a : Option Addr} {c g cap : Nat}
    (hp : OwnF w a t.2.1.length (el t.2.1)) (hcap : t.2.1.length ≤ c) (hlo : ∀ k, FA a k → b5 + 1 ≤ k ∧ k < w.heap.size ∧ ¬ FG tv pa ts'.length k ∧ nv.ownBlock ≠ some k)
    (hown : w'.ownsRow (b5 + 1) 35 3 (.slice (some ⟨g, 0, none⟩) (ts'.length + 1) cap) (ts'.length + 1) (trVals ts' pa pc ++ [.int .i64 t.1, .slice a t.2.1.length c, .int .i64 t.2.2]))
    (hgrow : wa.grownBy w' tv.ownBlock) (hat : tv.ownBlock = some g ∨ wa.heap.size ≤ g) :
    Mov U b5 rv (ts' ++ [t]) ns' (w'.setCell ⟨b5, 1, none⟩ (.slice (some ⟨g, 0, none⟩) (ts'.length + 1) cap)) (.slice (some ⟨g, 0, none⟩) (ts'.length + 1) cap) nv (upd pa ts'.length a) (upd pc ts'.length c) := by
  have hn : (ts' ++ [t]).length = ts'.length + 1 := by simp
  have hG := (h.tr.below hba).snoc (hp.below hba) hcap (fun k hk => ⟨(hlo k hk).1, Nat.lt_of_lt_of_le (hlo k hk).2.1 hba.size, (hlo k hk).2.2.1⟩) hown hgrow hat
  have hc5 : Chg (fun q => q = b5) w' (w'.setCell ⟨b5, 1, none⟩ (.slice (some ⟨g, 0, none⟩) (ts'.length + 1) cap)) := Chg.setCell (F := fun q => q = b5) (p := ⟨b5, 1, none⟩) (Chg.refl _ _) rfl _
  have hnm : ∀ k, nv.ownBlock = some k → w'.heap[k]? = w.heap[k]? := fun k hk => by
    have u := (ownBlock_lt h.nm hk).2
    rw [hgrow.block k (Nat.lt_of_lt_of_le u hba.size) (fun e => h.ap k hk (Or.inl e.symm)), hba.block k u]
  refine ⟨block3_set1 (h.grown hba hgrow h.tvNe) _, hG.chg hc5 (fun k hk e => by have := (hG.FG_lo hk).1; omega), ?_, fun k hk e => ?_, ?_⟩
  · exact ownsRow_keep (ownsRow_keep h.nm hnm) (fun k hk => Below.heap_setCell _ _ _ _ (fun e => by simp only at e; exact h.nvNe (e ▸ hk)))
  · have u := (ownBlock_lt h.nm hk).2
    rcases e with e | ⟨i, hi, e⟩
    · simp [Value.ownBlock] at e
      subst e
      rcases hat with hat | hat
      · exact h.ap g hk (Or.inl hat)
      · have := hba.size; omega
    · rw [hn] at hi
      by_cases e2 : i < ts'.length
      · rw [upd_other _ _ (by omega)] at e
        exact h.ap k hk (Or.inr ⟨i, e2, e⟩)
      · obtain rfl : i = ts'.length := by omega
        rw [upd_same] at e
        exact (hlo k e).2.2.2 hk
  · exact (chg_grown (h.old.trans (Chg.of_below hba)) hgrow (fun k hk => Or.inr (by have := (ownBlock_lt h.tr.row hk).1; omega))).setCell (Or.inl rfl) _

theorem Mov.snocN {U : World} {b5 : Nat} {rv : Value} {ts' : List Tr} {ns' : List Int} {w wa w' : World} {tv nv : Value} {pa : Nat → Option Addr} {pc : Nat → Nat} (h : Mov U b5 rv ts' ns' w tv nv pa pc) (hba : Below w.heap.size w wa) {x : Int} {g cap : Nat}
    (hown : w'.ownsRow (b5 + 1) 3 1 (.slice (some ⟨g, 0, none⟩) (ns'.length + 1) cap) (ns'.length + 1) (ns'.map (Value.int .i64) ++ [.int .i64 x]))
    (hgrow : wa.grownBy w' nv.ownBlock) (hat : nv.ownBlock = some g ∨ wa.heap.size ≤ g) :
    Mov U b5 rv ts' (ns' ++ [x]) (w'.setCell ⟨b5, 2, none⟩ (.slice (some ⟨g, 0, none⟩) (ns'.length + 1) cap)) tv (.slice (some ⟨g, 0, none⟩) (ns'.length + 1) cap) pa pc := by
  have hO := OwnInts.snoc hown
  have hc5 : Chg (fun q => q = b5) w' (w'.setCell ⟨b5, 2, none⟩ (.slice (some ⟨g, 0, none⟩) (ns'.length + 1) cap)) := Chg.setCell (F := fun q => q = b5) (p := ⟨b5, 2, none⟩) (Chg.refl _ _) rfl _
  have hG : Gath (b5 + 1) w' tv ts' pa pc := (h.tr.below hba).keep hgrow.size (fun k hk e => hgrow.block k hk (fun e' => h.ap k e'.symm e))
  refine ⟨block3_set2 (h.grown hba hgrow h.nvNe) _, hG.chg hc5 (fun k hk e => by have := (hG.FG_lo hk).1; omega), ?_, fun k hk e => ?_, ?_⟩
  · exact ownsRow_keep hO (fun k hk => Below.heap_setCell _ _ _ _ (fun e => by simp only at e; have := (ownBlock_lt hO hk).1; omega))
  · simp [Value.ownBlock] at hk
    subst hk
    rcases hat with hat | hat
    · exact h.ap g hat e
    · have u := (h.tr.FG_lo e).2
      have := hba.size
      omega
  · exact (chg_grown (h.old.trans (Chg.of_below hba)) hgrow (fun k hk => Or.inr (by have := (ownBlock_lt h.nm hk).1; omega))).setCell (Or.inl rfl) _

/-- what is there of train i behind the moves d: nothing, or one train -/
def bhT1 (ts : List Tr) (d : Nat → Nat) (i : Nat) : List Tr := if leftB ts d i = true then [] else [(farAt (tAt ts i) (tPath ts i) (d i), (tPath ts i).drop (d i), tWt ts i)]
def bhT (ts : List Tr) (d : Nat → Nat) : Nat → List Tr
  | 0 => []
  | k + 1 => bhT ts d k ++ bhT1 ts d k
def bhN (ts : List Tr) (ns : List Int) (d : Nat → Nat) : Nat → List Int
  | 0 => []
  | k + 1 => bhN ts ns d k ++ (if leftB ts d k = true then [] else [el ns k])
/-- the state behind the moves d -/
def behindSt (st : St) (d : Nat → Nat) : St := (st.1, bhT st.2.1 d st.2.1.length, bhN st.2.1 st.2.2 d st.2.1.length)
theorem bhT_le (ts : List Tr) (d : Nat → Nat) : ∀ k, (bhT ts d k).length ≤ k
  | 0 => Nat.le_refl _
  | k + 1 => by
    have := bhT_le ts d k
    simp only [bhT, List.length_append]
    unfold bhT1
    split <;> simp <;> omega
theorem bhN_le (ts : List Tr) (ns : List Int) (d : Nat → Nat) : ∀ k, (bhN ts ns d k).length ≤ k
  | 0 => Nat.le_refl _
  | k + 1 => by
    have := bhN_le ts ns d k
    simp only [bhN, List.length_append]
    split <;> simp <;> omega
theorem bhT_one (ts : List Tr) (m : Nat) : ∀ k, bhT ts (bump pz m) k = mvT ts m k
  | 0 => rfl
  | k + 1 => by
    simp only [bhT, mvT, bhT_one ts m k]
    congr 1
    unfold bhT1 mvT1
    by_cases e : k = m
    · subst e
      by_cases e2 : (tPath ts k).length = 0
      · simp [leftB, bump, pz, e2]
      · have : ¬ (tPath ts k).length < 1 := by omega
        simp [leftB, bump, pz, farAt, this, e2]
    · simp [leftB, bump, pz, farAt, e]
theorem bhN_one (ts : List Tr) (ns : List Int) (m : Nat) : ∀ k, bhN ts ns (bump pz m) k = mvN ts ns m k
  | 0 => rfl
  | k + 1 => by
    simp only [bhN, mvN, bhN_one ts ns m k]
    congr 1
    by_cases e : k = m
    · subst e
      by_cases e2 : (tPath ts k).length = 0
      · simp [leftB, bump, pz, e2]
      · have : ¬ (tPath ts k).length < 1 := by omega
        simp [leftB, bump, pz, this, e2]
    · simp [leftB, bump, pz, e]
theorem behindSt_one (st : St) (m : Nat) : behindSt st (bump pz m) = stepSt st m := by simp [behindSt, stepSt, bhT_one, bhN_one]
theorem bump_ok {st : St} (m : Nat) : PrOk st (bump pz m) := fun i hi => by unfold bump pz; split <;> omega

set_option maxRecDepth 4000 in
set_option maxHeartbeats 8000000 in
theorem stateBehind_any (v : Value) (st : St) (d : Nat → Nat) (w : World) (h : StateAt w v st) (hr : RightSt st) (hd : PrOk st d) (hcap : CapSt w v st.2.1.length) :
    Calls Tryd.prog 81 #[v, pv d] w fun e w' => ∃ L : Lies, e = .returned (L.val (behindSt st d)) ∧ OwnS w' L (behindSt st d) ∧ (∀ k, L.F (behindSt st d).2.1.length k → w.heap.size ≤ k) ∧ Below w.heap.size w w' := by
  have HS := hide h
  have HR := hide hr
  have HD := hide hd
  obtain ⟨a1, q1, a2, q2, a3, q3, rfl⟩ := h.form
  have HCAP := hide (hcap _ _ _ _ _ _ _ _ _ rfl)
  obtain ⟨l1, l2, l3, l4⟩ := hr.lens
  have HL4 := hide l4
  clear h hr hcap l4 hd
  unfold pv pc5
  go_enter Tryd.func81, Tryd.ntmps81
  go_wp2_with fail
  obtain ⟨V0, hV0⟩ : ∃ V0, V0 = ((w.alloc (.cells #[.slice a1 st.1.length q1, .slice a2 st.2.1.length q2, .slice a3 st.2.2.length q3] 26)).alloc (.cells #[.int .i8 (d 0), .int .i8 (d 1), .int .i8 (d 2), .int .i8 (d 3), .int .i8 (d 4)] 61)).alloc (.cells #[.slice none 0 0, .slice none 0 0, .slice none 0 0] 26) := ⟨_, rfl⟩
  rw [← hV0]
  have hbV0 : Below w.heap.size w V0 := by rw [hV0]; exact Joins.below_alloc3 _ _ _ _
  have hzV0 : V0.heap.size = w.heap.size + 3 := by rw [hV0]; simp
  have v0 : V0.cell? ⟨w.heap.size, 0, none⟩ = some (.slice a1 st.1.length q1) := by rw [hV0]; exact cell_later (Joins.below_alloc1 _ _) (by simp)
  have v1 : V0.cell? ⟨w.heap.size, 1, none⟩ = some (.slice a2 st.2.1.length q2) := by rw [hV0]; exact cell_later (Joins.below_alloc1 _ _) (by simp)
  have v2 : V0.cell? ⟨w.heap.size, 2, none⟩ = some (.slice a3 st.2.2.length q3) := by rw [hV0]; exact cell_later (Joins.below_alloc1 _ _) (by simp)
  have vP : V0.heap[w.heap.size + 1]? = some (.cells #[.int .i8 (d 0), .int .i8 (d 1), .int .i8 (d 2), .int .i8 (d 3), .int .i8 (d 4)] 61 (0, 0)) := by rw [hV0]; exact blockLater (Joins.below_alloc1 _ _) (heap_alloc2_new _ _ _)
  have vR : V0.heap[w.heap.size + 2]? = some (.cells #[.slice none 0 0, .slice none 0 0, .slice none 0 0] 26 (0, 0)) := by
    rw [hV0]
    have := heap_alloc_new ((w.alloc (.cells #[.slice a1 st.1.length q1, .slice a2 st.2.1.length q2, .slice a3 st.2.2.length q3] 26)).alloc (.cells #[.int .i8 (d 0), .int .i8 (d 1), .int .i8 (d 2), .int .i8 (d 3), .int .i8 (d 4)] 61)) (.cells #[.slice none 0 0, .slice none 0 0, .slice none 0 0] 26)
    simpa using this
  clear hV0
  refine (copied_any _ st.1 _ (HS.out.below hbV0).parts.1 (by omega)).mono ?_
  rintro e w1 ⟨rv, rfl, hrv, hb1⟩
  obtain ⟨ra, rc, rfl, hrF, hrA⟩ := hrv.ownF
  have c0 := cell_later hb1 v0
  have c1 := cell_later hb1 v1
  have c2 := cell_later hb1 v2
  have HP0 := hide (blockLater hb1 vP)
  have d0 : ∃ u, w1.heap[w.heap.size + 2]? = some (.cells #[u, u, u] 26 (0, 0)) := ⟨.slice none 0 0, blockLater hb1 vR⟩
  have hb01 := below_tail hbV0 hb1
  have hz1 : w.heap.size + 3 ≤ w1.heap.size := by have := hb1.size; omega
  have HB1 := hide hb01
  have HRF := hide hrF
  have HRA : Hid (∀ k, FA ra k → w.heap.size + 3 ≤ k ∧ k < w1.heap.size) := fun k hk => by have := hrA k hk; omega
  have hszw : w.heap.size < w1.heap.size := World.block_lt_of_cell? _ _ c0
  have HD0 := hide d0
  clear hb1 hrv hrF hrA hb01 d0 v0 v1 v2 vP vR hbV0 hzV0
  go_wp2_with fail
  obtain ⟨b5, hb5⟩ : ∃ b5, b5 = w1.heap.size := ⟨_, rfl⟩
  obtain ⟨U, hU⟩ : ∃ U, U = w1.alloc (.cells #[.slice ra st.1.length rc, .slice none 0 0, .slice none 0 0] 26) := ⟨_, rfl⟩
  have hMov0 : Mov U b5 (.slice ra st.1.length rc) [] [] U (.slice none 0 0) (.slice none 0 0) (fun _ => none) (fun _ => 0) :=
    ⟨by rw [hU, hb5]; exact heap_alloc_new _ _, Gath.nil _ _ _ _, OwnInts.nil _ _, fun k hk => by simp [Value.ownBlock] at hk, Chg.refl _ _⟩
  have hbU : Below w1.heap.size w1 U := by rw [hU]; exact Joins.below_alloc1 _ _
  rw [← hU, ← hb5]
  rw [← hb5] at hbU hszw hz1 HRA
  have C1 := hide ((hbU.cell (p := ⟨w.heap.size, 1, none⟩) hszw).trans c1)
  have C2 := hide ((hbU.cell (p := ⟨w.heap.size, 2, none⟩) hszw).trans c2)
  have PU : Hid (U.heap[w.heap.size + 1]? = some (.cells #[.int .i8 (d 0), .int .i8 (d 1), .int .i8 (d 2), .int .i8 (d 3), .int .i8 (d 4)] 61 (0, 0))) := (hbU.block _ (by omega)).trans HP0.out
  have D0 : Hid (∃ u, U.heap[w.heap.size + 2]? = some (.cells #[u, u, u] 26 (0, 0))) := by
    obtain ⟨u, hu⟩ := HD0.out
    exact ⟨u, (hbU.block _ (by omega)).trans hu⟩
  have HBU := hide (HB1.out.trans (hbU.mono (by omega)))
  have HRU : Hid (OwnF U ra st.1.length (el st.1)) := HRF.out.keep (fun k hk e => hbU.block k (HRA.out k e).2)
  have HZU : Hid (b5 < U.heap.size) := (Array.getElem?_eq_some_iff.1 hMov0.var).1
  have HM0 := hide hMov0
  clear hU hb5 hbU c0 c1 c2 HD0 HB1 HRF hMov0 HP0
  go_loopw [15] (fun i wr => ∃ k : Nat, k ≤ st.2.1.length ∧ i = .int .i64 k ∧ ∃ tv nv pa pc, Mov U b5 (.slice ra st.1.length rc) (bhT st.2.1 d k) (bhN st.2.1 st.2.2 d k) wr tv nv pa pc) (fun i _ => st.2.1.length - (intOf i).toNat)
  case atStart => exact ⟨0, Nat.zero_le _, rfl, _, _, _, _, HM0.out⟩
  case round =>
    obtain ⟨k, hk, rfl, tv, nv, pa, pc, hmov⟩ := hrel
    have hbo : Below b5 U wr := hmov.old.below (by have := HZU.out; omega) (fun q hq e => by omega)
    by_cases hlt : k < st.2.1.length
    · have e1 := (hbo.cell (p := ⟨w.heap.size, 1, none⟩) hszw).trans C1.out
      have hbw : Below w.heap.size w wr := HBU.out.trans (hbo.mono (by omega))
      obtain ⟨hp1, hp2, hp3⟩ := HS.out.parts
      obtain ⟨b, off, rfl, vp, t0, t1, hI, t2⟩ := hp2.trainAt k hlt
      obtain ⟨ap, cp, rfl, -⟩ := id hI
      have HI0 := hide hI
      have hcp : Hid ((tPath st.2.1 k).length ≤ cp) := HCAP.out k b off _ _ _ hlt rfl t1
      have g0 := cell_later hbw t0
      have g1 := cell_later hbw t1
      have g2 := cell_later hbw t2
      have h8 := (HR.out.train k hlt).2.2.1
      have hdk := HD.out k hlt
      obtain ⟨nb, noff, rfl, n0⟩ := hp3.cellAt k (by have := HL4.out; omega)
      have N0 := hide n0
      have hkn : (k : Int) < (st.2.2.length : Int) := by have := HL4.out; omega
      have hk0 : (0 : Int) ≤ (k : Int) := by omega
      have hk5 : k < 5 := by omega
      have HM := hide hmov
      have HBW := hide hbw
      have hz5 : b5 < wr.heap.size := (Array.getElem?_eq_some_iff.1 hmov.var).1
      have hpb : wr.heap[w.heap.size + 1]? = some (.cells #[.int .i8 (d 0), .int .i8 (d 1), .int .i8 (d 2), .int .i8 (d 3), .int .i8 (d 4)] 61 (0, 0)) := (hbo.block _ (by omega)).trans PU.out
      have HPB := hide hpb
      obtain ⟨p0, p1, p2, p3, p4⟩ := cells5 hpb
      have hplt : w.heap.size + 1 < wr.heap.size := by omega
      clear t0 t1 t2 hI hp1 hp2 hp3 n0 hmov hbo hbw hpb
      go_wp2_with fail
      refine (hasLeft_any d _ _ _ _ _ k _ hk5 (by omega) (by omega)).mono ?_
      rintro e wa ⟨rfl, hba⟩
      have hbT : Below wr.heap.size wr wa := below_tail (Joins.below_alloc1 _ _) hba
      have x0 : wa.cell? ⟨wr.heap.size, 0, none⟩ = some (.int .i64 (tAt st.2.1 k)) := cell_later hba (by simp)
      have x1 : wa.cell? ⟨wr.heap.size, 1, none⟩ = some (.slice ap (tPath st.2.1 k).length cp) := cell_later hba (by simp)
      have x2 : wa.cell? ⟨wr.heap.size, 2, none⟩ = some (.int .i64 (tWt st.2.1 k)) := cell_later hba (by simp)
      have HTB := hide (blockLater hba (heap_alloc_new wr (.cells #[.int .i64 (tAt st.2.1 k), .slice ap (tPath st.2.1 k).length cp, .int .i64 (tWt st.2.1 k)] 35)))
      obtain ⟨r0, r1, r2, r3, r4⟩ := cells5 (blockLater hbT HPB.out)
      have HBT := hide hbT
      clear hba hbT p0 p1 p2 p3 p4 g0 g1 g2
      by_cases hle : (tPath st.2.1 k).length < d k
      · have hleb : decide ((tPath st.2.1 k).length < d k) = true := by simp [hle]
        have HT1 := hide (show bhT st.2.1 d (k + 1) = bhT st.2.1 d k by simp [bhT, bhT1, leftB, hle])
        have HN1 := hide (show bhN st.2.1 st.2.2 d (k + 1) = bhN st.2.1 st.2.2 d k by simp [bhN, leftB, hle])
        rw [hleb]
        clear hle hleb
        go_wp2_with fail
        go_roundw
        case rel => exact ⟨k + 1, by omega, by go_num, tv, nv, pa, pc, by rw [HT1.out, HN1.out]; exact HM.out.below HBT.out⟩
        case measure => simp [intOf]; omega
      · have hleb : decide ((tPath st.2.1 k).length < d k) = false := by simp [hle]
        obtain ⟨p, hpd⟩ : ∃ p, List.drop (d k) (tPath st.2.1 k) = p := ⟨_, rfl⟩
        obtain ⟨x, hx⟩ : ∃ x, farAt (tAt st.2.1 k) (tPath st.2.1 k) (d k) = x := ⟨_, rfl⟩
        have HT1 := hide (show bhT st.2.1 d (k + 1) = bhT st.2.1 d k ++ [(x, p, tWt st.2.1 k)] by simp [bhT, bhT1, leftB, hle, hpd, hx])
        have HN1 := hide (show bhN st.2.1 st.2.2 d (k + 1) = bhN st.2.1 st.2.2 d k ++ [el st.2.2 k] by simp [bhN, leftB, hle])
        have hp8 : p.length ≤ 1048576 := by rw [← hpd, List.length_drop]; omega
        have hle' : d k ≤ (tPath st.2.1 k).length := by omega
        have HPD := hide hpd
        have HX := hide hx
        rw [hleb]
        clear hle hleb hpd hx
        go_wp2_with fail
        refine (trainBehind_at d _ _ x (tPath st.2.1 k) p _ _ k _ hk5 hle' h8 hcp.out (IntsAt.below HI0.out (below_tail HBW.out HBT.out)) HX.out HPD.out).mono ?_
        rintro e wb ⟨a', c', rfl, hI3, -, hbb⟩
        have HI3 := hide (hI3 w HI0.out)
        have HBB := hide (below_tail HBT.out hbb)
        have hTB := blockLater hbb HTB.out
        obtain ⟨j0, j1, j2, jf⟩ := block3 hTB
        have jf0 := jf 0
        have jf1 := jf 1
        have jf2 := jf 2
        clear hbb hI3 x0 x1 x2 r0 r1 r2 r3 r4 jf HTB
        have hMb := HM.out.below HBB.out
        obtain ⟨hG1, hN1⟩ := HM.out.newBlock (T := wr.heap.size) (Nat.le_refl _)
        go_wp2_with fail
        have hTb := block3_set2 (block3_set1 (block3_set0 hTB (.int .i64 x)) (.slice a' p.length c')) (.int .i64 (tWt st.2.1 k))
        have hMV := ((hMb.set (o := 0) (u := .int .i64 x) hz5 hG1 hN1).set (o := 1) (u := .slice a' p.length c') hz5 hG1 hN1).set (o := 2) (u := .int .i64 (tWt st.2.1 k)) hz5 hG1 hN1
        have hbV : Below wr.heap.size wr (((wb.setCell ⟨wr.heap.size, 0, none⟩ (.int .i64 x)).setCell ⟨wr.heap.size, 1, none⟩ (.slice a' p.length c')).setCell ⟨wr.heap.size, 2, none⟩ (.int .i64 (tWt st.2.1 k))) := ((HBB.out.setCell (p := ⟨wr.heap.size, 0, none⟩) (Nat.le_refl _) _).setCell (p := ⟨wr.heap.size, 1, none⟩) (Nat.le_refl _) _).setCell (p := ⟨wr.heap.size, 2, none⟩) (Nat.le_refl _) _
        generalize ((wb.setCell ⟨wr.heap.size, 0, none⟩ (.int .i64 x)).setCell ⟨wr.heap.size, 1, none⟩ (.slice a' p.length c')).setCell ⟨wr.heap.size, 2, none⟩ (.int .i64 (tWt st.2.1 k)) = V at *
        have hIV := IntsAt.below HI3.out (below_tail HBW.out hbV)
        have HBV := hide (below_tail HBW.out hbV)
        obtain ⟨T, hT⟩ : ∃ T, T = wr.heap.size := ⟨_, rfl⟩
        rw [← hT] at hTb hG1 hN1 hz5 ⊢
        generalize tWt st.2.1 k = y at *
        clear hbV hT HM HI0 HBW h8 hcp e1 hMb hTB j0 j1 j2 jf0 jf1 jf2 HI3 HBB HBT
        have hnT : b5 ≠ T := by omega
        have hnT' : ¬ T = b5 := by omega
        have hsT : ¬ w.heap.size = T := by omega
        refine (copied_any _ p _ hIV hp8).mono ?_
        rintro e w2 ⟨pw, rfl, hpv, hb2⟩
        obtain ⟨pp, pq, rfl, hpF, hpA⟩ := hpv.ownF
        have hpq := hpv.capOk
        have hTb2 := (hb2.block T (Array.getElem?_eq_some_iff.1 hTb).1).trans hTb
        obtain ⟨t0, t1, t2, tf⟩ := block3 hTb2
        have hM2 := hMV.below hb2
        obtain ⟨y0, y1, y2, yf⟩ := block3 hM2.var
        have HVT : Hid (T < V.heap.size) := (Array.getElem?_eq_some_iff.1 hTb).1
        have hM3 := hM2.set (o := 1) (u := .slice pp p.length pq) hz5 hG1 hN1
        have HB3 := hide ((below_tail HBV.out hb2).setCell (p := ⟨T, 1, none⟩) (show w.heap.size ≤ T by omega) (.slice pp p.length pq))
        have HP3 : Hid (OwnF (w2.setCell ⟨T, 1, none⟩ (.slice pp p.length pq)) pp p.length (el p)) := hpF.keep (fun q hq e => Below.heap_setCell _ _ _ _ (fun e' => by simp only at e'; have := (hpA q e).1; have := HVT.out; omega))
        have HPA : Hid (∀ q, FA pp q → b5 + 1 ≤ q ∧ q < (w2.setCell ⟨T, 1, none⟩ (.slice pp p.length pq)).heap.size ∧ ¬ FG tv pa (bhT st.2.1 d k).length q ∧ nv.ownBlock ≠ some q) := fun q e => by
          have u1 := hpA q e
          have u2 := HVT.out
          refine ⟨by omega, by simpa [World.setCell] using u1.2, fun e' => ?_, fun e' => ?_⟩
          · have := (hMV.tr.FG_lo e').2
            omega
          · have := (ownBlock_lt hMV.nm e').2
            omega
        have HPQ := hide hpq
        have HM3 := hide hM3
        have HTl := hide (bhT_le st.2.1 d k)
        have HNl := hide (bhN_le st.2.1 st.2.2 d k)
        have f1 := tf 1
        have yf1 := yf 1
        clear hTb hTb2 hM2 hMV hpv hpF hpA hIV hpq hM3 tf yf hG1 hN1 hb2
        obtain ⟨i1, hi, hz0, hz1', hz2⟩ := info_parts Tryd.infoTrain
        have HI1 := hide hi
        have HZ0 := hide hz0
        have HZ1 := hide hz1'
        have HZ2 := hide hz2
        clear hi hz0 hz1' hz2
        go_wp2_with (first | (at_builtin; refine wpList_append_lies _ rfl _ _ 24 rfl (b5 + 1) 35 i1 (.agg #[.int .i64 0, .slice none 0 0, .int .i64 0]) 3 40 Tryd.underlying24 HI1.out HZ0.out HZ1.out HZ2.out rfl (by decide) _ _ _ rfl (HM3.out.tr.row.alloc _) ⟨w2.heap.size, 0, none⟩ 1 1 [.int .i64 x, .slice pp p.length pq, .int .i64 y] rfl rfl ?c1 ?c2 (by decide) ?c3 ?c4 ?c5 (w2.heap.size + 1) ?c6 ?_))
        case c1 =>
          have hh := heap_alloc_new (w2.setCell ⟨T, 1, none⟩ (.slice pp p.length pq)) (.cells #[.int .i64 x, .slice pp p.length pq, .int .i64 y] 35)
          rw [show (w2.setCell ⟨T, 1, none⟩ (.slice pp p.length pq)).heap.size = w2.heap.size by simp [World.setCell]] at hh
          exact World.news_of_block hh
        case c2 => intro u hu; simp at hu; rcases hu with rfl | rfl | rfl <;> rfl
        case c3 => have := HTl.out; unfold maxLen; omega
        case c4 => have := HTl.out; omega
        case c5 => have := World.block_lt_of_cell? _ _ y0; simp [World.setCell] at this ⊢; omega
        case c6 => simp [World.setCell]
        intro g cap w4 hown hgrow hat hlt4
        have hba := Joins.below_alloc1 (w2.setCell ⟨T, 1, none⟩ (.slice pp p.length pq)) (.cells #[.int .i64 x, .slice pp p.length pq, .int .i64 y] 35)
        have hM5 := HM3.out.snocT hba (t := (x, p, y)) HP3.out HPQ.out HPA.out hown hgrow (hat.imp id (fun e => by rw [e]; simp [World.setCell]))
        obtain ⟨_, z1, _, zf⟩ := block3 (HM3.out.grown hba hgrow HM3.out.tvNe)
        have zf1 := zf 1
        have HM5 := hide hM5
        clear hown hgrow hat hlt4 hba hM5 zf t0 t1 t2 y0 y1 y2 f1 yf1 HM3 HP3 HPA
        go_wp2_with fail
        generalize w4.setCell ⟨b5, 1, none⟩ (.slice (some ⟨g, 0, none⟩) ((bhT st.2.1 d k).length + 1) cap) = W5 at *
        have hbo5 : Below b5 U W5 := HM5.out.old.below (by have := HZU.out; omega) (fun q hq e => by omega)
        have s2 := (hbo5.cell (p := ⟨w.heap.size, 2, none⟩) hszw).trans C2.out
        have nn := cell_later (HBU.out.trans (hbo5.mono (by omega))) N0.out
        obtain ⟨_, _, y2, yf⟩ := block3 HM5.out.var
        have yf2 := yf 2
        have hlt5 : b5 < W5.heap.size := (Array.getElem?_eq_some_iff.1 HM5.out.var).1
        have hnl := HNl.out
        have hns : nv.ownBlock ≠ some w.heap.size := fun e => by have := (ownBlock_lt HM5.out.nm e).1; omega
        have hnb : nv.ownBlock ≠ some nb := fun e => by
          have u1 := (ownBlock_lt HM5.out.nm e).1
          have u2 := World.block_lt_of_cell? _ _ N0.out
          simp only at u2
          omega
        have hn5 := HM5.out.nvNe
        have lt1 := World.block_lt_of_cell? _ _ s2
        have lt2 := World.block_lt_of_cell? _ _ nn
        simp only at lt1 lt2
        obtain ⟨i0, hi, hz0, hz1', hz2⟩ := info_parts Tryd.infoInt
        have HJ1 := hide hi
        have HJ2 := hide hz0
        have HJ3 := hide hz1'
        have HJ4 := hide hz2
        have hc3 : (bhN st.2.1 st.2.2 d k).length + 1 ≤ maxLen := by unfold maxLen; omega
        have hc4 : ((bhN st.2.1 st.2.2 d k).length + 1) * 8 ≤ 140737488355328 := by omega
        have hc5 : b5 + 1 ≤ (W5.alloc (.cells #[.int .i64 (el st.2.2 k)] 3)).drew.heap.size := by show _ ≤ (W5.alloc _).heap.size; simp; omega
        have HK6 : Hid (∀ w6, (W5.alloc (.cells #[.int .i64 (el st.2.2 k)] 3)).drew.grownBy w6 nv.ownBlock → (w6.cell? ⟨b5, 2, none⟩ = some nv ∧ w6.frozen? ⟨b5, 2, none⟩ = false ∧ w6.cell? ⟨w.heap.size, 2, none⟩ = some (.slice (some ⟨nb, noff, none⟩) st.2.2.length q3) ∧ w6.cell? ⟨nb, noff + k, none⟩ = some (.int .i64 (el st.2.2 k)))) := fun w6 hg6 => by
          have hbA : Below W5.heap.size W5 (W5.alloc (.cells #[.int .i64 (el st.2.2 k)] 3)).drew := (Joins.below_alloc1 W5 _).drew
          have hl : ∀ q, q < W5.heap.size → q < (W5.alloc (.cells #[.int .i64 (el st.2.2 k)] 3)).drew.heap.size := fun q hq => Nat.lt_of_lt_of_le hq hbA.size
          refine ⟨?_, ?_, ?_, ?_⟩
          · rw [hg6.cell_far ⟨b5, 2, none⟩ (hl _ hlt5) (Ne.symm hn5)]; exact cell_later hbA y2
          · rw [hg6.frozen_far ⟨b5, 2, none⟩ (hl _ hlt5) (Ne.symm hn5), hbA.frozen (p := ⟨b5, 2, none⟩) hlt5]; exact yf2
          · rw [hg6.cell_far ⟨w.heap.size, 2, none⟩ (hl _ lt1) (Ne.symm hns)]; exact cell_later hbA s2
          · rw [hg6.cell_far ⟨nb, noff + k, none⟩ (hl _ lt2) (Ne.symm hnb)]; exact cell_later hbA nn
        clear hi hz0 hz1' hz2 hbo5 yf HVT HB3
        go_region_law ((refine step_append_lies _ (by rfl) _ _ _ (by rfl) (b5 + 1) 3 i0 _ 1 8 Tryd.underlying23 HJ1.out HJ2.out HJ3.out HJ4.out rfl (by omega) nv _ _ (by rfl) ((HM5.out.nm.alloc _).drew) ⟨W5.heap.size, 0, none⟩ 1 1 [.int .i64 (el st.2.2 k)] (by rfl) (by rfl) (World.news_of_block (cs := #[.int .i64 (el st.2.2 k)]) (t := 3) (fr := (0, 0)) (heap_alloc_new W5 _)) (by simp [Value.oneCell']) (by omega) hc3 hc4 hc5 (W5.heap.size + 1) (by simp) ?_; intro g2 cap2 w6 hown2 hgrow2 hat2 hlt2; obtain ⟨k61, k62, k63, k64⟩ := HK6.out _ hgrow2))
        all_goals
          have HM7 := hide (HM5.out.snocN ((Joins.below_alloc1 W5 _).drew) hown2 hgrow2 (hat2.imp id (fun e => by rw [e]; show (W5.alloc _).heap.size ≤ _; simp)))
          clear hown2 hgrow2 hat2 hlt2
          go_wp2_with fail
          go_roundw
          case rel => exact ⟨k + 1, by omega, by go_num, _, _, _, _, by rw [HT1.out, HN1.out]; exact HM7.out⟩
          case measure => simp [intOf]; omega
    · obtain rfl : k = st.2.1.length := by omega
      obtain ⟨y0, y1, y2, yf⟩ := block3 hmov.var
      obtain ⟨u, hu⟩ := D0.out
      have hd := (hbo.block (w.heap.size + 2) (by omega)).trans hu
      obtain ⟨v0, v1, v2, vf⟩ := block3 hd
      have vf0 := vf 0
      have vf1 := vf 1
      have vf2 := vf 2
      obtain ⟨ta, tc, rfl, htc, hoT, hFT⟩ := hmov.tr.ownT
      obtain ⟨na, nc, rfl, hoN, hFN⟩ := hmov.nm.ownF
      have HMV := hide hmov
      have HBO := hide hbo
      have HD := hide hd
      have HOT := hide hoT
      have HFT := hide hFT
      have HON := hide hoN
      have HFN := hide hFN
      have hw1b : w.heap.size + 2 < b5 := by omega
      have HLT : Hid (w.heap.size + 2 < wr.heap.size) := show _ < _ by have := (Array.getElem?_eq_some_iff.1 hmov.var).1; omega
      clear hmov hbo hd vf yf hoT hFT hoN hFN hu
      go_wp2_with fail
      have hc : Chg (fun q => q = w.heap.size + 2) wr (((wr.setCell ⟨w.heap.size + 2, 0, none⟩ (.slice ra st.1.length rc)).setCell ⟨w.heap.size + 2, 1, none⟩ (.slice ta (bhT st.2.1 d st.2.1.length).length tc)).setCell ⟨w.heap.size + 2, 2, none⟩ (.slice na (bhN st.2.1 st.2.2 d st.2.1.length).length nc)) :=
        Chg.setCell (F := fun q => q = w.heap.size + 2) (Chg.setCell (F := fun q => q = w.heap.size + 2) (Chg.setCell (F := fun q => q = w.heap.size + 2) (Chg.refl _ _) rfl _) rfl _) rfl _
      have hvar := block3_set2 (block3_set1 (block3_set0 HD.out (.slice ra st.1.length rc)) (.slice ta (bhT st.2.1 d st.2.1.length).length tc)) (.slice na (bhN st.2.1 st.2.2 d st.2.1.length).length nc)
      have hbF : Below w.heap.size w (((wr.setCell ⟨w.heap.size + 2, 0, none⟩ (.slice ra st.1.length rc)).setCell ⟨w.heap.size + 2, 1, none⟩ (.slice ta (bhT st.2.1 d st.2.1.length).length tc)).setCell ⟨w.heap.size + 2, 2, none⟩ (.slice na (bhN st.2.1 st.2.2 d st.2.1.length).length nc)) :=
        (HBU.out.trans (HBO.out.mono (by omega))).trans (hc.below (by have := HLT.out; omega) (fun q hq e => by omega))
      generalize ((wr.setCell ⟨w.heap.size + 2, 0, none⟩ (.slice ra st.1.length rc)).setCell ⟨w.heap.size + 2, 1, none⟩ (.slice ta (bhT st.2.1 d st.2.1.length).length tc)).setCell ⟨w.heap.size + 2, 2, none⟩ (.slice na (bhN st.2.1 st.2.2 d st.2.1.length).length nc) = WF at *
      have hna : ∀ q, FA na q → Value.ownBlock (.slice na (bhN st.2.1 st.2.2 d st.2.1.length).length nc) = some q := fun q hq => by
        obtain ⟨o, rfl⟩ := hq
        rfl
      obtain ⟨z0, z1, z2, _⟩ := block3 hvar
      refine bodyPost_ret (v := .agg #[.slice ra st.1.length rc, .slice ta (bhT st.2.1 d st.2.1.length).length tc, .slice na (bhN st.2.1 st.2.2 d st.2.1.length).length nc]) (by simp [results, Tryd.results81, go_sem, z0, z1, z2]) rfl ⟨⟨ra, rc, ta, tc, na, nc, pa, pc⟩, rfl, ⟨?_, ?_, ?_, ⟨?_, ?_, ?_, ?_⟩⟩, ?_, hbF⟩
      · refine (HRU.out.keep (w' := wr) (fun q hq e => HBO.out.block q (HRA.out q e).2)).chg hc (fun q hq e => ?_)
        have := (HRA.out q hq).1
        omega
      · exact HOT.out.keep (fun q hq e => hc.block q hq (fun e' => by have := (HFT.out q e).1; omega))
      · exact HON.out.chg hc (fun q hq e => by have := (HFN.out q hq).1; omega)
      · intro q e e'
        have u1 := (HRA.out q e).2
        have u2 := (HFT.out q e').1
        omega
      · intro q e e'
        exact HMV.out.ap q (hna q e) (HFT.out q e').2.2
      · intro q e e'
        have u1 := (HRA.out q e).2
        have u2 := (HFN.out q e').1
        omega
      · intro q e
        refine Nat.lt_of_lt_of_le ?_ hc.size
        rcases e with e | e | e
        · have u1 := (HRA.out q e).2
          have u2 := (Array.getElem?_eq_some_iff.1 HMV.out.var).1
          omega
        · exact (HFN.out q e).2
        · exact (HFT.out q e).2.1
      · intro q e
        rcases e with e | e | e
        · have u1 := (HRA.out q e).1
          omega
        · have u1 := (HFN.out q e).1
          omega
        · have u1 := (HFT.out q e).1
          omega

theorem stateBehind_one (v : Value) (st : St) (m : Nat) (w : World) (h : StateAt w v st) (hr : RightSt st) (hcap : CapSt w v st.2.1.length) :
    Calls Tryd.prog 81 #[v, pv (bump pz m)] w fun e w' => ∃ L : Lies, e = .returned (.agg #[.slice L.ra (stepSt st m).1.length L.rc, .slice L.ta (stepSt st m).2.1.length L.tc, .slice L.na (stepSt st m).2.2.length L.nc]) ∧ OwnS w' L (stepSt st m) ∧ (∀ k, L.F (stepSt st m).2.1.length k → w.heap.size ≤ k) ∧ Below w.heap.size w w' := by
  have := stateBehind_any v st (bump pz m) w h hr (bump_ok m) hcap
  rw [behindSt_one] at this
  exact this
end Go.Proofs.YtmjjigdnoiphbaaDoor
