/-
  impl.stateBehind.
-/
import Derived.Test.YtmjjigdnoiphbabGath
import Derived.Deep.RegionLaw
namespace Go.Proofs.Ytmjjigdnoiphbab
open Go.RowKit Go.Deep
set_option linter.unusedVariables false

/-- what becomes of train i when train m moves: nothing, or one train -/
def mvT1 (ts : List Tr) (m i : Nat) : List Tr :=
  if i = m then (if (tPath ts i).length = 0 then [] else [(el (tPath ts i) 0, (tPath ts i).tail, tWt ts i)]) else [(tAt ts i, tPath ts i, tWt ts i)]
def mvT (ts : List Tr) (m : Nat) : Nat → List Tr
  | 0 => []
  | k + 1 => mvT ts m k ++ mvT1 ts m k
def mvN (ts : List Tr) (ns : List Int) (m : Nat) : Nat → List Int
  | 0 => []
  | k + 1 => mvN ts ns m k ++ (if k = m ∧ (tPath ts k).length = 0 then [] else [el ns k])
/-- the state behind a move of train m -/
def stepSt (st : St) (m : Nat) : St := (st.1, mvT st.2.1 m st.2.1.length, mvN st.2.1 st.2.2 m st.2.1.length)

theorem mvT_le (ts : List Tr) (m : Nat) : ∀ k, (mvT ts m k).length ≤ k
  | 0 => Nat.le_refl _
  | k + 1 => by
    have := mvT_le ts m k
    simp only [mvT, List.length_append]
    unfold mvT1
    split
    · split <;> simp <;> omega
    · simp; omega
theorem mvN_le (ts : List Tr) (ns : List Int) (m : Nat) : ∀ k, (mvN ts ns m k).length ≤ k
  | 0 => Nat.le_refl _
  | k + 1 => by
    have := mvN_le ts ns m k
    simp only [mvN, List.length_append]
    split <;> simp <;> omega

theorem OwnInts.capOk {base : Nat} {w : World} {a : Option Addr} {l c : Nat} {xs : List Int} (h : OwnInts base w (.slice a l c) xs) : xs.length ≤ c := by
  rcases h.lies with ⟨hv, rfl⟩ | ⟨g, cap, cur, hv, _, _, h1, _⟩
  · simp
  · simp only [Value.slice.injEq] at hv
    obtain ⟨_, _, rfl⟩ := hv
    exact h1

/-- where 'moved' stands behind k rounds: the variable 'behind' is block b5; what it has gathered lies behind it -/
structure Mov (U : World) (b5 : Nat) (rv : Value) (ts' : List Tr) (ns' : List Int) (w : World) (tv nv : Value) (pa : Nat → Option Addr) (pc : Nat → Nat) : Prop where
  var : w.heap[b5]? = some (.cells #[rv, tv, nv] 30 (0, 0))
  tr : Gath (b5 + 1) w tv ts' pa pc
  nm : OwnInts (b5 + 1) w nv ns'
  ap : ∀ k, nv.ownBlock = some k → ¬ FG tv pa ts'.length k
  old : Chg (fun q => q = b5 ∨ b5 < q) U w

theorem Mov.below {U : World} {b5 : Nat} {rv : Value} {ts' : List Tr} {ns' : List Int} {w w' : World} {tv nv : Value} {pa : Nat → Option Addr} {pc : Nat → Nat} (h : Mov U b5 rv ts' ns' w tv nv pa pc) (hb : Below w.heap.size w w') : Mov U b5 rv ts' ns' w' tv nv pa pc :=
  ⟨(hb.block b5 (Array.getElem?_eq_some_iff.1 h.var).1).trans h.var, h.tr.below hb, h.nm.below hb, h.ap, h.old.trans (Chg.of_below hb)⟩
/-- a store into a new variable of the round -/
theorem Mov.set {U : World} {b5 : Nat} {rv : Value} {ts' : List Tr} {ns' : List Int} {w : World} {tv nv : Value} {pa : Nat → Option Addr} {pc : Nat → Nat} (h : Mov U b5 rv ts' ns' w tv nv pa pc) {T o : Nat} {u : Value} (hT : b5 < T) (hG : ¬ FG tv pa ts'.length T) (hN : nv.ownBlock ≠ some T) : Mov U b5 rv ts' ns' (w.setCell ⟨T, o, none⟩ u) tv nv pa pc := by
  have hc : Chg (fun q => q = T) w (w.setCell ⟨T, o, none⟩ u) := Chg.setCell (F := fun q => q = T) (p := ⟨T, o, none⟩) (Chg.refl _ _) rfl _
  refine ⟨(Below.heap_setCell _ _ _ _ (by simp; omega)).trans h.var, h.tr.chg hc (fun k hk e => hG (e ▸ hk)), ownsRow_keep h.nm (fun k hk => Below.heap_setCell _ _ _ _ (fun e => hN (by simp only at e; rw [← e]; exact hk))), h.ap, h.old.setCell (Or.inr hT) _⟩
theorem Mov.newBlock {U : World} {b5 : Nat} {rv : Value} {ts' : List Tr} {ns' : List Int} {w : World} {tv nv : Value} {pa : Nat → Option Addr} {pc : Nat → Nat} (h : Mov U b5 rv ts' ns' w tv nv pa pc) {T : Nat} (hT : w.heap.size ≤ T) : ¬ FG tv pa ts'.length T ∧ nv.ownBlock ≠ some T :=
  ⟨fun e => by have := (h.tr.FG_lo e).2; omega, fun e => by have := (ownBlock_lt h.nm e).2; omega⟩

/-- behind an append the variable 'behind' is as it was -/
theorem Mov.grown {U : World} {b5 : Nat} {rv : Value} {ts' : List Tr} {ns' : List Int} {w wa w' : World} {tv nv : Value} {pa : Nat → Option Addr} {pc : Nat → Nat} (h : Mov U b5 rv ts' ns' w tv nv pa pc) (hba : Below w.heap.size w wa) {row : Option Nat} (hgrow : wa.grownBy w' row) (hrow : row ≠ some b5) : w'.heap[b5]? = some (.cells #[rv, tv, nv] 30 (0, 0)) := by
  have hlt : b5 < w.heap.size := (Array.getElem?_eq_some_iff.1 h.var).1
  rw [hgrow.block b5 (Nat.lt_of_lt_of_le hlt hba.size) (fun e => hrow e.symm), hba.block b5 hlt]
  exact h.var
theorem Mov.tvNe {U : World} {b5 : Nat} {rv : Value} {ts' : List Tr} {ns' : List Int} {w : World} {tv nv : Value} {pa : Nat → Option Addr} {pc : Nat → Nat} (h : Mov U b5 rv ts' ns' w tv nv pa pc) : tv.ownBlock ≠ some b5 := fun e => by have := (ownBlock_lt h.tr.row e).1; omega
theorem Mov.nvNe {U : World} {b5 : Nat} {rv : Value} {ts' : List Tr} {ns' : List Int} {w : World} {tv nv : Value} {pa : Nat → Option Addr} {pc : Nat → Nat} (h : Mov U b5 rv ts' ns' w tv nv pa pc) : nv.ownBlock ≠ some b5 := fun e => by have := (ownBlock_lt h.nm e).1; omega

theorem chg_grown {F : Nat → Prop} {a w w' : World} {row : Option Nat} (h : Chg F a w) (hg : w.grownBy w' row) (hr : ∀ k, row = some k → F k) : Chg F a w' :=
  h.trans ⟨hg.os, hg.tape, hg.output, hg.size, fun k hk hf => hg.block k hk (fun e => hf (hr k e.symm))⟩

theorem Mov.snocT {U : World} {b5 : Nat} {rv : Value} {ts' : List Tr} {ns' : List Int} {w wa w' : World} {tv nv : Value} {pa : Nat → Option Addr} {pc : Nat → Nat} (h : Mov U b5 rv ts' ns' w tv nv pa pc) (hba : Below w.heap.size w wa) {t : Tr} {a : Option Addr} {c g cap : Nat}
    (hp : OwnF w a t.2.1.length (el t.2.1)) (hcap : t.2.1.length ≤ c) (hlo : ∀ k, FA a k → b5 + 1 ≤ k ∧ k < w.heap.size ∧ ¬ FG tv pa ts'.length k ∧ nv.ownBlock ≠ some k)
    (hown : w'.ownsRow (b5 + 1) 63 3 (.slice (some ⟨g, 0, none⟩) (ts'.length + 1) cap) (ts'.length + 1) (trVals ts' pa pc ++ [.int .i64 t.1, .slice a t.2.1.length c, .int .i64 t.2.2]))
    (hgrow : wa.grownBy w' tv.ownBlock) (hat : tv.ownBlock = some g ∨ wa.heap.size ≤ g) :
    Mov U b5 rv (ts' ++ [t]) ns' (w'.setCell ⟨b5, 1, none⟩ (.slice (some ⟨g, 0, none⟩) (ts'.length + 1) cap)) (.slice (some ⟨g, 0, none⟩) (ts'.length + 1) cap) nv (upd pa ts'.length a) (upd pc ts'.length c) := by
  have hn : (ts' ++ [t]).length = ts'.length + 1 := by simp
  have hG := (h.tr.below hba).snoc (hp.below hba) hcap (fun k hk => ⟨(hlo k hk).1, Nat.lt_of_lt_of_le (hlo k hk).2.1 hba.size, (hlo k hk).2.2.1⟩) hown hgrow hat
  have hc5 : Chg (fun q => q = b5) w' (w'.setCell ⟨b5, 1, none⟩ (.slice (some ⟨g, 0, none⟩) (ts'.length + 1) cap)) := Chg.setCell (F := fun q => q = b5) (p := ⟨b5, 1, none⟩) (Chg.refl _ _) rfl _
  have hnm : ∀ k, nv.ownBlock = some k → w'.heap[k]? = w.heap[k]? := fun k hk => by
    have u := (ownBlock_lt h.nm hk).2
    rw [hgrow.block k (Nat.lt_of_lt_of_le u hba.size) (fun e => h.ap k hk (Or.inl e.symm)), hba.block k u]
  refine ⟨block3_set1 (h.grown hba hgrow h.tvNe) _, hG.chg hc5 (fun k hk e => by have := (hG.FG_lo hk).1; omega), ?_, fun k hk e => ?_, ?_⟩
  · exact ownsRow_keep (ownsRow_keep h.nm hnm) (fun k hk => Below.heap_setCell _ _ _ _ (fun e => by simp only at e; exact h.nvNe (e ▸ hk)))
  · have u := (ownBlock_lt h.nm hk).2
    rcases e with e | ⟨i, hi, e⟩
    · simp [Value.ownBlock] at e
      subst e
      rcases hat with hat | hat
      · exact h.ap g hk (Or.inl hat)
      · have := hba.size; omega
    · rw [hn] at hi
      by_cases e2 : i < ts'.length
      · rw [upd_other _ _ (by omega)] at e
        exact h.ap k hk (Or.inr ⟨i, e2, e⟩)
      · obtain rfl : i = ts'.length := by omega
        rw [upd_same] at e
        exact (hlo k e).2.2.2 hk
  · exact (chg_grown (h.old.trans (Chg.of_below hba)) hgrow (fun k hk => Or.inr (by have := (ownBlock_lt h.tr.row hk).1; omega))).setCell (Or.inl rfl) _

theorem Mov.snocN {U : World} {b5 : Nat} {rv : Value} {ts' : List Tr} {ns' : List Int} {w wa w' : World} {tv nv : Value} {pa : Nat → Option Addr} {pc : Nat → Nat} (h : Mov U b5 rv ts' ns' w tv nv pa pc) (hba : Below w.heap.size w wa) {x : Int} {g cap : Nat}
    (hown : w'.ownsRow (b5 + 1) 3 1 (.slice (some ⟨g, 0, none⟩) (ns'.length + 1) cap) (ns'.length + 1) (ns'.map (Value.int .i64) ++ [.int .i64 x]))
    (hgrow : wa.grownBy w' nv.ownBlock) (hat : nv.ownBlock = some g ∨ wa.heap.size ≤ g) :
    Mov U b5 rv ts' (ns' ++ [x]) (w'.setCell ⟨b5, 2, none⟩ (.slice (some ⟨g, 0, none⟩) (ns'.length + 1) cap)) tv (.slice (some ⟨g, 0, none⟩) (ns'.length + 1) cap) pa pc := by
  have hO := OwnInts.snoc hown
  have hc5 : Chg (fun q => q = b5) w' (w'.setCell ⟨b5, 2, none⟩ (.slice (some ⟨g, 0, none⟩) (ns'.length + 1) cap)) := Chg.setCell (F := fun q => q = b5) (p := ⟨b5, 2, none⟩) (Chg.refl _ _) rfl _
  have hG : Gath (b5 + 1) w' tv ts' pa pc := (h.tr.below hba).keep hgrow.size (fun k hk e => hgrow.block k hk (fun e' => h.ap k e'.symm e))
  refine ⟨block3_set2 (h.grown hba hgrow h.nvNe) _, hG.chg hc5 (fun k hk e => by have := (hG.FG_lo hk).1; omega), ?_, fun k hk e => ?_, ?_⟩
  · exact ownsRow_keep hO (fun k hk => Below.heap_setCell _ _ _ _ (fun e => by simp only at e; have := (ownBlock_lt hO hk).1; omega))
  · simp [Value.ownBlock] at hk
    subst hk
    rcases hat with hat | hat
    · exact h.ap g hat e
    · have u := (h.tr.FG_lo e).2
      have := hba.size
      omega
  · exact (chg_grown (h.old.trans (Chg.of_below hba)) hgrow (fun k hk => Or.inr (by have := (ownBlock_lt h.nm hk).1; omega))).setCell (Or.inl rfl) _

/-- what is there of train i behind the moves d: nothing, or one train -/
def bhT1 (ts : List Tr) (d : Nat → Nat) (i : Nat) : List Tr := if leftB ts d i = true then [] else [(farAt (tAt ts i) (tPath ts i) (d i), (tPath ts i).drop (d i), tWt ts i)]
def bhT (ts : List Tr) (d : Nat → Nat) : Nat → List Tr
  | 0 => []
  | k + 1 => bhT ts d k ++ bhT1 ts d k
def bhN (ts : List Tr) (ns : List Int) (d : Nat → Nat) : Nat → List Int
  | 0 => []
  | k + 1 => bhN ts ns d k ++ (if leftB ts d k = true then [] else [el ns k])
/-- the state behind the moves d -/
def behindSt (st : St) (d : Nat → Nat) : St := (st.1, bhT st.2.1 d st.2.1.length, bhN st.2.1 st.2.2 d st.2.1.length)
theorem bhT_le (ts : List Tr) (d : Nat → Nat) : ∀ k, (bhT ts d k).length ≤ k
  | 0 => Nat.le_refl _
  | k + 1 => by
    have := bhT_le ts d k
    simp only [bhT, List.length_append]
    unfold bhT1
    split <;> simp <;> omega
theorem bhN_le (ts : List Tr) (ns : List Int) (d : Nat → Nat) : ∀ k, (bhN ts ns d k).length ≤ k
  | 0 => Nat.le_refl _
  | k + 1 => by
    have := bhN_le ts ns d k
    simp only [bhN, List.length_append]
    split <;> simp <;> omega
theorem bhT_one (ts : List Tr) (m : Nat) : ∀ k, bhT ts (bump pz m) k = mvT ts m k
  | 0 => rfl
  | k + 1 => by
    simp only [bhT, mvT, bhT_one ts m k]
    congr 1
    unfold bhT1 mvT1
    by_cases e : k = m
    · subst e
      by_cases e2 : (tPath ts k).length = 0
      · simp [leftB, bump, pz, e2]
      · have : ¬ (tPath ts k).length < 1 := by omega
        simp [leftB, bump, pz, farAt, this, e2]
    · simp [leftB, bump, pz, farAt, e]
theorem bhN_one (ts : List Tr) (ns : List Int) (m : Nat) : ∀ k, bhN ts ns (bump pz m) k = mvN ts ns m k
  | 0 => rfl
  | k + 1 => by
    simp only [bhN, mvN, bhN_one ts ns m k]
    congr 1
    by_cases e : k = m
    · subst e
      by_cases e2 : (tPath ts k).length = 0
      · simp [leftB, bump, pz, e2]
      · have : ¬ (tPath ts k).length < 1 := by omega
        simp [leftB, bump, pz, this, e2]
    · simp [leftB, bump, pz, e]
theorem behindSt_one (st : St) (m : Nat) : behindSt st (bump pz m) = stepSt st m := by simp [behindSt, stepSt, bhT_one, bhN_one]
theorem bump_ok {st : St} (m : Nat) : PrOk st (bump pz m) := fun i hi => by unfold bump pz; split <;> omega

end Go.Proofs.Ytmjjigdnoiphbab
