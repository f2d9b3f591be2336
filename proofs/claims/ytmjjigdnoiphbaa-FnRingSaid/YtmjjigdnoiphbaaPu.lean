/-
  A number appended to a row of the call's own.
-/
import Derived.Test.YtmjjigdnoiphbaaApp
import Derived.Deep.AppendLies
namespace Go.Proofs.Ytmjjigdnoiphbaa
open Go.RowKit Go.Deep
set_option linter.unusedVariables false

theorem wpList_push {ops : Array Oper} {rest : List Oper} {o : Oper} {a : Act} {w : World} {Q : Exit → Act → World → Prop} (hgd : o.guard = none) (s x : Operand)
    (ho : o.op = .call { callee := .builtin .append, args := #[s, x], argTypes := #[23, 23] }) (base : Nat) (v0 : Value) (xs : List Int) (y : Int) (g0 : Nat) (hs : a.eval s = v0) (hx : a.eval x = .slice (some ⟨g0, 0, none⟩) 1 1)
    (h0 : OwnInts base w v0 xs) (hg : w.heap[g0]? = some (.cells #[.int .i64 y] 3 (0, 0))) (hl : xs.length ≤ 1048576) (hbase : base ≤ w.heap.size)
    (hK : ∀ g cap w', OwnInts base w' (.slice (some ⟨g, 0, none⟩) (xs.length + 1) cap) (xs ++ [y]) → w.grownBy w' v0.ownBlock → (v0.ownBlock = some g ∨ g = w.heap.size) → g < w'.heap.size → wpList Try.prog ops Q rest (a.put o.dst (.slice (some ⟨g, 0, none⟩) (xs.length + 1) cap)) w') : wpList Try.prog ops Q (o :: rest) a w := by
  obtain ⟨i0, hi, hz0, hz1, hz2⟩ := info_parts Try.infoInt
  refine wpList_append_lies w hgd s x 23 ho base 3 i0 (.int .i64 0) 1 8 Try.underlying23 hi hz0 hz1 hz2 rfl (by decide) v0 xs.length (xs.map (Value.int .i64)) hs h0 ⟨g0, 0, none⟩ 1 1 [.int .i64 y] hx rfl (World.news_of_block (cs := #[.int .i64 y]) hg) (by simp [Value.oneCell']) (by omega) (by unfold maxLen; omega) (by omega) hbase w.heap.size rfl ?_
  intro g cap w' hown hgrow hat hlt
  exact hK g cap w' (OwnInts.snoc hown) hgrow hat hlt
/-- a row that another one's growth leaves alone -/
theorem OwnInts.grown {base base' : Nat} {w w' : World} {v v0 : Value} {xs : List Int} (h : OwnInts base w v xs) (hg : w.grownBy w' v0.ownBlock) (hne : ∀ q, v.ownBlock = some q → v0.ownBlock ≠ some q) : OwnInts base w' v xs := by
  obtain ⟨h1, h2⟩ := h
  refine ⟨h1, ?_⟩
  rcases h2 with e | ⟨g, cap, cur, hv, k1, k2, k3⟩
  · exact Or.inl e
  · subst hv
    exact Or.inr ⟨g, cap, cur, rfl, k1, (hg.block g (Array.getElem?_eq_some_iff.1 k2).1 (fun e => hne g rfl e.symm)).trans k2, k3⟩
theorem OwnInts.far {base : Nat} {w w' : World} {v : Value} {xs : List Int} (h : OwnInts base w v xs) (hb : ∀ q, v.ownBlock = some q → w'.heap[q]? = w.heap[q]?) : OwnInts base w' v xs := by
  obtain ⟨h1, h2⟩ := h
  refine ⟨h1, ?_⟩
  rcases h2 with e | ⟨g, cap, cur, hv, k1, k2, k3⟩
  · exact Or.inl e
  · subst hv
    exact Or.inr ⟨g, cap, cur, rfl, k1, (hb g rfl).trans k2, k3⟩
theorem OwnInts.own {base : Nat} {w : World} {v : Value} {xs : List Int} (h : OwnInts base w v xs) {q : Nat} (hq : v.ownBlock = some q) : base ≤ q ∧ q < w.heap.size := by
  rcases h.2 with ⟨e, _⟩ | ⟨g, cap, cur, hv, k1, k2, k3⟩
  · rw [e] at hq; simp [Value.ownBlock] at hq
  · subst hv
    simp [Value.ownBlock] at hq
    subst hq
    exact ⟨k1, (Array.getElem?_eq_some_iff.1 k2).1⟩
/-- what a push leaves of a block ahead of the store -/
theorem pushed_row {wr w' : World} {bs base : Nat} {rv : Value} {cs : Array Value} {T : TypeId} {xs : List Int} {o : Obj} (hr : wr.heap[bs]? = some (.cells cs T (0, 0))) (ho : OwnInts base wr rv xs) (hB : bs < base) (hgrow : (wr.alloc o).grownBy w' rv.ownBlock) : w'.heap[bs]? = some (.cells cs T (0, 0)) := by
  have hlt := (Array.getElem?_eq_some_iff.1 hr).1
  rw [hgrow.block bs (by simp; omega) (fun e => by have := (ho.own e.symm).1; omega)]
  exact ((Joins.below_alloc1 wr o).block bs hlt).trans hr
/-- a number pushed to a field: what stands behind it -/
theorem pushed {w wr w' : World} {H0 bs j base : Nat} {rv : Value} {cs : Array Value} {T : TypeId} {xs : List Int} {y : Int} {g m cap : Nat} {o : Obj} (hr : wr.heap[bs]? = some (.cells cs T (0, 0))) (ho : OwnInts base wr rv xs) (hB : bs < base) (hH : H0 ≤ bs) (hb : Below H0 w wr)
    (hown : OwnInts base w' (.slice (some ⟨g, 0, none⟩) m cap) (xs ++ [y])) (hgrow : (wr.alloc o).grownBy w' rv.ownBlock) (hat : rv.ownBlock = some g ∨ g = wr.heap.size + 1) :
    (w'.setCell ⟨bs, j, none⟩ (.slice (some ⟨g, 0, none⟩) m cap)).heap[bs]? = some (.cells (cs.setIfInBounds j (.slice (some ⟨g, 0, none⟩) m cap)) T (0, 0)) ∧
    (∀ q, q < wr.heap.size → q ≠ bs → rv.ownBlock ≠ some q → (w'.setCell ⟨bs, j, none⟩ (.slice (some ⟨g, 0, none⟩) m cap)).heap[q]? = wr.heap[q]?) ∧
    OwnInts base (w'.setCell ⟨bs, j, none⟩ (.slice (some ⟨g, 0, none⟩) m cap)) (.slice (some ⟨g, 0, none⟩) m cap) (xs ++ [y]) ∧
    Below H0 w (w'.setCell ⟨bs, j, none⟩ (.slice (some ⟨g, 0, none⟩) m cap)) ∧ (rv.ownBlock = some g ∨ wr.heap.size ≤ g) ∧ base ≤ g := by
  have hg := (hown.own (q := g) rfl).1
  have hbA : Below H0 w (wr.alloc o) := hb.alloc (by have := (Array.getElem?_eq_some_iff.1 hr).1; omega) o
  have hfar : ∀ q, q < wr.heap.size → rv.ownBlock ≠ some q → w'.heap[q]? = wr.heap[q]? := fun q hq hq2 => by
    rw [hgrow.block q (by simp; omega) (Ne.symm hq2)]
    exact (Joins.below_alloc1 wr o).block q hq
  refine ⟨Joins.block_setCell (pushed_row hr ho hB hgrow) _, fun q hq hq1 hq2 => ?_, hown.far (fun q hq => ?_), ?_, hat.imp id (fun e => by omega), hg⟩
  · rw [Below.heap_setCell _ _ _ _ hq1]
    exact hfar q hq hq2
  · simp [Value.ownBlock] at hq
    subst hq
    exact Below.heap_setCell _ _ _ _ (by show g ≠ bs; omega)
  · refine Below.setCell (p := ⟨bs, j, none⟩) ⟨hgrow.os.trans hbA.os, hgrow.tape.trans hbA.tape, hgrow.output.trans hbA.output, Nat.le_trans hbA.size hgrow.size, fun q hq => ?_⟩ hH _
    rw [hgrow.block q (Nat.lt_of_lt_of_le hq (by have := hbA.size; have := (Array.getElem?_eq_some_iff.1 hr).1; simp; omega)) (fun e => by have := (ho.own e.symm).1; omega)]
    exact hbA.block q hq
end Go.Proofs.Ytmjjigdnoiphbaa
