/-
  MEMORY OF THE CALL's OWN THAT IS WRITTEN: rows of integers, rows of trains, states; what is left alone.
-/
import Derived.Test.YtmjjigdnoiphbaaW18
namespace Go.Proofs.Ytmjjigdnoiphbaa
open Go.RowKit Go.Deep
set_option linter.unusedVariables false

/-- of the blocks that were there only those of F may have turned -/
structure Chg (F : Nat → Prop) (w w' : World) : Prop where
  os : w'.os = w.os
  tape : w'.tape = w.tape
  output : w'.output = w.output
  size : w.heap.size ≤ w'.heap.size
  block : ∀ k, k < w.heap.size → ¬ F k → w'.heap[k]? = w.heap[k]?

theorem Chg.refl (F : Nat → Prop) (w : World) : Chg F w w := ⟨rfl, rfl, rfl, Nat.le_refl _, fun _ _ _ => rfl⟩
theorem Chg.trans {F : Nat → Prop} {a b c : World} (h : Chg F a b) (k : Chg F b c) : Chg F a c :=
  ⟨k.os.trans h.os, k.tape.trans h.tape, k.output.trans h.output, Nat.le_trans h.size k.size, fun i hi hf => (k.block i (Nat.lt_of_lt_of_le hi h.size) hf).trans (h.block i hi hf)⟩
theorem Chg.mono {F G : Nat → Prop} {w w' : World} (h : Chg F w w') (hFG : ∀ k, F k → G k) : Chg G w w' := ⟨h.os, h.tape, h.output, h.size, fun k hk hg => h.block k hk (fun hf => hg (hFG k hf))⟩
theorem Chg.of_below {F : Nat → Prop} {w w' : World} (h : Below w.heap.size w w') : Chg F w w' := ⟨h.os, h.tape, h.output, h.size, fun k hk _ => h.block k hk⟩
theorem Chg.below {F : Nat → Prop} {w w' : World} {B : Nat} (h : Chg F w w') (hB : B ≤ w.heap.size) (hF : ∀ k, k < B → ¬ F k) : Below B w w' := ⟨h.os, h.tape, h.output, h.size, fun k hk => h.block k (Nat.lt_of_lt_of_le hk hB) (hF k hk)⟩
theorem Chg.setCell {F : Nat → Prop} {a w : World} (h : Chg F a w) {p : Addr} (hp : F p.block) (u : Value) : Chg F a (w.setCell p u) :=
  h.trans ⟨rfl, rfl, rfl, by simp [World.setCell], fun k _ hf => Below.heap_setCell _ _ _ _ (fun e => hf (e ▸ hp))⟩
theorem Chg.alloc {F : Nat → Prop} {a w : World} (h : Chg F a w) (o : Obj) : Chg F a (w.alloc o) := h.trans (Chg.of_below (Joins.below_alloc1 _ _))

theorem frozen_setCell (w : World) (a q : Addr) (v : Value) : (w.setCell a v).frozen? q = w.frozen? q := by
  by_cases h : q.block = a.block
  · unfold World.frozen? World.setCell
    simp only [Array.getElem?_modify, h, if_pos]
    cases w.heap[a.block]? with
    | none => rfl
    | some o => cases o <;> rfl
  · exact World.frozen?_of_block (Below.heap_setCell _ _ _ _ h)

/-- the block that an address leads to -/
def FA (a : Option Addr) (k : Nat) : Prop := ∃ off, a = some ⟨k, off, none⟩

/-- n integers of one block, none frozen -/
def OwnF (w : World) (a : Option Addr) (n : Nat) (X : Nat → Int) : Prop :=
  ∀ i, i < n → ∃ b off, a = some ⟨b, off, none⟩ ∧ w.cell? ⟨b, off + i, none⟩ = some (.int .i64 (X i)) ∧ w.frozen? ⟨b, off + i, none⟩ = false

theorem OwnF.congr {w : World} {a : Option Addr} {n : Nat} {X Y : Nat → Int} (h : OwnF w a n X) (e : ∀ i, i < n → X i = Y i) : OwnF w a n Y := fun i hi => by rw [← e i hi]; exact h i hi
theorem OwnF.keep {w w' : World} {a : Option Addr} {n : Nat} {X : Nat → Int} (h : OwnF w a n X) (hb : ∀ k, k < w.heap.size → FA a k → w'.heap[k]? = w.heap[k]?) : OwnF w' a n X := fun i hi => by
  obtain ⟨b, off, e, hc, hz⟩ := h i hi
  have := hb b (World.block_lt_of_cell? _ _ hc) ⟨off, e⟩
  exact ⟨b, off, e, (World.cell?_of_block (a := ⟨b, off + i, none⟩) this).trans hc, (World.frozen?_of_block (a := ⟨b, off + i, none⟩) this).trans hz⟩
theorem OwnF.chg {G : Nat → Prop} {w w' : World} {a : Option Addr} {n : Nat} {X : Nat → Int} (h : OwnF w a n X) (hc : Chg G w w') (hFG : ∀ k, FA a k → ¬ G k) : OwnF w' a n X := h.keep (fun k hk hf => hc.block k hk (hFG k hf))
theorem OwnF.below {w w' : World} {a : Option Addr} {n : Nat} {X : Nat → Int} (h : OwnF w a n X) (hb : Below w.heap.size w w') : OwnF w' a n X := h.keep (fun k hk _ => hb.block k hk)

def upd {α : Type} (f : Nat → α) (k : Nat) (x : α) : Nat → α := fun i => if i = k then x else f i
theorem upd_same {α : Type} (f : Nat → α) (k : Nat) (x : α) : upd f k x k = x := if_pos rfl
theorem upd_other {α : Type} (f : Nat → α) {k i : Nat} (x : α) (h : i ≠ k) : upd f k x i = f i := if_neg h

theorem OwnF.set {w : World} {b off : Nat} {n : Nat} {X : Nat → Int} (h : OwnF w (some ⟨b, off, none⟩) n X) (k : Nat) (x : Int) : OwnF (w.setCell ⟨b, off + k, none⟩ (.int .i64 x)) (some ⟨b, off, none⟩) n (upd X k x) := fun i hi => by
  obtain ⟨b', off', e, hc, hz⟩ := h i hi
  simp only [Option.some.injEq, Addr.mk.injEq, and_true] at e
  obtain ⟨rfl, rfl⟩ := e
  refine ⟨b, off, rfl, ?_, by rw [frozen_setCell]; exact hz⟩
  by_cases e : i = k
  · subst e
    rw [upd_same, World.cell?_setCell_same _ _ _ hc]
  · rw [upd_other _ _ e, World.cell?_setCell_other _ _ _ _ (by simp <;> omega)]
    exact hc

theorem OwnF.at {w : World} {a : Option Addr} {xs : List Int} {cap : Nat} {X : Nat → Int} (h : OwnF w a xs.length X) (e : ∀ i, i < xs.length → X i = el xs i) : IntsAt w (.slice a xs.length cap) xs :=
  ⟨a, cap, rfl, fun i hi => let ⟨b, off, ha, hc, _⟩ := h i hi; ⟨b, off, ha, by rw [← e i hi]; exact hc⟩⟩

theorem OwnInts.ownF {base : Nat} {w : World} {v : Value} {xs : List Int} (h : OwnInts base w v xs) : ∃ a cap, v = .slice a xs.length cap ∧ OwnF w a xs.length (el xs) ∧ ∀ k, FA a k → base ≤ k ∧ k < w.heap.size := by
  rcases h.lies with ⟨rfl, rfl⟩ | ⟨g, cap, cur, rfl, hg, hh, _, _, _, hc⟩
  · exact ⟨none, 0, rfl, fun i hi => absurd hi (Nat.not_lt_zero _), fun k ⟨off, e⟩ => by cases e⟩
  · refine ⟨_, cap, rfl, fun i hi => ⟨g, 0, rfl, by rw [Nat.zero_add, cell_of_row w g i cur 3 (0, 0) hh]; exact hc i hi, by simp [World.frozen?, hh]⟩, fun k ⟨off, e⟩ => ?_⟩
    simp only [Option.some.injEq, Addr.mk.injEq, and_true] at e
    obtain ⟨rfl, _⟩ := e
    exact ⟨hg, (Array.getElem?_eq_some_iff.1 hh).1⟩

theorem FA_some {b o k : Nat} (h : FA (some ⟨b, o, none⟩) k) : k = b := by
  obtain ⟨off, e⟩ := h
  simp only [Option.some.injEq, Addr.mk.injEq, and_true] at e
  exact e.1.symm
theorem FA_mk (b o : Nat) : FA (some ⟨b, o, none⟩) b := ⟨o, rfl⟩

theorem rowIs_ownF {w : World} {b n : Nat} {t : TypeId} {X : Nat → Int} (h : w.rowIs b t n (fun j => .int .i64 (X j))) : OwnF w (some ⟨b, 0, none⟩) n X := fun i hi => ⟨b, 0, rfl, by rw [Nat.zero_add]; exact h.cell hi, h.frozen _⟩

/-- a row of trains of the call's own; its paths lie elsewhere, each by itself -/
structure OwnT (w : World) (a : Option Addr) (n : Nat) (pa : Nat → Option Addr) (pl pc : Nat → Nat) (X Y : Nat → Int) (Z : Nat → Nat → Int) : Prop where
  row : ∀ i, i < n → ∃ b off, a = some ⟨b, off, none⟩ ∧ w.cell? ⟨b, off + i * 3, none⟩ = some (.int .i64 (X i)) ∧ w.cell? ⟨b, off + i * 3 + 1, none⟩ = some (.slice (pa i) (pl i) (pc i)) ∧ w.cell? ⟨b, off + i * 3 + 2, none⟩ = some (.int .i64 (Y i)) ∧ ∀ o, o < 3 → w.frozen? ⟨b, off + i * 3 + o, none⟩ = false
  path : ∀ i, i < n → OwnF w (pa i) (pl i) (Z i)
  ne : ∀ i k, i < n → FA (pa i) k → ¬ FA a k
  inj : ∀ i j k, i < n → j < n → i ≠ j → FA (pa i) k → ¬ FA (pa j) k

def FT (a : Option Addr) (pa : Nat → Option Addr) (n : Nat) : Nat → Prop := fun k => FA a k ∨ ∃ i, i < n ∧ FA (pa i) k

section
variable {w w' : World} {a : Option Addr} {n : Nat} {pa : Nat → Option Addr} {pl pc : Nat → Nat} {X Y : Nat → Int} {Z : Nat → Nat → Int}

theorem OwnT.congr {X' Y' : Nat → Int} {Z' : Nat → Nat → Int} (h : OwnT w a n pa pl pc X Y Z) (e1 : ∀ i, i < n → X i = X' i) (e2 : ∀ i, i < n → Y i = Y' i) (e3 : ∀ i j, i < n → j < pl i → Z i j = Z' i j) : OwnT w a n pa pl pc X' Y' Z' :=
  ⟨fun i hi => by rw [← e1 i hi, ← e2 i hi]; exact h.row i hi, fun i hi => (h.path i hi).congr (fun j hj => e3 i j hi hj), h.ne, h.inj⟩

theorem OwnT.keep (h : OwnT w a n pa pl pc X Y Z) (hb : ∀ k, k < w.heap.size → FT a pa n k → w'.heap[k]? = w.heap[k]?) : OwnT w' a n pa pl pc X Y Z :=
  ⟨fun i hi => by
    obtain ⟨b, off, e, h0, h1, h2, h3⟩ := h.row i hi
    have hk := hb b (World.block_lt_of_cell? _ _ h0) (Or.inl ⟨off, e⟩)
    exact ⟨b, off, e, (World.cell?_of_block (a := ⟨b, off + i * 3, none⟩) hk).trans h0, (World.cell?_of_block (a := ⟨b, off + i * 3 + 1, none⟩) hk).trans h1, (World.cell?_of_block (a := ⟨b, off + i * 3 + 2, none⟩) hk).trans h2, fun o ho => (World.frozen?_of_block (a := ⟨b, off + i * 3 + o, none⟩) hk).trans (h3 o ho)⟩,
   fun i hi => (h.path i hi).keep (fun k hk e => hb k hk (Or.inr ⟨i, hi, e⟩)), h.ne, h.inj⟩

theorem OwnT.below (h : OwnT w a n pa pl pc X Y Z) (hb : Below w.heap.size w w') : OwnT w' a n pa pl pc X Y Z := h.keep (fun k hk _ => hb.block k hk)

/-- a store into a train's first or third cell -/
theorem OwnT.setAt {b off : Nat} (h : OwnT w (some ⟨b, off, none⟩) n pa pl pc X Y Z) (k : Nat) (x : Int) : OwnT (w.setCell ⟨b, off + k * 3, none⟩ (.int .i64 x)) (some ⟨b, off, none⟩) n pa pl pc (upd X k x) Y Z := by
  refine ⟨fun i hi => ?_, fun i hi => (h.path i hi).keep (fun k' _ e => Below.heap_setCell _ _ _ _ (fun e' => h.ne i k' hi e (by simp only at e'; rw [e']; exact FA_mk _ _))), h.ne, h.inj⟩
  obtain ⟨b', off', e, h0, h1, h2, h3⟩ := h.row i hi
  simp only [Option.some.injEq, Addr.mk.injEq, and_true] at e
  obtain ⟨rfl, rfl⟩ := e
  refine ⟨b, off, rfl, ?_, ?_, ?_, fun o ho => by rw [frozen_setCell]; exact h3 o ho⟩
  · by_cases e : i = k
    · subst e
      rw [upd_same, World.cell?_setCell_same _ _ _ h0]
    · rw [upd_other _ _ e, World.cell?_setCell_other _ _ _ _ (by simp <;> omega)]
      exact h0
  · rw [World.cell?_setCell_other _ _ _ _ (by simp <;> omega)]
    exact h1
  · rw [World.cell?_setCell_other _ _ _ _ (by simp <;> omega)]
    exact h2
theorem OwnT.setWt {b off : Nat} (h : OwnT w (some ⟨b, off, none⟩) n pa pl pc X Y Z) (k : Nat) (x : Int) : OwnT (w.setCell ⟨b, off + k * 3 + 2, none⟩ (.int .i64 x)) (some ⟨b, off, none⟩) n pa pl pc X (upd Y k x) Z := by
  refine ⟨fun i hi => ?_, fun i hi => (h.path i hi).keep (fun k' _ e => Below.heap_setCell _ _ _ _ (fun e' => h.ne i k' hi e (by simp only at e'; rw [e']; exact FA_mk _ _))), h.ne, h.inj⟩
  obtain ⟨b', off', e, h0, h1, h2, h3⟩ := h.row i hi
  simp only [Option.some.injEq, Addr.mk.injEq, and_true] at e
  obtain ⟨rfl, rfl⟩ := e
  refine ⟨b, off, rfl, ?_, ?_, ?_, fun o ho => by rw [frozen_setCell]; exact h3 o ho⟩
  · rw [World.cell?_setCell_other _ _ _ _ (by simp <;> omega)]
    exact h0
  · rw [World.cell?_setCell_other _ _ _ _ (by simp <;> omega)]
    exact h1
  · by_cases e : i = k
    · subst e
      rw [upd_same, World.cell?_setCell_same _ _ _ h2]
    · rw [upd_other _ _ e, World.cell?_setCell_other _ _ _ _ (by simp <;> omega)]
      exact h2

/-- a train's path has been written -/
theorem OwnT.setPath (h : OwnT w a n pa pl pc X Y Z) {k : Nat} (hk : k < n) (hc : Chg (FA (pa k)) w w') {Z1 : Nat → Int} (hp : OwnF w' (pa k) (pl k) Z1) : OwnT w' a n pa pl pc X Y (upd Z k Z1) := by
  refine ⟨fun i hi => ?_, fun i hi => ?_, h.ne, h.inj⟩
  · obtain ⟨b, off, e, h0, h1, h2, h3⟩ := h.row i hi
    have hkk := hc.block b (World.block_lt_of_cell? _ _ h0) (fun e' => h.ne k b hk e' ⟨off, e⟩)
    exact ⟨b, off, e, (World.cell?_of_block (a := ⟨b, off + i * 3, none⟩) hkk).trans h0, (World.cell?_of_block (a := ⟨b, off + i * 3 + 1, none⟩) hkk).trans h1, (World.cell?_of_block (a := ⟨b, off + i * 3 + 2, none⟩) hkk).trans h2, fun o ho => (World.frozen?_of_block (a := ⟨b, off + i * 3 + o, none⟩) hkk).trans (h3 o ho)⟩
  · by_cases e : i = k
    · subst e
      rw [upd_same]
      exact hp
    · rw [upd_other _ _ e]
      exact (h.path i hi).chg hc (fun q hq => h.inj i k q hi hk e hq)

theorem OwnT.at {ts : List Tr} {cap : Nat} (h : OwnT w a ts.length pa pl pc X Y Z) (e1 : ∀ i, i < ts.length → X i = tAt ts i) (e2 : ∀ i, i < ts.length → Y i = tWt ts i) (e3 : ∀ i, i < ts.length → pl i = (tPath ts i).length) (e4 : ∀ i j, i < ts.length → j < pl i → Z i j = el (tPath ts i) j) : TrainsAt w (.slice a ts.length cap) ts :=
  ⟨a, cap, rfl, fun i hi => by
    obtain ⟨b, off, ha, h0, h1, h2, _⟩ := h.row i hi
    refine ⟨b, off, ha, .slice (pa i) (pl i) (pc i), by rw [← e1 i hi]; exact h0, h1, ?_, by rw [← e2 i hi]; exact h2⟩
    have hp := h.path i hi
    rw [e3 i hi] at hp ⊢
    exact hp.at (fun j hj => e4 i j hi (by rw [e3 i hi]; exact hj))⟩
end

/-- what is counted through when trains are marked -/
def cnt (m : Int) (pl : Nat → Nat) : Nat → Int
  | 0 => m
  | i + 1 => cnt m pl i + (pl i + 2 : Nat)
theorem cnt_le {m : Int} {pl : Nat → Nat} {n : Nat} (h : ∀ i, i < n → pl i ≤ 1048576) : ∀ k, k ≤ n → m ≤ cnt m pl k ∧ cnt m pl k ≤ m + k * 1048578
  | 0, _ => by simp [cnt]
  | k + 1, hk => by
    obtain ⟨h1, h2⟩ := cnt_le (m := m) h k (by omega)
    have := h k (by omega)
    simp only [cnt]
    omega
end Go.Proofs.Ytmjjigdnoiphbaa
