/-
  TRAINS THAT ARE GATHERED BY append, each with a path of its own.
-/
import Derived.Test.YtmjjigdnoiphbaaW21
namespace Go.Proofs.Ytmjjigdnoiphbaa
open Go.RowKit Go.Deep
set_option linter.unusedVariables false

def trVals (ts : List Tr) (pa : Nat → Option Addr) (pc : Nat → Nat) : List Value :=
  (List.range ts.length).flatMap (fun i => [.int .i64 (tAt ts i), .slice (pa i) (tPath ts i).length (pc i), .int .i64 (tWt ts i)])

theorem tGet_snoc (ts : List Tr) (t : Tr) (i : Nat) (hi : i < ts.length) : (ts ++ [t])[i]? = ts[i]? := List.getElem?_append_left hi
theorem tAt_snoc {ts : List Tr} {t : Tr} {i : Nat} (hi : i < ts.length) : tAt (ts ++ [t]) i = tAt ts i := by unfold tAt; rw [tGet_snoc ts t i hi]
theorem tPath_snoc {ts : List Tr} {t : Tr} {i : Nat} (hi : i < ts.length) : tPath (ts ++ [t]) i = tPath ts i := by unfold tPath; rw [tGet_snoc ts t i hi]
theorem tWt_snoc {ts : List Tr} {t : Tr} {i : Nat} (hi : i < ts.length) : tWt (ts ++ [t]) i = tWt ts i := by unfold tWt; rw [tGet_snoc ts t i hi]
theorem tAt_last (ts : List Tr) (t : Tr) : tAt (ts ++ [t]) ts.length = t.1 := by simp [tAt]
theorem tPath_last (ts : List Tr) (t : Tr) : tPath (ts ++ [t]) ts.length = t.2.1 := by simp [tPath]
theorem tWt_last (ts : List Tr) (t : Tr) : tWt (ts ++ [t]) ts.length = t.2.2 := by simp [tWt]

theorem flatMap_congr' {α β : Type} {l : List α} {f g : α → List β} (h : ∀ x, x ∈ l → f x = g x) : l.flatMap f = l.flatMap g := by
  induction l with
  | nil => rfl
  | cons x r ih => rw [List.flatMap_cons, List.flatMap_cons, h x (by simp), ih (fun y hy => h y (by simp [hy]))]

theorem trVals_snoc (ts : List Tr) (t : Tr) (pa : Nat → Option Addr) (pc : Nat → Nat) (a : Option Addr) (c : Nat) :
    trVals (ts ++ [t]) (upd pa ts.length a) (upd pc ts.length c) = trVals ts pa pc ++ [.int .i64 t.1, .slice a t.2.1.length c, .int .i64 t.2.2] := by
  unfold trVals
  rw [List.length_append, List.length_singleton, List.range_succ, List.flatMap_append]
  congr 1
  · refine flatMap_congr' (fun i hi => ?_)
    have hi' : i < ts.length := by simpa using hi
    have hne : i ≠ ts.length := by omega
    rw [tAt_snoc hi', tPath_snoc hi', tWt_snoc hi', upd_other _ _ hne, upd_other _ _ hne]
  · simp [tAt_last, tPath_last, tWt_last, upd_same]

theorem sum3 (n : Nat) : ((List.range n).map (fun _ => 3)).sum = n * 3 := by
  induction n with
  | zero => rfl
  | succ n ih =>
    rw [List.range_succ, List.map_append, List.sum_append, ih]
    simp
    omega

theorem trVals_length (ts : List Tr) (pa : Nat → Option Addr) (pc : Nat → Nat) : (trVals ts pa pc).length = ts.length * 3 := by
  unfold trVals
  simp [List.length_flatMap, sum3]

theorem flat3_get {α : Type} (f : Nat → α × α × α) : ∀ (n i o : Nat), i < n → o < 3 → ((List.range n).flatMap (fun j => [(f j).1, (f j).2.1, (f j).2.2]))[i * 3 + o]? = [(f i).1, (f i).2.1, (f i).2.2][o]?
  | 0, i, o, hi, _ => absurd hi (Nat.not_lt_zero _)
  | n + 1, i, o, hi, ho => by
    have hl : ((List.range n).flatMap (fun j => [(f j).1, (f j).2.1, (f j).2.2])).length = n * 3 := by simp [List.length_flatMap, sum3]
    rw [List.range_succ, List.flatMap_append]
    by_cases e : i < n
    · rw [List.getElem?_append_left (by omega)]
      exact flat3_get f n i o e ho
    · obtain rfl : i = n := by omega
      rw [List.getElem?_append_right (by omega), hl]
      simp

theorem trVals_get (ts : List Tr) (pa : Nat → Option Addr) (pc : Nat → Nat) {i : Nat} (hi : i < ts.length) :
    (trVals ts pa pc)[i * 3]? = some (.int .i64 (tAt ts i)) ∧ (trVals ts pa pc)[i * 3 + 1]? = some (.slice (pa i) (tPath ts i).length (pc i)) ∧ (trVals ts pa pc)[i * 3 + 2]? = some (.int .i64 (tWt ts i)) := by
  have h := fun o ho => flat3_get (fun j => (Value.int .i64 (tAt ts j), Value.slice (pa j) (tPath ts j).length (pc j), Value.int .i64 (tWt ts j))) ts.length i o hi ho
  exact ⟨h 0 (by omega), h 1 (by omega), h 2 (by omega)⟩

/-- the blocks of what is gathered -/
def FG (tv : Value) (pa : Nat → Option Addr) (n : Nat) : Nat → Prop := fun k => tv.ownBlock = some k ∨ ∃ i, i < n ∧ FA (pa i) k

/-- trains gathered in blocks from B on -/
structure Gath (B : Nat) (w : World) (tv : Value) (ts : List Tr) (pa : Nat → Option Addr) (pc : Nat → Nat) : Prop where
  row : w.ownsRow B 39 3 tv ts.length (trVals ts pa pc)
  path : ∀ i, i < ts.length → OwnF w (pa i) (tPath ts i).length (el (tPath ts i))
  capOk : ∀ i, i < ts.length → (tPath ts i).length ≤ pc i
  lo : ∀ i k, i < ts.length → FA (pa i) k → B ≤ k ∧ k < w.heap.size ∧ tv.ownBlock ≠ some k
  inj : ∀ i j k, i < ts.length → j < ts.length → i ≠ j → FA (pa i) k → ¬ FA (pa j) k

theorem Gath.nil (B : Nat) (w : World) (pa : Nat → Option Addr) (pc : Nat → Nat) : Gath B w (.slice none 0 0) [] pa pc :=
  ⟨World.ownsRow_nil w B 39 3, fun i hi => absurd hi (Nat.not_lt_zero _), fun i hi => absurd hi (Nat.not_lt_zero _), fun i k hi => absurd hi (Nat.not_lt_zero _), fun i j k hi => absurd hi (Nat.not_lt_zero _)⟩

theorem ownBlock_lt {w : World} {base : Nat} {e : TypeId} {size : Nat} {v : Value} {n : Nat} {xs : List Value} {k : Nat} (h : w.ownsRow base e size v n xs) (hk : v.ownBlock = some k) : base ≤ k ∧ k < w.heap.size := by
  rcases h.2 with ⟨rfl, _⟩ | ⟨g, cap, cur, rfl, hg, hh, _⟩
  · simp [Value.ownBlock] at hk
  · simp [Value.ownBlock] at hk
    subst hk
    exact ⟨hg, (Array.getElem?_eq_some_iff.1 hh).1⟩

theorem ownsRow_keep {w w' : World} {base : Nat} {e : TypeId} {size : Nat} {v : Value} {n : Nat} {xs : List Value} (h : w.ownsRow base e size v n xs) (hb : ∀ k, v.ownBlock = some k → w'.heap[k]? = w.heap[k]?) : w'.ownsRow base e size v n xs := by
  obtain ⟨h1, h2⟩ := h
  refine ⟨h1, ?_⟩
  rcases h2 with h2 | ⟨g, cap, cur, rfl, hg, hh, r⟩
  · exact Or.inl h2
  · exact Or.inr ⟨g, cap, cur, rfl, hg, by rw [hb g rfl]; exact hh, r⟩

theorem Gath.keep {B : Nat} {w w' : World} {tv : Value} {ts : List Tr} {pa : Nat → Option Addr} {pc : Nat → Nat} (h : Gath B w tv ts pa pc) (hz : w.heap.size ≤ w'.heap.size) (hb : ∀ k, k < w.heap.size → FG tv pa ts.length k → w'.heap[k]? = w.heap[k]?) : Gath B w' tv ts pa pc :=
  ⟨ownsRow_keep h.row (fun k hk => hb k (ownBlock_lt h.row hk).2 (Or.inl hk)), fun i hi => (h.path i hi).keep (fun k hk e => hb k hk (Or.inr ⟨i, hi, e⟩)), h.capOk, fun i k hi e => let ⟨u1, u2, u3⟩ := h.lo i k hi e; ⟨u1, Nat.lt_of_lt_of_le u2 hz, u3⟩, h.inj⟩
theorem Gath.chg {B : Nat} {G : Nat → Prop} {w w' : World} {tv : Value} {ts : List Tr} {pa : Nat → Option Addr} {pc : Nat → Nat} (h : Gath B w tv ts pa pc) (hc : Chg G w w') (hG : ∀ k, FG tv pa ts.length k → ¬ G k) : Gath B w' tv ts pa pc := h.keep hc.size (fun k hk e => hc.block k hk (hG k e))
theorem Gath.below {B : Nat} {w w' : World} {tv : Value} {ts : List Tr} {pa : Nat → Option Addr} {pc : Nat → Nat} (h : Gath B w tv ts pa pc) (hb : Below w.heap.size w w') : Gath B w' tv ts pa pc := h.keep hb.size (fun k hk _ => hb.block k hk)
theorem Gath.FG_lo {B : Nat} {w : World} {tv : Value} {ts : List Tr} {pa : Nat → Option Addr} {pc : Nat → Nat} (h : Gath B w tv ts pa pc) {k : Nat} (hk : FG tv pa ts.length k) : B ≤ k ∧ k < w.heap.size := by
  rcases hk with hk | ⟨i, hi, e⟩
  · exact ownBlock_lt h.row hk
  · exact ⟨(h.lo i k hi e).1, (h.lo i k hi e).2.1⟩

/-- one train more, its path in a block of its own -/
theorem Gath.snoc {B : Nat} {w w' : World} {tv : Value} {ts : List Tr} {pa : Nat → Option Addr} {pc : Nat → Nat} (h : Gath B w tv ts pa pc) {t : Tr} {a : Option Addr} {c g cap : Nat}
    (hp : OwnF w a t.2.1.length (el t.2.1)) (hcap : t.2.1.length ≤ c) (hlo : ∀ k, FA a k → B ≤ k ∧ k < w.heap.size ∧ ¬ FG tv pa ts.length k)
    (hown : w'.ownsRow B 39 3 (.slice (some ⟨g, 0, none⟩) (ts.length + 1) cap) (ts.length + 1) (trVals ts pa pc ++ [.int .i64 t.1, .slice a t.2.1.length c, .int .i64 t.2.2]))
    (hgrow : w.grownBy w' tv.ownBlock) (hat : tv.ownBlock = some g ∨ w.heap.size ≤ g) :
    Gath B w' (.slice (some ⟨g, 0, none⟩) (ts.length + 1) cap) (ts ++ [t]) (upd pa ts.length a) (upd pc ts.length c) := by
  have hn : (ts ++ [t]).length = ts.length + 1 := by simp
  have hfar : ∀ k, k < w.heap.size → tv.ownBlock ≠ some k → w'.heap[k]? = w.heap[k]? := fun k hk hne => hgrow.block k hk (fun e => hne e.symm)
  have hneg : ∀ k, k < w.heap.size → tv.ownBlock ≠ some k → Value.ownBlock (.slice (some ⟨g, 0, none⟩) (ts.length + 1) cap) ≠ some k := fun k hk hne e => by
    simp [Value.ownBlock] at e
    subst e
    rcases hat with hat | hat
    · exact hne hat
    · omega
  refine ⟨?_, fun i hi => ?_, fun i hi => ?_, fun i k hi e => ?_, fun i j k hi hj hij e e' => ?_⟩
  · rw [hn, trVals_snoc]
    exact hown
  · rw [hn] at hi
    by_cases e : i < ts.length
    · rw [tPath_snoc e, upd_other _ _ (by omega)]
      exact (h.path i e).keep (fun k hk e' => hfar k hk (h.lo i k e e').2.2)
    · obtain rfl : i = ts.length := by omega
      rw [tPath_last, upd_same]
      exact hp.keep (fun k hk e' => hfar k hk (fun e2 => (hlo k e').2.2 (Or.inl e2)))
  · rw [hn] at hi
    by_cases e : i < ts.length
    · rw [tPath_snoc e, upd_other _ _ (by omega)]
      exact h.capOk i e
    · obtain rfl : i = ts.length := by omega
      rw [tPath_last, upd_same]
      exact hcap
  · rw [hn] at hi
    by_cases e2 : i < ts.length
    · rw [upd_other _ _ (by omega)] at e
      obtain ⟨u1, u2, u3⟩ := h.lo i k e2 e
      exact ⟨u1, Nat.lt_of_lt_of_le u2 hgrow.size, hneg k u2 u3⟩
    · obtain rfl : i = ts.length := by omega
      rw [upd_same] at e
      obtain ⟨u1, u2, u3⟩ := hlo k e
      exact ⟨u1, Nat.lt_of_lt_of_le u2 hgrow.size, hneg k u2 (fun e3 => u3 (Or.inl e3))⟩
  · rw [hn] at hi hj
    by_cases e1 : i < ts.length <;> by_cases e2 : j < ts.length
    · rw [upd_other _ _ (by omega)] at e e'
      exact h.inj i j k e1 e2 hij e e'
    · obtain rfl : j = ts.length := by omega
      rw [upd_other _ _ (by omega)] at e
      rw [upd_same] at e'
      exact (hlo k e').2.2 (Or.inr ⟨i, e1, e⟩)
    · obtain rfl : i = ts.length := by omega
      rw [upd_other _ _ (by omega)] at e'
      rw [upd_same] at e
      exact (hlo k e).2.2 (Or.inr ⟨j, e2, e'⟩)
    · omega

theorem FA_ownBlock {g o k n cap : Nat} (h : FA (some ⟨g, o, none⟩) k) : Value.ownBlock (.slice (some ⟨g, 0, none⟩) n cap) = some k := by
  rw [FA_some h]; rfl

/-- what is gathered is a row of trains of the call's own -/
theorem Gath.ownT {B : Nat} {w : World} {tv : Value} {ts : List Tr} {pa : Nat → Option Addr} {pc : Nat → Nat} (h : Gath B w tv ts pa pc) :
    ∃ a cap, tv = .slice a ts.length cap ∧ ts.length ≤ cap ∧ OwnT w a ts.length pa (fun i => (tPath ts i).length) pc (tAt ts) (tWt ts) (fun i j => el (tPath ts i) j) ∧ ∀ k, FT a pa ts.length k → B ≤ k ∧ k < w.heap.size ∧ FG tv pa ts.length k := by
  rcases h.row.2 with ⟨rfl, h0⟩ | ⟨g, cap, cur, rfl, hg, hh, hc1, hc2, hc3, hc4⟩
  · have hts : ts = [] := List.length_eq_zero_iff.1 h0
    subst hts
    exact ⟨none, 0, rfl, Nat.le_refl _, ⟨fun i hi => absurd hi (Nat.not_lt_zero _), fun i hi => absurd hi (Nat.not_lt_zero _), fun i k hi => absurd hi (Nat.not_lt_zero _), fun i j k hi => absurd hi (Nat.not_lt_zero _)⟩, fun k hk => by
      rcases hk with ⟨off, e⟩ | ⟨i, hi, _⟩
      · cases e
      · exact absurd hi (Nat.not_lt_zero _)⟩
  · have hcell : ∀ i o u, i < ts.length → o < 3 → (trVals ts pa pc)[i * 3 + o]? = some u → w.cell? ⟨g, 0 + i * 3 + o, none⟩ = some u := fun i o u hi ho hu => by
      rw [Nat.zero_add, cell_of_row w g (i * 3 + o) cur 39 (0, 0) hh, ← Array.getElem?_toList, take_get hc4 (by omega)]
      exact hu
    refine ⟨_, cap, rfl, hc1, ⟨fun i hi => ?_, h.path, fun i k hi e e' => (h.lo i k hi e).2.2 (FA_ownBlock e'), h.inj⟩, fun k hk => ?_⟩
    · obtain ⟨v0, v1, v2⟩ := trVals_get ts pa pc hi
      exact ⟨g, 0, rfl, hcell i 0 _ hi (by omega) v0, hcell i 1 _ hi (by omega) v1, hcell i 2 _ hi (by omega) v2, fun o _ => by simp [World.frozen?, hh]⟩
    · rcases hk with hk | ⟨i, hi, e⟩
      · have hb := FA_ownBlock (n := ts.length) (cap := cap) hk
        exact ⟨(ownBlock_lt h.row hb).1, (ownBlock_lt h.row hb).2, Or.inl hb⟩
      · exact ⟨(h.lo i k hi e).1, (h.lo i k hi e).2.1, Or.inr ⟨i, hi, e⟩⟩

theorem block3 {w : World} {b : Nat} {x y z : Value} {t : TypeId} (h : w.heap[b]? = some (.cells #[x, y, z] t (0, 0))) :
    w.cell? ⟨b, 0, none⟩ = some x ∧ w.cell? ⟨b, 1, none⟩ = some y ∧ w.cell? ⟨b, 2, none⟩ = some z ∧ ∀ o, w.frozen? ⟨b, o, none⟩ = false :=
  ⟨by rw [cell_of_row w b 0 _ t (0, 0) h]; rfl, by rw [cell_of_row w b 1 _ t (0, 0) h]; rfl, by rw [cell_of_row w b 2 _ t (0, 0) h]; rfl, fun o => frozen_of_row w b o _ t h⟩
theorem block3_set0 {w : World} {b : Nat} {x y z : Value} {t : TypeId} (h : w.heap[b]? = some (.cells #[x, y, z] t (0, 0))) (u : Value) : (w.setCell ⟨b, 0, none⟩ u).heap[b]? = some (.cells #[u, y, z] t (0, 0)) := by
  have := Joins.block_setCell (i := 0) h u
  simpa using this
theorem block3_set1 {w : World} {b : Nat} {x y z : Value} {t : TypeId} (h : w.heap[b]? = some (.cells #[x, y, z] t (0, 0))) (u : Value) : (w.setCell ⟨b, 1, none⟩ u).heap[b]? = some (.cells #[x, u, z] t (0, 0)) := by
  have := Joins.block_setCell (i := 1) h u
  simpa using this
theorem block3_set2 {w : World} {b : Nat} {x y z : Value} {t : TypeId} (h : w.heap[b]? = some (.cells #[x, y, z] t (0, 0))) (u : Value) : (w.setCell ⟨b, 2, none⟩ u).heap[b]? = some (.cells #[x, y, u] t (0, 0)) := by
  have := Joins.block_setCell (i := 2) h u
  simpa using this
end Go.Proofs.Ytmjjigdnoiphbaa
