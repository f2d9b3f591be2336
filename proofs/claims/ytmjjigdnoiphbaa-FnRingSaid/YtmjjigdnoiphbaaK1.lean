import Derived.Test.YtmjjigdnoiphbaaWt
import Derived.Test.YtmjjigdnoiphbaaApp
import Derived.Test.YtmjjigdnoiphbaaGath
import Derived.Deep.LoopGhost
import Derived.Deep.RegionHeld3
/-
  RINGS IN PLAIN MATHEMATICS; LISTS OF WAYS IN MEMORY. No program here.
-/
namespace Go.Proofs.Ytmjjigdnoiphbaa
open Go.RowKit Go.Deep
set_option linter.unusedVariables false

abbrev Wy : Type := List Int
def wyAt (ls : List Wy) (i : Nat) : Wy := ls[i]?.getD []
def lastOf (y : Wy) : Int := el y (y.length - 1)

/-- a train that is met from a way: one more way, if no way has come to it yet -/
def stepS (y : Wy) (x : Int) (p : Wy × List Wy) : Wy × List Wy := if x ∈ p.1 then p else (p.1 ++ [x], p.2 ++ [y ++ [x]])
def scanUp (y xs : Wy) (p : Wy × List Wy) : Nat → Wy × List Wy
  | 0 => p
  | k + 1 => stepS y (el xs k) (scanUp y xs p k)
def nextOf (st : St) (y : Wy) : Wy := waitsF st (lastOf y)
def lineUp (st : St) (ls : List Wy) (p : Wy × List Wy) : Nat → Wy × List Wy
  | 0 => p
  | i + 1 => scanUp (wyAt ls i) (nextOf st (wyAt ls i)) (lineUp st ls p i) (nextOf st (wyAt ls i)).length
def hitB (st : St) (s : Int) (y : Wy) : Bool := decide (s ∈ nextOf st y)
/-- the rounds of the search, f of them at most -/
def ringR (st : St) (s : Int) : Nat → List Wy → Wy → Wy
  | 0, _, _ => []
  | f + 1, ls, seen =>
    match ls.find? (hitB st s) with
    | some y => y
    | none => ringR st s f (lineUp st ls (seen, []) ls.length).2 (lineUp st ls (seen, []) ls.length).1
theorem lineUp_nil (st : St) (p : Wy × List Wy) : lineUp st [] p 0 = p := rfl
theorem ringR_nil (st : St) (s : Int) : ∀ f seen, ringR st s f [] seen = []
  | 0, _ => rfl
  | f + 1, seen => by
    show (match ([] : List Wy).find? (hitB st s) with | some y => y | none => ringR st s f _ _) = []
    simp only [List.find?_nil]
    exact ringR_nil st s f _
/-- a ring from one train on -/
def ringFromF (st : St) (s : Int) : Wy := ringR st s 7 [[s]] []

theorem ringR_hit {st : St} {s : Int} {f : Nat} {ls : List Wy} {seen : Wy} {i : Nat} (hi : i < ls.length) (h : hitB st s (wyAt ls i) = true) (ha : ∀ j, j < i → hitB st s (wyAt ls j) = false) : ringR st s (f + 1) ls seen = wyAt ls i := by
  have : ls.find? (hitB st s) = some (wyAt ls i) := by
    rw [List.find?_eq_some_iff_getElem]
    refine ⟨h, i, hi, by simp [wyAt, hi], fun j hj => ?_⟩
    have := ha j hj
    simp only [wyAt, List.getElem?_eq_getElem (show j < ls.length by omega), Option.getD_some] at this
    rw [this]
    rfl
  simp only [ringR, this]
theorem ringR_none {st : St} {s : Int} {f : Nat} {ls : List Wy} {seen : Wy} (ha : ∀ j, j < ls.length → hitB st s (wyAt ls j) = false) : ringR st s (f + 1) ls seen = ringR st s f (lineUp st ls (seen, []) ls.length).2 (lineUp st ls (seen, []) ls.length).1 := by
  have : ls.find? (hitB st s) = none := by
    rw [List.find?_eq_none]
    intro y hy
    obtain ⟨j, hj, rfl⟩ := List.mem_iff_getElem.1 hy
    have := ha j hj
    simp only [wyAt, List.getElem?_eq_getElem hj, Option.getD_some] at this
    rw [this]
    simp
  simp only [ringR, this]

theorem el_mem {xs : Wy} {k : Nat} (h : k < xs.length) : el xs k ∈ xs := by simp [el, h]
theorem hitB_at {st : St} {s : Int} {y : Wy} {k : Nat} (hk : k < (nextOf st y).length) (h : el (nextOf st y) k = s) : hitB st s y = true := by
  unfold hitB
  rw [decide_eq_true_eq, ← h]
  exact el_mem hk
theorem hitB_not {st : St} {s : Int} {y : Wy} (h : ∀ k, k < (nextOf st y).length → el (nextOf st y) k ≠ s) : hitB st s y = false := by
  unfold hitB
  rw [decide_eq_false_iff_not]
  intro hm
  obtain ⟨k, hk, e⟩ := List.mem_iff_getElem.1 hm
  exact h k hk (by simp [el, hk, e])

theorem nodup_len : ∀ {l m : Wy}, l.Nodup → (∀ x, x ∈ l → x ∈ m) → l.length ≤ m.length
  | [], _, _, _ => Nat.zero_le _
  | x :: l, m, hn, hs => by
    have hx : x ∈ m := hs x (by simp)
    rw [List.nodup_cons] at hn
    have := nodup_len (m := m.erase x) hn.2 (fun y hy => (List.mem_erase_of_ne (fun e => hn.1 (by rw [← e]; exact hy))).2 (hs y (by simp [hy])))
    rw [List.length_erase_of_mem hx] at this
    have h1 : 0 < m.length := List.length_pos_of_mem hx
    simp only [List.length_cons]
    omega

/-- what holds of the trains that were met and of the ways to them, in the round with f to go -/
structure PInv (st : St) (n0 f : Nat) (p : Wy × List Wy) : Prop where
  nodup : p.1.Nodup
  sub : ∀ x, x ∈ p.1 → x ∈ st.2.2
  len : p.2.length + n0 = p.1.length
  ways : ∀ y, y ∈ p.2 → 1 ≤ y.length ∧ y.length + f ≤ 9

theorem PInv.step {st : St} {n0 f : Nat} {p : Wy × List Wy} (h : PInv st n0 f p) {y : Wy} {x : Int} (hx : x ∈ st.2.2) (hy : y.length + f ≤ 8) : PInv st n0 f (stepS y x p) := by
  unfold stepS
  split
  · exact h
  · rename_i hn
    refine ⟨?_, fun z hz => ?_, ?_, fun z hz => ?_⟩
    · rw [List.nodup_append]
      refine ⟨h.nodup, by simp, fun a ha b hb => ?_⟩
      simp at hb
      subst hb
      exact fun e => hn (e ▸ ha)
    · simp only [List.mem_append, List.mem_singleton] at hz
      rcases hz with hz | rfl
      · exact h.sub z hz
      · exact hx
    · have := h.len
      simp only [List.length_append, List.length_singleton]
      omega
    · simp only [List.mem_append, List.mem_singleton] at hz
      rcases hz with hz | rfl
      · exact h.ways z hz
      · simp only [List.length_append, List.length_singleton]
        omega
theorem PInv.small {st : St} {n0 f : Nat} {p : Wy × List Wy} (h : PInv st n0 f p) : p.1.length ≤ st.2.2.length := nodup_len h.nodup h.sub

theorem waitsUp_mem (st : St) (i : Nat) : ∀ k, k ≤ st.2.2.length → ∀ x, x ∈ waitsUp st i k → x ∈ st.2.2
  | 0, _, x, hx => by simp [waitsUp] at hx
  | k + 1, hk, x, hx => by
    simp only [waitsUp, List.mem_append] at hx
    rcases hx with hx | hx
    · exact waitsUp_mem st i k (by omega) x hx
    · cases hc : (tAt st.2.1 k == el (tPath st.2.1 i) 0)
      · simp [hc] at hx
      · simp [hc] at hx
        subst hx
        exact el_mem (by omega)
theorem waitsF_mem {st : St} (hr : RightSt st) {z x : Int} (h : x ∈ waitsF st z) : x ∈ st.2.2 := by
  unfold waitsF at h
  cases hc : (decide (stOk st = 0) && (decide (nameIx st.2.2 z < st.2.2.length) && !canB st (nameIx st.2.2 z)))
  · simp [hc] at h
  · rw [hc] at h
    exact waitsUp_mem st _ _ (by have := hr.lens; omega) x h
theorem RightSt.name {st : St} (h : RightSt st) {x : Int} (hx : x ∈ st.2.2) : 0 ≤ x ∧ x ≤ 1000 := by
  obtain ⟨k, hk, rfl⟩ := List.mem_iff_getElem.1 hx
  have := allUp_at h.names k hk
  simp only [nameB, inR, Bool.and_eq_true, decide_eq_true_eq, el, List.getElem?_eq_getElem hk, Option.getD_some] at this
  exact this.1

theorem scanUp_inv {st : St} (hr : RightSt st) {n0 f : Nat} {p : Wy × List Wy} (h : PInv st n0 f p) {y : Wy} (hy : y.length + f ≤ 8) : ∀ k, k ≤ (nextOf st y).length → PInv st n0 f (scanUp y (nextOf st y) p k)
  | 0, _ => h
  | k + 1, hk => (scanUp_inv hr h hy k (by omega)).step (waitsF_mem hr (el_mem (by exact hk))) hy
theorem wyAt_mem {ls : List Wy} {i : Nat} (h : i < ls.length) : wyAt ls i ∈ ls := by simp [wyAt, h]
theorem lineUp_inv {st : St} (hr : RightSt st) {n0 f : Nat} {p : Wy × List Wy} (h : PInv st n0 f p) {ls : List Wy} (hy : ∀ y, y ∈ ls → y.length + f ≤ 8) : ∀ i, i ≤ ls.length → PInv st n0 f (lineUp st ls p i)
  | 0, _ => h
  | i + 1, hi => scanUp_inv hr (lineUp_inv hr h hy i (by omega)) (hy _ (wyAt_mem (by omega))) _ (Nat.le_refl _)

/-- ways, in a row of its own; each of its own -/
structure Ways (B : Nat) (w : World) (v : Value) (us : List Value) (ls : List Wy) : Prop where
  row : w.ownsRow B 23 1 v us.length us
  len : us.length = ls.length
  each : ∀ i u, us[i]? = some u → OwnInts B w u (wyAt ls i)
  apart : ∀ u, u ∈ us → ∀ k, u.ownBlock = some k → v.ownBlock ≠ some k
/-- its blocks -/
def FW (v : Value) (us : List Value) : Nat → Prop := fun k => v.ownBlock = some k ∨ ∃ u, u ∈ us ∧ u.ownBlock = some k

theorem Ways.nil (B : Nat) (w : World) : Ways B w (.slice none 0 0) [] [] := ⟨World.ownsRow_nil w B 23 1, rfl, fun i u h => by simp at h, fun u h => by simp at h⟩
theorem Ways.lo {B : Nat} {w : World} {v : Value} {us : List Value} {ls : List Wy} (h : Ways B w v us ls) {k : Nat} (hk : FW v us k) : B ≤ k ∧ k < w.heap.size := by
  rcases hk with hk | ⟨u, hu, hk⟩
  · exact ownBlock_lt h.row hk
  · obtain ⟨i, hi, rfl⟩ := List.mem_iff_getElem.1 hu
    exact ownBlock_lt (h.each i _ (List.getElem?_eq_getElem hi)) hk
theorem Ways.keep {B : Nat} {w w' : World} {v : Value} {us : List Value} {ls : List Wy} (h : Ways B w v us ls) (hb : ∀ k, FW v us k → w'.heap[k]? = w.heap[k]?) : Ways B w' v us ls :=
  ⟨ownsRow_keep h.row (fun k hk => hb k (Or.inl hk)), h.len, fun i u hu => ownsRow_keep (h.each i u hu) (fun k hk => hb k (Or.inr ⟨u, List.mem_of_getElem? hu, hk⟩)), h.apart⟩
theorem Ways.below {B : Nat} {w w' : World} {v : Value} {us : List Value} {ls : List Wy} (h : Ways B w v us ls) (hb : Below w.heap.size w w') : Ways B w' v us ls := h.keep (fun k hk => hb.block k (h.lo hk).2)
theorem Ways.lies {B : Nat} {w : World} {v : Value} {us : List Value} {ls : List Wy} (h : Ways B w v us ls) {i : Nat} (hi : i < ls.length) :
    ∃ g cap u a c, v = .slice (some ⟨g, 0, none⟩) ls.length cap ∧ us[i]? = some u ∧ u = .slice a (wyAt ls i).length c ∧ w.cell? ⟨g, i, none⟩ = some u ∧ OwnInts B w u (wyAt ls i) := by
  have hi' : i < us.length := by rw [h.len]; exact hi
  rcases h.row.2 with ⟨_, e⟩ | ⟨g, cap, cur, hv, hg, hh, h1, h2, h3, h4⟩
  · simp [e] at hi'
  · have hu := List.getElem?_eq_getElem hi'
    obtain ⟨a, c, e⟩ := (h.each i _ hu).form
    refine ⟨g, cap, us[i], a, c, by rw [hv, h.len], hu, e, ?_, h.each i _ hu⟩
    rw [cell_of_row w g i cur 23 (0, 0) hh, ← Array.getElem?_toList, take_get h4 (by omega)]
    exact hu
theorem Ways.form {B : Nat} {w : World} {v : Value} {us : List Value} {ls : List Wy} (h : Ways B w v us ls) : ∃ a cap, v = .slice a ls.length cap := by
  rcases h.row.2 with ⟨e, e2⟩ | ⟨g, cap, cur, hv, _⟩
  · have : ls.length = 0 := by simp [← h.len, e2]
    exact ⟨none, 0, by rw [e, this]⟩
  · exact ⟨_, cap, by rw [hv, h.len]⟩

/-- one way more -/
theorem Ways.snoc {B : Nat} {w wa w' : World} {v : Value} {us : List Value} {ls : List Wy} (h : Ways B w v us ls) (hba : Below w.heap.size w wa) {u : Value} {y : Wy} {g cap : Nat}
    (hu : OwnInts B w u y) (hun : ∀ k, u.ownBlock = some k → v.ownBlock ≠ some k)
    (hown : w'.ownsRow B 23 1 (.slice (some ⟨g, 0, none⟩) (us.length + 1) cap) (us.length + 1) (us ++ [u]))
    (hgrow : wa.grownBy w' v.ownBlock) (hat : v.ownBlock = some g ∨ wa.heap.size ≤ g) :
    Ways B w' (.slice (some ⟨g, 0, none⟩) (us.length + 1) cap) (us ++ [u]) (ls ++ [y]) := by
  have hfar : ∀ k, k < w.heap.size → v.ownBlock ≠ some k → w'.heap[k]? = w.heap[k]? := fun k hk hne => (hgrow.block k (Nat.lt_of_lt_of_le hk hba.size) (fun e => hne e.symm)).trans (hba.block k hk)
  have hk1 : ∀ x, x ∈ us ++ [u] → ∀ k, x.ownBlock = some k → k < w.heap.size ∧ v.ownBlock ≠ some k := fun x hx k hk => by
    simp only [List.mem_append, List.mem_singleton] at hx
    rcases hx with hx | rfl
    · exact ⟨(h.lo (Or.inr ⟨x, hx, hk⟩)).2, h.apart x hx k hk⟩
    · exact ⟨(ownBlock_lt hu hk).2, hun k hk⟩
  refine ⟨by simpa using hown, by simp [h.len], fun i x hx => ?_, fun x hx k hk e => ?_⟩
  · have hm := List.mem_of_getElem? hx
    by_cases e : i < us.length
    · rw [List.getElem?_append_left e] at hx
      have e2 : wyAt (ls ++ [y]) i = wyAt ls i := by unfold wyAt; rw [List.getElem?_append_left (by rw [← h.len]; exact e)]
      rw [e2]
      exact ownsRow_keep (h.each i x hx) (fun k hk => let ⟨q1, q2⟩ := hk1 x hm k hk; hfar k q1 q2)
    · have hi : i = us.length := by
        have := (List.getElem?_eq_some_iff.1 hx).1
        simp at this
        omega
      subst hi
      simp at hx
      subst hx
      have e2 : wyAt (ls ++ [y]) us.length = y := by simp [wyAt, h.len]
      rw [e2]
      exact ownsRow_keep hu (fun k hk => let ⟨q1, q2⟩ := hk1 u hm k hk; hfar k q1 q2)
  · obtain ⟨q1, q2⟩ := hk1 x hx k hk
    simp [Value.ownBlock] at e
    subst e
    rcases hat with hat | hat
    · exact q2 hat
    · have := hba.size
      omega

/-- the ways of this round and of the next one; M: the blocks in which is kept who was met -/
structure BF (B : Nat) (w : World) (M : Nat → Prop) (lv : Value) (lus : List Value) (ls : List Wy) (nv : Value) (nus : List Value) (ns : List Wy) : Prop where
  line : Ways B w lv lus ls
  next : Ways B w nv nus ns
  sepN : ∀ k, FW lv lus k → nv.ownBlock ≠ some k
  sepM : ∀ k, FW lv lus k ∨ FW nv nus k → ¬ M k

theorem BF.below {B : Nat} {w w' : World} {M : Nat → Prop} {lv nv : Value} {lus nus : List Value} {ls ns : List Wy} (h : BF B w M lv lus ls nv nus ns) (hb : Below w.heap.size w w') : BF B w' M lv lus ls nv nus ns := ⟨h.line.below hb, h.next.below hb, h.sepN, h.sepM⟩
/-- a change in what is kept of whom was met -/
theorem BF.met {B : Nat} {w w' : World} {M M' : Nat → Prop} {lv nv : Value} {lus nus : List Value} {ls ns : List Wy} (h : BF B w M lv lus ls nv nus ns) (hc : ∀ k, k < w.heap.size → ¬ M k → w'.heap[k]? = w.heap[k]?) (hM : ∀ k, M' k → M k ∨ w.heap.size ≤ k) : BF B w' M' lv lus ls nv nus ns :=
  ⟨h.line.keep (fun k hk => hc k (h.line.lo hk).2 (h.sepM k (Or.inl hk))), h.next.keep (fun k hk => hc k (h.next.lo hk).2 (h.sepM k (Or.inr hk))), h.sepN, fun k hk e => by
    rcases hM k e with e | e
    · exact h.sepM k hk e
    · rcases hk with hk | hk
      · have := (h.line.lo hk).2
        omega
      · have := (h.next.lo hk).2
        omega⟩
theorem BF.snoc {B : Nat} {w wa w' : World} {M : Nat → Prop} {lv nv : Value} {lus nus : List Value} {ls ns : List Wy} (h : BF B w M lv lus ls nv nus ns) (hba : Below w.heap.size w wa) {u : Value} {y : Wy} {g cap : Nat}
    (hu : OwnInts B w u y) (hun : ∀ k, u.ownBlock = some k → ¬ M k ∧ nv.ownBlock ≠ some k) (hMlt : ∀ k, M k → k < w.heap.size)
    (hown : w'.ownsRow B 23 1 (.slice (some ⟨g, 0, none⟩) (nus.length + 1) cap) (nus.length + 1) (nus ++ [u]))
    (hgrow : wa.grownBy w' nv.ownBlock) (hat : nv.ownBlock = some g ∨ wa.heap.size ≤ g) :
    BF B w' M lv lus ls (.slice (some ⟨g, 0, none⟩) (nus.length + 1) cap) (nus ++ [u]) (ns ++ [y]) := by
  have hfar : ∀ k, k < w.heap.size → nv.ownBlock ≠ some k → w'.heap[k]? = w.heap[k]? := fun k hk hne => (hgrow.block k (Nat.lt_of_lt_of_le hk hba.size) (fun e => hne e.symm)).trans (hba.block k hk)
  refine ⟨h.line.keep (fun k hk => hfar k (h.line.lo hk).2 (h.sepN k hk)), h.next.snoc hba hu (fun k hk => (hun k hk).2) hown hgrow hat, fun k hk e => ?_, fun k hk hm => ?_⟩
  · simp [Value.ownBlock] at e
    subst e
    rcases hat with hat | hat
    · exact h.sepN g hk hat
    · have := (h.line.lo hk).2
      have := hba.size
      omega
  · rcases hk with hk | hk | ⟨x, hx, hk⟩
    · exact h.sepM k (Or.inl hk) hm
    · simp [Value.ownBlock] at hk
      subst hk
      rcases hat with hat | hat
      · exact h.sepM g (Or.inr (Or.inl hat)) hm
      · have := hMlt g hm
        have := hba.size
        omega
    · simp only [List.mem_append, List.mem_singleton] at hx
      rcases hx with hx | rfl
      · exact h.sepM k (Or.inr (Or.inr ⟨x, hx, hk⟩)) hm
      · exact (hun k hk).1 hm
/-- the next round -/
theorem BF.turn {B : Nat} {w : World} {M : Nat → Prop} {lv nv : Value} {lus nus : List Value} {ls ns : List Wy} (h : BF B w M lv lus ls nv nus ns) : BF B w M nv nus ns (.slice none 0 0) [] [] :=
  ⟨h.next, Ways.nil _ _, fun k hk e => by simp [Value.ownBlock] at e, fun k hk => by
    rcases hk with hk | hk | ⟨x, hx, _⟩
    · exact h.sepM k (Or.inr hk)
    · simp [Value.ownBlock] at hk
    · simp at hx⟩
end Go.Proofs.Ytmjjigdnoiphbaa

/-
  spec.l2ring.
-/
namespace Go.Proofs.Ytmjjigdnoiphbaa
open Go.RowKit Go.Deep
set_option linter.unusedVariables false

theorem own_one (w : World) (x : Value) (t : TypeId) {B : Nat} (hB : B ≤ w.heap.size) : (w.alloc (.cells #[x] t)).ownsRow B t 1 (.slice (some ⟨w.heap.size, 0, none⟩) 1 1) 1 [x] :=
  ⟨rfl, Or.inr ⟨w.heap.size, 1, #[x], rfl, hB, heap_alloc_new _ _, Nat.le_refl _, by decide, rfl, rfl⟩⟩
theorem Ways.one (w : World) (B : Nat) (s : Int) (hB : B ≤ w.heap.size) : Ways B ((w.alloc (.cells #[.int .i64 s] 3)).alloc (.cells #[.slice (some ⟨w.heap.size, 0, none⟩) 1 1] 23)) (.slice (some ⟨w.heap.size + 1, 0, none⟩) 1 1) [.slice (some ⟨w.heap.size, 0, none⟩) 1 1] [[s]] := by
  have h1 : (w.alloc (.cells #[.int .i64 s] 3)).ownsRow B 3 1 (.slice (some ⟨w.heap.size, 0, none⟩) 1 1) 1 [.int .i64 s] := own_one w (.int .i64 s) 3 hB
  have h2 : ((w.alloc (.cells #[.int .i64 s] 3)).alloc (.cells #[.slice (some ⟨w.heap.size, 0, none⟩) 1 1] 23)).ownsRow B 23 1 (.slice (some ⟨(w.alloc (.cells #[.int .i64 s] 3)).heap.size, 0, none⟩) 1 1) 1 [.slice (some ⟨w.heap.size, 0, none⟩) 1 1] := own_one (w.alloc (.cells #[.int .i64 s] 3)) (.slice (some ⟨w.heap.size, 0, none⟩) 1 1) 23 (by simp; omega)
  refine ⟨by simpa using h2, rfl, fun i u hu => ?_, fun u hu k hk e => ?_⟩
  · have hi : i = 0 := by
      have := (List.getElem?_eq_some_iff.1 hu).1
      simp at this
      exact this
    subst hi
    simp at hu
    subst hu
    exact ownsRow_below (show OwnInts B _ _ [s] from h1) (Joins.below_alloc1 _ _)
  · simp at hu
    subst hu
    simp [Value.ownBlock] at hk e
    omega

set_option maxRecDepth 4000 in
set_option maxHeartbeats 16000000 in
theorem l2ring_any (v : Value) (st : St) (s : Int) (w : World) (h : StateAt w v st) (hr : RightSt st) (hs : s ∈ st.2.2) :
    Calls Try.prog 61 #[v, .int .i64 s] w fun e w' => ∃ r, e = .returned r ∧ OwnInts w.heap.size w' r (ringFromF st s) ∧ Below w.heap.size w w' := by
  have HS := hide h
  have HR := hide hr
  obtain ⟨a1, q1, a2, q2, a3, q3, rfl⟩ := h.form
  obtain ⟨l1, l2, l3, l4⟩ := hr.lens
  have HL4 := hide l4
  clear h hr l4 hs
  have hmk : ∀ w : World, (Instr.makeSlice 115 (.int .i64 (1001 : Int)) (.int .i64 (1001 : Int))).run Try.prog w = .ok (.slice (some ⟨w.heap.size, 0, none⟩) 1001 1001) (w.alloc (.cells (madeCells #[.bool false] 1001) 4)) := fun w => run_make_row' (P := Try.prog) 115 4 (.bool false) 1 Try.underlying115 Try.infoBool rfl .i64 .i64 1001 (by omega) (by omega) w
  go_enter Try.func61, Try.ntmps61
  go_wp2_with fail
  clear hmk
  obtain ⟨z, hz⟩ : ∃ z, z = w.heap.size := ⟨_, rfl⟩
  obtain ⟨V, hV⟩ : ∃ V, V = (((w.alloc (.cells #[.slice a1 st.1.length q1, .slice a2 st.2.1.length q2, .slice a3 st.2.2.length q3] 26)).alloc (.cells #[.int .i64 s] 3)).alloc (.cells #[.slice (some ⟨w.heap.size + 1, 0, none⟩) 1 1] 23)).alloc (.cells (madeCells #[.bool false] 1001) 4) := ⟨_, rfl⟩
  rw [← hV]
  have hbV : Below w.heap.size w V := by rw [hV]; exact (Joins.below_alloc3 _ _ _ _).trans ((Joins.below_alloc1 _ _).mono (by simp; omega))
  have hzV : V.heap.size = w.heap.size + 4 := by rw [hV]; simp
  have hW0 : Ways (w.heap.size + 1) V (.slice (some ⟨w.heap.size + 2, 0, none⟩) 1 1) [.slice (some ⟨w.heap.size + 1, 0, none⟩) 1 1] [[s]] := by
    rw [hV]
    have := Ways.one (w.alloc (.cells #[.slice a1 st.1.length q1, .slice a2 st.2.1.length q2, .slice a3 st.2.2.length q3] 26)) (w.heap.size + 1) s (by simp)
    rw [show (w.alloc (.cells #[.slice a1 st.1.length q1, .slice a2 st.2.1.length q2, .slice a3 st.2.2.length q3] 26)).heap.size = w.heap.size + 1 by simp] at this
    exact this.below (Joins.below_alloc1 _ _)
  have hrow0 : V.rowIs (w.heap.size + 3) 4 1001 (fun j => .bool (decide ((j : Int) ∈ ([] : Wy)))) := by
    rw [hV]
    have := World.rowIs_made (((w.alloc (.cells #[.slice a1 st.1.length q1, .slice a2 st.2.1.length q2, .slice a3 st.2.2.length q3] 26)).alloc (.cells #[.int .i64 s] 3)).alloc (.cells #[.slice (some ⟨w.heap.size + 1, 0, none⟩) 1 1] 23)) (.bool false) 1001 4
    simpa using this
  have v0 : V.cell? ⟨w.heap.size, 0, none⟩ = some (.slice a1 st.1.length q1) := by rw [hV]; exact cell_later (Joins.below_alloc3 _ _ _ _) (by simp)
  have v1 : V.cell? ⟨w.heap.size, 1, none⟩ = some (.slice a2 st.2.1.length q2) := by rw [hV]; exact cell_later (Joins.below_alloc3 _ _ _ _) (by simp)
  have v2 : V.cell? ⟨w.heap.size, 2, none⟩ = some (.slice a3 st.2.2.length q3) := by rw [hV]; exact cell_later (Joins.below_alloc3 _ _ _ _) (by simp)
  rw [← hz] at hbV hzV hW0 hrow0 v0 v1 v2
  rw [← hz]
  rw [show z + 3 = z + 1 + 1 + 1 by omega] at hrow0
  obtain ⟨sb, hsb⟩ : ∃ sb, z + 1 + 1 + 1 = sb := ⟨_, rfl⟩
  rw [hsb] at hrow0 ⊢
  have HSB : Hid (sb = z + 3) := show sb = z + 3 by omega
  clear hsb
  have HV0 := hide v0
  have HV1 := hide v1
  have HV2 := hide v2
  have HBV := hide hbV
  have HZV := hide hzV
  have HZ := hide hz
  have HW0 := hide hW0
  have HR0 := hide hrow0
  clear hV hbV hzV hW0 hrow0 v0 v1 v2 hz
  go_loopg [5] 7 (fun f lv wr => ∃ ls seen lus, BF (z + 1) wr (fun k => k = sb) lv lus ls (.slice none 0 0) [] [] ∧ wr.rowIs sb 4 1001 (fun j => .bool (decide ((j : Int) ∈ seen))) ∧ Below (z + 1) V wr ∧ ringR st s f ls seen = ringFromF st s ∧ PInv st seen.length f (seen, []) ∧ (∀ y, y ∈ ls → 1 ≤ y.length ∧ y.length + f ≤ 8) ∧ (ls = [] ∨ 7 ≤ f + seen.length) ∧ ls.length ≤ 5)
  case atStart =>
    refine ⟨[[s]], [], _, ⟨HW0.out, Ways.nil _ _, fun k hk e => by simp [Value.ownBlock] at e, fun k hk e => ?_⟩, HR0.out, Below.refl _ _, rfl, ⟨by simp, fun x hx => by simp at hx, rfl, fun y hy => by simp at hy⟩, fun y hy => by simp at hy; subst hy; simp, Or.inr (by simp), by simp⟩
    have e3 := HSB.out
    have e4 : k = sb := e
    rcases hk with hk | hk
    · rcases hk with hk | ⟨u, hu, hk⟩
      · simp [Value.ownBlock] at hk; omega
      · simp at hu; subst hu; simp [Value.ownBlock] at hk; omega
    · rcases hk with hk | ⟨u, hu, _⟩
      · simp [Value.ownBlock] at hk
      · simp at hu
  case round =>
    obtain ⟨ls, seen, lus, hbf, hrow, hbz, hans, hpi, hys, hfu, hl5⟩ := hrel
    obtain ⟨la, lc, rfl⟩ := hbf.line.form
    by_cases hne : 0 < ls.length
    · have hs5 : seen.length ≤ 5 := by
        have h1 := hpi.small
        have h2 := HL4.out
        simp only at h1
        omega
      obtain ⟨f, rfl⟩ : ∃ f, gk = f + 1 := by
        rcases hfu with e | e
        · rw [e] at hne; simp at hne
        · exact ⟨gk - 1, by omega⟩
      have HBF := hide hbf
      have HROW := hide hrow
      have HBZ := hide hbz
      have HANS := hide hans
      have HPI := hide hpi
      have HYS := hide hys
      have HFU := hide hfu
      have HP := hide (fun i hi => lineUp_inv HR.out hpi (fun y hy => (hys y hy).2) i hi)
      clear hbf hrow hbz hans hpi hys hfu
      go_wp2_with fail
      go_loopw [7, 21] (fun nv j wr => ∃ i : Nat, i ≤ ls.length ∧ j = .int .i64 i ∧ ∃ nus, BF (z + 1) wr (fun k => k = sb) (.slice la ls.length lc) lus ls nv nus (lineUp st ls (seen, []) i).2 ∧ wr.rowIs sb 4 1001 (fun q => .bool (decide ((q : Int) ∈ (lineUp st ls (seen, []) i).1))) ∧ Below (z + 1) V wr ∧ ∀ q, q < i → hitB st s (wyAt ls q) = false) (fun _ j _ => ls.length - (intOf j).toNat)
      case atStart => exact ⟨0, Nat.zero_le _, rfl, [], HBF.out, HROW.out, HBZ.out, fun q hq => absurd hq (Nat.not_lt_zero _)⟩
      case round =>
        obtain ⟨i, hi, rfl, nus, hbf, hrow, hbz, hno⟩ := hrel
        by_cases hlt : i < ls.length
        · obtain ⟨g, cap, u, ua, uc, hv, hu, hue, hcell, hown⟩ := hbf.line.lies hlt
          simp only [Value.slice.injEq] at hv
          obtain ⟨rfl, -, rfl⟩ := hv
          subst hue
          have hyl := HYS.out _ (wyAt_mem hlt)
          have HPk := hide (HP.out i hi)
          have HLU := hide (show lineUp st ls (seen, []) (i + 1) = scanUp (wyAt ls i) (nextOf st (wyAt ls i)) (lineUp st ls (seen, []) i) (nextOf st (wyAt ls i)).length from rfl)
          have HHIT := hide (fun (h : hitB st s (wyAt ls i) = true) => ringR_hit (f := f) (seen := seen) hlt h hno)
          have HNO := hide hno
          have HSC := hide (fun k hk => scanUp_inv HR.out (HP.out i hi) hyl.2 k hk)
          obtain ⟨y, hy⟩ : ∃ y, wyAt ls i = y := ⟨_, rfl⟩
          have HY := hide hy
          rw [hy] at hyl hu hcell hown HLU HHIT HSC
          obtain ⟨m, hm⟩ : ∃ m, y.length = m + 1 := ⟨y.length - 1, by omega⟩
          obtain ⟨yb, yoff, rfl, yc⟩ := IntsAt.cellAt hown.at m (by omega)
          obtain ⟨xs, hxs⟩ : ∃ xs, waitsF st (el y m) = xs := ⟨_, rfl⟩
          have hnx : nextOf st y = xs := by unfold nextOf lastOf; rw [hm]; exact hxs
          have hx5 : xs.length ≤ 5 := by rw [← hxs]; exact waitsF_le _ _
          have HXM : Hid (∀ k, k < xs.length → 0 ≤ el xs k ∧ el xs k ≤ 1000) := fun k hk => HR.out.name (waitsF_mem HR.out (z := el y m) (by rw [hxs]; exact el_mem hk))
          rw [hnx] at HLU HSC
          have HH2 : Hid (∀ k, k < xs.length → el xs k = s → ringFromF st s = y) := fun k hk e => by
            rw [← HANS.out]
            refine HHIT.out (hitB_at (k := k) ?_ ?_)
            · rw [hnx]; exact hk
            · rw [hnx]; exact e
          have HH3 : Hid ((∀ k, k < xs.length → el xs k ≠ s) → hitB st s y = false) := fun h => hitB_not (by rw [hnx]; exact h)
          have d0 := (hbz.cell (p := ⟨z, 0, none⟩) (by simp)).trans HV0.out
          have d1 := (hbz.cell (p := ⟨z, 1, none⟩) (by simp)).trans HV1.out
          have d2 := (hbz.cell (p := ⟨z, 2, none⟩) (by simp)).trans HV2.out
          have HXS := hide hxs
          have HBFi := hide hbf
          have HROWi := hide hrow
          have HBZi := hide hbz
          have hwr : IntKind.i64.wrap ((y.length : Int) - 1) = (m : Int) := by rw [hm, IntKind.wrap_i64] <;> omega
          have hml : (m : Int) < (y.length : Int) := by omega
          have hm0 : (0 : Int) ≤ (m : Int) := by omega
          have hy8 : y.length ≤ 8 := by omega
          have HOWN := hide hown
          have HU := hide hu
          have HSW := hide (HS.out.below (by rw [← HZ.out]; exact HBV.out.trans (hbz.mono (by omega))))
          clear hy hnx hxs hbf hrow hbz hno hm hown hu HHIT HBF HROW HBZ
          go_wp2_with fail
          go_region_held3 (fun w' => w'.cell? ⟨z, 0, none⟩ = some (.slice a1 st.1.length q1) ∧ w'.cell? ⟨z, 1, none⟩ = some (.slice a2 st.2.1.length q2) ∧ w'.cell? ⟨z, 2, none⟩ = some (.slice a3 st.2.2.length q3) ∧ w'.cell? ⟨yb, yoff + m, none⟩ = some (.int .i64 (el y m)))
            (first | (exact ⟨cell_later hb2 (by exact d0), cell_later hb2 (by exact d1), cell_later hb2 (by exact d2), cell_later hb2 (by exact yc)⟩) | go_keep)
            (first | (go_at_call 96; refine (specWaits_any _ st (el y m) _ (StateAt.below HSW.out (Joins.below_draws _ _ 1))).mono ?_; rw [HXS.out]; rintro e w2 ⟨r, rfl, hr, hb2⟩; obtain ⟨ra, rc, rfl⟩ := hr.form))
          rename_i hh
          have hz3 : sb < wr.heap.size := HROWi.out.lt
          have hbD : Below wr.heap.size wr w2 := below_tail (Joins.below_draws _ _ 1) hb2
          have HBF2 := hide (HBFi.out.below hbD)
          have HROW2 := hide (rowIs_keep HROWi.out (hbD.block sb hz3))
          have HBZ2 := hide (HBZi.out.trans (hbD.mono (by have := HSB.out; omega)))
          have HOWN2 := hide (HOWN.out.below hbD)
          have HRX : Hid (OwnInts wr.heap.size w2 (.slice ra xs.length rc) xs) := hr
          have hw2 : wr.heap.size ≤ w2.heap.size := hbD.size
          have HNL : Hid (∀ k, u7.ownBlock = some k → k < wr.heap.size) := fun k hk => (HBFi.out.next.lo (Or.inl hk)).2
          obtain ⟨W1, hW1⟩ : ∃ W1, W1 = wr.heap.size := ⟨_, rfl⟩
          rw [← hW1] at HRX HNL hz3 hw2
          clear hh d0 d1 d2 yc hb2 hr hbD HBFi HROWi HBZi HOWN hW1
          obtain ⟨p, hp⟩ : ∃ p, lineUp st ls (seen, []) i = p := ⟨_, rfl⟩
          rw [hp] at HLU HSC HPk HBF2 HROW2
          clear hp
          go_wp2_with fail
          go_loopw [7, 34] (fun nv j wr => ∃ k : Nat, k ≤ xs.length ∧ j = .int .i64 k ∧ ∃ nus, BF (z + 1) wr (fun k => k = sb) (.slice (some ⟨g, 0, none⟩) ls.length lc) lus ls nv nus (scanUp y xs p k).2 ∧ wr.rowIs sb 4 1001 (fun q => .bool (decide ((q : Int) ∈ (scanUp y xs p k).1))) ∧ Below (z + 1) V wr ∧ OwnInts W1 wr (.slice ra xs.length rc) xs ∧ (∀ b, Value.ownBlock (.slice ra xs.length rc) = some b → nv.ownBlock ≠ some b) ∧ ∀ q, q < k → el xs q ≠ s) (fun _ j _ => xs.length - (intOf j).toNat)
          case atStart => exact ⟨0, Nat.zero_le _, rfl, nus, HBF2.out, HROW2.out, HBZ2.out, HRX.out, fun b hb e => by have u1 := (ownBlock_lt HRX.out hb).1; have u2 := HNL.out b e; omega, fun q hq => absurd hq (Nat.not_lt_zero _)⟩
          case round =>
            obtain ⟨k, hk, rfl, nus3, hbf, hrow, hbz, hrx, hsep, hno⟩ := hrel
            by_cases hlt3 : k < xs.length
            · obtain ⟨rb, roff, rfl, rx⟩ := IntsAt.cellAt hrx.at k hlt3
              obtain ⟨x0, x1⟩ := HXM.out k hlt3
              have HSK := hide (show scanUp y xs p (k + 1) = stepS y (el xs k) (scanUp y xs p k) from rfl)
              have HH2k := hide (HH2.out k hlt3)
              have hPI := HSC.out k (by omega)
              have hps := hPI.small
              have hpl := hPI.len
              have hl4 := HL4.out
              have hp5 : (scanUp y xs p k).1.length ≤ 5 := by omega
              have hn5 : (scanUp y xs p k).2.length ≤ 5 := by omega
              obtain ⟨x, hx⟩ : ∃ x, el xs k = x := ⟨_, rfl⟩
              have HX := hide hx
              rw [hx] at HSK HH2k x0 x1 rx
              obtain ⟨pk, hpk⟩ : ∃ pk, scanUp y xs p k = pk := ⟨_, rfl⟩
              rw [hpk] at HSK hbf hrow hp5 hn5
              have hxt : x.toNat < 1001 := by omega
              have hon := hrow.cell hxt
              have hfz := hrow.frozen x.toNat
              have hxi : ((x.toNat : Nat) : Int) = x := by omega
              simp only [hxi] at hon
              have hx2 : x < 1001 := by omega
              have HBF3 := hide hbf
              have HROW3 := hide hrow
              have HBZ3 := hide hbz
              have HRX3 := hide hrx
              have HSEP3 := hide hsep
              have HNO3 := hide hno
              clear hbf hrow hbz hrx hsep hno hPI hps hpl hl4 hx hpk hxi
              cases hxs : (x == s) with
              | true =>
                have HANSy := hide (HH2k.out (by simpa using hxs))
                go_wp2_with fail
                go_ret
                have hfin : OwnInts (z + 1) wr (.slice (some ⟨yb, yoff, none⟩) y.length uc) y := by
                  have := HBF3.out.line.each i _ HU.out
                  rw [HY.out] at this
                  exact this
                refine ⟨_, rfl, ?_, ?_⟩
                · rw [HANSy.out, ← HZ.out]
                  exact hfin.le (by omega)
                · rw [← HZ.out]
                  exact HBV.out.trans (HBZ3.out.mono (by omega))
              | false =>
                have HNE : Hid (x ≠ s) := show x ≠ s by simpa using hxs
                cases hin : decide (x ∈ pk.1) with
                | true =>
                  rw [hin] at hon
                  have HST := hide (show stepS y x pk = pk by unfold stepS; rw [if_pos (by simpa using hin)])
                  clear hin
                  go_wp2_with fail
                  go_roundw
                  case rel => exact ⟨k + 1, by omega, by go_num, nus3, by rw [HSK.out, HST.out]; exact HBF3.out, by rw [HSK.out, HST.out]; exact HROW3.out, HBZ3.out, HRX3.out, HSEP3.out, fun q hq => by
                    by_cases e : q = k
                    · subst e; rw [HX.out]; exact HNE.out
                    · exact HNO3.out q (by omega)⟩
                  case measure => simp [intOf]; omega
                | false =>
                  rw [hin] at hon
                  have HST := hide (show stepS y x pk = (pk.1 ++ [x], pk.2 ++ [y ++ [x]]) by unfold stepS; rw [if_neg (by simpa using hin)])
                  clear hin
                  have HW0 : Hid (∃ W0 : World, W0 = wr.setCell ⟨sb, x.toNat, none⟩ (.bool true)) := ⟨_, rfl⟩
                  obtain ⟨W0, hW0⟩ := HW0.out
                  have hsz0 : W0.heap.size = wr.heap.size := by rw [hW0]; simp [World.setCell]
                  have hblk : ∀ q, q ≠ sb → W0.heap[q]? = wr.heap[q]? := fun q hq => by rw [hW0]; exact Below.heap_setCell _ _ _ _ hq
                  have HBF4 : Hid (BF (z + 1) W0 (fun k => k = sb) (.slice (some ⟨g, 0, none⟩) ls.length lc) lus ls u7 nus3 pk.2) := HBF3.out.met (fun q _ hq => hblk q hq) (fun q hq => Or.inl hq)
                  have HROW4 : Hid (W0.rowIs sb 4 1001 (fun q => .bool (decide ((q : Int) ∈ pk.1 ++ [x])))) := by
                    rw [hW0]
                    refine (HROW3.out.set x.toNat (.bool true)).congr (fun q hq => ?_)
                    by_cases e : q = x.toNat
                    · subst e
                      rw [if_pos rfl]
                      have : ((x.toNat : Nat) : Int) = x := by omega
                      simp [this]
                    · rw [if_neg e]
                      have : ¬ (q : Int) = x := by omega
                      simp [this]
                  have HBZ4 : Hid (Below (z + 1) V W0) := by rw [hW0]; exact HBZ3.out.setCell (show z + 1 ≤ sb by have := HSB.out; omega) _
                  have HRX4 : Hid (OwnInts W1 W0 (.slice (some ⟨rb, roff, none⟩) xs.length rc) xs) := ownsRow_keep HRX3.out (fun q hq => hblk q (by have := (ownBlock_lt HRX3.out hq).1; omega))
                  have HYV : Hid (OwnInts (z + 1) W0 (.slice (some ⟨yb, yoff, none⟩) y.length uc) y) := by
                    have := HBF4.out.line.each i _ HU.out
                    rw [HY.out] at this
                    exact this
                  have hsz1 : z + 1 ≤ W0.heap.size := by have := HROW4.out.lt; have := HSB.out; omega
                  have hsbl : sb < W0.heap.size := HROW4.out.lt
                  have HSZ0 := hide hsz0
                  have HW0e := hide hW0
                  clear hW0 hsz0 hblk HBF3 HROW3 HBZ3 HRX3 HW0
                  have hy20 : y.length ≤ 1048576 := by omega
                  obtain ⟨i0, hi0, hz0, hz1, hz2⟩ := info_parts Try.infoInt
                  have HI0 := hide hi0
                  have HZ0 := hide hz0
                  have HZ1 := hide hz1
                  have HZ2 := hide hz2
                  obtain ⟨i1, hi1, hy0, hy1, hy2⟩ := info_parts Try.infoInts
                  have HI1 := hide hi1
                  have HY0 := hide hy0
                  have HY1 := hide hy1
                  have HY2 := hide hy2
                  clear hi0 hz0 hz1 hz2 hi1 hy0 hy1 hy2
                  have hE : OwnInts W0.heap.size (W0.alloc (.cells #[] 3)) (.slice (some ⟨wr.heap.size, 0, none⟩) 0 0) [] := by
                    rw [← HSZ0.out]
                    exact ownInts_made W0 _ (Nat.le_refl _)
                  have HE := hide hE
                  clear hE
                  go_wp2_with (first | (at_builtin; rw [← HW0e.out]; refine wpList_append_ints rfl _ _ rfl W0.heap.size _ _ y rfl rfl HE.out (HYV.out.below (Joins.below_alloc1 _ _)).at hy20 ?c1 ?_))
                  case c1 => simp
                  intro uv w4 hu4 hg4
                  have hb4 : Below W0.heap.size W0 w4 := below_grown (Joins.below_alloc1 W0 (.cells #[] 3)) HE.out hg4 (by simp) (Nat.le_refl _)
                  obtain ⟨ub, ucap, rfl⟩ := hu4.form
                  have HU4 := hide hu4
                  have HB4 := hide hb4
                  have hs4 : W0.heap.size ≤ w4.heap.size := hb4.size
                  clear hu4 hg4 hb4 HE
                  go_wp2_with (first | (at_builtin; refine wpList_append_lies _ rfl _ _ 23 rfl W0.heap.size 3 i0 (.int .i64 0) 1 8 Try.underlying23 HI0.out HZ0.out HZ1.out HZ2.out rfl (by decide) _ _ _ rfl (HU4.out.alloc _) ⟨w4.heap.size, 0, none⟩ 1 1 [.int .i64 x] rfl rfl ?c1 ?c2 (by decide) ?c3 ?c4 ?c5 _ rfl ?_))
                  case c1 => exact cell_one_new _ _ _
                  case c2 => intro u hu; simp at hu; subst hu; rfl
                  case c3 => unfold maxLen; omega
                  case c4 => omega
                  case c5 => simp; omega
                  intro g5 cap5 w5 hown5 hgrow5 _ _
                  have hO5 := OwnInts.snoc hown5
                  have hb5 : Below W0.heap.size W0 w5 := below_grown (HB4.out.alloc HB4.out.size (.cells #[.int .i64 x] 3)) (HU4.out.alloc (.cells #[.int .i64 x] 3)) hgrow5 (by simp; omega) (Nat.le_refl _)
                  have HO5 := hide hO5
                  have HB5 := hide hb5
                  have hs5' : W0.heap.size ≤ w5.heap.size := hb5.size
                  have HBF5 := hide (HBF4.out.below hb5)
                  clear hown5 hgrow5 hO5 hb5 HU4 HB4 hs4
                  have hnl : nus3.length ≤ 5 := by rw [HBF5.out.next.len]; exact hn5
                  go_wp2_with (first | (at_builtin; refine wpList_append_lies _ rfl _ _ 118 rfl (z + 1) 23 i1 (.slice none 0 0) 1 24 Try.underlying118 HI1.out HY0.out HY1.out HY2.out rfl (by decide) u7 _ _ rfl (HBF5.out.next.row.alloc _) ⟨w5.heap.size, 0, none⟩ 1 1 [.slice (some ⟨g5, 0, none⟩) (y.length + 1) cap5] rfl rfl ?c1 ?c2 (by decide) ?c3 ?c4 ?c5 _ rfl ?_))
                  case c1 => exact cell_one_new _ _ _
                  case c2 => intro u hu; simp at hu; subst hu; rfl
                  case c3 => unfold maxLen; omega
                  case c4 => omega
                  case c5 => simp; omega
                  intro g6 cap6 w6 hown6 hgrow6 hat6 _
                  have hba := Joins.below_alloc1 w5 (.cells #[.slice (some ⟨g5, 0, none⟩) (y.length + 1) cap5] 23)
                  have hlo5 := fun q (hq : Value.ownBlock (.slice (some ⟨g5, 0, none⟩) (y.length + 1) cap5) = some q) => (ownBlock_lt HO5.out hq).1
                  have hnlo := fun q (hq : u7.ownBlock = some q) => (HBF4.out.next.lo (Or.inl hq)).2
                  have HBF6 := hide (HBF5.out.snoc (y := y ++ [x]) hba (HO5.out.le hsz1) (fun q hq => ⟨fun e => by have := hlo5 q hq; have e' : q = sb := e; omega, fun e => by have := hlo5 q hq; have := hnlo q e; omega⟩) (fun q hq => by have e' : q = sb := hq; omega) hown6 hgrow6 (hat6.imp id (fun e => by rw [e]; simp)))
                  have HBZ6 : Hid (Below (z + 1) V w6) := (HBZ4.out.trans (HB5.out.mono hsz1)).trans (below_grown (hba.mono (by omega)) (HBF5.out.next.row.alloc _) hgrow6 (by simp; omega) (Nat.le_refl _))
                  have hfar6 : ∀ q, q < W0.heap.size → u7.ownBlock ≠ some q → w6.heap[q]? = W0.heap[q]? := fun q hq hne => by
                    rw [hgrow6.block q (by simp; omega) (fun e => hne e.symm), hba.block q (by omega), HB5.out.block q hq]
                  have HROW6 : Hid (w6.rowIs sb 4 1001 (fun q => .bool (decide ((q : Int) ∈ pk.1 ++ [x])))) := rowIs_keep HROW4.out (hfar6 sb hsbl (fun e => HBF4.out.sepM sb (Or.inr (Or.inl e)) rfl))
                  have HRX6 : Hid (OwnInts W1 w6 (.slice (some ⟨rb, roff, none⟩) xs.length rc) xs) := ownsRow_keep HRX4.out (fun q hq => hfar6 q (ownBlock_lt HRX4.out hq).2 (HSEP3.out q hq))
                  have HSEP6 : Hid (∀ b, Value.ownBlock (.slice (some ⟨rb, roff, none⟩) xs.length rc) = some b → Value.ownBlock (.slice (some ⟨g6, 0, none⟩) (nus3.length + 1) cap6) ≠ some b) := fun b hb e => by
                    have u1 := (ownBlock_lt HRX4.out hb).2
                    have u2 := HSEP3.out b hb
                    simp [Value.ownBlock] at e
                    subst e
                    rcases hat6 with h6 | h6
                    · exact u2 h6
                    · have u3 := HB5.out.size
                      first | omega | (simp at h6; omega)
                  clear hown6 hgrow6 hat6 hba hlo5 hnlo hfar6
                  go_wp2_with fail
                  go_roundw
                  case rel => exact ⟨k + 1, by omega, by go_num, _, by rw [HSK.out, HST.out]; exact HBF6.out, by rw [HSK.out, HST.out]; exact HROW6.out, HBZ6.out, HRX6.out, HSEP6.out, fun q hq => by
                    by_cases e : q = k
                    · subst e; rw [HX.out]; exact HNE.out
                    · exact HNO3.out q (by omega)⟩
                  case measure => simp [intOf]; omega
            · obtain rfl : k = xs.length := by omega
              have HBFe := hide hbf
              have HROWe := hide hrow
              have HBZe := hide hbz
              have HHe := hide (HH3.out (fun q hq => hno q hq))
              clear hbf hrow hbz hrx hsep hno
              go_wp2_with fail
              go_roundw
              case rel => exact ⟨i + 1, by omega, by go_num, nus3, by rw [HLU.out]; exact HBFe.out, by rw [HLU.out]; exact HROWe.out, HBZe.out, fun q hq => by
                by_cases e : q = i
                · subst e; rw [HY.out]; exact HHe.out
                · exact HNO.out q (by omega)⟩
              case measure => simp [intOf]; omega
        · obtain rfl : i = ls.length := by omega
          have HBFe := hide hbf
          have HROWe := hide hrow
          have HBZe := hide hbz
          have HANS2 := hide (ringR_none (f := f) (seen := seen) hno)
          have HPe := hide (HP.out ls.length (Nat.le_refl _))
          clear hbf hrow hbz hno
          go_wp2_with fail
          go_roundg f
          case measure => omega
          case rel =>
            have h1 := HPe.out.small
            have h2 := HL4.out
            have h3 := HPe.out.len
            refine ⟨_, _, nus, HBFe.out.turn, HROWe.out, HBZe.out, by rw [← HANS.out, HANS2.out], ⟨HPe.out.nodup, HPe.out.sub, by simp, fun y hy => by simp at hy⟩, fun y hy => ?_, ?_, by omega⟩
            · have := HPe.out.ways y hy
              omega
            · by_cases e : (lineUp st ls (seen, []) ls.length).2 = []
              · exact Or.inl e
              · right
                have e2 : 0 < (lineUp st ls (seen, []) ls.length).2.length := List.length_pos_iff.2 e
                rcases HFU.out with e3 | e3
                · rw [e3] at hne; simp at hne
                · omega
    · have hl0 : ls = [] := by
        cases ls with
        | nil => rfl
        | cons y r => exact absurd (by simp) hne
      have HA : Hid (ringFromF st s = []) := by rw [← hans, hl0]; exact ringR_nil _ _ _ _
      have HBZe := hide hbz
      clear hbf hrow hbz hans hpi hys hfu hl0
      go_wp2_with fail
      go_ret
      refine ⟨_, rfl, ?_, ?_⟩
      · rw [HA.out]
        exact OwnInts.nil _ _
      · rw [← HZ.out]
        exact HBV.out.trans (HBZe.out.mono (by omega))
end Go.Proofs.Ytmjjigdnoiphbaa

/-
  slices.Contains, impl.ringFrom.
-/
namespace Go.Proofs.Ytmjjigdnoiphbaa
open Go.RowKit Go.Deep
set_option linter.unusedVariables false

theorem nameRes_mem (ns : List Int) (x : Int) : decide (0 ≤ nameRes ns x) = decide (x ∈ ns) := by
  rw [decide_eq_decide]
  have hiff : nameIx ns x < ns.length ↔ x ∈ ns := by
    unfold nameIx
    rw [List.findIdx_lt_length]
    constructor
    · rintro ⟨y, hy, e⟩
      simp at e
      exact e ▸ hy
    · intro h
      exact ⟨x, h, by simp⟩
  rw [← hiff]
  unfold nameRes
  split <;> omega

set_option maxHeartbeats 800000 in
theorem contains_any (a : Option Addr) (l q : Nat) (ns : List Int) (x : Int) (w : World) (h : IntsAt w (.slice a l q) ns) (hl : ns.length ≤ 4611686018427387904) :
    Calls Try.prog 106 #[.slice a l q, .int .i64 x] w fun e w' => e = .returned (.bool (decide (x ∈ ns))) ∧ w = w' := by
  have H := hide h
  have HE := hide (nameRes_mem ns x)
  clear h
  go_enter Try.func106, Try.ntmps106
  go_wp2_with fail
  refine (index_any _ _ _ ns x _ H.out hl).mono ?_
  rintro e w' ⟨rfl, rfl⟩
  go_wp2_with fail
  go_ret
  exact ⟨by rw [← HE.out]; rfl, rfl⟩

set_option maxRecDepth 4000 in
set_option maxHeartbeats 16000000 in
theorem ringFrom_any (v : Value) (st : St) (s : Int) (w : World) (h : StateAt w v st) (hcap : CapSt w v st.2.1.length) (hr : RightSt st) :
    Calls Try.prog 94 #[v, .int .i64 s] w fun e w' => ∃ r, e = .returned r ∧ OwnInts w.heap.size w' r (ringFromF st s) ∧ (ringFromF st s = [] → r = .slice none 0 0) ∧ Below w.heap.size w w' := by
  have HS := hide h
  have HR := hide hr
  have HCAP := hide hcap
  obtain ⟨a1, q1, a2, q2, a3, q3, rfl⟩ := h.form
  obtain ⟨l1, l2, l3, l4⟩ := hr.lens
  have HL4 := hide l4
  clear h hr l4 hcap
  go_enter Try.func94, Try.ntmps94
  go_wp2_with fail
  obtain ⟨z, hz⟩ : ∃ z, z = w.heap.size := ⟨_, rfl⟩
  obtain ⟨V, hV⟩ : ∃ V, V = ((w.alloc (.cells #[.slice a1 st.1.length q1, .slice a2 st.2.1.length q2, .slice a3 st.2.2.length q3] 26)).alloc (.cells #[.int .i64 s] 3)).alloc (.cells #[.slice (some ⟨w.heap.size + 1, 0, none⟩) 1 1] 23) := ⟨_, rfl⟩
  rw [← hV]
  have hbV : Below w.heap.size w V := by rw [hV]; exact Joins.below_alloc3 _ _ _ _
  have hzV : V.heap.size = w.heap.size + 3 := by rw [hV]; simp
  have hW0 : Ways (w.heap.size + 1) V (.slice (some ⟨w.heap.size + 2, 0, none⟩) 1 1) [.slice (some ⟨w.heap.size + 1, 0, none⟩) 1 1] [[s]] := by
    rw [hV]
    have := Ways.one (w.alloc (.cells #[.slice a1 st.1.length q1, .slice a2 st.2.1.length q2, .slice a3 st.2.2.length q3] 26)) (w.heap.size + 1) s (by simp)
    rw [show (w.alloc (.cells #[.slice a1 st.1.length q1, .slice a2 st.2.1.length q2, .slice a3 st.2.2.length q3] 26)).heap.size = w.heap.size + 1 by simp] at this
    exact this
  have v0 : V.cell? ⟨w.heap.size, 0, none⟩ = some (.slice a1 st.1.length q1) := by rw [hV]; exact cell_later (Joins.below_alloc2 _ _ _) (by simp)
  have v1 : V.cell? ⟨w.heap.size, 1, none⟩ = some (.slice a2 st.2.1.length q2) := by rw [hV]; exact cell_later (Joins.below_alloc2 _ _ _) (by simp)
  have v2 : V.cell? ⟨w.heap.size, 2, none⟩ = some (.slice a3 st.2.2.length q3) := by rw [hV]; exact cell_later (Joins.below_alloc2 _ _ _) (by simp)
  rw [← hz] at hbV hzV hW0 v0 v1 v2
  rw [← hz]
  have HV0 := hide v0
  have HV1 := hide v1
  have HV2 := hide v2
  have HBV := hide hbV
  have HZV := hide hzV
  have HZ := hide hz
  have HW0 := hide hW0
  clear hV hbV hzV hW0 v0 v1 v2 hz
  go_loopg [5, 6] 7 (fun f mv lv wr => ∃ ls seen lus, BF (z + 1) wr (fun k => mv.ownBlock = some k) lv lus ls (.slice none 0 0) [] [] ∧ OwnInts (z + 1) wr mv seen ∧ Below (z + 1) V wr ∧ ringR st s f ls seen = ringFromF st s ∧ PInv st seen.length f (seen, []) ∧ (∀ y, y ∈ ls → 1 ≤ y.length ∧ y.length + f ≤ 8) ∧ (ls = [] ∨ 7 ≤ f + seen.length) ∧ ls.length ≤ 5)
  case atStart =>
    exact ⟨[[s]], [], _, ⟨HW0.out, Ways.nil _ _, fun k hk e => by simp [Value.ownBlock] at e, fun k hk e => by simp [Value.ownBlock] at e⟩, OwnInts.nil _ _, Below.refl _ _, rfl, ⟨by simp, fun x hx => by simp at hx, rfl, fun y hy => by simp at hy⟩, fun y hy => by simp at hy; subst hy; simp, Or.inr (by simp), by simp⟩
  case round =>
    obtain ⟨ls, seen, lus, hbf, hrow, hbz, hans, hpi, hys, hfu, hl5⟩ := hrel
    obtain ⟨la, lc, rfl⟩ := hbf.line.form
    by_cases hne : 0 < ls.length
    · have hs5 : seen.length ≤ 5 := by
        have h1 := hpi.small
        have h2 := HL4.out
        simp only at h1
        omega
      obtain ⟨f, rfl⟩ : ∃ f, gk = f + 1 := by
        rcases hfu with e | e
        · rw [e] at hne; simp at hne
        · exact ⟨gk - 1, by omega⟩
      have HBF := hide hbf
      have HROW := hide hrow
      have HBZ := hide hbz
      have HANS := hide hans
      have HPI := hide hpi
      have HYS := hide hys
      have HFU := hide hfu
      have HP := hide (fun i hi => lineUp_inv HR.out hpi (fun y hy => (hys y hy).2) i hi)
      clear hbf hrow hbz hans hpi hys hfu
      go_wp2_with fail
      go_loopw [5, 7, 20] (fun mv nv j wr => ∃ i : Nat, i ≤ ls.length ∧ j = .int .i64 i ∧ ∃ nus, BF (z + 1) wr (fun k => mv.ownBlock = some k) (.slice la ls.length lc) lus ls nv nus (lineUp st ls (seen, []) i).2 ∧ OwnInts (z + 1) wr mv (lineUp st ls (seen, []) i).1 ∧ Below (z + 1) V wr ∧ ∀ q, q < i → hitB st s (wyAt ls q) = false) (fun _ _ j _ => ls.length - (intOf j).toNat)
      case atStart => exact ⟨0, Nat.zero_le _, rfl, [], HBF.out, HROW.out, HBZ.out, fun q hq => absurd hq (Nat.not_lt_zero _)⟩
      case round =>
        obtain ⟨i, hi, rfl, nus, hbf, hrow, hbz, hno⟩ := hrel
        by_cases hlt : i < ls.length
        · obtain ⟨g, cap, u, ua, uc, hv, hu, hue, hcell, hown⟩ := hbf.line.lies hlt
          simp only [Value.slice.injEq] at hv
          obtain ⟨rfl, -, rfl⟩ := hv
          subst hue
          have hyl := HYS.out _ (wyAt_mem hlt)
          have HPk := hide (HP.out i hi)
          have HLU := hide (show lineUp st ls (seen, []) (i + 1) = scanUp (wyAt ls i) (nextOf st (wyAt ls i)) (lineUp st ls (seen, []) i) (nextOf st (wyAt ls i)).length from rfl)
          have HHIT := hide (fun (h : hitB st s (wyAt ls i) = true) => ringR_hit (f := f) (seen := seen) hlt h hno)
          have HNO := hide hno
          have HSC := hide (fun k hk => scanUp_inv HR.out (HP.out i hi) hyl.2 k hk)
          obtain ⟨y, hy⟩ : ∃ y, wyAt ls i = y := ⟨_, rfl⟩
          have HY := hide hy
          rw [hy] at hyl hu hcell hown HLU HHIT HSC
          obtain ⟨m, hm⟩ : ∃ m, y.length = m + 1 := ⟨y.length - 1, by omega⟩
          obtain ⟨yb, yoff, rfl, yc⟩ := IntsAt.cellAt hown.at m (by omega)
          obtain ⟨xs, hxs⟩ : ∃ xs, waitsF st (el y m) = xs := ⟨_, rfl⟩
          have hnx : nextOf st y = xs := by unfold nextOf lastOf; rw [hm]; exact hxs
          have hx5 : xs.length ≤ 5 := by rw [← hxs]; exact waitsF_le _ _
          have HXM : Hid (∀ k, k < xs.length → 0 ≤ el xs k ∧ el xs k ≤ 1000) := fun k hk => HR.out.name (waitsF_mem HR.out (z := el y m) (by rw [hxs]; exact el_mem hk))
          rw [hnx] at HLU HSC
          have HH2 : Hid (∀ k, k < xs.length → el xs k = s → ringFromF st s = y) := fun k hk e => by
            rw [← HANS.out]
            refine HHIT.out (hitB_at (k := k) ?_ ?_)
            · rw [hnx]; exact hk
            · rw [hnx]; exact e
          have HH3 : Hid ((∀ k, k < xs.length → el xs k ≠ s) → hitB st s y = false) := fun h => hitB_not (by rw [hnx]; exact h)
          have d0 := (hbz.cell (p := ⟨z, 0, none⟩) (by simp)).trans HV0.out
          have d1 := (hbz.cell (p := ⟨z, 1, none⟩) (by simp)).trans HV1.out
          have d2 := (hbz.cell (p := ⟨z, 2, none⟩) (by simp)).trans HV2.out
          have HXS := hide hxs
          have HBFi := hide hbf
          have HROWi := hide hrow
          have HBZi := hide hbz
          have hwr : IntKind.i64.wrap ((y.length : Int) - 1) = (m : Int) := by rw [hm, IntKind.wrap_i64] <;> omega
          have hml : (m : Int) < (y.length : Int) := by omega
          have hm0 : (0 : Int) ≤ (m : Int) := by omega
          have hy8 : y.length ≤ 8 := by omega
          have HOWN := hide hown
          have HU := hide hu
          have hbw0 : Below w.heap.size w wr := by rw [← HZ.out]; exact HBV.out.trans (hbz.mono (by omega))
          have HSW := hide (HS.out.below hbw0)
          have HCW := hide (CapSt.below HCAP.out HS.out hbw0)
          have HPW : Hid (∀ i, i < st.2.1.length → (tPath st.2.1 i).length ≤ 4611686018427387904) := fun i hi => by have := (HR.out.train i hi).2.2.1; omega
          clear hbw0
          clear hy hnx hxs hbf hrow hbz hno hm hown hu HHIT HBF HROW HBZ
          go_wp2_with fail
          go_region_held3 (fun w' => w'.cell? ⟨z, 0, none⟩ = some (.slice a1 st.1.length q1) ∧ w'.cell? ⟨z, 1, none⟩ = some (.slice a2 st.2.1.length q2) ∧ w'.cell? ⟨z, 2, none⟩ = some (.slice a3 st.2.2.length q3) ∧ w'.cell? ⟨yb, yoff + m, none⟩ = some (.int .i64 (el y m)))
            (first | (exact ⟨cell_later hb2 (by exact d0), cell_later hb2 (by exact d1), cell_later hb2 (by exact d2), cell_later hb2 (by exact yc)⟩) | go_keep)
            (first | (go_at_call 28; refine (implWaits_any _ st (el y m) _ (StateAt.below HSW.out (Joins.below_draws _ _ 1)) (CapSt.below HCW.out HSW.out (Joins.below_draws _ _ 1)) HPW.out).mono ?_; rw [HXS.out]; rintro e w2 ⟨r, rfl, hr, hb2⟩; obtain ⟨ra, rc, rfl⟩ := hr.form))
          rename_i hh
          have hbD : Below wr.heap.size wr w2 := below_tail (Joins.below_draws _ _ 1) hb2
          have HBF2 := hide (HBFi.out.below hbD)
          have HROW2 := hide (HROWi.out.below hbD)
          have HBZ2 := hide (HBZi.out.trans (hbD.mono (by have h1 := HBZi.out.size; have h2 := HZV.out; omega)))
          have HOWN2 := hide (HOWN.out.below hbD)
          have HRX : Hid (OwnInts wr.heap.size w2 (.slice ra xs.length rc) xs) := hr
          have hw2 : wr.heap.size ≤ w2.heap.size := hbD.size
          have HNL : Hid (∀ k, u7.ownBlock = some k → k < wr.heap.size) := fun k hk => (HBFi.out.next.lo (Or.inl hk)).2
          have HML : Hid (∀ k, u5.ownBlock = some k → k < wr.heap.size) := fun k hk => (ownBlock_lt HROWi.out hk).2
          obtain ⟨W1, hW1⟩ : ∃ W1, W1 = wr.heap.size := ⟨_, rfl⟩
          rw [← hW1] at HRX HNL HML hw2
          clear hh d0 d1 d2 yc hb2 hr hbD HBFi HROWi HBZi HOWN hW1
          obtain ⟨p, hp⟩ : ∃ p, lineUp st ls (seen, []) i = p := ⟨_, rfl⟩
          rw [hp] at HLU HSC HPk HBF2 HROW2
          clear hp
          go_wp2_with fail
          go_loopw [5, 7, 33] (fun mv nv j wr => ∃ k : Nat, k ≤ xs.length ∧ j = .int .i64 k ∧ ∃ nus, BF (z + 1) wr (fun k => mv.ownBlock = some k) (.slice (some ⟨g, 0, none⟩) ls.length lc) lus ls nv nus (scanUp y xs p k).2 ∧ OwnInts (z + 1) wr mv (scanUp y xs p k).1 ∧ Below (z + 1) V wr ∧ OwnInts W1 wr (.slice ra xs.length rc) xs ∧ (∀ b, Value.ownBlock (.slice ra xs.length rc) = some b → nv.ownBlock ≠ some b ∧ mv.ownBlock ≠ some b) ∧ ∀ q, q < k → el xs q ≠ s) (fun _ _ j _ => xs.length - (intOf j).toNat)
          case atStart => exact ⟨0, Nat.zero_le _, rfl, nus, HBF2.out, HROW2.out, HBZ2.out, HRX.out, fun b hb => ⟨fun e => by have u1 := (ownBlock_lt HRX.out hb).1; have u2 := HNL.out b e; omega, fun e => by have u1 := (ownBlock_lt HRX.out hb).1; have u2 := HML.out b e; omega⟩, fun q hq => absurd hq (Nat.not_lt_zero _)⟩
          case round =>
            obtain ⟨k, hk, rfl, nus3, hbf, hrow, hbz, hrx, hsep, hno⟩ := hrel
            by_cases hlt3 : k < xs.length
            · obtain ⟨rb, roff, rfl, rx⟩ := IntsAt.cellAt hrx.at k hlt3
              obtain ⟨x0, x1⟩ := HXM.out k hlt3
              have HSK := hide (show scanUp y xs p (k + 1) = stepS y (el xs k) (scanUp y xs p k) from rfl)
              have HH2k := hide (HH2.out k hlt3)
              have hPI := HSC.out k (by omega)
              have hps := hPI.small
              have hpl := hPI.len
              have hl4 := HL4.out
              have hp5 : (scanUp y xs p k).1.length ≤ 5 := by omega
              have hn5 : (scanUp y xs p k).2.length ≤ 5 := by omega
              obtain ⟨x, hx⟩ : ∃ x, el xs k = x := ⟨_, rfl⟩
              have HX := hide hx
              rw [hx] at HSK HH2k x0 x1 rx
              obtain ⟨pk, hpk⟩ : ∃ pk, scanUp y xs p k = pk := ⟨_, rfl⟩
              rw [hpk] at HSK hbf hrow hp5 hn5
              obtain ⟨ma, mc, rfl⟩ := hrow.form
              have HBF3 := hide hbf
              have HROW3 := hide hrow
              have HBZ3 := hide hbz
              have HRX3 := hide hrx
              have HSEP3 := hide hsep
              have HNO3 := hide hno
              clear hbf hrow hbz hrx hsep hno hPI hps hpl hl4 hx hpk
              cases hxs : (x == s) with
              | true =>
                have HANSy := hide (HH2k.out (by simpa using hxs))
                go_wp2_with fail
                go_ret
                have hfin : OwnInts (z + 1) wr (.slice (some ⟨yb, yoff, none⟩) y.length uc) y := by
                  have := HBF3.out.line.each i _ HU.out
                  rw [HY.out] at this
                  exact this
                refine ⟨_, rfl, ?_, ?_, ?_⟩
                · rw [HANSy.out, ← HZ.out]
                  exact hfin.le (by omega)
                · intro e
                  rw [HANSy.out] at e
                  rw [e] at hyl
                  simp at hyl
                · rw [← HZ.out]
                  exact HBV.out.trans (HBZ3.out.mono (by omega))
              | false =>
                have HNE : Hid (x ≠ s) := show x ≠ s by simpa using hxs
                cases hin : decide (x ∈ pk.1) with
                | true =>
                  have HIN := hide hin
                  have HST := hide (show stepS y x pk = pk by unfold stepS; rw [if_pos (by simpa using hin)])
                  clear hin
                  go_wp2_with fail
                  refine (contains_any _ _ _ pk.1 x _ HROW3.out.at (by omega)).mono ?_
                  rintro e w' ⟨rfl, rfl⟩
                  rw [HIN.out]
                  go_wp2_with fail
                  go_roundw
                  case rel => exact ⟨k + 1, by omega, by go_num, nus3, by rw [HSK.out, HST.out]; exact HBF3.out, by rw [HSK.out, HST.out]; exact HROW3.out, HBZ3.out, HRX3.out, HSEP3.out, fun q hq => by
                    by_cases e : q = k
                    · subst e; rw [HX.out]; exact HNE.out
                    · exact HNO3.out q (by omega)⟩
                  case measure => simp [intOf]; omega
                | false =>
                  have HIN := hide hin
                  have HST := hide (show stepS y x pk = (pk.1 ++ [x], pk.2 ++ [y ++ [x]]) by unfold stepS; rw [if_neg (by simpa using hin)])
                  clear hin
                  go_wp2_with fail
                  refine (contains_any _ _ _ pk.1 x _ HROW3.out.at (by omega)).mono ?_
                  rintro e w' ⟨rfl, rfl⟩
                  rw [HIN.out]
                  obtain ⟨i0, hi0, hz0, hz1, hz2⟩ := info_parts Try.infoInt
                  have HI0 := hide hi0
                  have HZ0 := hide hz0
                  have HZ1 := hide hz1
                  have HZ2 := hide hz2
                  obtain ⟨i1, hi1, hy0, hy1, hy2⟩ := info_parts Try.infoInts
                  have HI1 := hide hi1
                  have HY0 := hide hy0
                  have HY1 := hide hy1
                  have HY2 := hide hy2
                  clear hi0 hz0 hz1 hz2 hi1 hy0 hy1 hy2
                  have hzr : z + 1 ≤ wr.heap.size := by have h1 := HBZ3.out.size; have h2 := HZV.out; omega
                  go_wp2_with (first | (at_builtin; refine wpList_append_lies _ rfl _ _ 23 rfl (z + 1) 3 i0 (.int .i64 0) 1 8 Try.underlying23 HI0.out HZ0.out HZ1.out HZ2.out rfl (by decide) _ _ _ rfl (HROW3.out.alloc _) ⟨wr.heap.size, 0, none⟩ 1 1 [.int .i64 x] rfl rfl ?c1 ?c2 (by decide) ?c3 ?c4 ?c5 _ rfl ?_))
                  case c1 => exact cell_one_new _ _ _
                  case c2 => intro u hu; simp at hu; subst hu; rfl
                  case c3 => unfold maxLen; omega
                  case c4 => omega
                  case c5 => simp; omega
                  intro g3 cap3 W0 hown3 hgrow3 hat3 _
                  have hba3 := Joins.below_alloc1 wr (.cells #[.int .i64 x] 3)
                  have HROW4 : Hid (OwnInts (z + 1) W0 (.slice (some ⟨g3, 0, none⟩) (pk.1.length + 1) cap3) (pk.1 ++ [x])) := OwnInts.snoc hown3
                  have hfar3 : ∀ q, q < wr.heap.size → Value.ownBlock (.slice ma pk.1.length mc) ≠ some q → W0.heap[q]? = wr.heap[q]? := fun q hq hne => by
                    rw [hgrow3.block q (by simp; omega) (fun e => hne e.symm), hba3.block q hq]
                  have hM3 : ∀ q, Value.ownBlock (.slice (some ⟨g3, 0, none⟩) (pk.1.length + 1) cap3) = some q → Value.ownBlock (.slice ma pk.1.length mc) = some q ∨ wr.heap.size ≤ q := fun q hq => by
                    simp [Value.ownBlock] at hq
                    subst hq
                    rcases hat3 with h | h
                    · exact Or.inl h
                    · right
                      rw [h]
                      simp
                  have hs03 : wr.heap.size ≤ W0.heap.size := Nat.le_trans hba3.size hgrow3.size
                  have HBF4 : Hid (BF (z + 1) W0 (fun k => Value.ownBlock (.slice (some ⟨g3, 0, none⟩) (pk.1.length + 1) cap3) = some k) (.slice (some ⟨g, 0, none⟩) ls.length lc) lus ls u7 nus3 pk.2) := HBF3.out.met (fun q hq hm => hfar3 q hq hm) hM3
                  have HBZ4 : Hid (Below (z + 1) V W0) := below_grown (HBZ3.out.trans (hba3.mono hzr)) (HROW3.out.alloc _) hgrow3 (by simp; omega) (Nat.le_refl _)
                  have HRX4 : Hid (OwnInts W1 W0 (.slice (some ⟨rb, roff, none⟩) xs.length rc) xs) := ownsRow_keep HRX3.out (fun q hq => hfar3 q (ownBlock_lt HRX3.out hq).2 (HSEP3.out q hq).2)
                  have HSEP4 : Hid (∀ b, Value.ownBlock (.slice (some ⟨rb, roff, none⟩) xs.length rc) = some b → u7.ownBlock ≠ some b ∧ Value.ownBlock (.slice (some ⟨g3, 0, none⟩) (pk.1.length + 1) cap3) ≠ some b) := fun b hb => ⟨(HSEP3.out b hb).1, fun e => by
                    rcases hM3 b e with h | h
                    · exact (HSEP3.out b hb).2 h
                    · have := (ownBlock_lt HRX3.out hb).2
                      omega⟩
                  have HYV : Hid (OwnInts (z + 1) W0 (.slice (some ⟨yb, yoff, none⟩) y.length uc) y) := by
                    have := HBF4.out.line.each i _ HU.out
                    rw [HY.out] at this
                    exact this
                  have hsz1 : z + 1 ≤ W0.heap.size := by omega
                  have hy20 : y.length ≤ 1048576 := by omega
                  clear hown3 hgrow3 hat3 hba3 hfar3 hM3 HBF3 HROW3 HBZ3 HRX3 HSEP3
                  go_wp2_with fail
                  refine (copied_any _ y _ HYV.out.at hy20).mono ?_
                  rintro e w4 ⟨uv, rfl, hu4, hb4⟩
                  obtain ⟨ub, ucap, rfl⟩ := hu4.form
                  have HU4 := hide hu4
                  have HB4 := hide hb4
                  have hs4 : W0.heap.size ≤ w4.heap.size := hb4.size
                  clear hu4 hb4
                  go_wp2_with (first | (at_builtin; refine wpList_append_lies _ rfl _ _ 23 rfl W0.heap.size 3 i0 (.int .i64 0) 1 8 Try.underlying23 HI0.out HZ0.out HZ1.out HZ2.out rfl (by decide) _ _ _ rfl (HU4.out.alloc _) ⟨w4.heap.size, 0, none⟩ 1 1 [.int .i64 x] rfl rfl ?c1 ?c2 (by decide) ?c3 ?c4 ?c5 _ rfl ?_))
                  case c1 => exact cell_one_new _ _ _
                  case c2 => intro u hu; simp at hu; subst hu; rfl
                  case c3 => unfold maxLen; omega
                  case c4 => omega
                  case c5 => simp; omega
                  intro g5 cap5 w5 hown5 hgrow5 _ _
                  have hO5 := OwnInts.snoc hown5
                  have hb5 : Below W0.heap.size W0 w5 := below_grown (HB4.out.alloc HB4.out.size (.cells #[.int .i64 x] 3)) (HU4.out.alloc (.cells #[.int .i64 x] 3)) hgrow5 (by simp; omega) (Nat.le_refl _)
                  have HO5 := hide hO5
                  have HB5 := hide hb5
                  have hs5' : W0.heap.size ≤ w5.heap.size := hb5.size
                  have HBF5 := hide (HBF4.out.below hb5)
                  clear hown5 hgrow5 hO5 hb5 HU4 HB4 hs4
                  have hnl : nus3.length ≤ 5 := by rw [HBF5.out.next.len]; exact hn5
                  go_wp2_with (first | (at_builtin; refine wpList_append_lies _ rfl _ _ 118 rfl (z + 1) 23 i1 (.slice none 0 0) 1 24 Try.underlying118 HI1.out HY0.out HY1.out HY2.out rfl (by decide) u7 _ _ rfl (HBF5.out.next.row.alloc _) ⟨w5.heap.size, 0, none⟩ 1 1 [.slice (some ⟨g5, 0, none⟩) (y.length + 1) cap5] rfl rfl ?c1 ?c2 (by decide) ?c3 ?c4 ?c5 _ rfl ?_))
                  case c1 => exact cell_one_new _ _ _
                  case c2 => intro u hu; simp at hu; subst hu; rfl
                  case c3 => unfold maxLen; omega
                  case c4 => omega
                  case c5 => simp; omega
                  intro g6 cap6 w6 hown6 hgrow6 hat6 _
                  have hba := Joins.below_alloc1 w5 (.cells #[.slice (some ⟨g5, 0, none⟩) (y.length + 1) cap5] 23)
                  have hlo5 := fun q (hq : Value.ownBlock (.slice (some ⟨g5, 0, none⟩) (y.length + 1) cap5) = some q) => (ownBlock_lt HO5.out hq).1
                  have hnlo := fun q (hq : u7.ownBlock = some q) => (HBF4.out.next.lo (Or.inl hq)).2
                  have HBF6 := hide (HBF5.out.snoc (y := y ++ [x]) hba (HO5.out.le hsz1) (fun q hq => ⟨fun e => by have u1 := hlo5 q hq; have u2 := (ownBlock_lt HROW4.out e).2; omega, fun e => by have := hlo5 q hq; have := hnlo q e; omega⟩) (fun q hq => by have u2 := (ownBlock_lt HROW4.out hq).2; omega) hown6 hgrow6 (hat6.imp id (fun e => by rw [e]; simp)))
                  have HBZ6 : Hid (Below (z + 1) V w6) := (HBZ4.out.trans (HB5.out.mono hsz1)).trans (below_grown (hba.mono (by omega)) (HBF5.out.next.row.alloc _) hgrow6 (by simp; omega) (Nat.le_refl _))
                  have hfar6 : ∀ q, q < W0.heap.size → u7.ownBlock ≠ some q → w6.heap[q]? = W0.heap[q]? := fun q hq hne => by
                    rw [hgrow6.block q (by simp; omega) (fun e => hne e.symm), hba.block q (by omega), HB5.out.block q hq]
                  have HROW6 : Hid (OwnInts (z + 1) w6 (.slice (some ⟨g3, 0, none⟩) (pk.1.length + 1) cap3) (pk.1 ++ [x])) := ownsRow_keep HROW4.out (fun q hq => hfar6 q (ownBlock_lt HROW4.out hq).2 (fun e => HBF4.out.sepM q (Or.inr (Or.inl e)) hq))
                  have HRX6 : Hid (OwnInts W1 w6 (.slice (some ⟨rb, roff, none⟩) xs.length rc) xs) := ownsRow_keep HRX4.out (fun q hq => hfar6 q (ownBlock_lt HRX4.out hq).2 (HSEP4.out q hq).1)
                  have HSEP6 : Hid (∀ b, Value.ownBlock (.slice (some ⟨rb, roff, none⟩) xs.length rc) = some b → Value.ownBlock (.slice (some ⟨g6, 0, none⟩) (nus3.length + 1) cap6) ≠ some b ∧ Value.ownBlock (.slice (some ⟨g3, 0, none⟩) (pk.1.length + 1) cap3) ≠ some b) := fun b hb => ⟨fun e => by
                    have u1 := (ownBlock_lt HRX4.out hb).2
                    have u2 := (HSEP4.out b hb).1
                    simp [Value.ownBlock] at e
                    subst e
                    rcases hat6 with h6 | h6
                    · exact u2 h6
                    · have u3 := HB5.out.size
                      first | omega | (simp at h6; omega), (HSEP4.out b hb).2⟩
                  clear hown6 hgrow6 hat6 hba hlo5 hnlo hfar6
                  go_wp2_with fail
                  go_roundw
                  case rel => exact ⟨k + 1, by omega, by go_num, _, by rw [HSK.out, HST.out]; exact HBF6.out, by rw [HSK.out, HST.out]; exact HROW6.out, HBZ6.out, HRX6.out, HSEP6.out, fun q hq => by
                    by_cases e : q = k
                    · subst e; rw [HX.out]; exact HNE.out
                    · exact HNO3.out q (by omega)⟩
                  case measure => simp [intOf]; omega
            · obtain rfl : k = xs.length := by omega
              have HBFe := hide hbf
              have HROWe := hide hrow
              have HBZe := hide hbz
              have HHe := hide (HH3.out (fun q hq => hno q hq))
              clear hbf hrow hbz hrx hsep hno
              go_wp2_with fail
              go_roundw
              case rel => exact ⟨i + 1, by omega, by go_num, nus3, by rw [HLU.out]; exact HBFe.out, by rw [HLU.out]; exact HROWe.out, HBZe.out, fun q hq => by
                by_cases e : q = i
                · subst e; rw [HY.out]; exact HHe.out
                · exact HNO.out q (by omega)⟩
              case measure => simp [intOf]; omega
        · obtain rfl : i = ls.length := by omega
          have HBFe := hide hbf
          have HROWe := hide hrow
          have HBZe := hide hbz
          have HANS2 := hide (ringR_none (f := f) (seen := seen) hno)
          have HPe := hide (HP.out ls.length (Nat.le_refl _))
          clear hbf hrow hbz hno
          go_wp2_with fail
          go_roundg f
          case measure => omega
          case rel =>
            have h1 := HPe.out.small
            have h2 := HL4.out
            have h3 := HPe.out.len
            refine ⟨_, _, nus, HBFe.out.turn, HROWe.out, HBZe.out, by rw [← HANS.out, HANS2.out], ⟨HPe.out.nodup, HPe.out.sub, by simp, fun y hy => by simp at hy⟩, fun y hy => ?_, ?_, by omega⟩
            · have := HPe.out.ways y hy
              omega
            · by_cases e : (lineUp st ls (seen, []) ls.length).2 = []
              · exact Or.inl e
              · right
                have e2 : 0 < (lineUp st ls (seen, []) ls.length).2.length := List.length_pos_iff.2 e
                rcases HFU.out with e3 | e3
                · rw [e3] at hne; simp at hne
                · omega
    · have hl0 : ls = [] := by
        cases ls with
        | nil => rfl
        | cons y r => exact absurd (by simp) hne
      have HA : Hid (ringFromF st s = []) := by rw [← hans, hl0]; exact ringR_nil _ _ _ _
      have HBZe := hide hbz
      clear hbf hrow hbz hans hpi hys hfu hl0
      go_wp2_with fail
      go_ret
      refine ⟨_, rfl, ?_, fun _ => rfl, ?_⟩
      · rw [HA.out]
        exact OwnInts.nil _ _
      · rw [← HZ.out]
        exact HBV.out.trans (HBZe.out.mono (by omega))
end Go.Proofs.Ytmjjigdnoiphbaa

/-
  spec.Ring.
-/
namespace Go.Proofs.Ytmjjigdnoiphbaa
open Go.RowKit Go.Deep
set_option linter.unusedVariables false

/-- of two rings: the second, where there is one and it is shorter or the first one -/
def better (b r : Wy) : Wy := bif decide (0 < r.length) && (decide (b.length = 0) || decide (r.length < b.length)) then r else b
def bestUp (st : St) : Nat → Wy
  | 0 => []
  | k + 1 => better (bestUp st k) (ringFromF st (el st.2.2 k))
/-- Ring -/
def ringF (st : St) : List Int := bif decide (stOk st = 0) then bestUp st st.2.2.length else []

theorem ringR_len {st : St} (hr : RightSt st) {s : Int} : ∀ f ls seen, PInv st seen.length f (seen, []) → (∀ y, y ∈ ls → y.length + f ≤ 8) → (ringR st s f ls seen).length ≤ 8
  | 0, _, _, _, _ => by simp [ringR]
  | f + 1, ls, seen, hp, hy => by
    by_cases h : ∃ i, i < ls.length ∧ hitB st s (wyAt ls i) = true
    · simp only [ringR]
      split
      · rename_i y hfy
        have := hy y (List.mem_of_find?_eq_some hfy)
        omega
      · rename_i hfy
        obtain ⟨i, hi, hh⟩ := h
        have := List.find?_eq_none.1 hfy _ (wyAt_mem hi)
        exact absurd hh this
    · rw [ringR_none (fun j hj => by
        cases e : hitB st s (wyAt ls j)
        · rfl
        · exact absurd ⟨j, hj, e⟩ h)]
      have hP := lineUp_inv hr hp hy ls.length (Nat.le_refl _)
      exact ringR_len hr f _ _ ⟨hP.nodup, hP.sub, by simp, fun y hy => by simp at hy⟩ (fun y hy => by have := (hP.ways y hy).2; omega)
theorem ringFromF_len {st : St} (hr : RightSt st) (s : Int) : (ringFromF st s).length ≤ 8 :=
  ringR_len hr 7 _ _ ⟨by simp, fun x hx => by simp at hx, rfl, fun y hy => by simp at hy⟩ (fun y hy => by simp at hy; subst hy; simp)
theorem better_le {b r : Wy} (hb : b.length ≤ 8) (hr : r.length ≤ 8) : (better b r).length ≤ 8 := by unfold better; cases (decide (0 < r.length) && (decide (b.length = 0) || decide (r.length < b.length))) <;> assumption
theorem bestUp_le {st : St} (hr : RightSt st) : ∀ k, (bestUp st k).length ≤ 8
  | 0 => by simp [bestUp]
  | k + 1 => better_le (bestUp_le hr k) (ringFromF_len hr _)
theorem ringF_le (st : St) : (ringF st).length ≤ 8 := by
  unfold ringF
  by_cases h : stOk st = 0
  · simp only [h, decide_true, cond_true]
    exact bestUp_le (right_of_ok h) _
  · simp [h]

set_option maxHeartbeats 4000000 in
theorem specRing_any (v : Value) (st : St) (w : World) (h : StateAt w v st) :
    Calls Try.prog 27 #[v] w fun e w' => ∃ r, e = .returned r ∧ OwnInts w.heap.size w' r (ringF st) ∧ Below w.heap.size w w' := by
  have HS := hide h
  obtain ⟨a1, q1, a2, q2, a3, q3, rfl⟩ := h.form
  clear h
  go_enter Try.func27, Try.ntmps27
  go_wp2_with fail
  refine (specStateOk_any _ st _ (HS.out.below (Joins.below_alloc1 _ _))).mono ?_
  rintro e w1 ⟨rfl, hb1⟩
  have c0 : w1.cell? ⟨w.heap.size, 0, none⟩ = some (.slice a1 st.1.length q1) := cell_later hb1 (by simp)
  have c1 : w1.cell? ⟨w.heap.size, 1, none⟩ = some (.slice a2 st.2.1.length q2) := cell_later hb1 (by simp)
  have c2 : w1.cell? ⟨w.heap.size, 2, none⟩ = some (.slice a3 st.2.2.length q3) := cell_later hb1 (by simp)
  have HB1 := hide (below_tail (Joins.below_alloc1 w (.cells #[.slice a1 st.1.length q1, .slice a2 st.2.1.length q2, .slice a3 st.2.2.length q3] 26)) hb1)
  clear hb1
  by_cases hok : stOk st = 0
  · have HR := hide (right_of_ok hok)
    have hokb : (stOk st != 0) = false := by simp [hok]
    have HF := hide (show ringF st = bestUp st st.2.2.length by simp [ringF, hok])
    obtain ⟨l1, l2, l3, l4⟩ := HR.out.lens
    have hn5 : st.2.2.length ≤ 5 := by omega
    clear hok l4
    generalize stOk st = code at *
    go_wp2_with fail
    have HC0 := hide c0
    have HC1 := hide c1
    have HC2 := hide c2
    clear c0 c1 c2
    go_loopw [3, 13] (fun u i wr => ∃ k : Nat, k ≤ st.2.2.length ∧ i = .int .i64 k ∧ OwnInts w1.heap.size wr u (bestUp st k) ∧ Below w1.heap.size w1 wr) (fun _ i _ => st.2.2.length - (intOf i).toNat)
    case atStart => exact ⟨0, Nat.zero_le _, rfl, OwnInts.nil _ _, Below.refl _ _⟩
    case round =>
      obtain ⟨k, hk, rfl, hown, hb⟩ := hrel
      have hbw := below_tail HB1.out hb
      by_cases hlt : k < st.2.2.length
      · have q0 := cell_later hb HC0.out
        have q1' := cell_later hb HC1.out
        have q2' := cell_later hb HC2.out
        have HSW := hide (HS.out.below hbw)
        obtain ⟨b, off, rfl, hx⟩ := HSW.out.parts.2.2.cellAt k hlt
        obtain ⟨ua, uc, rfl⟩ := hown.form
        have HB := hide hb
        have HO := hide hown
        have HU := hide (show bestUp st (k + 1) = better (bestUp st k) (ringFromF st (el st.2.2 k)) from rfl)
        have hbl := bestUp_le HR.out k
        have hrl := ringFromF_len HR.out (el st.2.2 k)
        clear hb hown hbw
        go_wp2_with fail
        refine (l2ring_any _ st (el st.2.2 k) _ HSW.out HR.out (el_mem hlt)).mono ?_
        rintro e w2 ⟨r, rfl, hr, hb2⟩
        obtain ⟨ra, rc, rfl⟩ := hr.form
        have HO2 := hide (HO.out.below hb2)
        have HB2 := hide (below_tail HB.out hb2)
        have HRR : Hid (OwnInts w1.heap.size w2 (.slice ra (ringFromF st (el st.2.2 k)).length rc) (ringFromF st (el st.2.2 k))) := hr.le HB.out.size
        clear hb2 hr
        generalize ringFromF st (el st.2.2 k) = rg at *
        generalize bestUp st k = bu at *
        by_cases h1 : 0 < rg.length
        · by_cases h2 : bu.length = 0
          · have h2b : ((bu.length : Int) == 0) = true := by simp [h2]
            have HM := hide (show better bu rg = rg by unfold better; simp [h1, h2])
            have h1' : 0 < rg.length := h1
            clear h2
            generalize hbn : bu.length = bn at *
            generalize hrn : rg.length = rn at *
            have HBN := hide hbn
            have HRN := hide hrn
            clear hbn hrn
            go_wp2_with fail
            go_roundw
            case rel => exact ⟨k + 1, by omega, by go_num, by rw [HU.out, HM.out]; exact HRR.out, HB2.out⟩
            case measure => simp [intOf]; omega
          · have h2b : ((bu.length : Int) == 0) = false := by rw [beq_eq_false_iff_ne]; omega
            by_cases h3 : rg.length < bu.length
            · have HM := hide (show better bu rg = rg by unfold better; simp [h1, h3])
              clear h2
              generalize hbn : bu.length = bn at *
              generalize hrn : rg.length = rn at *
              have HBN := hide hbn
              have HRN := hide hrn
              clear hbn hrn
              go_wp2_with fail
              go_roundw
              case rel => exact ⟨k + 1, by omega, by go_num, by rw [HU.out, HM.out]; exact HRR.out, HB2.out⟩
              case measure => simp [intOf]; omega
            · have HM := hide (show better bu rg = bu by unfold better; simp [h2, h3])
              clear h2
              generalize hbn : bu.length = bn at *
              generalize hrn : rg.length = rn at *
              have HBN := hide hbn
              have HRN := hide hrn
              clear hbn hrn
              go_wp2_with fail
              go_roundw
              case rel => exact ⟨k + 1, by omega, by go_num, by rw [HU.out, HM.out]; exact HO2.out, HB2.out⟩
              case measure => simp [intOf]; omega
        · have HM := hide (show better bu rg = bu by unfold better; simp [h1])
          generalize hbn : bu.length = bn at *
          generalize hrn : rg.length = rn at *
          have HBN := hide hbn
          have HRN := hide hrn
          clear hbn hrn
          go_wp2_with fail
          go_roundw
          case rel => exact ⟨k + 1, by omega, by go_num, by rw [HU.out, HM.out]; exact HO2.out, HB2.out⟩
          case measure => simp [intOf]; omega
      · go_wp2_with fail
        go_ret
        obtain rfl : k = st.2.2.length := by omega
        exact ⟨_, rfl, by rw [HF.out]; exact hown.le HB1.out.size, hbw⟩
  · have hokb : (stOk st != 0) = true := by simp [hok]
    have HF := hide (show ringF st = [] by simp [ringF, hok])
    clear hok
    generalize stOk st = code at *
    go_wp2_with fail
    go_ret
    exact ⟨_, rfl, by rw [HF.out]; exact OwnInts.nil _ _, HB1.out⟩
end Go.Proofs.Ytmjjigdnoiphbaa
