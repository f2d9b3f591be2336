/-
  RINGS IN PLAIN MATHEMATICS; LISTS OF WAYS IN MEMORY. No program here.
-/
import Derived.Test.YtmjjigdnoiphbabWt
import Derived.Test.YtmjjigdnoiphbabApp
import Derived.Test.YtmjjigdnoiphbabGath
namespace Go.Proofs.Ytmjjigdnoiphbab
open Go.RowKit Go.Deep
set_option linter.unusedVariables false

abbrev Wy : Type := List Int
def wyAt (ls : List Wy) (i : Nat) : Wy := ls[i]?.getD []
def lastOf (y : Wy) : Int := el y (y.length - 1)

/-- a train that is met from a way: one more way, if no way has come to it yet -/
def stepS (y : Wy) (x : Int) (p : Wy × List Wy) : Wy × List Wy := if x ∈ p.1 then p else (p.1 ++ [x], p.2 ++ [y ++ [x]])
def scanUp (y xs : Wy) (p : Wy × List Wy) : Nat → Wy × List Wy
  | 0 => p
  | k + 1 => stepS y (el xs k) (scanUp y xs p k)
def nextOf (st : St) (y : Wy) : Wy := waitsF st (lastOf y)
def lineUp (st : St) (ls : List Wy) (p : Wy × List Wy) : Nat → Wy × List Wy
  | 0 => p
  | i + 1 => scanUp (wyAt ls i) (nextOf st (wyAt ls i)) (lineUp st ls p i) (nextOf st (wyAt ls i)).length
def hitB (st : St) (s : Int) (y : Wy) : Bool := decide (s ∈ nextOf st y)
/-- the rounds of the search, f of them at most -/
def ringR (st : St) (s : Int) : Nat → List Wy → Wy → Wy
  | 0, _, _ => []
  | f + 1, ls, seen =>
    match ls.find? (hitB st s) with
    | some y => y
    | none => ringR st s f (lineUp st ls (seen, []) ls.length).2 (lineUp st ls (seen, []) ls.length).1
theorem lineUp_nil (st : St) (p : Wy × List Wy) : lineUp st [] p 0 = p := rfl
theorem ringR_nil (st : St) (s : Int) : ∀ f seen, ringR st s f [] seen = []
  | 0, _ => rfl
  | f + 1, seen => by
    show (match ([] : List Wy).find? (hitB st s) with | some y => y | none => ringR st s f _ _) = []
    simp only [List.find?_nil]
    exact ringR_nil st s f _
/-- a ring from one train on -/
def ringFromF (st : St) (s : Int) : Wy := ringR st s 7 [[s]] []

theorem ringR_hit {st : St} {s : Int} {f : Nat} {ls : List Wy} {seen : Wy} {i : Nat} (hi : i < ls.length) (h : hitB st s (wyAt ls i) = true) (ha : ∀ j, j < i → hitB st s (wyAt ls j) = false) : ringR st s (f + 1) ls seen = wyAt ls i := by
  have : ls.find? (hitB st s) = some (wyAt ls i) := by
    rw [List.find?_eq_some_iff_getElem]
    refine ⟨h, i, hi, by simp [wyAt, hi], fun j hj => ?_⟩
    have := ha j hj
    simp only [wyAt, List.getElem?_eq_getElem (show j < ls.length by omega), Option.getD_some] at this
    rw [this]
    rfl
  simp only [ringR, this]
theorem ringR_none {st : St} {s : Int} {f : Nat} {ls : List Wy} {seen : Wy} (ha : ∀ j, j < ls.length → hitB st s (wyAt ls j) = false) : ringR st s (f + 1) ls seen = ringR st s f (lineUp st ls (seen, []) ls.length).2 (lineUp st ls (seen, []) ls.length).1 := by
  have : ls.find? (hitB st s) = none := by
    rw [List.find?_eq_none]
    intro y hy
    obtain ⟨j, hj, rfl⟩ := List.mem_iff_getElem.1 hy
    have := ha j hj
    simp only [wyAt, List.getElem?_eq_getElem hj, Option.getD_some] at this
    rw [this]
    simp
  simp only [ringR, this]

theorem el_mem {xs : Wy} {k : Nat} (h : k < xs.length) : el xs k ∈ xs := by simp [el, h]
theorem hitB_at {st : St} {s : Int} {y : Wy} {k : Nat} (hk : k < (nextOf st y).length) (h : el (nextOf st y) k = s) : hitB st s y = true := by
  unfold hitB
  rw [decide_eq_true_eq, ← h]
  exact el_mem hk
theorem hitB_not {st : St} {s : Int} {y : Wy} (h : ∀ k, k < (nextOf st y).length → el (nextOf st y) k ≠ s) : hitB st s y = false := by
  unfold hitB
  rw [decide_eq_false_iff_not]
  intro hm
  obtain ⟨k, hk, e⟩ := List.mem_iff_getElem.1 hm
  exact h k hk (by simp [el, hk, e])

theorem nodup_len : ∀ {l m : Wy}, l.Nodup → (∀ x, x ∈ l → x ∈ m) → l.length ≤ m.length
  | [], _, _, _ => Nat.zero_le _
  | x :: l, m, hn, hs => by
    have hx : x ∈ m := hs x (by simp)
    rw [List.nodup_cons] at hn
    have := nodup_len (m := m.erase x) hn.2 (fun y hy => (List.mem_erase_of_ne (fun e => hn.1 (by rw [← e]; exact hy))).2 (hs y (by simp [hy])))
    rw [List.length_erase_of_mem hx] at this
    have h1 : 0 < m.length := List.length_pos_of_mem hx
    simp only [List.length_cons]
    omega

/-- what holds of the trains that were met and of the ways to them, in the round with f to go -/
structure PInv (st : St) (n0 f : Nat) (p : Wy × List Wy) : Prop where
  nodup : p.1.Nodup
  sub : ∀ x, x ∈ p.1 → x ∈ st.2.2
  len : p.2.length + n0 = p.1.length
  ways : ∀ y, y ∈ p.2 → 1 ≤ y.length ∧ y.length + f ≤ 9

theorem PInv.step {st : St} {n0 f : Nat} {p : Wy × List Wy} (h : PInv st n0 f p) {y : Wy} {x : Int} (hx : x ∈ st.2.2) (hy : y.length + f ≤ 8) : PInv st n0 f (stepS y x p) := by
  unfold stepS
  split
  · exact h
  · rename_i hn
    refine ⟨?_, fun z hz => ?_, ?_, fun z hz => ?_⟩
    · rw [List.nodup_append]
      refine ⟨h.nodup, by simp, fun a ha b hb => ?_⟩
      simp at hb
      subst hb
      exact fun e => hn (e ▸ ha)
    · simp only [List.mem_append, List.mem_singleton] at hz
      rcases hz with hz | rfl
      · exact h.sub z hz
      · exact hx
    · have := h.len
      simp only [List.length_append, List.length_singleton]
      omega
    · simp only [List.mem_append, List.mem_singleton] at hz
      rcases hz with hz | rfl
      · exact h.ways z hz
      · simp only [List.length_append, List.length_singleton]
        omega
theorem PInv.small {st : St} {n0 f : Nat} {p : Wy × List Wy} (h : PInv st n0 f p) : p.1.length ≤ st.2.2.length := nodup_len h.nodup h.sub

theorem waitsUp_mem (st : St) (i : Nat) : ∀ k, k ≤ st.2.2.length → ∀ x, x ∈ waitsUp st i k → x ∈ st.2.2
  | 0, _, x, hx => by simp [waitsUp] at hx
  | k + 1, hk, x, hx => by
    simp only [waitsUp, List.mem_append] at hx
    rcases hx with hx | hx
    · exact waitsUp_mem st i k (by omega) x hx
    · cases hc : (tAt st.2.1 k == el (tPath st.2.1 i) 0)
      · simp [hc] at hx
      · simp [hc] at hx
        subst hx
        exact el_mem (by omega)
theorem waitsF_mem {st : St} (hr : RightSt st) {z x : Int} (h : x ∈ waitsF st z) : x ∈ st.2.2 := by
  unfold waitsF at h
  cases hc : (decide (stOk st = 0) && (decide (nameIx st.2.2 z < st.2.2.length) && !canB st (nameIx st.2.2 z)))
  · simp [hc] at h
  · rw [hc] at h
    exact waitsUp_mem st _ _ (by have := hr.lens; omega) x h
theorem RightSt.name {st : St} (h : RightSt st) {x : Int} (hx : x ∈ st.2.2) : 0 ≤ x ∧ x ≤ 1000 := by
  obtain ⟨k, hk, rfl⟩ := List.mem_iff_getElem.1 hx
  have := allUp_at h.names k hk
  simp only [nameB, inR, Bool.and_eq_true, decide_eq_true_eq, el, List.getElem?_eq_getElem hk, Option.getD_some] at this
  exact this.1

theorem scanUp_inv {st : St} (hr : RightSt st) {n0 f : Nat} {p : Wy × List Wy} (h : PInv st n0 f p) {y : Wy} (hy : y.length + f ≤ 8) : ∀ k, k ≤ (nextOf st y).length → PInv st n0 f (scanUp y (nextOf st y) p k)
  | 0, _ => h
  | k + 1, hk => (scanUp_inv hr h hy k (by omega)).step (waitsF_mem hr (el_mem (by exact hk))) hy
theorem wyAt_mem {ls : List Wy} {i : Nat} (h : i < ls.length) : wyAt ls i ∈ ls := by simp [wyAt, h]
theorem lineUp_inv {st : St} (hr : RightSt st) {n0 f : Nat} {p : Wy × List Wy} (h : PInv st n0 f p) {ls : List Wy} (hy : ∀ y, y ∈ ls → y.length + f ≤ 8) : ∀ i, i ≤ ls.length → PInv st n0 f (lineUp st ls p i)
  | 0, _ => h
  | i + 1, hi => scanUp_inv hr (lineUp_inv hr h hy i (by omega)) (hy _ (wyAt_mem (by omega))) _ (Nat.le_refl _)

/-- ways, in a row of its own; each of its own -/
structure Ways (B : Nat) (w : World) (v : Value) (us : List Value) (ls : List Wy) : Prop where
  row : w.ownsRow B 22 1 v us.length us
  len : us.length = ls.length
  each : ∀ i u, us[i]? = some u → OwnInts B w u (wyAt ls i)
  apart : ∀ u, u ∈ us → ∀ k, u.ownBlock = some k → v.ownBlock ≠ some k
/-- its blocks -/
def FW (v : Value) (us : List Value) : Nat → Prop := fun k => v.ownBlock = some k ∨ ∃ u, u ∈ us ∧ u.ownBlock = some k

theorem Ways.nil (B : Nat) (w : World) : Ways B w (.slice none 0 0) [] [] := ⟨World.ownsRow_nil w B 22 1, rfl, fun i u h => by simp at h, fun u h => by simp at h⟩
theorem Ways.lo {B : Nat} {w : World} {v : Value} {us : List Value} {ls : List Wy} (h : Ways B w v us ls) {k : Nat} (hk : FW v us k) : B ≤ k ∧ k < w.heap.size := by
  rcases hk with hk | ⟨u, hu, hk⟩
  · exact ownBlock_lt h.row hk
  · obtain ⟨i, hi, rfl⟩ := List.mem_iff_getElem.1 hu
    exact ownBlock_lt (h.each i _ (List.getElem?_eq_getElem hi)) hk
theorem Ways.keep {B : Nat} {w w' : World} {v : Value} {us : List Value} {ls : List Wy} (h : Ways B w v us ls) (hb : ∀ k, FW v us k → w'.heap[k]? = w.heap[k]?) : Ways B w' v us ls :=
  ⟨ownsRow_keep h.row (fun k hk => hb k (Or.inl hk)), h.len, fun i u hu => ownsRow_keep (h.each i u hu) (fun k hk => hb k (Or.inr ⟨u, List.mem_of_getElem? hu, hk⟩)), h.apart⟩
theorem Ways.below {B : Nat} {w w' : World} {v : Value} {us : List Value} {ls : List Wy} (h : Ways B w v us ls) (hb : Below w.heap.size w w') : Ways B w' v us ls := h.keep (fun k hk => hb.block k (h.lo hk).2)
theorem Ways.lies {B : Nat} {w : World} {v : Value} {us : List Value} {ls : List Wy} (h : Ways B w v us ls) {i : Nat} (hi : i < ls.length) :
    ∃ g cap u a c, v = .slice (some ⟨g, 0, none⟩) ls.length cap ∧ us[i]? = some u ∧ u = .slice a (wyAt ls i).length c ∧ w.cell? ⟨g, i, none⟩ = some u ∧ OwnInts B w u (wyAt ls i) := by
  have hi' : i < us.length := by rw [h.len]; exact hi
  rcases h.row.2 with ⟨_, e⟩ | ⟨g, cap, cur, hv, hg, hh, h1, h2, h3, h4⟩
  · simp [e] at hi'
  · have hu := List.getElem?_eq_getElem hi'
    obtain ⟨a, c, e⟩ := (h.each i _ hu).form
    refine ⟨g, cap, us[i], a, c, by rw [hv, h.len], hu, e, ?_, h.each i _ hu⟩
    rw [cell_of_row w g i cur 22 (0, 0) hh, ← Array.getElem?_toList, take_get h4 (by omega)]
    exact hu
theorem Ways.form {B : Nat} {w : World} {v : Value} {us : List Value} {ls : List Wy} (h : Ways B w v us ls) : ∃ a cap, v = .slice a ls.length cap := by
  rcases h.row.2 with ⟨e, e2⟩ | ⟨g, cap, cur, hv, _⟩
  · have : ls.length = 0 := by simp [← h.len, e2]
    exact ⟨none, 0, by rw [e, this]⟩
  · exact ⟨_, cap, by rw [hv, h.len]⟩

/-- one way more -/
theorem Ways.snoc {B : Nat} {w wa w' : World} {v : Value} {us : List Value} {ls : List Wy} (h : Ways B w v us ls) (hba : Below w.heap.size w wa) {u : Value} {y : Wy} {g cap : Nat}
    (hu : OwnInts B w u y) (hun : ∀ k, u.ownBlock = some k → v.ownBlock ≠ some k)
    (hown : w'.ownsRow B 22 1 (.slice (some ⟨g, 0, none⟩) (us.length + 1) cap) (us.length + 1) (us ++ [u]))
    (hgrow : wa.grownBy w' v.ownBlock) (hat : v.ownBlock = some g ∨ wa.heap.size ≤ g) :
    Ways B w' (.slice (some ⟨g, 0, none⟩) (us.length + 1) cap) (us ++ [u]) (ls ++ [y]) := by
  have hfar : ∀ k, k < w.heap.size → v.ownBlock ≠ some k → w'.heap[k]? = w.heap[k]? := fun k hk hne => (hgrow.block k (Nat.lt_of_lt_of_le hk hba.size) (fun e => hne e.symm)).trans (hba.block k hk)
  have hk1 : ∀ x, x ∈ us ++ [u] → ∀ k, x.ownBlock = some k → k < w.heap.size ∧ v.ownBlock ≠ some k := fun x hx k hk => by
    simp only [List.mem_append, List.mem_singleton] at hx
    rcases hx with hx | rfl
    · exact ⟨(h.lo (Or.inr ⟨x, hx, hk⟩)).2, h.apart x hx k hk⟩
    · exact ⟨(ownBlock_lt hu hk).2, hun k hk⟩
  refine ⟨by simpa using hown, by simp [h.len], fun i x hx => ?_, fun x hx k hk e => ?_⟩
  · have hm := List.mem_of_getElem? hx
    by_cases e : i < us.length
    · rw [List.getElem?_append_left e] at hx
      have e2 : wyAt (ls ++ [y]) i = wyAt ls i := by unfold wyAt; rw [List.getElem?_append_left (by rw [← h.len]; exact e)]
      rw [e2]
      exact ownsRow_keep (h.each i x hx) (fun k hk => let ⟨q1, q2⟩ := hk1 x hm k hk; hfar k q1 q2)
    · have hi : i = us.length := by
        have := (List.getElem?_eq_some_iff.1 hx).1
        simp at this
        omega
      subst hi
      simp at hx
      subst hx
      have e2 : wyAt (ls ++ [y]) us.length = y := by simp [wyAt, h.len]
      rw [e2]
      exact ownsRow_keep hu (fun k hk => let ⟨q1, q2⟩ := hk1 u hm k hk; hfar k q1 q2)
  · obtain ⟨q1, q2⟩ := hk1 x hx k hk
    simp [Value.ownBlock] at e
    subst e
    rcases hat with hat | hat
    · exact q2 hat
    · have := hba.size
      omega

/-- the ways of this round and of the next one; M: the blocks in which is kept who was met -/
structure BF (B : Nat) (w : World) (M : Nat → Prop) (lv : Value) (lus : List Value) (ls : List Wy) (nv : Value) (nus : List Value) (ns : List Wy) : Prop where
  line : Ways B w lv lus ls
  next : Ways B w nv nus ns
  sepN : ∀ k, FW lv lus k → nv.ownBlock ≠ some k
  sepM : ∀ k, FW lv lus k ∨ FW nv nus k → ¬ M k

theorem BF.below {B : Nat} {w w' : World} {M : Nat → Prop} {lv nv : Value} {lus nus : List Value} {ls ns : List Wy} (h : BF B w M lv lus ls nv nus ns) (hb : Below w.heap.size w w') : BF B w' M lv lus ls nv nus ns := ⟨h.line.below hb, h.next.below hb, h.sepN, h.sepM⟩
/-- a change in what is kept of whom was met -/
theorem BF.met {B : Nat} {w w' : World} {M M' : Nat → Prop} {lv nv : Value} {lus nus : List Value} {ls ns : List Wy} (h : BF B w M lv lus ls nv nus ns) (hc : ∀ k, k < w.heap.size → ¬ M k → w'.heap[k]? = w.heap[k]?) (hM : ∀ k, M' k → M k ∨ w.heap.size ≤ k) : BF B w' M' lv lus ls nv nus ns :=
  ⟨h.line.keep (fun k hk => hc k (h.line.lo hk).2 (h.sepM k (Or.inl hk))), h.next.keep (fun k hk => hc k (h.next.lo hk).2 (h.sepM k (Or.inr hk))), h.sepN, fun k hk e => by
    rcases hM k e with e | e
    · exact h.sepM k hk e
    · rcases hk with hk | hk
      · have := (h.line.lo hk).2
        omega
      · have := (h.next.lo hk).2
        omega⟩
theorem BF.snoc {B : Nat} {w wa w' : World} {M : Nat → Prop} {lv nv : Value} {lus nus : List Value} {ls ns : List Wy} (h : BF B w M lv lus ls nv nus ns) (hba : Below w.heap.size w wa) {u : Value} {y : Wy} {g cap : Nat}
    (hu : OwnInts B w u y) (hun : ∀ k, u.ownBlock = some k → ¬ M k ∧ nv.ownBlock ≠ some k) (hMlt : ∀ k, M k → k < w.heap.size)
    (hown : w'.ownsRow B 22 1 (.slice (some ⟨g, 0, none⟩) (nus.length + 1) cap) (nus.length + 1) (nus ++ [u]))
    (hgrow : wa.grownBy w' nv.ownBlock) (hat : nv.ownBlock = some g ∨ wa.heap.size ≤ g) :
    BF B w' M lv lus ls (.slice (some ⟨g, 0, none⟩) (nus.length + 1) cap) (nus ++ [u]) (ns ++ [y]) := by
  have hfar : ∀ k, k < w.heap.size → nv.ownBlock ≠ some k → w'.heap[k]? = w.heap[k]? := fun k hk hne => (hgrow.block k (Nat.lt_of_lt_of_le hk hba.size) (fun e => hne e.symm)).trans (hba.block k hk)
  refine ⟨h.line.keep (fun k hk => hfar k (h.line.lo hk).2 (h.sepN k hk)), h.next.snoc hba hu (fun k hk => (hun k hk).2) hown hgrow hat, fun k hk e => ?_, fun k hk hm => ?_⟩
  · simp [Value.ownBlock] at e
    subst e
    rcases hat with hat | hat
    · exact h.sepN g hk hat
    · have := (h.line.lo hk).2
      have := hba.size
      omega
  · rcases hk with hk | hk | ⟨x, hx, hk⟩
    · exact h.sepM k (Or.inl hk) hm
    · simp [Value.ownBlock] at hk
      subst hk
      rcases hat with hat | hat
      · exact h.sepM g (Or.inr (Or.inl hat)) hm
      · have := hMlt g hm
        have := hba.size
        omega
    · simp only [List.mem_append, List.mem_singleton] at hx
      rcases hx with hx | rfl
      · exact h.sepM k (Or.inr (Or.inr ⟨x, hx, hk⟩)) hm
      · exact (hun k hk).1 hm
/-- the next round -/
theorem BF.turn {B : Nat} {w : World} {M : Nat → Prop} {lv nv : Value} {lus nus : List Value} {ls ns : List Wy} (h : BF B w M lv lus ls nv nus ns) : BF B w M nv nus ns (.slice none 0 0) [] [] :=
  ⟨h.next, Ways.nil _ _, fun k hk e => by simp [Value.ownBlock] at e, fun k hk => by
    rcases hk with hk | hk | ⟨x, hx, _⟩
    · exact h.sepM k (Or.inr hk)
    · simp [Value.ownBlock] at hk
    · simp at hx⟩
end Go.Proofs.Ytmjjigdnoiphbab
