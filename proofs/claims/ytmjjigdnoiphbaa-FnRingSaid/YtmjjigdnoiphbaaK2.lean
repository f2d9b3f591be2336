import Derived.Test.YtmjjigdnoiphbaaK1
import Derived.Test.YtmjjigdnoiphbaaStk
import Derived.Test.YtmjjigdnoiphbaaSf6
import Derived.Test.YtmjjigdnoiphbaaDr0
/-
  RINGS: THE SEARCH FINDS ONE WHERE THERE IS ONE, AND WHAT IT FINDS IS ONE. No program here.
-/
namespace Go.Proofs.Ytmjjigdnoiphbaa
open Go.RowKit Go.Deep
set_option linter.unusedVariables false

/-- a way along which each waits for the next, from s on -/
def ChainW (st : St) (s : Int) (y : Wy) : Prop := 0 < y.length ∧ el y 0 = s ∧ ∀ i, i + 1 < y.length → el y (i + 1) ∈ waitsF st (el y i)

theorem el_left {y : Wy} {x : Int} {i : Nat} (h : i < y.length) : el (y ++ [x]) i = el y i := by simp [el, List.getElem?_append_left h]
theorem el_end (y : Wy) (x : Int) : el (y ++ [x]) y.length = x := by simp [el]
theorem lastOf_snoc (y : Wy) (x : Int) : lastOf (y ++ [x]) = x := by simp [lastOf, el_end]

theorem ChainW.snoc {st : St} {s : Int} {y : Wy} (h : ChainW st s y) {x : Int} (hx : x ∈ nextOf st y) : ChainW st s (y ++ [x]) := by
  obtain ⟨h0, h1, h2⟩ := h
  refine ⟨by simp, by rw [el_left h0]; exact h1, fun i hi => ?_⟩
  simp only [List.length_append, List.length_singleton] at hi
  by_cases e : i + 1 < y.length
  · rw [el_left e, el_left (by omega)]
    exact h2 i e
  · have e' : i = y.length - 1 := by omega
    rw [show i + 1 = y.length by omega, el_end, el_left (by omega), e']
    exact hx

theorem stepS_chain {st : St} {s : Int} {y : Wy} (hy : ChainW st s y) {x : Int} (hx : x ∈ nextOf st y) {p : Wy × List Wy} (hp : ∀ z, z ∈ p.2 → ChainW st s z) : ∀ z, z ∈ (stepS y x p).2 → ChainW st s z := by
  unfold stepS
  split
  · exact hp
  · intro z hz
    simp only [List.mem_append, List.mem_singleton] at hz
    rcases hz with hz | rfl
    · exact hp z hz
    · exact hy.snoc hx
theorem scanUp_chain {st : St} {s : Int} {y : Wy} (hy : ChainW st s y) {p : Wy × List Wy} (hp : ∀ z, z ∈ p.2 → ChainW st s z) : ∀ k, k ≤ (nextOf st y).length → ∀ z, z ∈ (scanUp y (nextOf st y) p k).2 → ChainW st s z
  | 0, _ => hp
  | k + 1, hk => stepS_chain hy (el_mem hk) (scanUp_chain hy hp k (by omega))
theorem lineUp_chain {st : St} {s : Int} {ls : List Wy} (hl : ∀ y, y ∈ ls → ChainW st s y) {p : Wy × List Wy} (hp : ∀ z, z ∈ p.2 → ChainW st s z) : ∀ i, i ≤ ls.length → ∀ z, z ∈ (lineUp st ls p i).2 → ChainW st s z
  | 0, _ => hp
  | i + 1, hi => scanUp_chain (hl _ (wyAt_mem (by omega))) (lineUp_chain hl hp i (by omega)) _ (Nat.le_refl _)

theorem ringR_chain {st : St} {s : Int} : ∀ f ls seen, (∀ y, y ∈ ls → ChainW st s y) → ringR st s f ls seen = [] ∨ (ChainW st s (ringR st s f ls seen) ∧ hitB st s (ringR st s f ls seen) = true)
  | 0, _, _, _ => Or.inl rfl
  | f + 1, ls, seen, hl => by
    simp only [ringR]
    split
    · rename_i y hfy
      exact Or.inr ⟨hl y (List.mem_of_find?_eq_some hfy), List.find?_some hfy⟩
    · exact ringR_chain f _ _ (lineUp_chain hl (fun z hz => by simp at hz) _ (Nat.le_refl _))

theorem ringFromF_chain (st : St) (s : Int) : ringFromF st s = [] ∨ (ChainW st s (ringFromF st s) ∧ s ∈ waitsF st (lastOf (ringFromF st s))) := by
  rcases ringR_chain (st := st) (s := s) 7 [[s]] [] (fun y hy => by simp at hy; subst hy; exact ⟨by simp, by simp [el], fun i hi => by simp at hi⟩) with h | ⟨h, h'⟩
  · exact Or.inl h
  · exact Or.inr ⟨h, by simp only [hitB, decide_eq_true_eq] at h'; exact h'⟩

/-- what a round adds -/
structure Adds (p q : Wy × List Wy) : Prop where
  old : ∀ x, x ∈ p.1 → x ∈ q.1
  keep : ∀ z, z ∈ p.2 → z ∈ q.2
  new : ∀ x, x ∈ q.1 → x ∈ p.1 ∨ ∃ z, z ∈ q.2 ∧ lastOf z = x
theorem Adds.refl (p : Wy × List Wy) : Adds p p := ⟨fun _ h => h, fun _ h => h, fun _ h => Or.inl h⟩
theorem Adds.trans {p q r : Wy × List Wy} (h : Adds p q) (k : Adds q r) : Adds p r :=
  ⟨fun x hx => k.old x (h.old x hx), fun z hz => k.keep z (h.keep z hz), fun x hx => by
    rcases k.new x hx with hx | hx
    · rcases h.new x hx with hx | ⟨z, hz, e⟩
      · exact Or.inl hx
      · exact Or.inr ⟨z, k.keep z hz, e⟩
    · exact Or.inr hx⟩
theorem stepS_adds (y : Wy) (x : Int) (p : Wy × List Wy) : Adds p (stepS y x p) ∧ x ∈ (stepS y x p).1 := by
  unfold stepS
  split
  · rename_i h
    exact ⟨Adds.refl p, h⟩
  · refine ⟨⟨fun z hz => by simp [hz], fun z hz => by simp [hz], fun z hz => ?_⟩, by simp⟩
    simp only [List.mem_append, List.mem_singleton] at hz
    rcases hz with hz | rfl
    · exact Or.inl hz
    · exact Or.inr ⟨y ++ [z], by simp, lastOf_snoc y z⟩
theorem scanUp_adds (y xs : Wy) (p : Wy × List Wy) : ∀ k, Adds p (scanUp y xs p k) ∧ ∀ j, j < k → el xs j ∈ (scanUp y xs p k).1
  | 0 => ⟨Adds.refl p, fun j hj => by omega⟩
  | k + 1 => by
    obtain ⟨h1, h2⟩ := scanUp_adds y xs p k
    obtain ⟨k1, k2⟩ := stepS_adds y (el xs k) (scanUp y xs p k)
    refine ⟨h1.trans k1, fun j hj => ?_⟩
    by_cases e : j = k
    · subst e; exact k2
    · exact k1.old _ (h2 j (by omega))
theorem lineUp_adds (st : St) (ls : List Wy) (p : Wy × List Wy) : ∀ i, Adds p (lineUp st ls p i) ∧ ∀ j, j < i → ∀ x, x ∈ nextOf st (wyAt ls j) → x ∈ (lineUp st ls p i).1
  | 0 => ⟨Adds.refl p, fun j hj => by omega⟩
  | i + 1 => by
    obtain ⟨h1, h2⟩ := lineUp_adds st ls p i
    obtain ⟨k1, k2⟩ := scanUp_adds (wyAt ls i) (nextOf st (wyAt ls i)) (lineUp st ls p i) (nextOf st (wyAt ls i)).length
    refine ⟨h1.trans k1, fun j hj x hx => ?_⟩
    by_cases e : j = i
    · subst e
      obtain ⟨m, hm, e⟩ := List.mem_iff_getElem.1 hx
      have := k2 m hm
      rw [show el (nextOf st (wyAt ls j)) m = x by simp [el, hm, e]] at this
      exact this
    · exact k1.old _ (h2 j (by omega) x hx)

/-- what was met, and s itself, is at the head of a way that is still looked at, or all that it waits for was met, and is not s -/
def Shut (st : St) (s : Int) (ls : List Wy) (seen : Wy) : Prop := ∀ x, x ∈ seen ∨ x = s → (∃ y, y ∈ ls ∧ lastOf y = x) ∨ ∀ z, z ∈ waitsF st x → z ∈ seen ∧ z ≠ s

/-- a set of trains that is left by no waiting, and from which none waits for s -/
def ShutSet (st : St) (s : Int) (C : Wy) : Prop := ∀ x, x ∈ C ∨ x = s → ∀ z, z ∈ waitsF st x → z ∈ C ∧ z ≠ s

theorem ringR_shut {st : St} (hr : RightSt st) {s : Int} : ∀ f ls seen, PInv st seen.length f (seen, []) → (∀ y, y ∈ ls → y.length + f ≤ 8 ∧ 1 ≤ y.length) → Shut st s ls seen → (ls = [] ∨ 7 ≤ f + seen.length) → ringR st s f ls seen = [] → ∃ C, ShutSet st s C
  | f, [], seen, hp, hy, hs, hf, hn => ⟨seen, fun x hx z hz => by
      rcases hs x hx with ⟨y, hy, _⟩ | h
      · simp at hy
      · exact h z hz⟩
  | 0, y :: ls, seen, hp, hy, hs, hf, hn => by
      have h1 := hp.small
      have h2 := hr.lens
      rcases hf with hf | hf
      · simp at hf
      · simp only at h1
        omega
  | f + 1, y0 :: ls0, seen, hp, hy, hs, hf, hn => by
      generalize hls : y0 :: ls0 = ls at *
      have hnone : ∀ j, j < ls.length → hitB st s (wyAt ls j) = false := fun j hj => by
        cases hh : hitB st s (wyAt ls j) with
        | false => rfl
        | true =>
          exfalso
          simp only [ringR] at hn
          split at hn
          · rename_i y hfy
            have := (hy y (List.mem_of_find?_eq_some hfy)).2
            rw [hn] at this
            simp at this
          · rename_i hfy
            exact absurd hh (List.find?_eq_none.1 hfy _ (wyAt_mem hj))
      rw [ringR_none hnone] at hn
      have hP := lineUp_inv hr hp (fun y h => by have := (hy y h).1; omega) ls.length (Nat.le_refl _)
      obtain ⟨ha, hb⟩ := lineUp_adds st ls (seen, []) ls.length
      have hlen := hP.len
      have hways := hP.ways
      generalize lineUp st ls (seen, []) ls.length = q at *
      refine ringR_shut hr f q.2 q.1 ⟨hP.nodup, hP.sub, by simp, fun y hy => by simp at hy⟩ (fun y h => by have := hways y h; omega) (fun x hx => ?_) ?_ hn
      · have hold : x ∈ seen ∨ x = s → (∃ y, y ∈ q.2 ∧ lastOf y = x) ∨ ∀ z, z ∈ waitsF st x → z ∈ q.1 ∧ z ≠ s := fun hx => by
          refine Or.inr fun z hz => ?_
          rcases hs x hx with ⟨y, hy, e⟩ | h
          · obtain ⟨j, hj, e2⟩ := List.mem_iff_getElem.1 hy
            have hw : wyAt ls j = y := by simp [wyAt, hj, e2]
            have hm : z ∈ nextOf st (wyAt ls j) := by rw [hw, nextOf, e]; exact hz
            refine ⟨hb j hj z hm, fun ez => ?_⟩
            have := hnone j hj
            simp only [hitB, decide_eq_false_iff_not] at this
            exact this (ez ▸ hm)
          · exact ⟨ha.old z (h z hz).1, (h z hz).2⟩
        rcases hx with hx | hx
        · rcases ha.new x hx with h | h
          · exact hold (Or.inl h)
          · exact Or.inl h
        · exact hold (Or.inr hx)
      · by_cases e : q.2 = []
        · exact Or.inl e
        · have := List.length_pos_iff.2 e
          rcases hf with hf | hf
          · simp [← hls] at hf
          · exact Or.inr (by omega)

theorem ringFromF_shut {st : St} (hr : RightSt st) {s : Int} (h : ringFromF st s = []) : ∃ C, ShutSet st s C :=
  ringR_shut hr 7 [[s]] [] ⟨by simp, fun x hx => by simp at hx, rfl, fun y hy => by simp at hy⟩ (fun y hy => by simp at hy; subst hy; simp)
    (fun x hx => Or.inl ⟨[s], by simp, by simp at hx; subst hx; simp [lastOf, el]⟩) (Or.inr (by simp)) h

/-- where each one waits for another one there is a ring -/
theorem shut_nil {st : St} (hr : RightSt st) (hall : ∀ x, x ∈ st.2.2 → ringFromF st x = []) (hw : ∀ x, x ∈ st.2.2 → waitsF st x ≠ []) : ∀ n (C : Wy), C.length ≤ n → (∀ x, x ∈ C → x ∈ st.2.2) → (∀ x, x ∈ C → ∀ z, z ∈ waitsF st x → z ∈ C) → C = []
  | 0, C, h, _, _ => by simpa using h
  | n + 1, [], _, _, _ => rfl
  | n + 1, s :: C, h, hC, hs => by
    exfalso
    obtain ⟨D, hD⟩ := ringFromF_shut hr (hall s (hC s (by simp)))
    have ih := shut_nil hr hall hw n (C.filter (fun x => decide (x ∈ D) && decide (x ≠ s))) (by have := List.length_filter_le (fun x => decide (x ∈ D) && decide (x ≠ s)) C; simp at h; omega)
      (fun x hx => hC x (by simp only [List.mem_filter] at hx; simp [hx.1]))
      (fun x hx z hz => by
        simp only [List.mem_filter, Bool.and_eq_true, decide_eq_true_eq] at hx ⊢
        have h1 := hs x (by simp [hx.1]) z hz
        have h2 := hD x (Or.inl hx.2.1) z hz
        simp only [List.mem_cons] at h1
        rcases h1 with h1 | h1
        · exact absurd h1 h2.2
        · exact ⟨h1, h2⟩)
    obtain ⟨z, hz⟩ := List.exists_mem_of_ne_nil _ (hw s (hC s (by simp)))
    have h1 := hs s (by simp) z hz
    have h2 := hD s (Or.inr rfl) z hz
    simp only [List.mem_cons] at h1
    rcases h1 with h1 | h1
    · exact absurd h1 h2.2
    · have : z ∈ C.filter (fun x => decide (x ∈ D) && decide (x ≠ s)) := by simp only [List.mem_filter, Bool.and_eq_true, decide_eq_true_eq]; exact ⟨h1, h2⟩
      rw [ih] at this
      simp at this

theorem better_cases (b r : Wy) : better b r = b ∨ better b r = r := by unfold better; cases (decide (0 < r.length) && (decide (b.length = 0) || decide (r.length < b.length))) <;> simp
theorem bestUp_cases (st : St) : ∀ k, k ≤ st.2.2.length → bestUp st k = [] ∨ ∃ s, s ∈ st.2.2 ∧ bestUp st k = ringFromF st s
  | 0, _ => Or.inl rfl
  | k + 1, hk => by
    rcases better_cases (bestUp st k) (ringFromF st (el st.2.2 k)) with h | h
    · rw [bestUp, h]; exact bestUp_cases st k (by omega)
    · rw [bestUp, h]; exact Or.inr ⟨_, el_mem (by omega), rfl⟩
theorem bestUp_nil (st : St) : ∀ k, k ≤ st.2.2.length → bestUp st k = [] → ∀ j, j < k → ringFromF st (el st.2.2 j) = []
  | 0, _, _, j, hj => by omega
  | k + 1, hk, h, j, hj => by
    have h1 : ringFromF st (el st.2.2 k) = [] ∧ bestUp st k = [] := by
      rw [bestUp] at h
      unfold better at h
      by_cases e : ringFromF st (el st.2.2 k) = []
      · rw [e] at h
        simp at h
        exact ⟨e, h⟩
      · exfalso
        have := List.length_pos_iff.2 e
        by_cases e2 : bestUp st k = []
        · simp [e2, this] at h
          exact e h
        · have hh : better (bestUp st k) (ringFromF st (el st.2.2 k)) = [] := h
          rcases better_cases (bestUp st k) (ringFromF st (el st.2.2 k)) with h' | h' <;> rw [h'] at hh
          · exact e2 hh
          · exact e hh
    by_cases e : j = k
    · subst e; exact h1.1
    · exact bestUp_nil st k (by omega) h1.2 j (by omega)

/-- what Ring answers is a ring -/
theorem ringF_ring (st : St) : ringF st = [] ∨ ∃ s, ringF st = ringFromF st s ∧ ChainW st s (ringF st) ∧ s ∈ waitsF st (lastOf (ringF st)) := by
  unfold ringF
  by_cases h : stOk st = 0
  · simp only [h, decide_true, cond_true]
    rcases bestUp_cases st st.2.2.length (Nat.le_refl _) with e | ⟨s, _, e⟩
    · exact Or.inl e
    · rw [e]
      rcases ringFromF_chain st s with e | e
      · exact Or.inl e
      · exact Or.inr ⟨s, rfl, e⟩
  · simp [h]
/-- in a ring each waits for the next, the last for the first -/
theorem ringF_next (st : St) (i : Nat) (hi : i < (ringF st).length) : el (ringF st) ((i + 1) % (ringF st).length) ∈ waitsF st (el (ringF st) i) := by
  rcases ringF_ring st with e | ⟨s, _, ⟨h0, h1, h2⟩, h3⟩
  · rw [e] at hi; simp at hi
  · by_cases e : i + 1 < (ringF st).length
    · rw [Nat.mod_eq_of_lt e]; exact h2 i e
    · have : i + 1 = (ringF st).length := by omega
      rw [this, Nat.mod_self, h1, show i = (ringF st).length - 1 by omega]
      exact h3
/-- where each one waits Ring answers one -/
theorem ringF_some {st : St} (hok : stOk st = 0) (hn : 0 < st.2.2.length) (hw : ∀ x, x ∈ st.2.2 → waitsF st x ≠ []) : ringF st ≠ [] := by
  intro h
  have hr := right_of_ok hok
  simp only [ringF, hok, decide_true, cond_true] at h
  have hall : ∀ x, x ∈ st.2.2 → ringFromF st x = [] := fun x hx => by
    obtain ⟨j, hj, e⟩ := List.mem_iff_getElem.1 hx
    have := bestUp_nil st _ (Nat.le_refl _) h j hj
    rwa [show el st.2.2 j = x by simp [el, hj, e]] at this
  have := shut_nil hr hall hw _ st.2.2 (Nat.le_refl _) (fun x hx => hx) (fun x hx z hz => waitsF_mem hr hz)
  rw [this] at hn
  simp at hn
/-- where none waits there is none -/
theorem ringF_none {st : St} (hw : ∀ x, waitsF st x = []) : ringF st = [] := by
  rcases ringF_ring st with e | ⟨s, _, _, h⟩
  · exact e
  · rw [hw] at h; simp at h
end Go.Proofs.Ytmjjigdnoiphbaa

/-
  WHERE NOBODY CAN MOVE: there is a ring, and not all come home. No program here.
-/
namespace Go.Proofs.Ytmjjigdnoiphbaa
open Go.RowKit Go.Deep
set_option linter.unusedVariables false

theorem thereUp_pos (ts : List Tr) (s : Int) : ∀ k, 0 < thereUp ts s k → ∃ j, j < k ∧ tAt ts j = s
  | 0, h => by simp [thereUp] at h
  | k + 1, h => by
    by_cases e : tAt ts k = s
    · exact ⟨k, by omega, e⟩
    · obtain ⟨j, hj, e⟩ := thereUp_pos ts s k (by simpa [thereUp, e] using h)
      exact ⟨j, by omega, e⟩
theorem waitsUp_has (st : St) (i : Nat) {j : Nat} (e : tAt st.2.1 j = el (tPath st.2.1 i) 0) : ∀ k, j < k → el st.2.2 j ∈ waitsUp st i k
  | 0, h => by omega
  | k + 1, h => by
    simp only [waitsUp, List.mem_append]
    by_cases hj : j = k
    · subst hj
      right
      simp [e]
    · exact Or.inl (waitsUp_has st i e k (by omega))
theorem movesUp_nil (st : St) : ∀ k, (movesUp st k).length = 0 → ∀ j, j < k → canB st j = false
  | 0, _, j, hj => by omega
  | k + 1, h, j, hj => by
    simp only [movesUp, List.length_append] at h
    by_cases e : j = k
    · subst e
      cases hc : canB st j
      · rfl
      · rw [hc] at h; simp at h
    · exact movesUp_nil st k (by omega) j (by omega)
theorem movesUp_all (st : St) : ∀ k, (movesUp st k).length = k → ∀ j, j < k → canB st j = true
  | 0, _, j, hj => by omega
  | k + 1, h, j, hj => by
    have := movesUp_le st k
    simp only [movesUp, List.length_append] at h
    by_cases e : j = k
    · subst e
      cases hc : canB st j
      · rw [hc] at h; simp at h; omega
      · rfl
    · refine movesUp_all st k ?_ j (by omega)
      cases hc : canB st k <;> rw [hc] at h <;> simp at h <;> omega
theorem nameIx_lt {ns : List Int} {x : Int} (h : x ∈ ns) : nameIx ns x < ns.length := by
  unfold nameIx
  rw [List.findIdx_lt_length]
  exact ⟨x, h, by simp⟩

theorem stuckF_parts {st : St} (h : stuckF st = true) : stOk st = 0 ∧ 0 < st.2.1.length ∧ ∀ j, j < st.2.1.length → canB st j = false := by
  simp only [stuckF, Bool.and_eq_true, decide_eq_true_eq] at h
  obtain ⟨h1, h2, h3⟩ := h
  refine ⟨h1, h2, fun j hj => ?_⟩
  simp only [movesF, h1, decide_true, cond_true] at h3
  exact movesUp_nil st _ h3 j (by have := (right_of_ok h1).lens; omega)

theorem waits_some {st : St} (hok : stOk st = 0) {x : Int} (hx : x ∈ st.2.2) (hc : canB st (nameIx st.2.2 x) = false) : waitsF st x ≠ [] := by
  have hr := right_of_ok hok
  have hl := hr.lens
  have hi := nameIx_lt hx
  simp only [waitsF, hok, hi, hc, decide_true, Bool.not_false, Bool.and_self, cond_true]
  simp only [canB, Bool.or_eq_false_iff, decide_eq_false_iff_not] at hc
  obtain ⟨k, hk, hk1⟩ := hr.so.first _ (by omega) hc.1
  have h2 := hc.2
  rw [hk] at h2
  have h3 := hr.room k hk1
  simp only [Int.toNat_natCast] at h2
  obtain ⟨j, hj, e⟩ := thereUp_pos st.2.1 (k : Int) st.2.1.length (by have : there st.2.1 (k : Int) = thereUp st.2.1 (k : Int) st.2.1.length := rfl; omega)
  exact List.ne_nil_of_mem (waitsUp_has st _ (by rw [hk]; exact e) _ hj)

/-- where nobody can move there is a ring -/
theorem stuck_ring {st : St} (h : stuckF st = true) : ringF st ≠ [] := by
  obtain ⟨h1, h2, h3⟩ := stuckF_parts h
  have hl := (right_of_ok h1).lens
  exact ringF_some h1 (by omega) (fun x hx => waits_some h1 hx (h3 _ (by have := nameIx_lt hx; omega)))
/-- and not all come home -/
theorem stuck_unsafe {st : St} (h : stuckF st = true) : safeF st = false := by
  obtain ⟨h1, h2, h3⟩ := stuckF_parts h
  have hr := right_of_ok h1
  cases hs : safeF st with
  | false => rfl
  | true =>
    exfalso
    simp only [safeF, Bool.and_eq_true, decide_eq_true_eq] at hs
    have hv := hs.2
    rw [← behind_pz hr.lens.2.2.2, safe_iff hr.so (pz_ok st)] at hv
    rcases hv with hv | ⟨i, hi, hc, _⟩
    · have := hv 0 h2
      simp [leftB, pz] at this
    · rw [canP_pz, h3 i hi] at hc
      simp at hc
/-- where all can move there is no ring -/
theorem moves_ring {st : St} (h : (movesF st).length = st.2.1.length) : ringF st = [] := by
  by_cases hok : stOk st = 0
  · have hl := (right_of_ok hok).lens
    simp only [movesF, hok, decide_true, cond_true] at h
    refine ringF_none (fun x => ?_)
    unfold waitsF
    by_cases hi : nameIx st.2.2 x < st.2.2.length
    · rw [movesUp_all st _ (by omega) _ hi]; simp
    · simp [hi]
  · simp [ringF, hok]
end Go.Proofs.Ytmjjigdnoiphbaa

/-
  TRAINS IN A RING, each of which wants to go to the next section. No program here.
-/
namespace Go.Proofs.Ytmjjigdnoiphbaa
open Go.RowKit Go.Deep
set_option linter.unusedVariables false
set_option linter.unusedSimpArgs false

theorem from2 {st : St} {b0 b1 : Int} (h01 : b0 ≠ b1) (h0 : waitsF st b0 = [b1]) (h1 : waitsF st b1 = [b0]) : ringFromF st b0 = [b0, b1] := by
  have h10 := Ne.symm h01
  simp [ringFromF, ringR, hitB, nextOf, lastOf, el, lineUp, scanUp, stepS, wyAt, h0, h1, h01, h10]
theorem from3 {st : St} {b0 b1 b2 : Int} (h01 : b0 ≠ b1) (h02 : b0 ≠ b2) (h12 : b1 ≠ b2) (h0 : waitsF st b0 = [b1]) (h1 : waitsF st b1 = [b2]) (h2 : waitsF st b2 = [b0]) : ringFromF st b0 = [b0, b1, b2] := by
  have h10 := Ne.symm h01
  have h20 := Ne.symm h02
  have h21 := Ne.symm h12
  simp [ringFromF, ringR, hitB, nextOf, lastOf, el, lineUp, scanUp, stepS, wyAt, h0, h1, h2, h01, h10, h02, h20, h12, h21]
theorem from4 {st : St} {b0 b1 b2 b3 : Int} (h01 : b0 ≠ b1) (h02 : b0 ≠ b2) (h03 : b0 ≠ b3) (h12 : b1 ≠ b2) (h13 : b1 ≠ b3) (h23 : b2 ≠ b3) (h0 : waitsF st b0 = [b1]) (h1 : waitsF st b1 = [b2]) (h2 : waitsF st b2 = [b3]) (h3 : waitsF st b3 = [b0]) : ringFromF st b0 = [b0, b1, b2, b3] := by
  have h10 := Ne.symm h01
  have h20 := Ne.symm h02
  have h30 := Ne.symm h03
  have h21 := Ne.symm h12
  have h31 := Ne.symm h13
  have h32 := Ne.symm h23
  simp [ringFromF, ringR, hitB, nextOf, lastOf, el, lineUp, scanUp, stepS, wyAt, h0, h1, h2, h3, h01, h10, h02, h20, h12, h21, h03, h30, h13, h31, h23, h32]
theorem from5 {st : St} {b0 b1 b2 b3 b4 : Int} (h01 : b0 ≠ b1) (h02 : b0 ≠ b2) (h03 : b0 ≠ b3) (h04 : b0 ≠ b4) (h12 : b1 ≠ b2) (h13 : b1 ≠ b3) (h14 : b1 ≠ b4) (h23 : b2 ≠ b3) (h24 : b2 ≠ b4) (h34 : b3 ≠ b4) (h0 : waitsF st b0 = [b1]) (h1 : waitsF st b1 = [b2]) (h2 : waitsF st b2 = [b3]) (h3 : waitsF st b3 = [b4]) (h4 : waitsF st b4 = [b0]) : ringFromF st b0 = [b0, b1, b2, b3, b4] := by
  have h10 := Ne.symm h01
  have h20 := Ne.symm h02
  have h30 := Ne.symm h03
  have h40 := Ne.symm h04
  have h21 := Ne.symm h12
  have h31 := Ne.symm h13
  have h41 := Ne.symm h14
  have h32 := Ne.symm h23
  have h42 := Ne.symm h24
  have h43 := Ne.symm h34
  simp [ringFromF, ringR, hitB, nextOf, lastOf, el, lineUp, scanUp, stepS, wyAt, h0, h1, h2, h3, h4, h01, h10, h02, h20, h12, h21, h03, h30, h13, h31, h23, h32, h04, h40, h14, h41, h24, h42, h34, h43]

/-- n trains in a ring of n sections; names from b on, by threes -/
def ringSt (n : Nat) (b : Int) : St := ((List.range n).map (fun (_ : Nat) => (1 : Int)), (List.range n).map (fun (i : Nat) => ((i : Int), [(((i + 1) % n : Nat) : Int)], (1 : Int))), (List.range n).map (fun (i : Nat) => 3 * (i : Int) + b))
theorem el_range {n : Nat} (f : Nat → Int) {i : Nat} (h : i < n) : el ((List.range n).map f) i = f i := by simp [el, h]
theorem ringSt_ix (n : Nat) (b : Int) {i : Nat} (h : i < n) : nameIx (ringSt n b).2.2 (3 * (i : Int) + b) = i :=
  nameIx_at (by simp [ringSt, h]) (el_range _ h) (fun j hj => by rw [ringSt, el_range _ (by omega)]; omega)
theorem ringSt_names (n : Nat) (b : Int) (h0 : 0 ≤ b) (h1 : b ≤ 255) (hn : n ≤ 5) : namesB (ringSt n b).2.2 = true := by
  refine allUp_true (fun i hi => ?_)
  have hi' : i < n := by simpa [ringSt] using hi
  simp only [nameB, inR, Bool.and_eq_true, Bool.or_eq_true, decide_eq_true_eq]
  rw [ringSt, el_range _ hi', el_range _ (show i - 1 < n by omega)]
  refine ⟨⟨by omega, by omega⟩, ?_⟩
  by_cases e : i = 0
  · exact Or.inl e
  · exact Or.inr (by omega)
theorem waits_one {st : St} (hok : stOk st = 0) {x : Int} {i : Nat} (hi : nameIx st.2.2 x = i) (hl : i < st.2.2.length) (hc : canB st i = false) : waitsF st x = waitsUp st i st.2.1.length := by
  simp [waitsF, hok, hi, hl, hc]
theorem ok2 {b : Int} (h0 : 0 ≤ b) (h1 : b ≤ 255) : stOk (ringSt 2 b) = 0 := stOk0 rfl rfl rfl (ringSt_names 2 b h0 h1 (by omega)) rfl
theorem waits2 {b : Int} (h0 : 0 ≤ b) (h1 : b ≤ 255) : waitsF (ringSt 2 b) (3 * (0 : Nat) + b) = [3 * (1 : Nat) + b] ∧ waitsF (ringSt 2 b) (3 * (1 : Nat) + b) = [3 * (0 : Nat) + b] := by
  have hok := ok2 h0 h1
  exact ⟨(waits_one hok (ringSt_ix 2 b (i := 0) (by omega)) (by simp [ringSt]) rfl).trans rfl, (waits_one hok (ringSt_ix 2 b (i := 1) (by omega)) (by simp [ringSt]) rfl).trans rfl⟩
theorem ring2 {b : Int} (h0 : 0 ≤ b) (h1 : b ≤ 255) : ringF (ringSt 2 b) = (ringSt 2 b).2.2 := by
  have hok := ok2 h0 h1
  obtain ⟨w0, w1⟩ := waits2 h0 h1
  have f0 : ringFromF (ringSt 2 b) (3 * (0 : Nat) + b) = [3 * ((0 : Nat) : Int) + b, 3 * ((1 : Nat) : Int) + b] := from2 (by omega) w0 w1
  have f1 : ringFromF (ringSt 2 b) (3 * (1 : Nat) + b) = [3 * ((1 : Nat) : Int) + b, 3 * ((0 : Nat) : Int) + b] := from2 (by omega) w1 w0
  have hb : bestUp (ringSt 2 b) 2 = (ringSt 2 b).2.2 := by
    show better (better [] (ringFromF (ringSt 2 b) (3 * (0 : Nat) + b))) (ringFromF (ringSt 2 b) (3 * (1 : Nat) + b)) = [3 * ((0 : Nat) : Int) + b, 3 * ((1 : Nat) : Int) + b]
    rw [f0, f1]
    rfl
  unfold ringF
  rw [hok]
  exact hb
theorem stuck2 {b : Int} (h0 : 0 ≤ b) (h1 : b ≤ 255) : stuckF (ringSt 2 b) = true := by
  unfold stuckF movesF
  rw [ok2 h0 h1]
  rfl
theorem ok3 {b : Int} (h0 : 0 ≤ b) (h1 : b ≤ 255) : stOk (ringSt 3 b) = 0 := stOk0 rfl rfl rfl (ringSt_names 3 b h0 h1 (by omega)) rfl
theorem waits3 {b : Int} (h0 : 0 ≤ b) (h1 : b ≤ 255) : waitsF (ringSt 3 b) (3 * (0 : Nat) + b) = [3 * (1 : Nat) + b] ∧ waitsF (ringSt 3 b) (3 * (1 : Nat) + b) = [3 * (2 : Nat) + b] ∧ waitsF (ringSt 3 b) (3 * (2 : Nat) + b) = [3 * (0 : Nat) + b] := by
  have hok := ok3 h0 h1
  exact ⟨(waits_one hok (ringSt_ix 3 b (i := 0) (by omega)) (by simp [ringSt]) rfl).trans rfl, (waits_one hok (ringSt_ix 3 b (i := 1) (by omega)) (by simp [ringSt]) rfl).trans rfl, (waits_one hok (ringSt_ix 3 b (i := 2) (by omega)) (by simp [ringSt]) rfl).trans rfl⟩
theorem ring3 {b : Int} (h0 : 0 ≤ b) (h1 : b ≤ 255) : ringF (ringSt 3 b) = (ringSt 3 b).2.2 := by
  have hok := ok3 h0 h1
  obtain ⟨w0, w1, w2⟩ := waits3 h0 h1
  have f0 : ringFromF (ringSt 3 b) (3 * (0 : Nat) + b) = [3 * ((0 : Nat) : Int) + b, 3 * ((1 : Nat) : Int) + b, 3 * ((2 : Nat) : Int) + b] := from3 (by omega) (by omega) (by omega) w0 w1 w2
  have f1 : ringFromF (ringSt 3 b) (3 * (1 : Nat) + b) = [3 * ((1 : Nat) : Int) + b, 3 * ((2 : Nat) : Int) + b, 3 * ((0 : Nat) : Int) + b] := from3 (by omega) (by omega) (by omega) w1 w2 w0
  have f2 : ringFromF (ringSt 3 b) (3 * (2 : Nat) + b) = [3 * ((2 : Nat) : Int) + b, 3 * ((0 : Nat) : Int) + b, 3 * ((1 : Nat) : Int) + b] := from3 (by omega) (by omega) (by omega) w2 w0 w1
  have hb : bestUp (ringSt 3 b) 3 = (ringSt 3 b).2.2 := by
    show better (better (better [] (ringFromF (ringSt 3 b) (3 * (0 : Nat) + b))) (ringFromF (ringSt 3 b) (3 * (1 : Nat) + b))) (ringFromF (ringSt 3 b) (3 * (2 : Nat) + b)) = [3 * ((0 : Nat) : Int) + b, 3 * ((1 : Nat) : Int) + b, 3 * ((2 : Nat) : Int) + b]
    rw [f0, f1, f2]
    rfl
  unfold ringF
  rw [hok]
  exact hb
theorem stuck3 {b : Int} (h0 : 0 ≤ b) (h1 : b ≤ 255) : stuckF (ringSt 3 b) = true := by
  unfold stuckF movesF
  rw [ok3 h0 h1]
  rfl
theorem ok4 {b : Int} (h0 : 0 ≤ b) (h1 : b ≤ 255) : stOk (ringSt 4 b) = 0 := stOk0 rfl rfl rfl (ringSt_names 4 b h0 h1 (by omega)) rfl
theorem waits4 {b : Int} (h0 : 0 ≤ b) (h1 : b ≤ 255) : waitsF (ringSt 4 b) (3 * (0 : Nat) + b) = [3 * (1 : Nat) + b] ∧ waitsF (ringSt 4 b) (3 * (1 : Nat) + b) = [3 * (2 : Nat) + b] ∧ waitsF (ringSt 4 b) (3 * (2 : Nat) + b) = [3 * (3 : Nat) + b] ∧ waitsF (ringSt 4 b) (3 * (3 : Nat) + b) = [3 * (0 : Nat) + b] := by
  have hok := ok4 h0 h1
  exact ⟨(waits_one hok (ringSt_ix 4 b (i := 0) (by omega)) (by simp [ringSt]) rfl).trans rfl, (waits_one hok (ringSt_ix 4 b (i := 1) (by omega)) (by simp [ringSt]) rfl).trans rfl, (waits_one hok (ringSt_ix 4 b (i := 2) (by omega)) (by simp [ringSt]) rfl).trans rfl, (waits_one hok (ringSt_ix 4 b (i := 3) (by omega)) (by simp [ringSt]) rfl).trans rfl⟩
theorem ring4 {b : Int} (h0 : 0 ≤ b) (h1 : b ≤ 255) : ringF (ringSt 4 b) = (ringSt 4 b).2.2 := by
  have hok := ok4 h0 h1
  obtain ⟨w0, w1, w2, w3⟩ := waits4 h0 h1
  have f0 : ringFromF (ringSt 4 b) (3 * (0 : Nat) + b) = [3 * ((0 : Nat) : Int) + b, 3 * ((1 : Nat) : Int) + b, 3 * ((2 : Nat) : Int) + b, 3 * ((3 : Nat) : Int) + b] := from4 (by omega) (by omega) (by omega) (by omega) (by omega) (by omega) w0 w1 w2 w3
  have f1 : ringFromF (ringSt 4 b) (3 * (1 : Nat) + b) = [3 * ((1 : Nat) : Int) + b, 3 * ((2 : Nat) : Int) + b, 3 * ((3 : Nat) : Int) + b, 3 * ((0 : Nat) : Int) + b] := from4 (by omega) (by omega) (by omega) (by omega) (by omega) (by omega) w1 w2 w3 w0
  have f2 : ringFromF (ringSt 4 b) (3 * (2 : Nat) + b) = [3 * ((2 : Nat) : Int) + b, 3 * ((3 : Nat) : Int) + b, 3 * ((0 : Nat) : Int) + b, 3 * ((1 : Nat) : Int) + b] := from4 (by omega) (by omega) (by omega) (by omega) (by omega) (by omega) w2 w3 w0 w1
  have f3 : ringFromF (ringSt 4 b) (3 * (3 : Nat) + b) = [3 * ((3 : Nat) : Int) + b, 3 * ((0 : Nat) : Int) + b, 3 * ((1 : Nat) : Int) + b, 3 * ((2 : Nat) : Int) + b] := from4 (by omega) (by omega) (by omega) (by omega) (by omega) (by omega) w3 w0 w1 w2
  have hb : bestUp (ringSt 4 b) 4 = (ringSt 4 b).2.2 := by
    show better (better (better (better [] (ringFromF (ringSt 4 b) (3 * (0 : Nat) + b))) (ringFromF (ringSt 4 b) (3 * (1 : Nat) + b))) (ringFromF (ringSt 4 b) (3 * (2 : Nat) + b))) (ringFromF (ringSt 4 b) (3 * (3 : Nat) + b)) = [3 * ((0 : Nat) : Int) + b, 3 * ((1 : Nat) : Int) + b, 3 * ((2 : Nat) : Int) + b, 3 * ((3 : Nat) : Int) + b]
    rw [f0, f1, f2, f3]
    rfl
  unfold ringF
  rw [hok]
  exact hb
theorem stuck4 {b : Int} (h0 : 0 ≤ b) (h1 : b ≤ 255) : stuckF (ringSt 4 b) = true := by
  unfold stuckF movesF
  rw [ok4 h0 h1]
  rfl
theorem ok5 {b : Int} (h0 : 0 ≤ b) (h1 : b ≤ 255) : stOk (ringSt 5 b) = 0 := stOk0 rfl rfl rfl (ringSt_names 5 b h0 h1 (by omega)) rfl
theorem waits5 {b : Int} (h0 : 0 ≤ b) (h1 : b ≤ 255) : waitsF (ringSt 5 b) (3 * (0 : Nat) + b) = [3 * (1 : Nat) + b] ∧ waitsF (ringSt 5 b) (3 * (1 : Nat) + b) = [3 * (2 : Nat) + b] ∧ waitsF (ringSt 5 b) (3 * (2 : Nat) + b) = [3 * (3 : Nat) + b] ∧ waitsF (ringSt 5 b) (3 * (3 : Nat) + b) = [3 * (4 : Nat) + b] ∧ waitsF (ringSt 5 b) (3 * (4 : Nat) + b) = [3 * (0 : Nat) + b] := by
  have hok := ok5 h0 h1
  exact ⟨(waits_one hok (ringSt_ix 5 b (i := 0) (by omega)) (by simp [ringSt]) rfl).trans rfl, (waits_one hok (ringSt_ix 5 b (i := 1) (by omega)) (by simp [ringSt]) rfl).trans rfl, (waits_one hok (ringSt_ix 5 b (i := 2) (by omega)) (by simp [ringSt]) rfl).trans rfl, (waits_one hok (ringSt_ix 5 b (i := 3) (by omega)) (by simp [ringSt]) rfl).trans rfl, (waits_one hok (ringSt_ix 5 b (i := 4) (by omega)) (by simp [ringSt]) rfl).trans rfl⟩
theorem ring5 {b : Int} (h0 : 0 ≤ b) (h1 : b ≤ 255) : ringF (ringSt 5 b) = (ringSt 5 b).2.2 := by
  have hok := ok5 h0 h1
  obtain ⟨w0, w1, w2, w3, w4⟩ := waits5 h0 h1
  have f0 : ringFromF (ringSt 5 b) (3 * (0 : Nat) + b) = [3 * ((0 : Nat) : Int) + b, 3 * ((1 : Nat) : Int) + b, 3 * ((2 : Nat) : Int) + b, 3 * ((3 : Nat) : Int) + b, 3 * ((4 : Nat) : Int) + b] := from5 (by omega) (by omega) (by omega) (by omega) (by omega) (by omega) (by omega) (by omega) (by omega) (by omega) w0 w1 w2 w3 w4
  have f1 : ringFromF (ringSt 5 b) (3 * (1 : Nat) + b) = [3 * ((1 : Nat) : Int) + b, 3 * ((2 : Nat) : Int) + b, 3 * ((3 : Nat) : Int) + b, 3 * ((4 : Nat) : Int) + b, 3 * ((0 : Nat) : Int) + b] := from5 (by omega) (by omega) (by omega) (by omega) (by omega) (by omega) (by omega) (by omega) (by omega) (by omega) w1 w2 w3 w4 w0
  have f2 : ringFromF (ringSt 5 b) (3 * (2 : Nat) + b) = [3 * ((2 : Nat) : Int) + b, 3 * ((3 : Nat) : Int) + b, 3 * ((4 : Nat) : Int) + b, 3 * ((0 : Nat) : Int) + b, 3 * ((1 : Nat) : Int) + b] := from5 (by omega) (by omega) (by omega) (by omega) (by omega) (by omega) (by omega) (by omega) (by omega) (by omega) w2 w3 w4 w0 w1
  have f3 : ringFromF (ringSt 5 b) (3 * (3 : Nat) + b) = [3 * ((3 : Nat) : Int) + b, 3 * ((4 : Nat) : Int) + b, 3 * ((0 : Nat) : Int) + b, 3 * ((1 : Nat) : Int) + b, 3 * ((2 : Nat) : Int) + b] := from5 (by omega) (by omega) (by omega) (by omega) (by omega) (by omega) (by omega) (by omega) (by omega) (by omega) w3 w4 w0 w1 w2
  have f4 : ringFromF (ringSt 5 b) (3 * (4 : Nat) + b) = [3 * ((4 : Nat) : Int) + b, 3 * ((0 : Nat) : Int) + b, 3 * ((1 : Nat) : Int) + b, 3 * ((2 : Nat) : Int) + b, 3 * ((3 : Nat) : Int) + b] := from5 (by omega) (by omega) (by omega) (by omega) (by omega) (by omega) (by omega) (by omega) (by omega) (by omega) w4 w0 w1 w2 w3
  have hb : bestUp (ringSt 5 b) 5 = (ringSt 5 b).2.2 := by
    show better (better (better (better (better [] (ringFromF (ringSt 5 b) (3 * (0 : Nat) + b))) (ringFromF (ringSt 5 b) (3 * (1 : Nat) + b))) (ringFromF (ringSt 5 b) (3 * (2 : Nat) + b))) (ringFromF (ringSt 5 b) (3 * (3 : Nat) + b))) (ringFromF (ringSt 5 b) (3 * (4 : Nat) + b)) = [3 * ((0 : Nat) : Int) + b, 3 * ((1 : Nat) : Int) + b, 3 * ((2 : Nat) : Int) + b, 3 * ((3 : Nat) : Int) + b, 3 * ((4 : Nat) : Int) + b]
    rw [f0, f1, f2, f3, f4]
    rfl
  unfold ringF
  rw [hok]
  exact hb
theorem stuck5 {b : Int} (h0 : 0 ≤ b) (h1 : b ≤ 255) : stuckF (ringSt 5 b) = true := by
  unfold stuckF movesF
  rw [ok5 h0 h1]
  rfl
/-- of 2 to 5 trains in a ring: nobody can move, not all come home, and the ring is all of them -/
theorem ringSt_all {n : Nat} {b : Int} (hn2 : 2 ≤ n) (hn5 : n ≤ 5) (h0 : 0 ≤ b) (h1 : b ≤ 255) : stuckF (ringSt n b) = true ∧ safeF (ringSt n b) = false ∧ ringF (ringSt n b) = (ringSt n b).2.2 := by
  have hs : stuckF (ringSt n b) = true ∧ ringF (ringSt n b) = (ringSt n b).2.2 := by
    rcases (show n = 2 ∨ n = 3 ∨ n = 4 ∨ n = 5 by omega) with rfl | rfl | rfl | rfl
    · exact ⟨stuck2 h0 h1, ring2 h0 h1⟩
    · exact ⟨stuck3 h0 h1, ring3 h0 h1⟩
    · exact ⟨stuck4 h0 h1, ring4 h0 h1⟩
    · exact ⟨stuck5 h0 h1, ring5 h0 h1⟩
  exact ⟨hs.1, stuck_unsafe hs.1, hs.2⟩
end Go.Proofs.Ytmjjigdnoiphbaa

/-
  A STATE THAT IS BUILT BY append, its rooms too; the ring of n trains.
-/
namespace Go.Proofs.Ytmjjigdnoiphbaa
open Go.RowKit Go.Deep
set_option linter.unusedVariables false

section
variable {b5 : Nat} {rv : Value} {rs : List Int} {ts : List Tr} {ns : List Int} {w w' wa : World} {tv nv : Value} {pa : Nat → Option Addr} {pc : Nat → Nat}
theorem Drw.snocR (h : Drw b5 rv rs ts ns w tv nv pa pc) (hba : Below w.heap.size w wa) {x : Int} {g cap : Nat}
    (hown : OwnInts (b5 + 1) w' (.slice (some ⟨g, 0, none⟩) (rs.length + 1) cap) (rs ++ [x]))
    (hgrow : wa.grownBy w' rv.ownBlock) (hat : rv.ownBlock = some g ∨ wa.heap.size ≤ g) :
    Drw b5 (.slice (some ⟨g, 0, none⟩) (rs.length + 1) cap) (rs ++ [x]) ts ns (w'.setCell ⟨b5, 0, none⟩ (.slice (some ⟨g, 0, none⟩) (rs.length + 1) cap)) tv nv pa pc ∧ Below b5 w (w'.setCell ⟨b5, 0, none⟩ (.slice (some ⟨g, 0, none⟩) (rs.length + 1) cap)) := by
  have hlt := h.lt
  have hbs := hba.size
  have hkeep : ∀ k, k < w.heap.size → rv.ownBlock ≠ some k → w'.heap[k]? = w.heap[k]? := fun k hk hne => by
    rw [hgrow.block k (Nat.lt_of_lt_of_le hk hba.size) (fun e => hne e.symm), hba.block k hk]
  have hset : ∀ k, k ≠ b5 → (w'.setCell ⟨b5, 0, none⟩ (.slice (some ⟨g, 0, none⟩) (rs.length + 1) cap)).heap[k]? = w'.heap[k]? := fun k hk => Below.heap_setCell _ _ _ _ hk
  have hg : ∀ k, Value.ownBlock (.slice (some ⟨g, 0, none⟩) (rs.length + 1) cap) = some k → rv.ownBlock = some k ∨ w.heap.size ≤ k := fun k hk => by
    simp [Value.ownBlock] at hk
    subst hk
    rcases hat with e | e
    · exact Or.inl e
    · exact Or.inr (by omega)
  refine ⟨⟨⟨block3_set0 ((hkeep b5 hlt h.rvNe).trans h.mov.var) _, ?_, ?_, h.mov.ap, Chg.refl _ _⟩, ?_, fun k hk e => ?_, fun k hk e => ?_⟩, ?_⟩
  · refine h.mov.tr.keep (by have := hgrow.size; simp; omega) (fun k hk e => ?_)
    rw [hset k (by have := (h.mov.tr.FG_lo e).1; omega), hkeep k hk (fun e' => h.apt k e' e)]
  · refine h.mov.nm.far (fun k hk => ?_)
    have u := h.mov.nm.own hk
    rw [hset k (by omega), hkeep k u.2 (fun e' => h.apn k e' hk)]
  · exact hown.far (fun k hk => hset k (by have := (hown.own hk).1; omega))
  · rcases hg k hk with e' | e'
    · exact h.apt k e' e
    · have := (h.mov.tr.FG_lo e).2; omega
  · rcases hg k hk with e' | e'
    · exact h.apn k e' e
    · have := (h.mov.nm.own e).2; omega
  · have h1 : Below b5 w w' := (hba.mono (by omega)).trans ((Below.refl _ _).grown hgrow (by omega) (fun k hk => by have := (h.rm.own hk).1; omega))
    exact h1.setCell (by simp) _
end

/-- k trains of the ring of n -/
def ringUp (n : Nat) (b : Int) (k : Nat) : St := ((List.range k).map (fun (_ : Nat) => (1 : Int)), (List.range k).map (fun (i : Nat) => ((i : Int), [(((i + 1) % n : Nat) : Int)], (1 : Int))), (List.range k).map (fun (i : Nat) => 3 * (i : Int) + b))
theorem ringUp_all (n : Nat) (b : Int) : ringUp n b n = ringSt n b := rfl
theorem ringUp_len (n : Nat) (b : Int) (k : Nat) : (ringUp n b k).1.length = k ∧ (ringUp n b k).2.1.length = k ∧ (ringUp n b k).2.2.length = k := by simp [ringUp]
theorem ringUp_succ (n : Nat) (b : Int) (k : Nat) : ringUp n b (k + 1) = ((ringUp n b k).1 ++ [1], (ringUp n b k).2.1 ++ [((k : Int), [(((k + 1) % n : Nat) : Int)], (1 : Int))], (ringUp n b k).2.2 ++ [3 * (k : Int) + b]) := by
  simp [ringUp, List.range_succ]
theorem ringSt_paths (n : Nat) (b : Int) : ∀ i, i < (ringSt n b).2.1.length → (tPath (ringSt n b).2.1 i).length ≤ 4611686018427387904 := fun i hi => by
  have hi' : i < n := by simpa [ringSt] using hi
  simp [ringSt, tPath, hi']
end Go.Proofs.Ytmjjigdnoiphbaa
