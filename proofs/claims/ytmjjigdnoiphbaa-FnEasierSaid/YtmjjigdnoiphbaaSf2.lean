/-
  HOW FAR THEY HAVE COME, AS A NUMBER; WHAT IS SAFE. No program here.
-/
import Derived.Test.YtmjjigdnoiphbaaSf1
namespace Go.Proofs.Ytmjjigdnoiphbaa
open Go.RowKit Go.Deep
set_option linter.unusedVariables false

theorem RightSt.asc {st : St} (h : RightSt st) {i : Nat} : ∀ j, i < j → j < st.2.2.length → el st.2.2 i < el st.2.2 j
  | 0, h1, _ => absurd h1 (Nat.not_lt_zero _)
  | j + 1, h1, h2 => by
    have := allUp_at h.names (j + 1) h2
    simp only [nameB, Bool.and_eq_true, Bool.or_eq_true, decide_eq_true_eq, Nat.add_sub_cancel] at this
    have h3 : el st.2.2 j < el st.2.2 (j + 1) := by
      rcases this.2 with e | e
      · omega
      · exact e
    by_cases e : i = j
    · subst e; exact h3
    · have := RightSt.asc (i := i) h j (by omega) (by omega)
      omega
theorem RightSt.inj {st : St} (h : RightSt st) {i j : Nat} (hi : i < st.2.2.length) (hj : j < st.2.2.length) (e : el st.2.2 i = el st.2.2 j) : i = j := by
  rcases Nat.lt_trichotomy i j with h1 | h1 | h1
  · have := h.asc j h1 hj; omega
  · exact h1
  · have := h.asc i h1 hi; omega

/-- where a train is among those that are there yet -/
theorem nameIx_behind {st : St} (h : RightSt st) {d : Nat → Nat} {i : Nat} (hi : i < st.2.1.length) :
    (leftB st.2.1 d i = false → nameIx (behindSt st d).2.2 (el st.2.2 i) = posUp st.2.1 d i) ∧ (leftB st.2.1 d i = true → ¬ nameIx (behindSt st d).2.2 (el st.2.2 i) < (behindSt st d).2.2.length) := by
  have hn := h.lens.2.2.2
  have hlen : (behindSt st d).2.2.length = posUp st.2.1 d st.2.1.length := bhN_len _ _ _ _
  have key : ∀ j, j < (behindSt st d).2.2.length → el (behindSt st d).2.2 j = el st.2.2 i → leftB st.2.1 d i = false ∧ posUp st.2.1 d i = j := fun j hj e => by
    rw [hlen] at hj
    obtain ⟨q, h1, h2, h3⟩ := pos_inv _ hj
    subst h3
    rw [behind_name h1 h2] at e
    have := h.inj (by omega) (by omega) e
    subst this
    exact ⟨h2, rfl⟩
  constructor
  · intro hl
    refine nameIx_at (by rw [hlen]; exact posUp_lt hi hl) (behind_name hi hl) (fun j hj e => ?_)
    have := (key j (by rw [hlen]; have := posUp_lt hi hl; omega) e).2
    omega
  · intro hl hlt
    have : (behindSt st d).2.2[nameIx (behindSt st d).2.2 (el st.2.2 i)]? = some (el st.2.2 i) := by
      rw [List.getElem?_eq_getElem hlt]
      have := List.findIdx_getElem (w := hlt) (p := fun y => decide (y = el st.2.2 i))
      simp only [decide_eq_true_eq] at this
      exact congrArg some this
    have e : el (behindSt st d).2.2 (nameIx (behindSt st d).2.2 (el st.2.2 i)) = el st.2.2 i := by unfold el at this ⊢; rw [this]; rfl
    rw [(key _ hlt e).1] at hl
    cases hl

theorem SoSt.behind {st : St} (h : SoSt st) {d : Nat → Nat} (hd : PrOk st d) : SoSt (behindSt st d) := by
  have hb := posUp_le st.2.1 d st.2.1.length
  refine ⟨⟨h.lens.1, h.lens.2.1, by rw [behind_len]; have := h.lens.2.2.1; omega, by rw [behind_len]; exact bhN_len _ _ _ _⟩, fun j hj => ?_⟩
  rw [behind_len] at hj
  obtain ⟨i, h1, h2, rfl⟩ := pos_inv _ hj
  obtain ⟨b1, b2, b3⟩ := behind_at h1 h2
  rw [b1, b2, b3]
  obtain ⟨t1, t2, t3, t4, t5, t6⟩ := h.train i h1
  have hl : ¬ (tPath st.2.1 i).length < d i := by simpa [leftB] using h2
  have hat : 0 ≤ farAt (tAt st.2.1 i) (tPath st.2.1 i) (d i) ∧ farAt (tAt st.2.1 i) (tPath st.2.1 i) (d i) < st.1.length := by
    unfold farAt
    split
    · exact ⟨t1, t2⟩
    · exact t6 _ (by omega)
  refine ⟨hat.1, hat.2, by rw [List.length_drop]; omega, t4, t5, fun q hq => ?_⟩
  rw [List.length_drop] at hq
  have : el ((tPath st.2.1 i).drop (d i)) q = el (tPath st.2.1 i) (d i + q) := by simp [el, List.getElem?_drop]
  rw [this]
  exact t6 _ (by omega)

def idxUp (ts : List Tr) (d : Nat → Nat) : Nat → Nat
  | 0 => 0
  | k + 1 => idxUp ts d k * ((tPath ts k).length + 2) + d k
def prodUp (ts : List Tr) : Nat → Nat
  | 0 => 1
  | k + 1 => prodUp ts k * ((tPath ts k).length + 2)
theorem idx_lt {st : St} {d : Nat → Nat} (hd : PrOk st d) : ∀ k, k ≤ st.2.1.length → idxUp st.2.1 d k < prodUp st.2.1 k
  | 0, _ => by simp [idxUp, prodUp]
  | k + 1, hk => by
    have ih := idx_lt hd k (by omega)
    have h1 := hd k (by omega)
    simp only [idxUp, prodUp]
    have h2 : (idxUp st.2.1 d k + 1) * ((tPath st.2.1 k).length + 2) ≤ prodUp st.2.1 k * ((tPath st.2.1 k).length + 2) := Nat.mul_le_mul_right _ ih
    rw [Nat.add_mul, Nat.one_mul] at h2
    omega
theorem mixed {x y m a b : Nat} (h : x * m + a = y * m + b) (ha : a < m) (hb : b < m) : x = y ∧ a = b := by
  have h1 : (x * m + a) / m = x := by rw [Nat.mul_comm, Nat.mul_add_div (by omega), Nat.div_eq_of_lt ha]; rfl
  have h2 : (y * m + b) / m = y := by rw [Nat.mul_comm, Nat.mul_add_div (by omega), Nat.div_eq_of_lt hb]; rfl
  have h3 : x = y := by rw [← h1, h, h2]
  subst h3
  exact ⟨rfl, by omega⟩
theorem idx_inj {st : St} {d d' : Nat → Nat} (hd : PrOk st d) (hd' : PrOk st d') : ∀ k, k ≤ st.2.1.length → idxUp st.2.1 d k = idxUp st.2.1 d' k → ∀ i, i < k → d i = d' i
  | 0, _, _, i, hi => absurd hi (Nat.not_lt_zero _)
  | k + 1, hk, h, i, hi => by
    have h1 := hd k (by omega)
    have h2 := hd' k (by omega)
    obtain ⟨e1, e2⟩ := mixed h (by omega) (by omega)
    by_cases e : i = k
    · subst e; exact e2
    · exact idx_inj hd hd' k (by omega) e1 i (by omega)
theorem behind_congr {st : St} {d d' : Nat → Nat} (h : ∀ i, i < st.2.1.length → d i = d' i) : behindSt st d = behindSt st d' := by
  have h0 : ∀ k, k < st.2.1.length → leftB st.2.1 d k = leftB st.2.1 d' k := fun k hk => by unfold leftB; rw [h k hk]
  have h1 : ∀ k, k ≤ st.2.1.length → bhT st.2.1 d k = bhT st.2.1 d' k := fun k => by
    induction k with
    | zero => intro _; rfl
    | succ k ih => intro hk; simp only [bhT, bhT1]; rw [ih (by omega), h k (by omega), h0 k (by omega)]
  have h2 : ∀ k, k ≤ st.2.1.length → bhN st.2.1 st.2.2 d k = bhN st.2.1 st.2.2 d' k := fun k => by
    induction k with
    | zero => intro _; rfl
    | succ k ih => intro hk; simp only [bhN]; rw [ih (by omega), h0 k (by omega)]
  unfold behindSt
  rw [h1 _ (Nat.le_refl _), h2 _ (Nat.le_refl _)]
theorem prod_le {st : St} (h : SoSt st) : ∀ k, k ≤ st.2.1.length → prodUp st.2.1 k ≤ 10 ^ k
  | 0, _ => by simp [prodUp]
  | k + 1, hk => by
    have ih := prod_le h k (by omega)
    have h1 := (h.train k (by omega)).2.2.1
    simp only [prodUp, Nat.pow_succ]
    exact Nat.mul_le_mul ih (by omega)
theorem prod_small {st : St} (h : SoSt st) {k : Nat} (hk : k ≤ st.2.1.length) : prodUp st.2.1 k ≤ 100000 :=
  Nat.le_trans (prod_le h k hk) (Nat.le_trans (Nat.pow_le_pow_right (by omega) (show k ≤ 5 by have := h.lens.2.2.1; omega)) (by decide))

/-- what is left from there on -/
theorem safe_iff {st : St} (h : SoSt st) {d : Nat → Nat} (hd : PrOk st d) :
    0 ≤ val (behindSt st d) ↔ ((∀ i, i < st.2.1.length → leftB st.2.1 d i = true) ∨ ∃ i, i < st.2.1.length ∧ canP st d i = true ∧ 0 ≤ val (behindSt st (bump d i))) := by
  have hw := (wtOf_le (h.behind hd)).1
  by_cases hz : (behindSt st d).2.1.length = 0
  · rw [val_zero hz]
    refine ⟨fun _ => Or.inl (fun i hi => ?_), fun _ => Int.le_refl _⟩
    cases hl : leftB st.2.1 d i
    · have := behind_lt hi hl
      omega
    · rfl
  · rw [val_pos hz, overUp_nonneg hw]
    constructor
    · rintro ⟨j, h1, h2, h3⟩
      rw [behind_len] at h1
      obtain ⟨i, g1, g2, rfl⟩ := pos_inv _ h1
      right
      refine ⟨i, g1, ?_, ?_⟩
      · rw [← canB_behind hd g1 g2]; exact h2
      · rw [← step_behind hd g1 g2]; exact h3
    · rintro (hall | ⟨i, h1, h2, h3⟩)
      · exfalso
        have h0 : 0 < (behindSt st d).2.1.length := by omega
        rw [behind_len] at h0
        obtain ⟨i, g1, g2, _⟩ := pos_inv _ h0
        rw [hall i g1] at g2
        cases g2
      · have hl : leftB st.2.1 d i = false := by
          cases e : leftB st.2.1 d i
          · rfl
          · simp [canP, e] at h2
        refine ⟨posUp st.2.1 d i, behind_lt h1 hl, ?_, ?_⟩
        · rw [canB_behind hd h1 hl]; exact h2
        · rw [step_behind hd h1 hl]; exact h3
theorem val_le {st : St} (h : SoSt st) : ∀ f d, PrOk st d → remOf (behindSt st d) = f → -1 ≤ val (behindSt st d) ∧ val (behindSt st d) ≤ 500 * f
  | 0, d, hd, hf => by
    have h1 := remUp_pos (behindSt st d).2.1 (behindSt st d).2.1.length
    have hz : (behindSt st d).2.1.length = 0 := by unfold remOf at hf; omega
    rw [val_zero hz]
    omega
  | f + 1, d, hd, hf => by
    by_cases hz : (behindSt st d).2.1.length = 0
    · rw [val_zero hz]
      omega
    · obtain ⟨w1, w2⟩ := wtOf_le (h.behind hd)
      rw [val_pos hz]
      have := overUp_le (st := behindSt st d) (g := fun i => val (stepSt (behindSt st d) i)) (wt := wtOf (behindSt st d)) (B := 500 * (f : Int)) w1 (by omega) (behindSt st d).2.1.length (fun j hj => by
        have hr := remOf_step hj
        rw [behind_len] at hj
        obtain ⟨i, g1, g2, rfl⟩ := pos_inv _ hj
        rw [step_behind hd g1 g2] at hr
        show val (stepSt (behindSt st d) (posUp st.2.1 d i)) ≤ _
        rw [step_behind hd g1 g2]
        exact (val_le h f _ (hd.bump g1 g2) (by omega)).2)
      omega
theorem rem_le {st : St} (h : SoSt st) : remOf st ≤ 45 := by
  have : ∀ k, k ≤ st.2.1.length → remUp st.2.1 k ≤ 9 * k := fun k => by
    induction k with
    | zero => intro _; simp [remUp]
    | succ k ih =>
      intro hk
      have h1 := ih (by omega)
      have h2 := (h.train k (by omega)).2.2.1
      simp only [remUp]
      omega
  have h1 := this st.2.1.length (Nat.le_refl _)
  have h2 := h.lens.2.2.1
  unfold remOf
  omega
theorem val_bounds {st : St} (h : SoSt st) {d : Nat → Nat} (hd : PrOk st d) : -1 ≤ val (behindSt st d) ∧ val (behindSt st d) ≤ 22500 := by
  have h1 := val_le h _ d hd rfl
  have h2 := rem_le (h.behind hd)
  omega
end Go.Proofs.Ytmjjigdnoiphbaa
