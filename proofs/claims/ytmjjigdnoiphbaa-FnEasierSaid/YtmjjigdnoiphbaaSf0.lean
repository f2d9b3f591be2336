/-
  SAFETY IN PLAIN MATHEMATICS. No program here.
-/
import Derived.Test.YtmjjigdnoiphbaaW22
namespace Go.Proofs.Ytmjjigdnoiphbaa
open Go.RowKit Go.Deep
set_option linter.unusedVariables false

/-- what is asked of a state so that its moves can be spoken of -/
structure SoSt (st : St) : Prop where
  lens : 1 ≤ st.1.length ∧ st.1.length ≤ 40 ∧ st.2.1.length ≤ 5 ∧ st.2.2.length = st.2.1.length
  train : ∀ i, i < st.2.1.length → 0 ≤ tAt st.2.1 i ∧ tAt st.2.1 i < st.1.length ∧ (tPath st.2.1 i).length ≤ 8 ∧ 1 ≤ tWt st.2.1 i ∧ tWt st.2.1 i ≤ 100 ∧ ∀ j, j < (tPath st.2.1 i).length → 0 ≤ el (tPath st.2.1 i) j ∧ el (tPath st.2.1 i) j < st.1.length
theorem RightSt.so {st : St} (h : RightSt st) : SoSt st := ⟨h.lens, fun i hi => h.train i hi⟩

def remUp (ts : List Tr) : Nat → Nat
  | 0 => 0
  | k + 1 => remUp ts k + ((tPath ts k).length + 1)
/-- how many moves are left -/
def remOf (st : St) : Nat := remUp st.2.1 st.2.1.length
def wtUp (ts : List Tr) : Nat → Int
  | 0 => 0
  | k + 1 => wtUp ts k + tWt ts k
def wtOf (st : St) : Int := wtUp st.2.1 st.2.1.length
/-- of two costs the lesser one, -1 being none -/
def lesser (can : Bool) (b x wt : Int) : Int := bif can && (decide (0 ≤ x) && (decide (b < 0) || decide (x + wt < b))) then x + wt else b
def overUp (st : St) (g : Nat → Int) (wt : Int) : Nat → Int
  | 0 => -1
  | k + 1 => lesser (canB st k) (overUp st g wt k) (g k) wt
def valF : Nat → St → Int
  | 0, st => if st.2.1.length = 0 then 0 else -1
  | f + 1, st => if st.2.1.length = 0 then 0 else overUp st (fun i => valF f (stepSt st i)) (wtOf st) st.2.1.length
/-- what it costs at least until all have left, -1 where they cannot -/
def val (st : St) : Int := valF (remOf st) st

theorem mvT_len (ts : List Tr) (m : Nat) : ∀ k, k ≤ m → (mvT ts m k).length = k ∧ ∀ j, j < k → (mvT ts m k)[j]? = some (tAt ts j, tPath ts j, tWt ts j)
  | 0, _ => ⟨rfl, fun j hj => absurd hj (Nat.not_lt_zero _)⟩
  | k + 1, hk => by
    obtain ⟨h1, h2⟩ := mvT_len ts m k (by omega)
    have e : mvT1 ts m k = [(tAt ts k, tPath ts k, tWt ts k)] := by unfold mvT1; rw [if_neg (by omega)]
    refine ⟨by simp [mvT, h1, e], fun j hj => ?_⟩
    simp only [mvT, e]
    by_cases h : j < k
    · rw [List.getElem?_append_left (by omega)]; exact h2 j h
    · obtain rfl : j = k := by omega
      rw [List.getElem?_append_right (by omega), h1]
      simp
theorem remUp_congr {ts us : List Tr} : ∀ k, (∀ j, j < k → (tPath ts j).length = (tPath us j).length) → remUp ts k = remUp us k
  | 0, _ => rfl
  | k + 1, h => by simp only [remUp]; rw [remUp_congr k (fun j hj => h j (by omega)), h k (by omega)]
theorem tPath_get {ts : List Tr} {i : Nat} {t : Tr} (h : ts[i]? = some t) : tAt ts i = t.1 ∧ tPath ts i = t.2.1 ∧ tWt ts i = t.2.2 := by simp [tAt, tPath, tWt, h]

/-- trains put together -/
def remL (l : List Tr) : Nat := (l.map (fun t => t.2.1.length + 1)).sum
theorem remUp_take (ts : List Tr) : ∀ k, k ≤ ts.length → remUp ts k = remL (ts.take k)
  | 0, _ => rfl
  | k + 1, hk => by
    have hk' : k < ts.length := hk
    obtain ⟨_, e, _⟩ := tPath_get (List.getElem?_eq_getElem hk')
    rw [List.take_add_one, List.getElem?_eq_getElem hk']
    simp only [remUp, remL, List.map_append, List.sum_append, Option.toList_some, List.map_cons, List.map_nil, List.sum_cons, List.sum_nil, Nat.add_zero]
    rw [remUp_take ts k (by omega), e]
    rfl
theorem remOf_eq (st : St) : remOf st = remL st.2.1 := by rw [remOf, remUp_take _ _ (Nat.le_refl _), List.take_length]
theorem remL_append (a b : List Tr) : remL (a ++ b) = remL a + remL b := by simp [remL]
theorem remL_mv (ts : List Tr) (m : Nat) : ∀ k, k ≤ ts.length → remL (mvT ts m k) + (if m < k then 1 else 0) = remUp ts k
  | 0, _ => by simp [mvT, remL, remUp]
  | k + 1, hk => by
    have ih := remL_mv ts m k (by omega)
    simp only [mvT, remL_append, remUp]
    unfold mvT1
    by_cases e : k = m
    · subst e
      rw [if_pos rfl]
      rw [if_neg (Nat.lt_irrefl _)] at ih
      by_cases e2 : (tPath ts k).length = 0
      · rw [if_pos e2, if_pos (by omega)]
        simp only [remL, List.map_nil, List.sum_nil] at ih ⊢
        omega
      · rw [if_neg e2, if_pos (by omega)]
        simp only [remL, List.map_cons, List.map_nil, List.sum_cons, List.sum_nil, List.length_tail] at ih ⊢
        omega
    · rw [if_neg e]
      simp only [remL, List.map_cons, List.map_nil, List.sum_cons, List.sum_nil] at ih ⊢
      by_cases h : m < k
      · rw [if_pos h] at ih; rw [if_pos (by omega)]; omega
      · rw [if_neg h] at ih; rw [if_neg (by omega)]; omega
theorem remOf_step {st : St} {m : Nat} (hm : m < st.2.1.length) : remOf (stepSt st m) + 1 = remOf st := by
  have := remL_mv st.2.1 m st.2.1.length (Nat.le_refl _)
  rw [if_pos hm] at this
  rw [remOf_eq]
  exact this
theorem remUp_pos (ts : List Tr) : ∀ k, k ≤ remUp ts k
  | 0 => Nat.le_refl _
  | k + 1 => by have := remUp_pos ts k; simp only [remUp]; omega

theorem overUp_congr {st : St} {g g' : Nat → Int} {wt : Int} : ∀ k, (∀ i, i < k → g i = g' i) → overUp st g wt k = overUp st g' wt k
  | 0, _ => rfl
  | k + 1, h => by simp only [overUp]; rw [overUp_congr k (fun i hi => h i (by omega)), h k (by omega)]
theorem val_zero {st : St} (h : st.2.1.length = 0) : val st = 0 := by
  unfold val
  cases remOf st <;> simp [valF, h]
theorem val_pos {st : St} (h : ¬ st.2.1.length = 0) : val st = overUp st (fun i => val (stepSt st i)) (wtOf st) st.2.1.length := by
  unfold val
  have h1 := remUp_pos st.2.1 st.2.1.length
  obtain ⟨r, hr⟩ : ∃ r, remOf st = r + 1 := ⟨remOf st - 1, by unfold remOf; omega⟩
  rw [hr]
  simp only [valF]
  rw [if_neg h]
  refine overUp_congr _ (fun i hi => ?_)
  have := remOf_step hi
  rw [show remOf (stepSt st i) = r by omega]

theorem wtUp_le {st : St} (h : SoSt st) : ∀ k, k ≤ st.2.1.length → 0 ≤ wtUp st.2.1 k ∧ wtUp st.2.1 k ≤ 100 * k
  | 0, _ => by simp [wtUp]
  | k + 1, hk => by
    obtain ⟨h1, h2⟩ := wtUp_le h k (by omega)
    obtain ⟨_, _, _, h3, h4, _⟩ := h.train k (by omega)
    simp only [wtUp]
    omega
theorem wtOf_le {st : St} (h : SoSt st) : 0 ≤ wtOf st ∧ wtOf st ≤ 500 := by
  have := wtUp_le h st.2.1.length (Nat.le_refl _)
  have := h.lens
  unfold wtOf
  omega
theorem lesser_le {c : Bool} {b x wt B : Int} (hb : -1 ≤ b ∧ b ≤ B + wt) (hx : x ≤ B) (hw : 0 ≤ wt) : -1 ≤ lesser c b x wt ∧ lesser c b x wt ≤ B + wt := by
  unfold lesser
  cases hc : (c && (decide (0 ≤ x) && (decide (b < 0) || decide (x + wt < b))))
  · exact hb
  · simp only [cond_true]
    simp only [Bool.and_eq_true, decide_eq_true_eq] at hc
    omega
theorem overUp_le {st : St} {g : Nat → Int} {wt B : Int} (hw : 0 ≤ wt) (hB : 0 ≤ B) : ∀ k, (∀ i, i < k → g i ≤ B) → -1 ≤ overUp st g wt k ∧ overUp st g wt k ≤ B + wt
  | 0, _ => by simp only [overUp]; omega
  | k + 1, h => lesser_le (overUp_le hw hB k (fun i hi => h i (by omega))) (h k (by omega)) hw

/-- whether the moves lead home -/
theorem lesser_nonneg {c : Bool} {b x wt : Int} (hw : 0 ≤ wt) : 0 ≤ lesser c b x wt ↔ (0 ≤ b ∨ (c = true ∧ 0 ≤ x)) := by
  unfold lesser
  cases c
  · simp
  · by_cases hx : 0 ≤ x
    · by_cases hb : b < 0
      · simp [hx, hb]; omega
      · by_cases h2 : x + wt < b
        · simp [hx, hb, h2]; omega
        · simp [hx, hb, h2]; omega
    · simp [hx]
theorem overUp_nonneg {st : St} {g : Nat → Int} {wt : Int} (hw : 0 ≤ wt) : ∀ k, 0 ≤ overUp st g wt k ↔ ∃ i, i < k ∧ canB st i = true ∧ 0 ≤ g i
  | 0 => by simp [overUp]
  | k + 1 => by
    simp only [overUp]
    rw [lesser_nonneg hw, overUp_nonneg hw k]
    constructor
    · rintro (⟨i, h1, h2⟩ | h)
      · exact ⟨i, by omega, h2⟩
      · exact ⟨k, by omega, h⟩
    · rintro ⟨i, h1, h2⟩
      by_cases e : i = k
      · subst e; exact Or.inr h2
      · exact Or.inl ⟨i, by omega, h2⟩
end Go.Proofs.Ytmjjigdnoiphbaa
