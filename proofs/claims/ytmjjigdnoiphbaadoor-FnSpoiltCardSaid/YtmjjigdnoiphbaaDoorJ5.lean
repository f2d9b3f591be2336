import Derived.Test.YtmjjigdnoiphbaaDoorW22
/-
  SAFETY IN PLAIN MATHEMATICS. No program here.
-/
namespace Go.Proofs.YtmjjigdnoiphbaaDoor
open Go.RowKit Go.Deep
set_option linter.unusedVariables false

/-- what is asked of a state so that its moves can be spoken of -/
structure SoSt (st : St) : Prop where
  lens : 1 ≤ st.1.length ∧ st.1.length ≤ 40 ∧ st.2.1.length ≤ 5 ∧ st.2.2.length = st.2.1.length
  train : ∀ i, i < st.2.1.length → 0 ≤ tAt st.2.1 i ∧ tAt st.2.1 i < st.1.length ∧ (tPath st.2.1 i).length ≤ 8 ∧ 1 ≤ tWt st.2.1 i ∧ tWt st.2.1 i ≤ 100 ∧ ∀ j, j < (tPath st.2.1 i).length → 0 ≤ el (tPath st.2.1 i) j ∧ el (tPath st.2.1 i) j < st.1.length
theorem RightSt.so {st : St} (h : RightSt st) : SoSt st := ⟨h.lens, fun i hi => h.train i hi⟩

def remUp (ts : List Tr) : Nat → Nat
  | 0 => 0
  | k + 1 => remUp ts k + ((tPath ts k).length + 1)
/-- how many moves are left -/
def remOf (st : St) : Nat := remUp st.2.1 st.2.1.length
def wtUp (ts : List Tr) : Nat → Int
  | 0 => 0
  | k + 1 => wtUp ts k + tWt ts k
def wtOf (st : St) : Int := wtUp st.2.1 st.2.1.length
/-- of two costs the lesser one, -1 being none -/
def lesser (can : Bool) (b x wt : Int) : Int := bif can && (decide (0 ≤ x) && (decide (b < 0) || decide (x + wt < b))) then x + wt else b
def overUp (st : St) (g : Nat → Int) (wt : Int) : Nat → Int
  | 0 => -1
  | k + 1 => lesser (canB st k) (overUp st g wt k) (g k) wt
def valF : Nat → St → Int
  | 0, st => if st.2.1.length = 0 then 0 else -1
  | f + 1, st => if st.2.1.length = 0 then 0 else overUp st (fun i => valF f (stepSt st i)) (wtOf st) st.2.1.length
/-- what it costs at least until all have left, -1 where they cannot -/
def val (st : St) : Int := valF (remOf st) st

theorem mvT_len (ts : List Tr) (m : Nat) : ∀ k, k ≤ m → (mvT ts m k).length = k ∧ ∀ j, j < k → (mvT ts m k)[j]? = some (tAt ts j, tPath ts j, tWt ts j)
  | 0, _ => ⟨rfl, fun j hj => absurd hj (Nat.not_lt_zero _)⟩
  | k + 1, hk => by
    obtain ⟨h1, h2⟩ := mvT_len ts m k (by omega)
    have e : mvT1 ts m k = [(tAt ts k, tPath ts k, tWt ts k)] := by unfold mvT1; rw [if_neg (by omega)]
    refine ⟨by simp [mvT, h1, e], fun j hj => ?_⟩
    simp only [mvT, e]
    by_cases h : j < k
    · rw [List.getElem?_append_left (by omega)]; exact h2 j h
    · obtain rfl : j = k := by omega
      rw [List.getElem?_append_right (by omega), h1]
      simp
theorem remUp_congr {ts us : List Tr} : ∀ k, (∀ j, j < k → (tPath ts j).length = (tPath us j).length) → remUp ts k = remUp us k
  | 0, _ => rfl
  | k + 1, h => by simp only [remUp]; rw [remUp_congr k (fun j hj => h j (by omega)), h k (by omega)]
theorem tPath_get {ts : List Tr} {i : Nat} {t : Tr} (h : ts[i]? = some t) : tAt ts i = t.1 ∧ tPath ts i = t.2.1 ∧ tWt ts i = t.2.2 := by simp [tAt, tPath, tWt, h]

/-- trains put together -/
def remL (l : List Tr) : Nat := (l.map (fun t => t.2.1.length + 1)).sum
theorem remUp_take (ts : List Tr) : ∀ k, k ≤ ts.length → remUp ts k = remL (ts.take k)
  | 0, _ => rfl
  | k + 1, hk => by
    have hk' : k < ts.length := hk
    obtain ⟨_, e, _⟩ := tPath_get (List.getElem?_eq_getElem hk')
    rw [List.take_add_one, List.getElem?_eq_getElem hk']
    simp only [remUp, remL, List.map_append, List.sum_append, Option.toList_some, List.map_cons, List.map_nil, List.sum_cons, List.sum_nil, Nat.add_zero]
    rw [remUp_take ts k (by omega), e]
    rfl
theorem remOf_eq (st : St) : remOf st = remL st.2.1 := by rw [remOf, remUp_take _ _ (Nat.le_refl _), List.take_length]
theorem remL_append (a b : List Tr) : remL (a ++ b) = remL a + remL b := by simp [remL]
theorem remL_mv (ts : List Tr) (m : Nat) : ∀ k, k ≤ ts.length → remL (mvT ts m k) + (if m < k then 1 else 0) = remUp ts k
  | 0, _ => by simp [mvT, remL, remUp]
  | k + 1, hk => by
    have ih := remL_mv ts m k (by omega)
    simp only [mvT, remL_append, remUp]
    unfold mvT1
    by_cases e : k = m
    · subst e
      rw [if_pos rfl]
      rw [if_neg (Nat.lt_irrefl _)] at ih
      by_cases e2 : (tPath ts k).length = 0
      · rw [if_pos e2, if_pos (by omega)]
        simp only [remL, List.map_nil, List.sum_nil] at ih ⊢
        omega
      · rw [if_neg e2, if_pos (by omega)]
        simp only [remL, List.map_cons, List.map_nil, List.sum_cons, List.sum_nil, List.length_tail] at ih ⊢
        omega
    · rw [if_neg e]
      simp only [remL, List.map_cons, List.map_nil, List.sum_cons, List.sum_nil] at ih ⊢
      by_cases h : m < k
      · rw [if_pos h] at ih; rw [if_pos (by omega)]; omega
      · rw [if_neg h] at ih; rw [if_neg (by omega)]; omega
theorem remOf_step {st : St} {m : Nat} (hm : m < st.2.1.length) : remOf (stepSt st m) + 1 = remOf st := by
  have := remL_mv st.2.1 m st.2.1.length (Nat.le_refl _)
  rw [if_pos hm] at this
  rw [remOf_eq]
  exact this
theorem remUp_pos (ts : List Tr) : ∀ k, k ≤ remUp ts k
  | 0 => Nat.le_refl _
  | k + 1 => by have := remUp_pos ts k; simp only [remUp]; omega

theorem overUp_congr {st : St} {g g' : Nat → Int} {wt : Int} : ∀ k, (∀ i, i < k → g i = g' i) → overUp st g wt k = overUp st g' wt k
  | 0, _ => rfl
  | k + 1, h => by simp only [overUp]; rw [overUp_congr k (fun i hi => h i (by omega)), h k (by omega)]
theorem val_zero {st : St} (h : st.2.1.length = 0) : val st = 0 := by
  unfold val
  cases remOf st <;> simp [valF, h]
theorem val_pos {st : St} (h : ¬ st.2.1.length = 0) : val st = overUp st (fun i => val (stepSt st i)) (wtOf st) st.2.1.length := by
  unfold val
  have h1 := remUp_pos st.2.1 st.2.1.length
  obtain ⟨r, hr⟩ : ∃ r, remOf st = r + 1 := ⟨remOf st - 1, by unfold remOf; omega⟩
  rw [hr]
  simp only [valF]
  rw [if_neg h]
  refine overUp_congr _ (fun i hi => ?_)
  have := remOf_step hi
  rw [show remOf (stepSt st i) = r by omega]

theorem wtUp_le {st : St} (h : SoSt st) : ∀ k, k ≤ st.2.1.length → 0 ≤ wtUp st.2.1 k ∧ wtUp st.2.1 k ≤ 100 * k
  | 0, _ => by simp [wtUp]
  | k + 1, hk => by
    obtain ⟨h1, h2⟩ := wtUp_le h k (by omega)
    obtain ⟨_, _, _, h3, h4, _⟩ := h.train k (by omega)
    simp only [wtUp]
    omega
theorem wtOf_le {st : St} (h : SoSt st) : 0 ≤ wtOf st ∧ wtOf st ≤ 500 := by
  have := wtUp_le h st.2.1.length (Nat.le_refl _)
  have := h.lens
  unfold wtOf
  omega
theorem lesser_le {c : Bool} {b x wt B : Int} (hb : -1 ≤ b ∧ b ≤ B + wt) (hx : x ≤ B) (hw : 0 ≤ wt) : -1 ≤ lesser c b x wt ∧ lesser c b x wt ≤ B + wt := by
  unfold lesser
  cases hc : (c && (decide (0 ≤ x) && (decide (b < 0) || decide (x + wt < b))))
  · exact hb
  · simp only [cond_true]
    simp only [Bool.and_eq_true, decide_eq_true_eq] at hc
    omega
theorem overUp_le {st : St} {g : Nat → Int} {wt B : Int} (hw : 0 ≤ wt) (hB : 0 ≤ B) : ∀ k, (∀ i, i < k → g i ≤ B) → -1 ≤ overUp st g wt k ∧ overUp st g wt k ≤ B + wt
  | 0, _ => by simp only [overUp]; omega
  | k + 1, h => lesser_le (overUp_le hw hB k (fun i hi => h i (by omega))) (h k (by omega)) hw

/-- whether the moves lead home -/
theorem lesser_nonneg {c : Bool} {b x wt : Int} (hw : 0 ≤ wt) : 0 ≤ lesser c b x wt ↔ (0 ≤ b ∨ (c = true ∧ 0 ≤ x)) := by
  unfold lesser
  cases c
  · simp
  · by_cases hx : 0 ≤ x
    · by_cases hb : b < 0
      · simp [hx, hb]; omega
      · by_cases h2 : x + wt < b
        · simp [hx, hb, h2]; omega
        · simp [hx, hb, h2]; omega
    · simp [hx]
theorem overUp_nonneg {st : St} {g : Nat → Int} {wt : Int} (hw : 0 ≤ wt) : ∀ k, 0 ≤ overUp st g wt k ↔ ∃ i, i < k ∧ canB st i = true ∧ 0 ≤ g i
  | 0 => by simp [overUp]
  | k + 1 => by
    simp only [overUp]
    rw [lesser_nonneg hw, overUp_nonneg hw k]
    constructor
    · rintro (⟨i, h1, h2⟩ | h)
      · exact ⟨i, by omega, h2⟩
      · exact ⟨k, by omega, h⟩
    · rintro ⟨i, h1, h2⟩
      by_cases e : i = k
      · subst e; exact Or.inr h2
      · exact Or.inl ⟨i, by omega, h2⟩
end Go.Proofs.YtmjjigdnoiphbaaDoor

/-
  THE STATES BEHIND SOME MOVES. No program here.
-/
namespace Go.Proofs.YtmjjigdnoiphbaaDoor
open Go.RowKit Go.Deep
set_option linter.unusedVariables false

/-- how many of the first k trains are there yet -/
def posUp (ts : List Tr) (d : Nat → Nat) : Nat → Nat
  | 0 => 0
  | k + 1 => posUp ts d k + if leftB ts d k = true then 0 else 1
theorem bhT_len (ts : List Tr) (d : Nat → Nat) : ∀ k, (bhT ts d k).length = posUp ts d k
  | 0 => rfl
  | k + 1 => by
    simp only [bhT, posUp, List.length_append, bhT_len ts d k]
    unfold bhT1
    split <;> simp
theorem bhN_len (ts : List Tr) (ns : List Int) (d : Nat → Nat) : ∀ k, (bhN ts ns d k).length = posUp ts d k
  | 0 => rfl
  | k + 1 => by
    simp only [bhN, posUp, List.length_append, bhN_len ts ns d k]
    split <;> simp
theorem posUp_le (ts : List Tr) (d : Nat → Nat) : ∀ k, posUp ts d k ≤ k
  | 0 => Nat.le_refl _
  | k + 1 => by have := posUp_le ts d k; simp only [posUp]; split <;> omega
theorem posUp_mono (ts : List Tr) (d : Nat → Nat) {j : Nat} : ∀ k, j ≤ k → posUp ts d j ≤ posUp ts d k
  | 0, h => by obtain rfl : j = 0 := by omega
               exact Nat.le_refl _
  | k + 1, h => by
    by_cases e : j = k + 1
    · subst e; exact Nat.le_refl _
    · have := posUp_mono ts d k (show j ≤ k by omega)
      simp only [posUp]
      omega
theorem posUp_lt {ts : List Tr} {d : Nat → Nat} {i k : Nat} (h : i < k) (hl : leftB ts d i = false) : posUp ts d i < posUp ts d k := by
  have := posUp_mono ts d k (show i + 1 ≤ k from h)
  simp only [posUp, hl] at this
  simp at this
  omega
theorem bhT_get {ts : List Tr} {d : Nat → Nat} {i : Nat} (hl : leftB ts d i = false) : ∀ k, i < k → (bhT ts d k)[posUp ts d i]? = some (farAt (tAt ts i) (tPath ts i) (d i), (tPath ts i).drop (d i), tWt ts i)
  | 0, h => absurd h (Nat.not_lt_zero _)
  | k + 1, h => by
    by_cases e : i = k
    · subst e
      simp only [bhT]
      rw [List.getElem?_append_right (by rw [bhT_len]; exact Nat.le_refl _), bhT_len]
      unfold bhT1
      simp [hl]
    · have hik : i < k := by omega
      simp only [bhT]
      rw [List.getElem?_append_left (by rw [bhT_len]; exact posUp_lt hik hl)]
      exact bhT_get hl k hik
theorem bhN_get {ts : List Tr} {ns : List Int} {d : Nat → Nat} {i : Nat} (hl : leftB ts d i = false) : ∀ k, i < k → (bhN ts ns d k)[posUp ts d i]? = some (el ns i)
  | 0, h => absurd h (Nat.not_lt_zero _)
  | k + 1, h => by
    by_cases e : i = k
    · subst e
      simp only [bhN]
      rw [List.getElem?_append_right (by rw [bhN_len]; exact Nat.le_refl _), bhN_len]
      simp [hl]
    · have hik : i < k := by omega
      simp only [bhN]
      rw [List.getElem?_append_left (by rw [bhN_len]; exact posUp_lt hik hl)]
      exact bhN_get hl k hik
/-- every train that is there yet is one of the first ones -/
theorem pos_inv {ts : List Tr} {d : Nat → Nat} {j : Nat} : ∀ k, j < posUp ts d k → ∃ i, i < k ∧ leftB ts d i = false ∧ posUp ts d i = j
  | 0, h => absurd h (Nat.not_lt_zero _)
  | k + 1, h => by
    by_cases e : j < posUp ts d k
    · obtain ⟨i, h1, h2⟩ := pos_inv k e
      exact ⟨i, by omega, h2⟩
    · simp only [posUp] at h
      cases hl : leftB ts d k
      · rw [hl] at h
        simp at h
        exact ⟨k, by omega, hl, by omega⟩
      · rw [hl] at h
        simp at h
        omega

section
variable {st : St} {d : Nat → Nat} {i : Nat}
theorem behind_len : (behindSt st d).2.1.length = posUp st.2.1 d st.2.1.length := bhT_len _ _ _
theorem behind_at (hi : i < st.2.1.length) (hl : leftB st.2.1 d i = false) : tAt (behindSt st d).2.1 (posUp st.2.1 d i) = farAt (tAt st.2.1 i) (tPath st.2.1 i) (d i) ∧ tPath (behindSt st d).2.1 (posUp st.2.1 d i) = (tPath st.2.1 i).drop (d i) ∧ tWt (behindSt st d).2.1 (posUp st.2.1 d i) = tWt st.2.1 i :=
  tPath_get (bhT_get hl _ hi)
theorem behind_name (hi : i < st.2.1.length) (hl : leftB st.2.1 d i = false) : el (behindSt st d).2.2 (posUp st.2.1 d i) = el st.2.2 i := by
  show el (bhN st.2.1 st.2.2 d st.2.1.length) _ = _
  unfold el
  rw [bhN_get hl _ hi]
  rfl
theorem behind_lt (hi : i < st.2.1.length) (hl : leftB st.2.1 d i = false) : posUp st.2.1 d i < (behindSt st d).2.1.length := by
  rw [behind_len]
  exact posUp_lt hi hl
end

theorem there_behind {st : St} {d : Nat → Nat} {s : Int} : ∀ k, k ≤ st.2.1.length → thereUp (behindSt st d).2.1 s (posUp st.2.1 d k) = cntUp st.2.1 d s k
  | 0, _ => rfl
  | k + 1, hk => by
    have ih := there_behind (st := st) (s := s) (d := d) k (by omega)
    cases hl : leftB st.2.1 d k
    · simp only [posUp, cntUp, hl, Bool.false_eq_true, if_false]
      simp only [thereUp]
      rw [ih, (behind_at (by omega) hl).1]
      congr 1
      simp [onB, hl]
    · simp only [posUp, cntUp, hl, if_true, Nat.add_zero]
      rw [ih]
      simp [onB, hl]
theorem canB_behind {st : St} {d : Nat → Nat} {i : Nat} (hd : PrOk st d) (hi : i < st.2.1.length) (hl : leftB st.2.1 d i = false) : canB (behindSt st d) (posUp st.2.1 d i) = canP st d i := by
  have h1 := (behind_at hi hl).2.1
  have h2 : ∀ s, there (behindSt st d).2.1 s = cntUp st.2.1 d s st.2.1.length := fun s => by
    unfold there
    rw [behind_len]
    exact there_behind _ (Nat.le_refl _)
  have hl' : ¬ (tPath st.2.1 i).length < d i := by simpa [leftB] using hl
  unfold canB canP
  rw [h1, h2, hl]
  have h3 : el ((tPath st.2.1 i).drop (d i)) 0 = el (tPath st.2.1 i) (d i) := by simp [el, List.getElem?_drop]
  rw [h3, List.length_drop]
  have h4 : decide ((tPath st.2.1 i).length - d i = 0) = decide ((tPath st.2.1 i).length = d i) := by
    rw [decide_eq_decide]
    omega
  rw [h4]
  rfl
theorem PrOk.bump {st : St} {d : Nat → Nat} (h : PrOk st d) {m : Nat} (hm : m < st.2.1.length) (hl : leftB st.2.1 d m = false) : PrOk st (bump d m) := fun i hi => by
  have h1 := h i hi
  have hl' : ¬ (tPath st.2.1 m).length < d m := by simpa [leftB] using hl
  unfold Go.Proofs.YtmjjigdnoiphbaaDoor.bump
  split
  · rename_i e
    subst e
    omega
  · exact h1

theorem mv_behindT {st : St} {d : Nat → Nat} {m : Nat} (hd : PrOk st d) (hm : m < st.2.1.length) (hl : leftB st.2.1 d m = false) : ∀ k, k ≤ st.2.1.length → mvT (behindSt st d).2.1 (posUp st.2.1 d m) (posUp st.2.1 d k) = bhT st.2.1 (bump d m) k
  | 0, _ => rfl
  | k + 1, hk => by
    have ih := mv_behindT hd hm hl k (by omega)
    have hlm : ¬ (tPath st.2.1 m).length < d m := by simpa [leftB] using hl
    cases hlk : leftB st.2.1 d k
    · have hpos : posUp st.2.1 d (k + 1) = posUp st.2.1 d k + 1 := by simp [posUp, hlk]
      rw [hpos]
      simp only [mvT, bhT]
      rw [ih]
      congr 1
      obtain ⟨b1, b2, b3⟩ := behind_at (d := d) (i := k) (by omega) hlk
      have hlk' : ¬ (tPath st.2.1 k).length < d k := by simpa [leftB] using hlk
      unfold mvT1 bhT1
      rw [b1, b2, b3]
      by_cases e : k = m
      · subst e
        rw [if_pos rfl, List.length_drop]
        by_cases e2 : (tPath st.2.1 k).length - d k = 0
        · rw [if_pos e2, if_pos (by simp [leftB, bump]; omega)]
        · rw [if_neg e2, if_neg (by simp [leftB, bump]; omega)]
          simp [bump, farAt, el, List.getElem?_drop, List.tail_drop]
      · have hne : posUp st.2.1 d k ≠ posUp st.2.1 d m := by
          rcases Nat.lt_or_gt_of_ne e with h | h
          · have := posUp_lt h hlk; omega
          · have := posUp_lt h hl; omega
        rw [if_neg hne]
        have hb : bump d m k = d k := by simp [bump, e]
        rw [if_neg (by simp [leftB, hb]; omega), hb]
    · have hpos : posUp st.2.1 d (k + 1) = posUp st.2.1 d k := by simp [posUp, hlk]
      have hkm : k ≠ m := fun e => by subst e; rw [hl] at hlk; cases hlk
      have hb : bump d m k = d k := by simp [bump, hkm]
      rw [hpos, ih]
      simp only [bhT]
      unfold bhT1
      have : leftB st.2.1 (bump d m) k = true := by unfold leftB at hlk ⊢; rw [hb]; exact hlk
      rw [if_pos this]
      simp
theorem mv_behindN {st : St} {d : Nat → Nat} {m : Nat} (hm : m < st.2.1.length) (hl : leftB st.2.1 d m = false) : ∀ k, k ≤ st.2.1.length → mvN (behindSt st d).2.1 (behindSt st d).2.2 (posUp st.2.1 d m) (posUp st.2.1 d k) = bhN st.2.1 st.2.2 (bump d m) k
  | 0, _ => rfl
  | k + 1, hk => by
    have ih := mv_behindN hm hl k (by omega)
    have hlm : ¬ (tPath st.2.1 m).length < d m := by simpa [leftB] using hl
    cases hlk : leftB st.2.1 d k
    · have hpos : posUp st.2.1 d (k + 1) = posUp st.2.1 d k + 1 := by simp [posUp, hlk]
      rw [hpos]
      simp only [mvN, bhN]
      rw [ih]
      congr 1
      obtain ⟨b1, b2, b3⟩ := behind_at (d := d) (i := k) (by omega) hlk
      have hlk' : ¬ (tPath st.2.1 k).length < d k := by simpa [leftB] using hlk
      rw [b2, behind_name (by omega) hlk, List.length_drop]
      by_cases e : k = m
      · subst e
        by_cases e2 : (tPath st.2.1 k).length - d k = 0
        · rw [if_pos ⟨rfl, e2⟩, if_pos (by simp [leftB, bump]; omega)]
        · rw [if_neg (fun h => e2 h.2), if_neg (by simp [leftB, bump]; omega)]
      · have hne : posUp st.2.1 d k ≠ posUp st.2.1 d m := by
          rcases Nat.lt_or_gt_of_ne e with h | h
          · have := posUp_lt h hlk; omega
          · have := posUp_lt h hl; omega
        have hb : bump d m k = d k := by simp [bump, e]
        rw [if_neg (fun h => hne h.1), if_neg (by simp [leftB, hb]; omega)]
    · have hpos : posUp st.2.1 d (k + 1) = posUp st.2.1 d k := by simp [posUp, hlk]
      have hkm : k ≠ m := fun e => by subst e; rw [hl] at hlk; cases hlk
      have hb : bump d m k = d k := by simp [bump, hkm]
      rw [hpos, ih]
      simp only [bhN]
      have : leftB st.2.1 (bump d m) k = true := by unfold leftB at hlk ⊢; rw [hb]; exact hlk
      rw [if_pos this]
      simp
theorem step_behind {st : St} {d : Nat → Nat} {m : Nat} (hd : PrOk st d) (hm : m < st.2.1.length) (hl : leftB st.2.1 d m = false) : stepSt (behindSt st d) (posUp st.2.1 d m) = behindSt st (bump d m) := by
  have h1 := mv_behindT hd hm hl st.2.1.length (Nat.le_refl _)
  have h2 := mv_behindN hm hl st.2.1.length (Nat.le_refl _)
  rw [← behind_len (st := st) (d := d)] at h1 h2
  show (st.1, mvT _ _ _, mvN _ _ _ _) = (st.1, bhT _ _ _, bhN _ _ _ _)
  rw [h1, h2]
theorem behind_pz {st : St} (hn : st.2.2.length = st.2.1.length) : behindSt st pz = st := by
  have h1 : ∀ k, k ≤ st.2.1.length → bhT st.2.1 pz k = st.2.1.take k := fun k => by
    induction k with
    | zero => intro _; simp [bhT]
    | succ k ih =>
      intro hk
      have hk' : k < st.2.1.length := hk
      obtain ⟨a, b, c⟩ := tPath_get (List.getElem?_eq_getElem hk')
      simp only [bhT, ih (by omega), bhT1]
      rw [List.take_succ_eq_append_getElem hk', a, b, c, if_neg (by simp [leftB, pz])]
      rfl
  have h2 : ∀ k, k ≤ st.2.2.length → bhN st.2.1 st.2.2 pz k = st.2.2.take k := fun k => by
    induction k with
    | zero => intro _; simp [bhN]
    | succ k ih =>
      intro hk
      have hk' : k < st.2.2.length := hk
      simp only [bhN, ih (by omega)]
      rw [List.take_succ_eq_append_getElem hk', if_neg (by simp [leftB, pz])]
      simp [el, hk']
  have e1 := h1 st.2.1.length (Nat.le_refl _)
  have e2 := h2 st.2.2.length (Nat.le_refl _)
  rw [List.take_length] at e1 e2
  rw [hn] at e2
  unfold behindSt
  rw [e1, e2]
end Go.Proofs.YtmjjigdnoiphbaaDoor

/-
  HOW FAR THEY HAVE COME, AS A NUMBER; WHAT IS SAFE. No program here.
-/
namespace Go.Proofs.YtmjjigdnoiphbaaDoor
open Go.RowKit Go.Deep
set_option linter.unusedVariables false

theorem RightSt.asc {st : St} (h : RightSt st) {i : Nat} : ∀ j, i < j → j < st.2.2.length → el st.2.2 i < el st.2.2 j
  | 0, h1, _ => absurd h1 (Nat.not_lt_zero _)
  | j + 1, h1, h2 => by
    have := allUp_at h.names (j + 1) h2
    simp only [nameB, Bool.and_eq_true, Bool.or_eq_true, decide_eq_true_eq, Nat.add_sub_cancel] at this
    have h3 : el st.2.2 j < el st.2.2 (j + 1) := by
      rcases this.2 with e | e
      · omega
      · exact e
    by_cases e : i = j
    · subst e; exact h3
    · have := RightSt.asc (i := i) h j (by omega) (by omega)
      omega
theorem RightSt.inj {st : St} (h : RightSt st) {i j : Nat} (hi : i < st.2.2.length) (hj : j < st.2.2.length) (e : el st.2.2 i = el st.2.2 j) : i = j := by
  rcases Nat.lt_trichotomy i j with h1 | h1 | h1
  · have := h.asc j h1 hj; omega
  · exact h1
  · have := h.asc i h1 hi; omega

/-- where a train is among those that are there yet -/
theorem nameIx_behind {st : St} (h : RightSt st) {d : Nat → Nat} {i : Nat} (hi : i < st.2.1.length) :
    (leftB st.2.1 d i = false → nameIx (behindSt st d).2.2 (el st.2.2 i) = posUp st.2.1 d i) ∧ (leftB st.2.1 d i = true → ¬ nameIx (behindSt st d).2.2 (el st.2.2 i) < (behindSt st d).2.2.length) := by
  have hn := h.lens.2.2.2
  have hlen : (behindSt st d).2.2.length = posUp st.2.1 d st.2.1.length := bhN_len _ _ _ _
  have key : ∀ j, j < (behindSt st d).2.2.length → el (behindSt st d).2.2 j = el st.2.2 i → leftB st.2.1 d i = false ∧ posUp st.2.1 d i = j := fun j hj e => by
    rw [hlen] at hj
    obtain ⟨q, h1, h2, h3⟩ := pos_inv _ hj
    subst h3
    rw [behind_name h1 h2] at e
    have := h.inj (by omega) (by omega) e
    subst this
    exact ⟨h2, rfl⟩
  constructor
  · intro hl
    refine nameIx_at (by rw [hlen]; exact posUp_lt hi hl) (behind_name hi hl) (fun j hj e => ?_)
    have := (key j (by rw [hlen]; have := posUp_lt hi hl; omega) e).2
    omega
  · intro hl hlt
    have : (behindSt st d).2.2[nameIx (behindSt st d).2.2 (el st.2.2 i)]? = some (el st.2.2 i) := by
      rw [List.getElem?_eq_getElem hlt]
      have := List.findIdx_getElem (w := hlt) (p := fun y => decide (y = el st.2.2 i))
      simp only [decide_eq_true_eq] at this
      exact congrArg some this
    have e : el (behindSt st d).2.2 (nameIx (behindSt st d).2.2 (el st.2.2 i)) = el st.2.2 i := by unfold el at this ⊢; rw [this]; rfl
    rw [(key _ hlt e).1] at hl
    cases hl

theorem SoSt.behind {st : St} (h : SoSt st) {d : Nat → Nat} (hd : PrOk st d) : SoSt (behindSt st d) := by
  have hb := posUp_le st.2.1 d st.2.1.length
  refine ⟨⟨h.lens.1, h.lens.2.1, by rw [behind_len]; have := h.lens.2.2.1; omega, by rw [behind_len]; exact bhN_len _ _ _ _⟩, fun j hj => ?_⟩
  rw [behind_len] at hj
  obtain ⟨i, h1, h2, rfl⟩ := pos_inv _ hj
  obtain ⟨b1, b2, b3⟩ := behind_at h1 h2
  rw [b1, b2, b3]
  obtain ⟨t1, t2, t3, t4, t5, t6⟩ := h.train i h1
  have hl : ¬ (tPath st.2.1 i).length < d i := by simpa [leftB] using h2
  have hat : 0 ≤ farAt (tAt st.2.1 i) (tPath st.2.1 i) (d i) ∧ farAt (tAt st.2.1 i) (tPath st.2.1 i) (d i) < st.1.length := by
    unfold farAt
    split
    · exact ⟨t1, t2⟩
    · exact t6 _ (by omega)
  refine ⟨hat.1, hat.2, by rw [List.length_drop]; omega, t4, t5, fun q hq => ?_⟩
  rw [List.length_drop] at hq
  have : el ((tPath st.2.1 i).drop (d i)) q = el (tPath st.2.1 i) (d i + q) := by simp [el, List.getElem?_drop]
  rw [this]
  exact t6 _ (by omega)

def idxUp (ts : List Tr) (d : Nat → Nat) : Nat → Nat
  | 0 => 0
  | k + 1 => idxUp ts d k * ((tPath ts k).length + 2) + d k
def prodUp (ts : List Tr) : Nat → Nat
  | 0 => 1
  | k + 1 => prodUp ts k * ((tPath ts k).length + 2)
theorem idx_lt {st : St} {d : Nat → Nat} (hd : PrOk st d) : ∀ k, k ≤ st.2.1.length → idxUp st.2.1 d k < prodUp st.2.1 k
  | 0, _ => by simp [idxUp, prodUp]
  | k + 1, hk => by
    have ih := idx_lt hd k (by omega)
    have h1 := hd k (by omega)
    simp only [idxUp, prodUp]
    have h2 : (idxUp st.2.1 d k + 1) * ((tPath st.2.1 k).length + 2) ≤ prodUp st.2.1 k * ((tPath st.2.1 k).length + 2) := Nat.mul_le_mul_right _ ih
    rw [Nat.add_mul, Nat.one_mul] at h2
    omega
theorem mixed {x y m a b : Nat} (h : x * m + a = y * m + b) (ha : a < m) (hb : b < m) : x = y ∧ a = b := by
  have h1 : (x * m + a) / m = x := by rw [Nat.mul_comm, Nat.mul_add_div (by omega), Nat.div_eq_of_lt ha]; rfl
  have h2 : (y * m + b) / m = y := by rw [Nat.mul_comm, Nat.mul_add_div (by omega), Nat.div_eq_of_lt hb]; rfl
  have h3 : x = y := by rw [← h1, h, h2]
  subst h3
  exact ⟨rfl, by omega⟩
theorem idx_inj {st : St} {d d' : Nat → Nat} (hd : PrOk st d) (hd' : PrOk st d') : ∀ k, k ≤ st.2.1.length → idxUp st.2.1 d k = idxUp st.2.1 d' k → ∀ i, i < k → d i = d' i
  | 0, _, _, i, hi => absurd hi (Nat.not_lt_zero _)
  | k + 1, hk, h, i, hi => by
    have h1 := hd k (by omega)
    have h2 := hd' k (by omega)
    obtain ⟨e1, e2⟩ := mixed h (by omega) (by omega)
    by_cases e : i = k
    · subst e; exact e2
    · exact idx_inj hd hd' k (by omega) e1 i (by omega)
theorem behind_congr {st : St} {d d' : Nat → Nat} (h : ∀ i, i < st.2.1.length → d i = d' i) : behindSt st d = behindSt st d' := by
  have h0 : ∀ k, k < st.2.1.length → leftB st.2.1 d k = leftB st.2.1 d' k := fun k hk => by unfold leftB; rw [h k hk]
  have h1 : ∀ k, k ≤ st.2.1.length → bhT st.2.1 d k = bhT st.2.1 d' k := fun k => by
    induction k with
    | zero => intro _; rfl
    | succ k ih => intro hk; simp only [bhT, bhT1]; rw [ih (by omega), h k (by omega), h0 k (by omega)]
  have h2 : ∀ k, k ≤ st.2.1.length → bhN st.2.1 st.2.2 d k = bhN st.2.1 st.2.2 d' k := fun k => by
    induction k with
    | zero => intro _; rfl
    | succ k ih => intro hk; simp only [bhN]; rw [ih (by omega), h0 k (by omega)]
  unfold behindSt
  rw [h1 _ (Nat.le_refl _), h2 _ (Nat.le_refl _)]
theorem prod_le {st : St} (h : SoSt st) : ∀ k, k ≤ st.2.1.length → prodUp st.2.1 k ≤ 10 ^ k
  | 0, _ => by simp [prodUp]
  | k + 1, hk => by
    have ih := prod_le h k (by omega)
    have h1 := (h.train k (by omega)).2.2.1
    simp only [prodUp, Nat.pow_succ]
    exact Nat.mul_le_mul ih (by omega)
theorem prod_small {st : St} (h : SoSt st) {k : Nat} (hk : k ≤ st.2.1.length) : prodUp st.2.1 k ≤ 100000 :=
  Nat.le_trans (prod_le h k hk) (Nat.le_trans (Nat.pow_le_pow_right (by omega) (show k ≤ 5 by have := h.lens.2.2.1; omega)) (by decide))

/-- what is left from there on -/
theorem safe_iff {st : St} (h : SoSt st) {d : Nat → Nat} (hd : PrOk st d) :
    0 ≤ val (behindSt st d) ↔ ((∀ i, i < st.2.1.length → leftB st.2.1 d i = true) ∨ ∃ i, i < st.2.1.length ∧ canP st d i = true ∧ 0 ≤ val (behindSt st (bump d i))) := by
  have hw := (wtOf_le (h.behind hd)).1
  by_cases hz : (behindSt st d).2.1.length = 0
  · rw [val_zero hz]
    refine ⟨fun _ => Or.inl (fun i hi => ?_), fun _ => Int.le_refl _⟩
    cases hl : leftB st.2.1 d i
    · have := behind_lt hi hl
      omega
    · rfl
  · rw [val_pos hz, overUp_nonneg hw]
    constructor
    · rintro ⟨j, h1, h2, h3⟩
      rw [behind_len] at h1
      obtain ⟨i, g1, g2, rfl⟩ := pos_inv _ h1
      right
      refine ⟨i, g1, ?_, ?_⟩
      · rw [← canB_behind hd g1 g2]; exact h2
      · rw [← step_behind hd g1 g2]; exact h3
    · rintro (hall | ⟨i, h1, h2, h3⟩)
      · exfalso
        have h0 : 0 < (behindSt st d).2.1.length := by omega
        rw [behind_len] at h0
        obtain ⟨i, g1, g2, _⟩ := pos_inv _ h0
        rw [hall i g1] at g2
        cases g2
      · have hl : leftB st.2.1 d i = false := by
          cases e : leftB st.2.1 d i
          · rfl
          · simp [canP, e] at h2
        refine ⟨posUp st.2.1 d i, behind_lt h1 hl, ?_, ?_⟩
        · rw [canB_behind hd h1 hl]; exact h2
        · rw [step_behind hd h1 hl]; exact h3
theorem val_le {st : St} (h : SoSt st) : ∀ f d, PrOk st d → remOf (behindSt st d) = f → -1 ≤ val (behindSt st d) ∧ val (behindSt st d) ≤ 500 * f
  | 0, d, hd, hf => by
    have h1 := remUp_pos (behindSt st d).2.1 (behindSt st d).2.1.length
    have hz : (behindSt st d).2.1.length = 0 := by unfold remOf at hf; omega
    rw [val_zero hz]
    omega
  | f + 1, d, hd, hf => by
    by_cases hz : (behindSt st d).2.1.length = 0
    · rw [val_zero hz]
      omega
    · obtain ⟨w1, w2⟩ := wtOf_le (h.behind hd)
      rw [val_pos hz]
      have := overUp_le (st := behindSt st d) (g := fun i => val (stepSt (behindSt st d) i)) (wt := wtOf (behindSt st d)) (B := 500 * (f : Int)) w1 (by omega) (behindSt st d).2.1.length (fun j hj => by
        have hr := remOf_step hj
        rw [behind_len] at hj
        obtain ⟨i, g1, g2, rfl⟩ := pos_inv _ hj
        rw [step_behind hd g1 g2] at hr
        show val (stepSt (behindSt st d) (posUp st.2.1 d i)) ≤ _
        rw [step_behind hd g1 g2]
        exact (val_le h f _ (hd.bump g1 g2) (by omega)).2)
      omega
theorem rem_le {st : St} (h : SoSt st) : remOf st ≤ 45 := by
  have : ∀ k, k ≤ st.2.1.length → remUp st.2.1 k ≤ 9 * k := fun k => by
    induction k with
    | zero => intro _; simp [remUp]
    | succ k ih =>
      intro hk
      have h1 := ih (by omega)
      have h2 := (h.train k (by omega)).2.2.1
      simp only [remUp]
      omega
  have h1 := this st.2.1.length (Nat.le_refl _)
  have h2 := h.lens.2.2.1
  unfold remOf
  omega
theorem val_bounds {st : St} (h : SoSt st) {d : Nat → Nat} (hd : PrOk st d) : -1 ≤ val (behindSt st d) ∧ val (behindSt st d) ≤ 22500 := by
  have h1 := val_le h _ d hd rfl
  have h2 := rem_le (h.behind hd)
  omega
end Go.Proofs.YtmjjigdnoiphbaaDoor
