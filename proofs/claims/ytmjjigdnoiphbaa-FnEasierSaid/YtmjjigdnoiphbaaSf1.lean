/-
  THE STATES BEHIND SOME MOVES. No program here.
-/
import Derived.Test.YtmjjigdnoiphbaaSf0
namespace Go.Proofs.Ytmjjigdnoiphbaa
open Go.RowKit Go.Deep
set_option linter.unusedVariables false

/-- how many of the first k trains are there yet -/
def posUp (ts : List Tr) (d : Nat → Nat) : Nat → Nat
  | 0 => 0
  | k + 1 => posUp ts d k + if leftB ts d k = true then 0 else 1
theorem bhT_len (ts : List Tr) (d : Nat → Nat) : ∀ k, (bhT ts d k).length = posUp ts d k
  | 0 => rfl
  | k + 1 => by
    simp only [bhT, posUp, List.length_append, bhT_len ts d k]
    unfold bhT1
    split <;> simp
theorem bhN_len (ts : List Tr) (ns : List Int) (d : Nat → Nat) : ∀ k, (bhN ts ns d k).length = posUp ts d k
  | 0 => rfl
  | k + 1 => by
    simp only [bhN, posUp, List.length_append, bhN_len ts ns d k]
    split <;> simp
theorem posUp_le (ts : List Tr) (d : Nat → Nat) : ∀ k, posUp ts d k ≤ k
  | 0 => Nat.le_refl _
  | k + 1 => by have := posUp_le ts d k; simp only [posUp]; split <;> omega
theorem posUp_mono (ts : List Tr) (d : Nat → Nat) {j : Nat} : ∀ k, j ≤ k → posUp ts d j ≤ posUp ts d k
  | 0, h => by obtain rfl : j = 0 := by omega
               exact Nat.le_refl _
  | k + 1, h => by
    by_cases e : j = k + 1
    · subst e; exact Nat.le_refl _
    · have := posUp_mono ts d k (show j ≤ k by omega)
      simp only [posUp]
      omega
theorem posUp_lt {ts : List Tr} {d : Nat → Nat} {i k : Nat} (h : i < k) (hl : leftB ts d i = false) : posUp ts d i < posUp ts d k := by
  have := posUp_mono ts d k (show i + 1 ≤ k from h)
  simp only [posUp, hl] at this
  simp at this
  omega
theorem bhT_get {ts : List Tr} {d : Nat → Nat} {i : Nat} (hl : leftB ts d i = false) : ∀ k, i < k → (bhT ts d k)[posUp ts d i]? = some (farAt (tAt ts i) (tPath ts i) (d i), (tPath ts i).drop (d i), tWt ts i)
  | 0, h => absurd h (Nat.not_lt_zero _)
  | k + 1, h => by
    by_cases e : i = k
    · subst e
      simp only [bhT]
      rw [List.getElem?_append_right (by rw [bhT_len]; exact Nat.le_refl _), bhT_len]
      unfold bhT1
      simp [hl]
    · have hik : i < k := by omega
      simp only [bhT]
      rw [List.getElem?_append_left (by rw [bhT_len]; exact posUp_lt hik hl)]
      exact bhT_get hl k hik
theorem bhN_get {ts : List Tr} {ns : List Int} {d : Nat → Nat} {i : Nat} (hl : leftB ts d i = false) : ∀ k, i < k → (bhN ts ns d k)[posUp ts d i]? = some (el ns i)
  | 0, h => absurd h (Nat.not_lt_zero _)
  | k + 1, h => by
    by_cases e : i = k
    · subst e
      simp only [bhN]
      rw [List.getElem?_append_right (by rw [bhN_len]; exact Nat.le_refl _), bhN_len]
      simp [hl]
    · have hik : i < k := by omega
      simp only [bhN]
      rw [List.getElem?_append_left (by rw [bhN_len]; exact posUp_lt hik hl)]
      exact bhN_get hl k hik
/-- every train that is there yet is one of the first ones -/
theorem pos_inv {ts : List Tr} {d : Nat → Nat} {j : Nat} : ∀ k, j < posUp ts d k → ∃ i, i < k ∧ leftB ts d i = false ∧ posUp ts d i = j
  | 0, h => absurd h (Nat.not_lt_zero _)
  | k + 1, h => by
    by_cases e : j < posUp ts d k
    · obtain ⟨i, h1, h2⟩ := pos_inv k e
      exact ⟨i, by omega, h2⟩
    · simp only [posUp] at h
      cases hl : leftB ts d k
      · rw [hl] at h
        simp at h
        exact ⟨k, by omega, hl, by omega⟩
      · rw [hl] at h
        simp at h
        omega

section
variable {st : St} {d : Nat → Nat} {i : Nat}
theorem behind_len : (behindSt st d).2.1.length = posUp st.2.1 d st.2.1.length := bhT_len _ _ _
theorem behind_at (hi : i < st.2.1.length) (hl : leftB st.2.1 d i = false) : tAt (behindSt st d).2.1 (posUp st.2.1 d i) = farAt (tAt st.2.1 i) (tPath st.2.1 i) (d i) ∧ tPath (behindSt st d).2.1 (posUp st.2.1 d i) = (tPath st.2.1 i).drop (d i) ∧ tWt (behindSt st d).2.1 (posUp st.2.1 d i) = tWt st.2.1 i :=
  tPath_get (bhT_get hl _ hi)
theorem behind_name (hi : i < st.2.1.length) (hl : leftB st.2.1 d i = false) : el (behindSt st d).2.2 (posUp st.2.1 d i) = el st.2.2 i := by
  show el (bhN st.2.1 st.2.2 d st.2.1.length) _ = _
  unfold el
  rw [bhN_get hl _ hi]
  rfl
theorem behind_lt (hi : i < st.2.1.length) (hl : leftB st.2.1 d i = false) : posUp st.2.1 d i < (behindSt st d).2.1.length := by
  rw [behind_len]
  exact posUp_lt hi hl
end

theorem there_behind {st : St} {d : Nat → Nat} {s : Int} : ∀ k, k ≤ st.2.1.length → thereUp (behindSt st d).2.1 s (posUp st.2.1 d k) = cntUp st.2.1 d s k
  | 0, _ => rfl
  | k + 1, hk => by
    have ih := there_behind (st := st) (s := s) (d := d) k (by omega)
    cases hl : leftB st.2.1 d k
    · simp only [posUp, cntUp, hl, Bool.false_eq_true, if_false]
      simp only [thereUp]
      rw [ih, (behind_at (by omega) hl).1]
      congr 1
      simp [onB, hl]
    · simp only [posUp, cntUp, hl, if_true, Nat.add_zero]
      rw [ih]
      simp [onB, hl]
theorem canB_behind {st : St} {d : Nat → Nat} {i : Nat} (hd : PrOk st d) (hi : i < st.2.1.length) (hl : leftB st.2.1 d i = false) : canB (behindSt st d) (posUp st.2.1 d i) = canP st d i := by
  have h1 := (behind_at hi hl).2.1
  have h2 : ∀ s, there (behindSt st d).2.1 s = cntUp st.2.1 d s st.2.1.length := fun s => by
    unfold there
    rw [behind_len]
    exact there_behind _ (Nat.le_refl _)
  have hl' : ¬ (tPath st.2.1 i).length < d i := by simpa [leftB] using hl
  unfold canB canP
  rw [h1, h2, hl]
  have h3 : el ((tPath st.2.1 i).drop (d i)) 0 = el (tPath st.2.1 i) (d i) := by simp [el, List.getElem?_drop]
  rw [h3, List.length_drop]
  have h4 : decide ((tPath st.2.1 i).length - d i = 0) = decide ((tPath st.2.1 i).length = d i) := by
    rw [decide_eq_decide]
    omega
  rw [h4]
  rfl
theorem PrOk.bump {st : St} {d : Nat → Nat} (h : PrOk st d) {m : Nat} (hm : m < st.2.1.length) (hl : leftB st.2.1 d m = false) : PrOk st (bump d m) := fun i hi => by
  have h1 := h i hi
  have hl' : ¬ (tPath st.2.1 m).length < d m := by simpa [leftB] using hl
  unfold Go.Proofs.Ytmjjigdnoiphbaa.bump
  split
  · rename_i e
    subst e
    omega
  · exact h1

theorem mv_behindT {st : St} {d : Nat → Nat} {m : Nat} (hd : PrOk st d) (hm : m < st.2.1.length) (hl : leftB st.2.1 d m = false) : ∀ k, k ≤ st.2.1.length → mvT (behindSt st d).2.1 (posUp st.2.1 d m) (posUp st.2.1 d k) = bhT st.2.1 (bump d m) k
  | 0, _ => rfl
  | k + 1, hk => by
    have ih := mv_behindT hd hm hl k (by omega)
    have hlm : ¬ (tPath st.2.1 m).length < d m := by simpa [leftB] using hl
    cases hlk : leftB st.2.1 d k
    · have hpos : posUp st.2.1 d (k + 1) = posUp st.2.1 d k + 1 := by simp [posUp, hlk]
      rw [hpos]
      simp only [mvT, bhT]
      rw [ih]
      congr 1
      obtain ⟨b1, b2, b3⟩ := behind_at (d := d) (i := k) (by omega) hlk
      have hlk' : ¬ (tPath st.2.1 k).length < d k := by simpa [leftB] using hlk
      unfold mvT1 bhT1
      rw [b1, b2, b3]
      by_cases e : k = m
      · subst e
        rw [if_pos rfl, List.length_drop]
        by_cases e2 : (tPath st.2.1 k).length - d k = 0
        · rw [if_pos e2, if_pos (by simp [leftB, bump]; omega)]
        · rw [if_neg e2, if_neg (by simp [leftB, bump]; omega)]
          simp [bump, farAt, el, List.getElem?_drop, List.tail_drop]
      · have hne : posUp st.2.1 d k ≠ posUp st.2.1 d m := by
          rcases Nat.lt_or_gt_of_ne e with h | h
          · have := posUp_lt h hlk; omega
          · have := posUp_lt h hl; omega
        rw [if_neg hne]
        have hb : bump d m k = d k := by simp [bump, e]
        rw [if_neg (by simp [leftB, hb]; omega), hb]
    · have hpos : posUp st.2.1 d (k + 1) = posUp st.2.1 d k := by simp [posUp, hlk]
      have hkm : k ≠ m := fun e => by subst e; rw [hl] at hlk; cases hlk
      have hb : bump d m k = d k := by simp [bump, hkm]
      rw [hpos, ih]
      simp only [bhT]
      unfold bhT1
      have : leftB st.2.1 (bump d m) k = true := by unfold leftB at hlk ⊢; rw [hb]; exact hlk
      rw [if_pos this]
      simp
theorem mv_behindN {st : St} {d : Nat → Nat} {m : Nat} (hm : m < st.2.1.length) (hl : leftB st.2.1 d m = false) : ∀ k, k ≤ st.2.1.length → mvN (behindSt st d).2.1 (behindSt st d).2.2 (posUp st.2.1 d m) (posUp st.2.1 d k) = bhN st.2.1 st.2.2 (bump d m) k
  | 0, _ => rfl
  | k + 1, hk => by
    have ih := mv_behindN hm hl k (by omega)
    have hlm : ¬ (tPath st.2.1 m).length < d m := by simpa [leftB] using hl
    cases hlk : leftB st.2.1 d k
    · have hpos : posUp st.2.1 d (k + 1) = posUp st.2.1 d k + 1 := by simp [posUp, hlk]
      rw [hpos]
      simp only [mvN, bhN]
      rw [ih]
      congr 1
      obtain ⟨b1, b2, b3⟩ := behind_at (d := d) (i := k) (by omega) hlk
      have hlk' : ¬ (tPath st.2.1 k).length < d k := by simpa [leftB] using hlk
      rw [b2, behind_name (by omega) hlk, List.length_drop]
      by_cases e : k = m
      · subst e
        by_cases e2 : (tPath st.2.1 k).length - d k = 0
        · rw [if_pos ⟨rfl, e2⟩, if_pos (by simp [leftB, bump]; omega)]
        · rw [if_neg (fun h => e2 h.2), if_neg (by simp [leftB, bump]; omega)]
      · have hne : posUp st.2.1 d k ≠ posUp st.2.1 d m := by
          rcases Nat.lt_or_gt_of_ne e with h | h
          · have := posUp_lt h hlk; omega
          · have := posUp_lt h hl; omega
        have hb : bump d m k = d k := by simp [bump, e]
        rw [if_neg (fun h => hne h.1), if_neg (by simp [leftB, hb]; omega)]
    · have hpos : posUp st.2.1 d (k + 1) = posUp st.2.1 d k := by simp [posUp, hlk]
      have hkm : k ≠ m := fun e => by subst e; rw [hl] at hlk; cases hlk
      have hb : bump d m k = d k := by simp [bump, hkm]
      rw [hpos, ih]
      simp only [bhN]
      have : leftB st.2.1 (bump d m) k = true := by unfold leftB at hlk ⊢; rw [hb]; exact hlk
      rw [if_pos this]
      simp
theorem step_behind {st : St} {d : Nat → Nat} {m : Nat} (hd : PrOk st d) (hm : m < st.2.1.length) (hl : leftB st.2.1 d m = false) : stepSt (behindSt st d) (posUp st.2.1 d m) = behindSt st (bump d m) := by
  have h1 := mv_behindT hd hm hl st.2.1.length (Nat.le_refl _)
  have h2 := mv_behindN hm hl st.2.1.length (Nat.le_refl _)
  rw [← behind_len (st := st) (d := d)] at h1 h2
  show (st.1, mvT _ _ _, mvN _ _ _ _) = (st.1, bhT _ _ _, bhN _ _ _ _)
  rw [h1, h2]
theorem behind_pz {st : St} (hn : st.2.2.length = st.2.1.length) : behindSt st pz = st := by
  have h1 : ∀ k, k ≤ st.2.1.length → bhT st.2.1 pz k = st.2.1.take k := fun k => by
    induction k with
    | zero => intro _; simp [bhT]
    | succ k ih =>
      intro hk
      have hk' : k < st.2.1.length := hk
      obtain ⟨a, b, c⟩ := tPath_get (List.getElem?_eq_getElem hk')
      simp only [bhT, ih (by omega), bhT1]
      rw [List.take_succ_eq_append_getElem hk', a, b, c, if_neg (by simp [leftB, pz])]
      rfl
  have h2 : ∀ k, k ≤ st.2.2.length → bhN st.2.1 st.2.2 pz k = st.2.2.take k := fun k => by
    induction k with
    | zero => intro _; simp [bhN]
    | succ k ih =>
      intro hk
      have hk' : k < st.2.2.length := hk
      simp only [bhN, ih (by omega)]
      rw [List.take_succ_eq_append_getElem hk', if_neg (by simp [leftB, pz])]
      simp [el, hk']
  have e1 := h1 st.2.1.length (Nat.le_refl _)
  have e2 := h2 st.2.2.length (Nat.le_refl _)
  rw [List.take_length] at e1 e2
  rw [hn] at e2
  unfold behindSt
  rw [e1, e2]
end Go.Proofs.Ytmjjigdnoiphbaa
