/-
  THE SEARCH IN PLAIN MATHEMATICS: a stack of tasks, and what is known. No program here.
-/
import Derived.Test.YtmjjigdnoiphbabSr0
namespace Go.Proofs.Ytmjjigdnoiphbab
open Go.RowKit Go.Deep Go.Maps
set_option linter.unusedVariables false

abbrev Pr : Type := Nat → Nat
/-- a progress of this state, and nothing beyond it -/
structure PV (st : St) (d : Pr) : Prop where
  ok : PrOk st d
  out : ∀ i, st.2.1.length ≤ i → d i = 0
theorem PV.pz (st : St) : PV st pz := ⟨pz_ok st, fun _ _ => rfl⟩
theorem PV.bump {st : St} {d : Pr} (h : PV st d) {m : Nat} (hm : m < st.2.1.length) (hl : leftB st.2.1 d m = false) : PV st (bump d m) :=
  ⟨h.ok.bump hm hl, fun i hi => by unfold Go.Proofs.Ytmjjigdnoiphbab.bump; rw [if_neg (by omega)]; exact h.out i hi⟩
theorem canP_left {st : St} {d : Pr} {m : Nat} (h : canP st d m = true) : leftB st.2.1 d m = false := by
  cases e : leftB st.2.1 d m
  · rfl
  · simp [canP, e] at h
def safeP (st : St) (d : Pr) : Prop := 0 ≤ val (behindSt st d)
theorem PV.lt {st : St} (hs : SoSt st) {d : Pr} (h : PV st d) (i : Nat) : d i < 100 := by
  by_cases hi : i < st.2.1.length
  · have h1 := h.ok i hi
    have h2 := (hs.train i hi).2.2.1
    omega
  · rw [h.out i (by omega)]
    omega

/-- a task: to visit d; or, behind the visit of what lies behind the move m of d, to go on with d -/
abbrev Task : Type := Pr × Option Nat
/-- what is known: 0 nothing, 1 no way home, 2 a way home -/
abbrev Kn : Type := Pr → Int
def same5 (d e : Pr) : Bool := decide (d 0 = e 0) && (decide (d 1 = e 1) && (decide (d 2 = e 2) && (decide (d 3 = e 3) && decide (d 4 = e 4))))
theorem same5_iff {st : St} (hs : SoSt st) {d e : Pr} (hd : PV st d) (he : PV st e) : same5 d e = true ↔ e = d := by
  constructor
  · intro h
    simp only [same5, Bool.and_eq_true, decide_eq_true_eq] at h
    obtain ⟨h0, h1, h2, h3, h4⟩ := h
    have h5 := hs.lens.2.2.1
    funext i
    by_cases hi : i < 5
    · rcases (show i = 0 ∨ i = 1 ∨ i = 2 ∨ i = 3 ∨ i = 4 by omega) with rfl | rfl | rfl | rfl | rfl
      · exact h0.symm
      · exact h1.symm
      · exact h2.symm
      · exact h3.symm
      · exact h4.symm
    · rw [hd.out i (by omega), he.out i (by omega)]
  · rintro rfl
    simp [same5]
def setK (kn : Kn) (d : Pr) (x : Int) : Kn := fun e => bif same5 d e then x else kn e
theorem setK_same (kn : Kn) (d : Pr) (x : Int) : setK kn d x d = x := by simp [setK, same5]
theorem setK_other {st : St} (hs : SoSt st) {kn : Kn} {d e : Pr} {x : Int} (hd : PV st d) (he : PV st e) (hne : e ≠ d) : setK kn d x e = kn e := by
  have : same5 d e = false := by
    cases h : same5 d e
    · rfl
    · exact absurd ((same5_iff hs hd he).1 h) hne
  simp [setK, this]

def allLeft (st : St) (d : Pr) : Bool := allUp st.2.1.length (leftB st.2.1 d)
/-- what 'try' does, from train m on -/
def TryR (st : St) (d : Pr) (m : Nat) (kn : Kn) (S : List Task) (kn' : Kn) (S' : List Task) : Prop :=
  ∃ m', m ≤ m' ∧ m' ≤ st.2.1.length ∧ (∀ j, m ≤ j → j < m' → canP st d j = false) ∧ ((m' = st.2.1.length ∧ kn' = setK kn d 1 ∧ S' = S) ∨ (m' < st.2.1.length ∧ canP st d m' = true ∧ kn' = kn ∧ S' = (bump d m', none) :: (d, some m') :: S))
def RunR (st : St) (t : Task) (kn : Kn) (S : List Task) (kn' : Kn) (S' : List Task) : Prop :=
  match t.2 with
  | none => (kn t.1 ≠ 0 ∧ kn' = kn ∧ S' = S) ∨ (kn t.1 = 0 ∧ allLeft st t.1 = true ∧ kn' = setK kn t.1 2 ∧ S' = S) ∨ (kn t.1 = 0 ∧ allLeft st t.1 = false ∧ TryR st t.1 0 kn S kn' S')
  | some m => (kn (bump t.1 m) = 2 ∧ kn' = setK kn t.1 2 ∧ S' = S) ∨ (kn (bump t.1 m) ≠ 2 ∧ TryR st t.1 (m + 1) kn S kn' S')

/-- this stack (its top first) waits for d -/
def Awaits (st : St) (d0 : Pr) : List Task → Pr → Prop
  | [], d => d = d0
  | t :: S, d => (∃ m, t.2 = some m ∧ d = bump t.1 m ∧ PV st t.1 ∧ m < st.2.1.length ∧ canP st t.1 m = true ∧ ∀ j, j < m → canP st t.1 j = true → ¬ safeP st (bump t.1 j)) ∧ Awaits st d0 S t.1
def Sound (st : St) (kn : Kn) : Prop := ∀ e, PV st e → (kn e = 2 → safeP st e) ∧ (kn e = 1 → ¬ safeP st e) ∧ (kn e = 0 ∨ kn e = 1 ∨ kn e = 2)
structure SInv (st : St) (d0 : Pr) (kn : Kn) (S : List Task) : Prop where
  sound : Sound st kn
  form : (∃ d, PV st d ∧ Awaits st d0 S d ∧ kn d ≠ 0) ∨ (∃ d S0, S = (d, none) :: S0 ∧ PV st d ∧ Awaits st d0 S0 d)

def costC : Nat → Nat
  | 0 => 7
  | r + 1 => 7 + 6 * costC r
def restR (st : St) (d : Pr) : Nat := remOf (behindSt st d)
def costT (st : St) (t : Task) : Nat :=
  match t.2 with
  | none => costC (restR st t.1)
  | some m => 1 + (5 - m) * (1 + costC (restR st t.1 - 1))
def measS (st : St) : List Task → Nat
  | [] => 0
  | t :: S => costT st t + measS st S
theorem restR_bump {st : St} {d : Pr} (hd : PrOk st d) {m : Nat} (hm : m < st.2.1.length) (hl : leftB st.2.1 d m = false) : restR st (bump d m) + 1 = restR st d := by
  have := remOf_step (st := behindSt st d) (behind_lt hm hl)
  rw [step_behind hd hm hl] at this
  exact this
theorem costC_pos (r : Nat) : 7 ≤ costC r := by cases r <;> simp [costC]

theorem Sound.set {st : St} (hs : SoSt st) {kn : Kn} (h : Sound st kn) {d : Pr} (hd : PV st d) {x : Int} (hx : (x = 2 ∧ safeP st d) ∨ (x = 1 ∧ ¬ safeP st d)) : Sound st (setK kn d x) := fun e he => by
  by_cases hed : e = d
  · subst hed
    rw [setK_same]
    rcases hx with ⟨rfl, hx⟩ | ⟨rfl, hx⟩
    · exact ⟨fun _ => hx, fun h => by omega, by omega⟩
    · exact ⟨fun h => by omega, fun _ => hx, by omega⟩
  · rw [setK_other hs hd he hed]
    exact h e he

theorem try_inv {st : St} (hs : SoSt st) {d0 : Pr} {kn kn' : Kn} {S S' : List Task} {d : Pr} {m : Nat} (hsound : Sound st kn) (hd : PV st d) (haw : Awaits st d0 S d) (hnl : ¬ ∀ i, i < st.2.1.length → leftB st.2.1 d i = true)
    (hbad : ∀ j, j < m → j < st.2.1.length → canP st d j = true → ¬ safeP st (bump d j)) (h : TryR st d m kn S kn' S') :
    SInv st d0 kn' S' ∧ measS st S' ≤ (5 - m) * (1 + costC (restR st d - 1)) + (1 + costC (restR st d - 1)) + measS st S := by
  have h5 := hs.lens.2.2.1
  obtain ⟨m', h1, h2, h3, ⟨h4, rfl, rfl⟩ | ⟨h4, h6, rfl, rfl⟩⟩ := h
  · refine ⟨⟨hsound.set hs hd (Or.inr ⟨rfl, fun hsafe => ?_⟩), Or.inl ⟨d, hd, haw, by rw [setK_same]; omega⟩⟩, by omega⟩
    rcases (safe_iff hs hd.ok).1 hsafe with hall | ⟨i, g1, g2, g3⟩
    · exact hnl hall
    · by_cases hi : i < m
      · exact hbad i hi g1 g2 g3
      · rw [h3 i (by omega) (by omega)] at g2
        cases g2
  · have hl := canP_left h6
    have hr := restR_bump hd.ok h4 hl
    have hm : measS st ((bump d m', none) :: (d, some m') :: S) = costC (restR st (bump d m')) + (1 + (5 - m') * (1 + costC (restR st d - 1)) + measS st S) := rfl
    have he : restR st (bump d m') = restR st d - 1 := by omega
    have hle : (5 - m') * (1 + costC (restR st d - 1)) ≤ (5 - m) * (1 + costC (restR st d - 1)) := Nat.mul_le_mul_right _ (by omega)
    refine ⟨⟨hsound, Or.inr ⟨bump d m', _, rfl, hd.bump h4 hl, ⟨m', rfl, rfl, hd, h4, h6, fun j hj hc => ?_⟩, haw⟩⟩, by rw [hm, he]; omega⟩
    by_cases hjm : j < m
    · exact hbad j hjm (by omega) hc
    · rw [h3 j (by omega) hj] at hc
      cases hc

theorem run_inv {st : St} (hs : SoSt st) {d0 : Pr} {kn kn' : Kn} {t : Task} {S S' : List Task} (hi : SInv st d0 kn (t :: S)) (h : RunR st t kn S kn' S') : SInv st d0 kn' S' ∧ measS st S' < measS st (t :: S) := by
  have hcp := costC_pos
  rcases hi.form with ⟨d, hd, haw, hk⟩ | ⟨d, S0, e, hd, haw⟩
  · obtain ⟨⟨m, e1, rfl, e3, e4, e5, e6⟩, haw'⟩ := haw
    have hl := canP_left e5
    have hsafe := hi.sound (bump t.1 m) (e3.bump e4 hl)
    have hcost : measS st (t :: S) = 1 + (5 - m) * (1 + costC (restR st t.1 - 1)) + measS st S := by
      show costT st t + _ = _
      unfold costT
      rw [e1]
    unfold RunR at h
    rw [e1] at h
    rcases h with ⟨h1, rfl, rfl⟩ | ⟨h1, h2⟩
    · refine ⟨⟨hi.sound.set hs e3 (Or.inl ⟨rfl, ?_⟩), Or.inl ⟨t.1, e3, haw', by rw [setK_same]; omega⟩⟩, by rw [hcost]; omega⟩
      exact (safe_iff hs e3.ok).2 (Or.inr ⟨m, e4, e5, hsafe.1 h1⟩)
    · have hb : ¬ safeP st (bump t.1 m) := hsafe.2.1 (by rcases hsafe.2.2 with g | g | g <;> omega)
      have := try_inv hs hi.sound e3 haw' (fun hall => by rw [hall m e4] at hl; cases hl) (fun j hj hj2 hc => by
        by_cases hjm : j = m
        · subst hjm; exact hb
        · exact e6 j (by omega) hc) h2
      refine ⟨this.1, ?_⟩
      rw [hcost]
      have h5 := hs.lens.2.2.1
      have h3 : (5 - m) * (1 + costC (restR st t.1 - 1)) = (5 - (m + 1)) * (1 + costC (restR st t.1 - 1)) + (1 + costC (restR st t.1 - 1)) := by
        rw [show 5 - m = (5 - (m + 1)) + 1 by omega, Nat.succ_mul]
      have := this.2
      omega
  · simp only [List.cons.injEq] at e
    obtain ⟨rfl, rfl⟩ := e
    have hcost : measS st ((d, none) :: S) = costC (restR st d) + measS st S := rfl
    have h7 := hcp (restR st d)
    unfold RunR at h
    simp only at h
    rcases h with ⟨h1, rfl, rfl⟩ | ⟨h1, h2, rfl, rfl⟩ | ⟨h1, h2, h3⟩
    · exact ⟨⟨hi.sound, Or.inl ⟨d, hd, haw, h1⟩⟩, by rw [hcost]; omega⟩
    · refine ⟨⟨hi.sound.set hs hd (Or.inl ⟨rfl, ?_⟩), Or.inl ⟨d, hd, haw, by rw [setK_same]; omega⟩⟩, by rw [hcost]; omega⟩
      exact (safe_iff hs hd.ok).2 (Or.inl (fun i hi => allUp_at h2 i hi))
    · have hnl : ¬ ∀ i, i < st.2.1.length → leftB st.2.1 d i = true := fun hall => by
        rw [show allLeft st d = true from allUp_true hall] at h2
        cases h2
      have := try_inv hs hi.sound hd haw hnl (fun j hj => absurd hj (Nat.not_lt_zero _)) h3
      refine ⟨this.1, ?_⟩
      rw [hcost]
      have hle := this.2
      have hpos : 1 ≤ restR st d := by
        obtain ⟨i, g⟩ := Classical.not_forall.1 hnl
        obtain ⟨g1, g2⟩ := Classical.not_imp.1 g
        have hl : leftB st.2.1 d i = false := by simpa using g2
        have := restR_bump hd.ok g1 hl
        omega
      obtain ⟨r, hr⟩ : ∃ r, restR st d = r + 1 := ⟨restR st d - 1, by omega⟩
      rw [hr] at hle ⊢
      simp only [Nat.add_sub_cancel, costC] at hle ⊢
      omega
theorem search_done {st : St} {d0 : Pr} {kn : Kn} (hi : SInv st d0 kn []) : (kn d0 = 2 ↔ safeP st d0) ∧ PV st d0 := by
  rcases hi.form with ⟨d, hd, rfl, hk⟩ | ⟨d, S0, e, _⟩
  · have := hi.sound d hd
    refine ⟨⟨this.1, fun hsafe => ?_⟩, hd⟩
    rcases this.2.2 with g | g | g
    · exact absurd g hk
    · exact absurd hsafe (this.2.1 g)
    · exact g
  · cases e
end Go.Proofs.Ytmjjigdnoiphbab
