import Derived.Test.YtmjjigdnoiphbaaSf6
import Derived.Test.YtmjjigdnoiphbaaJ2
import Derived.Maps.OwnOps
import Derived.Maps.Views
import Derived.DeepKeys4
import Derived.Test.YtmjjigdnoiphbaaJ1
import Derived.Test.YtmjjigdnoiphbaaW23
/-
  A progress as the key of a map.
-/
namespace Go.Proofs.Ytmjjigdnoiphbaa
open Go.RowKit Go.Deep Go.Maps
set_option linter.unusedVariables false

theorem Try.rowPr : (63 : TypeId) < Try.prog.types.size := of_decide_eq_true (by kernel_rfl)
theorem Try.cellsPr : Try.prog.cellsOf 63 = 5 := by kernel_rfl
theorem Try.cellsAr : Try.prog.cellsOf 61 = 5 := by kernel_rfl
theorem Try.cellsI8 : Try.prog.cellsOf 60 = 1 := by kernel_rfl
theorem Try.keyPr : Try.prog.keyType 63 = true := by kernel_rfl
theorem Try.widePr : (match Try.prog.underlying 63 with | some (.array _ _) | some (.struct _) => true | _ => false) = true := by kernel_rfl
set_option maxRecDepth 16000 in
theorem prKeyed : Keyed Try.prog 63 := Keyed.of_law (deep_law_laid Try.laidOut (m := 3) (by omega) Try.rowPr (by kernel_rfl) Try.widePr)
theorem zeroVerdict (w : World) : (zeroValue 106).run Try.prog w = .ok (.int .i64 0) w := by kernel_rfl

theorem i8wf {n : Nat} (h : n < 100) : (Lit.int .i8 (n : Int)).wf = true := by
  have h1 : IntKind.i8.min = -128 := by decide
  have h2 : IntKind.i8.max = 127 := by decide
  simp only [Lit.wf, h1, h2, Bool.and_eq_true, decide_eq_true_eq]
  omega
theorem keyOf_pv {d : Nat → Nat} (hd : ∀ i, i < 5 → d i < 100) : ∃ kl, keyOf Try.prog 63 (pv d) = some kl := by
  obtain ⟨m, hm⟩ : ∃ m, Try.prog.types.size + 1 = m + 1 + 1 + 1 := ⟨Try.prog.types.size - 2, by have : 2 ≤ Try.prog.types.size := of_decide_eq_true (by kernel_rfl); omega⟩
  have w0 := i8wf (hd 0 (by omega))
  have w1 := i8wf (hd 1 (by omega))
  have w2 := i8wf (hd 2 (by omega))
  have w3 := i8wf (hd 3 (by omega))
  have w4 := i8wf (hd 4 (by omega))
  have hf : (pv d).formed Try.prog 63 = true := by simp [pv, pc5, Value.formed, Try.underlying63, Try.cellsPr]
  unfold keyOf
  rw [Try.underlying63]
  simp only [Try.keyPr, hf, Bool.and_self, if_true, hm]
  simp [Program.keyLits, Try.underlying63, Try.underlying61, Try.underlying60, Try.cellsPr, Try.cellsAr, Try.cellsI8, pv, pc5, Value.cells, List.range, List.range.loop, w0, w1, w2, w3, w4]
end Go.Proofs.Ytmjjigdnoiphbaa

/-
  THE SEARCH IN PLAIN MATHEMATICS: a stack of tasks, and what is known. No program here.
-/
namespace Go.Proofs.Ytmjjigdnoiphbaa
open Go.RowKit Go.Deep Go.Maps
set_option linter.unusedVariables false

abbrev Pr : Type := Nat → Nat
/-- a progress of this state, and nothing beyond it -/
structure PV (st : St) (d : Pr) : Prop where
  ok : PrOk st d
  out : ∀ i, st.2.1.length ≤ i → d i = 0
theorem PV.pz (st : St) : PV st pz := ⟨pz_ok st, fun _ _ => rfl⟩
theorem PV.bump {st : St} {d : Pr} (h : PV st d) {m : Nat} (hm : m < st.2.1.length) (hl : leftB st.2.1 d m = false) : PV st (bump d m) :=
  ⟨h.ok.bump hm hl, fun i hi => by unfold Go.Proofs.Ytmjjigdnoiphbaa.bump; rw [if_neg (by omega)]; exact h.out i hi⟩
theorem canP_left {st : St} {d : Pr} {m : Nat} (h : canP st d m = true) : leftB st.2.1 d m = false := by
  cases e : leftB st.2.1 d m
  · rfl
  · simp [canP, e] at h
def safeP (st : St) (d : Pr) : Prop := 0 ≤ val (behindSt st d)
theorem PV.lt {st : St} (hs : SoSt st) {d : Pr} (h : PV st d) (i : Nat) : d i < 100 := by
  by_cases hi : i < st.2.1.length
  · have h1 := h.ok i hi
    have h2 := (hs.train i hi).2.2.1
    omega
  · rw [h.out i (by omega)]
    omega

/-- a task: to visit d; or, behind the visit of what lies behind the move m of d, to go on with d -/
abbrev Task : Type := Pr × Option Nat
/-- what is known: 0 nothing, 1 no way home, 2 a way home -/
abbrev Kn : Type := Pr → Int
def same5 (d e : Pr) : Bool := decide (d 0 = e 0) && (decide (d 1 = e 1) && (decide (d 2 = e 2) && (decide (d 3 = e 3) && decide (d 4 = e 4))))
theorem same5_iff {st : St} (hs : SoSt st) {d e : Pr} (hd : PV st d) (he : PV st e) : same5 d e = true ↔ e = d := by
  constructor
  · intro h
    simp only [same5, Bool.and_eq_true, decide_eq_true_eq] at h
    obtain ⟨h0, h1, h2, h3, h4⟩ := h
    have h5 := hs.lens.2.2.1
    funext i
    by_cases hi : i < 5
    · rcases (show i = 0 ∨ i = 1 ∨ i = 2 ∨ i = 3 ∨ i = 4 by omega) with rfl | rfl | rfl | rfl | rfl
      · exact h0.symm
      · exact h1.symm
      · exact h2.symm
      · exact h3.symm
      · exact h4.symm
    · rw [hd.out i (by omega), he.out i (by omega)]
  · rintro rfl
    simp [same5]
def setK (kn : Kn) (d : Pr) (x : Int) : Kn := fun e => bif same5 d e then x else kn e
theorem setK_same (kn : Kn) (d : Pr) (x : Int) : setK kn d x d = x := by simp [setK, same5]
theorem setK_other {st : St} (hs : SoSt st) {kn : Kn} {d e : Pr} {x : Int} (hd : PV st d) (he : PV st e) (hne : e ≠ d) : setK kn d x e = kn e := by
  have : same5 d e = false := by
    cases h : same5 d e
    · rfl
    · exact absurd ((same5_iff hs hd he).1 h) hne
  simp [setK, this]

def allLeft (st : St) (d : Pr) : Bool := allUp st.2.1.length (leftB st.2.1 d)
/-- what 'try' does, from train m on -/
def TryR (st : St) (d : Pr) (m : Nat) (kn : Kn) (S : List Task) (kn' : Kn) (S' : List Task) : Prop :=
  ∃ m', m ≤ m' ∧ m' ≤ st.2.1.length ∧ (∀ j, m ≤ j → j < m' → canP st d j = false) ∧ ((m' = st.2.1.length ∧ kn' = setK kn d 1 ∧ S' = S) ∨ (m' < st.2.1.length ∧ canP st d m' = true ∧ kn' = kn ∧ S' = (bump d m', none) :: (d, some m') :: S))
def RunR (st : St) (t : Task) (kn : Kn) (S : List Task) (kn' : Kn) (S' : List Task) : Prop :=
  match t.2 with
  | none => (kn t.1 ≠ 0 ∧ kn' = kn ∧ S' = S) ∨ (kn t.1 = 0 ∧ allLeft st t.1 = true ∧ kn' = setK kn t.1 2 ∧ S' = S) ∨ (kn t.1 = 0 ∧ allLeft st t.1 = false ∧ TryR st t.1 0 kn S kn' S')
  | some m => (kn (bump t.1 m) = 2 ∧ kn' = setK kn t.1 2 ∧ S' = S) ∨ (kn (bump t.1 m) ≠ 2 ∧ TryR st t.1 (m + 1) kn S kn' S')

/-- this stack (its top first) waits for d -/
def Awaits (st : St) (d0 : Pr) : List Task → Pr → Prop
  | [], d => d = d0
  | t :: S, d => (∃ m, t.2 = some m ∧ d = bump t.1 m ∧ PV st t.1 ∧ m < st.2.1.length ∧ canP st t.1 m = true ∧ ∀ j, j < m → canP st t.1 j = true → ¬ safeP st (bump t.1 j)) ∧ Awaits st d0 S t.1
def Sound (st : St) (kn : Kn) : Prop := ∀ e, PV st e → (kn e = 2 → safeP st e) ∧ (kn e = 1 → ¬ safeP st e) ∧ (kn e = 0 ∨ kn e = 1 ∨ kn e = 2)
structure SInv (st : St) (d0 : Pr) (kn : Kn) (S : List Task) : Prop where
  sound : Sound st kn
  form : (∃ d, PV st d ∧ Awaits st d0 S d ∧ kn d ≠ 0) ∨ (∃ d S0, S = (d, none) :: S0 ∧ PV st d ∧ Awaits st d0 S0 d)

def costC : Nat → Nat
  | 0 => 7
  | r + 1 => 7 + 6 * costC r
def restR (st : St) (d : Pr) : Nat := remOf (behindSt st d)
def costT (st : St) (t : Task) : Nat :=
  match t.2 with
  | none => costC (restR st t.1)
  | some m => 1 + (5 - m) * (1 + costC (restR st t.1 - 1))
def measS (st : St) : List Task → Nat
  | [] => 0
  | t :: S => costT st t + measS st S
theorem restR_bump {st : St} {d : Pr} (hd : PrOk st d) {m : Nat} (hm : m < st.2.1.length) (hl : leftB st.2.1 d m = false) : restR st (bump d m) + 1 = restR st d := by
  have := remOf_step (st := behindSt st d) (behind_lt hm hl)
  rw [step_behind hd hm hl] at this
  exact this
theorem costC_pos (r : Nat) : 7 ≤ costC r := by cases r <;> simp [costC]

theorem Sound.set {st : St} (hs : SoSt st) {kn : Kn} (h : Sound st kn) {d : Pr} (hd : PV st d) {x : Int} (hx : (x = 2 ∧ safeP st d) ∨ (x = 1 ∧ ¬ safeP st d)) : Sound st (setK kn d x) := fun e he => by
  by_cases hed : e = d
  · subst hed
    rw [setK_same]
    rcases hx with ⟨rfl, hx⟩ | ⟨rfl, hx⟩
    · exact ⟨fun _ => hx, fun h => by omega, by omega⟩
    · exact ⟨fun h => by omega, fun _ => hx, by omega⟩
  · rw [setK_other hs hd he hed]
    exact h e he

theorem try_inv {st : St} (hs : SoSt st) {d0 : Pr} {kn kn' : Kn} {S S' : List Task} {d : Pr} {m : Nat} (hsound : Sound st kn) (hd : PV st d) (haw : Awaits st d0 S d) (hnl : ¬ ∀ i, i < st.2.1.length → leftB st.2.1 d i = true)
    (hbad : ∀ j, j < m → j < st.2.1.length → canP st d j = true → ¬ safeP st (bump d j)) (h : TryR st d m kn S kn' S') :
    SInv st d0 kn' S' ∧ measS st S' ≤ (5 - m) * (1 + costC (restR st d - 1)) + (1 + costC (restR st d - 1)) + measS st S := by
  have h5 := hs.lens.2.2.1
  obtain ⟨m', h1, h2, h3, ⟨h4, rfl, rfl⟩ | ⟨h4, h6, rfl, rfl⟩⟩ := h
  · refine ⟨⟨hsound.set hs hd (Or.inr ⟨rfl, fun hsafe => ?_⟩), Or.inl ⟨d, hd, haw, by rw [setK_same]; omega⟩⟩, by omega⟩
    rcases (safe_iff hs hd.ok).1 hsafe with hall | ⟨i, g1, g2, g3⟩
    · exact hnl hall
    · by_cases hi : i < m
      · exact hbad i hi g1 g2 g3
      · rw [h3 i (by omega) (by omega)] at g2
        cases g2
  · have hl := canP_left h6
    have hr := restR_bump hd.ok h4 hl
    have hm : measS st ((bump d m', none) :: (d, some m') :: S) = costC (restR st (bump d m')) + (1 + (5 - m') * (1 + costC (restR st d - 1)) + measS st S) := rfl
    have he : restR st (bump d m') = restR st d - 1 := by omega
    have hle : (5 - m') * (1 + costC (restR st d - 1)) ≤ (5 - m) * (1 + costC (restR st d - 1)) := Nat.mul_le_mul_right _ (by omega)
    refine ⟨⟨hsound, Or.inr ⟨bump d m', _, rfl, hd.bump h4 hl, ⟨m', rfl, rfl, hd, h4, h6, fun j hj hc => ?_⟩, haw⟩⟩, by rw [hm, he]; omega⟩
    by_cases hjm : j < m
    · exact hbad j hjm (by omega) hc
    · rw [h3 j (by omega) hj] at hc
      cases hc

theorem run_inv {st : St} (hs : SoSt st) {d0 : Pr} {kn kn' : Kn} {t : Task} {S S' : List Task} (hi : SInv st d0 kn (t :: S)) (h : RunR st t kn S kn' S') : SInv st d0 kn' S' ∧ measS st S' < measS st (t :: S) := by
  have hcp := costC_pos
  rcases hi.form with ⟨d, hd, haw, hk⟩ | ⟨d, S0, e, hd, haw⟩
  · obtain ⟨⟨m, e1, rfl, e3, e4, e5, e6⟩, haw'⟩ := haw
    have hl := canP_left e5
    have hsafe := hi.sound (bump t.1 m) (e3.bump e4 hl)
    have hcost : measS st (t :: S) = 1 + (5 - m) * (1 + costC (restR st t.1 - 1)) + measS st S := by
      show costT st t + _ = _
      unfold costT
      rw [e1]
    unfold RunR at h
    rw [e1] at h
    rcases h with ⟨h1, rfl, rfl⟩ | ⟨h1, h2⟩
    · refine ⟨⟨hi.sound.set hs e3 (Or.inl ⟨rfl, ?_⟩), Or.inl ⟨t.1, e3, haw', by rw [setK_same]; omega⟩⟩, by rw [hcost]; omega⟩
      exact (safe_iff hs e3.ok).2 (Or.inr ⟨m, e4, e5, hsafe.1 h1⟩)
    · have hb : ¬ safeP st (bump t.1 m) := hsafe.2.1 (by rcases hsafe.2.2 with g | g | g <;> omega)
      have := try_inv hs hi.sound e3 haw' (fun hall => by rw [hall m e4] at hl; cases hl) (fun j hj hj2 hc => by
        by_cases hjm : j = m
        · subst hjm; exact hb
        · exact e6 j (by omega) hc) h2
      refine ⟨this.1, ?_⟩
      rw [hcost]
      have h5 := hs.lens.2.2.1
      have h3 : (5 - m) * (1 + costC (restR st t.1 - 1)) = (5 - (m + 1)) * (1 + costC (restR st t.1 - 1)) + (1 + costC (restR st t.1 - 1)) := by
        rw [show 5 - m = (5 - (m + 1)) + 1 by omega, Nat.succ_mul]
      have := this.2
      omega
  · simp only [List.cons.injEq] at e
    obtain ⟨rfl, rfl⟩ := e
    have hcost : measS st ((d, none) :: S) = costC (restR st d) + measS st S := rfl
    have h7 := hcp (restR st d)
    unfold RunR at h
    simp only at h
    rcases h with ⟨h1, rfl, rfl⟩ | ⟨h1, h2, rfl, rfl⟩ | ⟨h1, h2, h3⟩
    · exact ⟨⟨hi.sound, Or.inl ⟨d, hd, haw, h1⟩⟩, by rw [hcost]; omega⟩
    · refine ⟨⟨hi.sound.set hs hd (Or.inl ⟨rfl, ?_⟩), Or.inl ⟨d, hd, haw, by rw [setK_same]; omega⟩⟩, by rw [hcost]; omega⟩
      exact (safe_iff hs hd.ok).2 (Or.inl (fun i hi => allUp_at h2 i hi))
    · have hnl : ¬ ∀ i, i < st.2.1.length → leftB st.2.1 d i = true := fun hall => by
        rw [show allLeft st d = true from allUp_true hall] at h2
        cases h2
      have := try_inv hs hi.sound hd haw hnl (fun j hj => absurd hj (Nat.not_lt_zero _)) h3
      refine ⟨this.1, ?_⟩
      rw [hcost]
      have hle := this.2
      have hpos : 1 ≤ restR st d := by
        obtain ⟨i, g⟩ := Classical.not_forall.1 hnl
        obtain ⟨g1, g2⟩ := Classical.not_imp.1 g
        have hl : leftB st.2.1 d i = false := by simpa using g2
        have := restR_bump hd.ok g1 hl
        omega
      obtain ⟨r, hr⟩ : ∃ r, restR st d = r + 1 := ⟨restR st d - 1, by omega⟩
      rw [hr] at hle ⊢
      simp only [Nat.add_sub_cancel, costC] at hle ⊢
      omega
theorem search_done {st : St} {d0 : Pr} {kn : Kn} (hi : SInv st d0 kn []) : (kn d0 = 2 ↔ safeP st d0) ∧ PV st d0 := by
  rcases hi.form with ⟨d, hd, rfl, hk⟩ | ⟨d, S0, e, _⟩
  · have := hi.sound d hd
    refine ⟨⟨this.1, fun hsafe => ?_⟩, hd⟩
    rcases this.2.2 with g | g | g
    · exact absurd g hk
    · exact absurd hsafe (this.2.1 g)
    · exact g
  · cases e
end Go.Proofs.Ytmjjigdnoiphbaa

/-
  impl: endOf, the progress behind which all have left.
-/
namespace Go.Proofs.Ytmjjigdnoiphbaa
open Go.RowKit Go.Deep Go.Maps
set_option linter.unusedVariables false

def endUp (ts : List Tr) (k : Nat) : Pr := fun i => if i < k then (tPath ts i).length + 1 else 0
def endP (st : St) : Pr := endUp st.2.1 st.2.1.length
theorem PV.endP (st : St) : PV st (endP st) := ⟨fun i hi => by unfold Go.Proofs.Ytmjjigdnoiphbaa.endP endUp; rw [if_pos hi]; exact Nat.le_refl _, fun i hi => by unfold Go.Proofs.Ytmjjigdnoiphbaa.endP endUp; rw [if_neg (by omega)]⟩
theorem endP_left {st : St} {i : Nat} (hi : i < st.2.1.length) : leftB st.2.1 (endP st) i = true := by
  unfold leftB endP endUp
  rw [if_pos hi]
  simp
theorem allLeft_iff {st : St} {d : Pr} (hd : PV st d) : allLeft st d = true ↔ d = endP st := by
  constructor
  · intro h
    funext i
    by_cases hi : i < st.2.1.length
    · have h1 := hd.ok i hi
      have h2 : leftB st.2.1 d i = true := by
        cases e : leftB st.2.1 d i
        · have := allUp_false (f := leftB st.2.1 d) i hi e
          unfold allLeft at h
          rw [this] at h
          exact absurd h (by decide)
        · rfl
      unfold leftB at h2
      unfold endP endUp
      rw [if_pos hi]
      have := of_decide_eq_true h2
      omega
    · rw [hd.out i (by omega)]
      unfold endP endUp
      rw [if_neg hi]
  · rintro rfl
    exact allUp_true (fun j hj => endP_left hj)
theorem endP_small {st : St} (hs : SoSt st) (i : Nat) : endP st i < 100 := (PV.endP st).lt hs i

theorem endUp_succ (ts : List Tr) (k i : Nat) : endUp ts (k + 1) i = if i = k then (tPath ts k).length + 1 else endUp ts k i := by
  unfold endUp
  by_cases h : i = k
  · subst h; simp
  · rw [if_neg h]
    by_cases h2 : i < k
    · rw [if_pos h2, if_pos (by omega)]
    · rw [if_neg h2, if_neg (by omega)]

set_option maxRecDepth 4000 in
set_option maxHeartbeats 4000000 in
theorem endOf_any (v : Value) (st : St) (w : World) (h : StateAt w v st) (hs : SoSt st) :
    Calls Try.prog 53 #[v] w fun e w' => e = .returned (pv (endP st)) ∧ Below w.heap.size w w' := by
  have HST := hide h
  have HSO := hide hs
  obtain ⟨a1, q1, a2, q2, a3, q3, rfl⟩ := h.form
  obtain ⟨l1, l2, l3, l4⟩ := hs.lens
  clear h hs l4
  go_enter Try.func53, Try.ntmps53
  go_wp2_with fail
  obtain ⟨V, hV⟩ : ∃ V, V = ((w.alloc (.cells #[.slice a1 st.1.length q1, .slice a2 st.2.1.length q2, .slice a3 st.2.2.length q3] 26)).alloc (.cells (pc5 pz) 63)).alloc (.cells (pc5 pz) 63) := ⟨_, rfl⟩
  have HBV : Hid (Below w.heap.size w V) := by rw [hV]; exact Joins.below_alloc3 _ _ _ _
  have HR : Hid (V.heap[w.heap.size + 1]? = some (.cells (pc5 pz) 63 (0, 0))) := by rw [hV]; exact blockLater (Joins.below_alloc1 _ _) (heap_alloc2_new _ _ _)
  have HE : Hid (V.heap[w.heap.size + 1 + 1]? = some (.cells (pc5 pz) 63 (0, 0))) := by
    rw [hV]
    have := heap_alloc_new ((w.alloc (.cells #[.slice a1 st.1.length q1, .slice a2 st.2.1.length q2, .slice a3 st.2.2.length q3] 26)).alloc (.cells (pc5 pz) 63)) (.cells (pc5 pz) 63)
    simpa [Hid] using this
  change Code.wp _ _ _ _ (((w.alloc (.cells #[.slice a1 st.1.length q1, .slice a2 st.2.1.length q2, .slice a3 st.2.2.length q3] 26)).alloc (.cells (pc5 pz) 63)).alloc (.cells (pc5 pz) 63))
  rw [← hV]
  clear hV
  generalize hrb : w.heap.size + 1 = rb at *
  have hw1 : w.heap.size < rb := by omega
  have hrV : rb + 1 < V.heap.size := (Array.getElem?_eq_some_iff.1 HE.out).1
  clear hrb
  go_loopw [9] (fun i wr => ∃ k : Nat, k ≤ st.2.1.length ∧ i = .int .i64 k ∧ Below rb V wr ∧ wr.heap[rb]? = some (.cells (pc5 pz) 63 (0, 0)) ∧ wr.heap[rb + 1]? = some (.cells (pc5 (endUp st.2.1 k)) 63 (0, 0))) (fun i _ => st.2.1.length - (intOf i).toNat)
  case atStart => exact ⟨0, Nat.zero_le _, rfl, Below.refl _ _, HR.out, HE.out⟩
  case round =>
    obtain ⟨k, hk, rfl, hb, hR, hE⟩ := hrel
    have hbw : Below w.heap.size w wr := HBV.out.trans (hb.mono (by omega))
    by_cases hlt : k < st.2.1.length
    · obtain ⟨b, off, rfl, vp, t0, t1, hI, t2⟩ := HST.out.parts.2.1.trainAt k hlt
      obtain ⟨ap, cp, rfl, -⟩ := hI
      have g0 := cell_later hbw t0
      have g1 := cell_later hbw t1
      have g2 := cell_later hbw t2
      have h8 := (HSO.out.train k hlt).2.2.1
      have hwr : IntKind.i8.wrap (((tPath st.2.1 k).length : Int) + 1) = ((tPath st.2.1 k).length : Int) + 1 := by simp [IntKind.wrap, IntKind.bits]; omega
      have HES := hide (endUp_succ st.2.1 k)
      have hz := pc5_at (endUp st.2.1 k) k (by omega)
      have fz : wr.frozen? ⟨rb + 1, k, none⟩ = false := frozen_of_row wr _ k _ _ hE
      have ck : wr.cell? ⟨rb + 1, k, none⟩ = some (.int .i8 (endUp st.2.1 k k)) := by rw [cell_of_row wr (rb + 1) k _ _ (0, 0) hE]; exact hz
      have hsz : rb + 1 < wr.heap.size := (Array.getElem?_eq_some_iff.1 hE).1
      have HB := hide hb
      have HRR := hide hR
      have HEE := hide hE
      clear t0 t1 t2 hb hbw hR hE hz
      generalize (tPath st.2.1 k).length = ln at *
      generalize tAt st.2.1 k = xa at *
      generalize tWt st.2.1 k = ya at *
      generalize endUp st.2.1 k = eu at *
      have hk5 : k < 5 := by omega
      have hk5i : (k : Int) < 5 := by omega
      go_wp2_with fail
      go_roundw
      case rel =>
        refine ⟨k + 1, by omega, by go_num, (HB.out.setCell (p := ⟨rb + 1, k, none⟩) (by simp) _).trans ((Joins.below_alloc1 _ _).mono (by simp; omega)), ?_, ?_⟩
        · rw [(Joins.below_alloc1 _ _).block rb (by simp; omega), Below.heap_setCell _ _ _ _ (by simp)]
          exact HRR.out
        · rw [(Joins.below_alloc1 _ _).block (rb + 1) (by simp; omega)]
          have := Joins.block_setCell (i := k) HEE.out (.int .i8 ((ln : Int) + 1))
          rw [this]
          congr 2
          unfold pc5
          have E : ∀ i, endUp st.2.1 (k + 1) i = if i = k then ln + 1 else eu i := HES.out
          simp only [E]
          rcases (show k = 0 ∨ k = 1 ∨ k = 2 ∨ k = 3 ∨ k = 4 by omega) with rfl | rfl | rfl | rfl | rfl <;> simp
      case measure => simp [intOf]; omega
    · obtain rfl : k = st.2.1.length := by omega
      obtain ⟨e0, e1, e2, e3, e4⟩ := cells5 hE
      obtain ⟨r0, r1, r2, r3, r4⟩ := cells5 hR
      have rf : ∀ o, wr.frozen? ⟨rb, o, none⟩ = false := fun o => frozen_of_row wr rb o _ _ hR
      have f0 := rf 0
      have f1 := rf 1
      have f2 := rf 2
      have f3 := rf 3
      have f4 := rf 4
      clear rf
      go_wp2_with fail
      have HBW := hide hbw
      have hsz : rb < wr.heap.size := (Array.getElem?_eq_some_iff.1 hR).1
      have hlw : ∀ (x : Value) (o : Nat), Below w.heap.size w (wr.setCell ⟨rb, o, none⟩ x) := fun x o => hbw.setCell (p := ⟨rb, o, none⟩) (by simp; omega) x
      refine bodyPost_ret ?_ rfl ⟨rfl, ?_⟩
      · simp [results, Try.results53, go_sem, endP, pv, pc5, r0, r1, r2, r3, r4]
      · exact ((((hbw.setCell (p := ⟨rb, 0, none⟩) (by simp; omega) _).setCell (p := ⟨rb, 1, none⟩) (by simp; omega) _).setCell (p := ⟨rb, 2, none⟩) (by simp; omega) _).setCell (p := ⟨rb, 3, none⟩) (by simp; omega) _).setCell (p := ⟨rb, 4, none⟩) (by simp; omega) _
end Go.Proofs.Ytmjjigdnoiphbaa

/-
  THE COST OF MOVES, as mathematics; impl: weightThere.
-/
namespace Go.Proofs.Ytmjjigdnoiphbaa
open Go.RowKit Go.Deep Go.Maps
set_option linter.unusedVariables false

/-- the weights of those of the first k trains that are there yet -/
def wtR (ts : List Tr) (d : Pr) : Nat → Int
  | 0 => 0
  | k + 1 => wtR ts d k + if leftB ts d k = true then 0 else tWt ts k
def wtP (st : St) (d : Pr) : Int := wtR st.2.1 d st.2.1.length
theorem wt_up {st : St} {d : Pr} : ∀ k, k ≤ st.2.1.length → wtUp (behindSt st d).2.1 (posUp st.2.1 d k) = wtR st.2.1 d k
  | 0, _ => rfl
  | k + 1, hk => by
    have ih := wt_up (st := st) (d := d) k (by omega)
    cases hl : leftB st.2.1 d k
    · simp only [posUp, wtR, hl, Bool.false_eq_true, if_false]
      simp only [wtUp]
      rw [ih, (behind_at (by omega) hl).2.2]
    · simp only [posUp, wtR, hl, if_true, Nat.add_zero]
      rw [ih]
      simp
theorem wt_behind {st : St} {d : Pr} : wtOf (behindSt st d) = wtP st d := by
  unfold wtOf wtP
  rw [behind_len]
  exact wt_up _ (Nat.le_refl _)
theorem wtR_le {st : St} (h : SoSt st) (d : Pr) : ∀ k, k ≤ st.2.1.length → 0 ≤ wtR st.2.1 d k ∧ wtR st.2.1 d k ≤ 100 * k
  | 0, _ => by simp [wtR]
  | k + 1, hk => by
    have ih := wtR_le h d k (by omega)
    have := h.train k (by omega)
    simp only [wtR]
    split <;> omega
theorem wtP_le {st : St} (h : SoSt st) (d : Pr) : 0 ≤ wtP st d ∧ wtP st d ≤ 500 := by
  have := wtR_le h d st.2.1.length (Nat.le_refl _)
  have := h.lens.2.2.1
  unfold wtP
  omega
theorem wtR_pos {st : St} (h : SoSt st) (d : Pr) {i : Nat} (hl : leftB st.2.1 d i = false) : ∀ k, k ≤ st.2.1.length → i < k → 1 ≤ wtR st.2.1 d k
  | 0, _, hi => absurd hi (Nat.not_lt_zero _)
  | k + 1, hk, hi => by
    have h1 := wtR_le h d k (by omega)
    have h2 := h.train k (by omega)
    simp only [wtR]
    by_cases e : i = k
    · subst e
      rw [hl]
      simp
      omega
    · have := wtR_pos h d hl k (by omega) (by omega)
      split <;> omega
theorem wtP_pos {st : St} (h : SoSt st) (d : Pr) {i : Nat} (hi : i < st.2.1.length) (hl : leftB st.2.1 d i = false) : 1 ≤ wtP st d := wtR_pos h d hl _ (Nat.le_refl _) hi
theorem posUp_zero {ts : List Tr} {d : Pr} : ∀ k, posUp ts d k = 0 ↔ ∀ j, j < k → leftB ts d j = true
  | 0 => by simp [posUp]
  | k + 1 => by
    have ih := posUp_zero (ts := ts) (d := d) k
    simp only [posUp]
    constructor
    · intro h j hj
      by_cases e : j = k
      · subst e
        cases hl : leftB ts d j
        · rw [hl] at h; simp at h
        · rfl
      · exact ih.1 (by omega) j (by omega)
    · intro h
      rw [ih.2 (fun j hj => h j (by omega)), h k (by omega)]
      simp
theorem behind_none {st : St} {d : Pr} : (behindSt st d).2.1.length = 0 ↔ allLeft st d = true := by
  rw [behind_len, posUp_zero]
  constructor
  · exact fun h => allUp_true h
  · intro h j hj
    cases e : leftB st.2.1 d j
    · have := allUp_false (f := leftB st.2.1 d) j hj e
      unfold allLeft at h
      rw [this] at h
      exact absurd h (by decide)
    · rfl

/-- what moves cost from a progress on, n being paid -/
def costD (st : St) : List Int → Pr → Int → Int
  | [], d, n => bif allLeft st d then n else -1
  | m :: ms, d, n => if nameIx st.2.2 m < st.2.2.length ∧ canP st d (nameIx st.2.2 m) = true then costD st ms (bump d (nameIx st.2.2 m)) (n + wtP st d) else -1
def costF (st : St) (ms : List Int) : Int := if stOk st = 0 ∧ ms.length ≤ 45 then costD st ms pz 0 else -1
theorem drop_el {ms : List Int} {k : Nat} (hk : k < ms.length) : ms.drop k = el ms k :: ms.drop (k + 1) := by
  rw [List.drop_eq_getElem_cons hk]
  congr 1
  simp [el, hk]

/-- the place of a number among those that are there yet -/
theorem nameRes_behind {st : St} (h : RightSt st) {d : Pr} (hd : PrOk st d) (m : Int) :
    (nameIx st.2.2 m < st.2.2.length ∧ leftB st.2.1 d (nameIx st.2.2 m) = false ∧ nameRes (behindSt st d).2.2 m = (posUp st.2.1 d (nameIx st.2.2 m) : Nat)) ∨ ((¬ nameIx st.2.2 m < st.2.2.length ∨ leftB st.2.1 d (nameIx st.2.2 m) = true) ∧ nameRes (behindSt st d).2.2 m = -1) := by
  have hn := h.lens.2.2.2
  have hlen : (behindSt st d).2.2.length = posUp st.2.1 d st.2.1.length := bhN_len _ _ _ _
  by_cases hi : nameIx st.2.2 m < st.2.2.length
  · have e : el st.2.2 (nameIx st.2.2 m) = m := by
      have := List.findIdx_getElem (w := hi) (p := fun y => decide (y = m))
      simp only [decide_eq_true_eq] at this
      unfold el
      rw [List.getElem?_eq_getElem hi]
      exact this
    obtain ⟨b1, b2⟩ := nameIx_behind h (d := d) (i := nameIx st.2.2 m) (by omega)
    rw [e] at b1 b2
    cases hl : leftB st.2.1 d (nameIx st.2.2 m)
    · refine Or.inl ⟨hi, rfl, ?_⟩
      unfold nameRes
      rw [b1 hl, if_pos]
      rw [hlen]
      exact posUp_lt (by omega) hl
    · refine Or.inr ⟨Or.inr rfl, ?_⟩
      unfold nameRes
      rw [if_neg (b2 hl)]
  · refine Or.inr ⟨Or.inl hi, ?_⟩
    unfold nameRes
    rw [if_neg]
    refine nameIx_none (fun j hj e => ?_)
    rw [hlen] at hj
    obtain ⟨q, h1, h2, h3⟩ := pos_inv _ hj
    subst h3
    rw [behind_name h1 h2] at e
    exact hi (by
      by_cases hx : nameIx st.2.2 m < st.2.2.length
      · exact hx
      · exfalso
        have : ∀ j, j < st.2.2.length → ¬ (el st.2.2 j = m) := fun j hj e2 => by
          refine hx ?_
          unfold nameIx
          rw [List.findIdx_lt_length]
          refine ⟨st.2.2[j], List.getElem_mem hj, ?_⟩
          simp only [decide_eq_true_eq]
          rw [← e2]
          simp [el, hj]
        exact this q (by omega) e)

set_option maxRecDepth 4000 in
set_option maxHeartbeats 4000000 in
theorem weightThere_any (v : Value) (st : St) (w : World) (h : StateAt w v st) (hs : SoSt st) {d : Pr} (hd : ∀ i, d i < 100) :
    Calls Try.prog 58 #[v, pv d] w fun e w' => e = .returned (.int .i64 (wtP st d)) ∧ Below w.heap.size w w' := by
  have HST := hide h
  have HSO := hide hs
  have HD := hide hd
  obtain ⟨a1, q1, a2, q2, a3, q3, rfl⟩ := h.form
  obtain ⟨l1, l2, l3, l4⟩ := hs.lens
  clear h hs hd l4
  unfold pv pc5
  go_enter Try.func58, Try.ntmps58
  go_wp2_with fail
  obtain ⟨V, hV⟩ : ∃ V, V = (w.alloc (.cells #[.slice a1 st.1.length q1, .slice a2 st.2.1.length q2, .slice a3 st.2.2.length q3] 26)).alloc (.cells #[.int .i8 (d 0), .int .i8 (d 1), .int .i8 (d 2), .int .i8 (d 3), .int .i8 (d 4)] 63) := ⟨_, rfl⟩
  rw [← hV]
  have HBV : Hid (Below w.heap.size w V) := by rw [hV]; exact Joins.below_alloc2 _ _ _
  have HP : Hid (V.heap[w.heap.size + 1]? = some (.cells #[.int .i8 (d 0), .int .i8 (d 1), .int .i8 (d 2), .int .i8 (d 3), .int .i8 (d 4)] 63 (0, 0))) := by rw [hV]; exact heap_alloc2_new _ _ _
  clear hV
  go_loopw [5, 11] (fun u i wr => ∃ k : Nat, k ≤ st.2.1.length ∧ i = .int .i64 k ∧ u = .int .i64 (wtR st.2.1 d k) ∧ Below V.heap.size V wr) (fun _ i _ => st.2.1.length - (intOf i).toNat)
  case atStart => exact ⟨0, Nat.zero_le _, rfl, rfl, Below.refl _ _⟩
  case round =>
    obtain ⟨k, hk, rfl, rfl, hb⟩ := hrel
    by_cases hlt : k < st.2.1.length
    · have hbw := below_tail HBV.out hb
      obtain ⟨b, off, rfl, vp, t0, t1, hI, t2⟩ := HST.out.parts.2.1.trainAt k hlt
      obtain ⟨ap, cp, rfl, -⟩ := hI
      have g0 := cell_later hbw t0
      have g1 := cell_later hbw t1
      have g2 := cell_later hbw t2
      obtain ⟨p0, p1, p2, p3, p4⟩ := cells5 (blockLater hb HP.out)
      have h8 := (HSO.out.train k hlt).2.2.1
      have hy := (HSO.out.train k hlt).2.2.2
      have hplt : w.heap.size + 1 < wr.heap.size := (Array.getElem?_eq_some_iff.1 (blockLater hb HP.out)).1
      have hdk := HD.out k
      obtain ⟨s0, s1⟩ := wtR_le HSO.out d k hk
      have HB := hide hb
      have HLB : Hid (leftB st.2.1 d k = decide ((tPath st.2.1 k).length < d k)) := rfl
      have HW := hide (show wtR st.2.1 d (k + 1) = wtR st.2.1 d k + if leftB st.2.1 d k = true then 0 else tWt st.2.1 k from rfl)
      have hy1 := hy.1
      have hy2 := hy.2.1
      clear t0 t1 t2 hb hbw hy
      generalize (tPath st.2.1 k).length = ln at *
      generalize tAt st.2.1 k = xa at *
      generalize tWt st.2.1 k = ya at *
      generalize wtR st.2.1 d k = sm at *
      go_wp2_with fail
      refine (hasLeft_any d _ _ _ _ _ k _ (by omega) hdk (by omega)).mono ?_
      rintro e w2 ⟨rfl, hb2⟩
      have hnew := blockLater hb2 (heap_alloc_new wr (.cells #[.int .i64 xa, .slice ap ln cp, .int .i64 ya] 39))
      obtain ⟨y0, y1, y2, _⟩ := block3 hnew
      have HB2 := hide (below_tail HB.out (below_tail (Joins.below_alloc1 wr (.cells #[.int .i64 xa, .slice ap ln cp, .int .i64 ya] 39)) hb2))
      clear hb2 p0 p1 p2 p3 p4 g0 g1 g2 hnew
      cases hle : decide (ln < d k) with
      | true =>
        rw [hle] at HLB
        rw [HLB.out] at HW
        clear hle
        go_wp2_with fail
        go_roundw
        case rel => exact ⟨k + 1, by omega, by go_num, by rw [HW.out]; simp, HB2.out⟩
        case measure => simp [intOf]; omega
      | false =>
        rw [hle] at HLB
        rw [HLB.out] at HW
        clear hle
        go_wp2_with fail
        go_roundw
        case rel => exact ⟨k + 1, by omega, by go_num, by rw [HW.out]; simp, HB2.out⟩
        case measure => simp [intOf]; omega
    · obtain rfl : k = st.2.1.length := by omega
      go_wp2_with fail
      go_ret
      exact ⟨rfl, below_tail HBV.out hb⟩
end Go.Proofs.Ytmjjigdnoiphbaa

/-
  A HEAP, as mathematics: a row of so many, each with its key.
-/
namespace Go.Proofs.Ytmjjigdnoiphbaa
set_option linter.unusedVariables false

section heap
variable {α : Type} {key : α → Int} {f : Nat → α} {n : Nat}
def swp (f : Nat → α) (i j : Nat) : Nat → α := fun k => if k = i then f j else if k = j then f i else f k
def updA (f : Nat → α) (i : Nat) (x : α) : Nat → α := fun k => if k = i then x else f k
def Has (f : Nat → α) (n : Nat) (x : α) : Prop := ∃ k, k < n ∧ f k = x
theorem has_swp_of {i j : Nat} {x : α} (hi : i < n) (hj : j < n) (h : Has f n x) : Has (swp f i j) n x := by
  obtain ⟨k, hk, e⟩ := h
  by_cases h1 : k = i
  · subst h1
    by_cases h2 : j = k
    · subst h2; exact ⟨j, hj, by simp [swp, e]⟩
    · exact ⟨j, hj, by unfold swp; rw [if_neg h2, if_pos rfl]; exact e⟩
  · by_cases h2 : k = j
    · subst h2; exact ⟨i, hi, by unfold swp; rw [if_pos rfl]; exact e⟩
    · exact ⟨k, hk, by unfold swp; rw [if_neg h1, if_neg h2]; exact e⟩
theorem swp_swp (i j : Nat) : swp (swp f i j) i j = f := by
  funext k
  unfold swp
  by_cases h1 : k = i
  · subst h1
    rw [if_pos rfl]
    by_cases h2 : j = k
    · rw [if_pos h2, h2]
    · rw [if_neg h2, if_pos rfl]
  · rw [if_neg h1]
    by_cases h2 : k = j
    · subst h2; rw [if_pos rfl, if_pos rfl]
    · rw [if_neg h2, if_neg h1, if_neg h2]
theorem has_swp {i j : Nat} {x : α} (hi : i < n) (hj : j < n) : Has (swp f i j) n x ↔ Has f n x :=
  ⟨fun h => by have := has_swp_of hi hj h; rw [swp_swp] at this; exact this, has_swp_of hi hj⟩

def HeapOk (key : α → Int) (f : Nat → α) (n : Nat) : Prop := ∀ i, 0 < i → i < n → key (f ((i - 1) / 2)) ≤ key (f i)
theorem HeapOk.top (h : HeapOk key f n) : ∀ i, i < n → key (f 0) ≤ key (f i) := fun i => by
  induction i using Nat.strongRecOn with
  | _ i ih =>
    intro hi
    by_cases h0 : i = 0
    · subst h0; exact Int.le_refl _
    · exact Int.le_trans (ih ((i - 1) / 2) (by omega) (by omega)) (h i (by omega) hi)
theorem HeapOk.least (h : HeapOk key f n) {x : α} (hx : Has f n x) : key (f 0) ≤ key x := by
  obtain ⟨k, hk, rfl⟩ := hx
  exact h.top k hk

/-- a heap but for one that may have to go up -/
structure UpInv (key : α → Int) (f : Nat → α) (n c : Nat) : Prop where
  lt : c < n
  ord : ∀ i, 0 < i → i < n → i ≠ c → key (f ((i - 1) / 2)) ≤ key (f i)
  kids : ∀ i, 0 < i → i < n → (i - 1) / 2 = c → 0 < c → key (f ((c - 1) / 2)) ≤ key (f i)
theorem HeapOk.pushed (h : HeapOk key f n) (x : α) : UpInv key (updA f n x) (n + 1) n :=
  ⟨by omega, fun i h0 hi hne => by
    unfold updA
    rw [if_neg (by omega), if_neg hne]
    exact h i h0 (by omega), fun i h0 hi hp _ => by omega⟩
theorem UpInv.done {c : Nat} (h : UpInv key f n c) (hc : c = 0 ∨ key (f ((c - 1) / 2)) ≤ key (f c)) : HeapOk key f n := fun i h0 hi => by
  by_cases e : i = c
  · subst e
    rcases hc with hc | hc
    · omega
    · exact hc
  · exact h.ord i h0 hi e
theorem UpInv.up {c : Nat} (h : UpInv key f n c) (h0 : 0 < c) (hlt : key (f c) < key (f ((c - 1) / 2))) : UpInv key (swp f c ((c - 1) / 2)) n ((c - 1) / 2) := by
  have hcn := h.lt
  obtain ⟨p, hp⟩ : ∃ p, p = (c - 1) / 2 := ⟨_, rfl⟩
  rw [← hp] at hlt ⊢
  have hpc : p < c := by omega
  refine ⟨by omega, fun i hi0 hi hne => ?_, fun i hi0 hi hpar hp0 => ?_⟩
  · by_cases e : i = c
    · subst e
      unfold swp
      rw [← hp, if_neg (by omega), if_pos rfl, if_pos rfl]
      exact Int.le_of_lt hlt
    · have hi2 : swp f c p i = f i := by unfold swp; rw [if_neg e, if_neg hne]
      rw [hi2]
      by_cases e2 : (i - 1) / 2 = c
      · rw [e2]
        have : swp f c p c = f p := by unfold swp; rw [if_pos rfl]
        rw [this, hp]
        exact h.kids i hi0 hi e2 h0
      · by_cases e3 : (i - 1) / 2 = p
        · have h1 := h.ord i hi0 hi e
          rw [e3] at h1 ⊢
          have : swp f c p p = f c := by unfold swp; rw [if_neg (by omega), if_pos rfl]
          rw [this]
          omega
        · have : swp f c p ((i - 1) / 2) = f ((i - 1) / 2) := by unfold swp; rw [if_neg e2, if_neg e3]
          rw [this]
          exact h.ord i hi0 hi e
  · have hq : swp f c p ((p - 1) / 2) = f ((p - 1) / 2) := by unfold swp; rw [if_neg (by omega), if_neg (by omega)]
    rw [hq]
    have h1 := h.ord p hp0 (by omega) (by omega)
    by_cases e : i = c
    · subst e
      have : swp f i p i = f p := by unfold swp; rw [if_pos rfl]
      rw [this]
      exact h1
    · have : swp f c p i = f i := by unfold swp; rw [if_neg e, if_neg (by omega)]
      rw [this]
      have h2 := h.ord i hi0 hi e
      rw [hpar] at h2
      omega

/-- a heap but for one that may have to go down -/
structure DownInv (key : α → Int) (f : Nat → α) (n p : Nat) : Prop where
  ord : ∀ i, 0 < i → i < n → (i - 1) / 2 ≠ p → key (f ((i - 1) / 2)) ≤ key (f i)
  kids : ∀ i, 0 < i → i < n → (i - 1) / 2 = p → 0 < p → key (f ((p - 1) / 2)) ≤ key (f i)
theorem HeapOk.popped (h : HeapOk key f (n + 1)) : DownInv key (updA f 0 (f n)) n 0 :=
  ⟨fun i h0 hi hne => by
    unfold updA
    rw [if_neg hne, if_neg (by omega)]
    exact h i h0 (by omega), fun i _ _ _ hp => absurd hp (Nat.lt_irrefl _)⟩
/-- the least of a place and its children -/
structure LeastOf (key : α → Int) (f : Nat → α) (n p l : Nat) : Prop where
  at_ : l = p ∨ (l < n ∧ 0 < l ∧ (l - 1) / 2 = p ∧ key (f l) < key (f p))
  le : ∀ i, 0 < i → i < n → (i - 1) / 2 = p → key (f l) ≤ key (f i)
theorem DownInv.done {p : Nat} (h : DownInv key f n p) (hl : LeastOf key f n p p) : HeapOk key f n := fun i h0 hi => by
  by_cases e : (i - 1) / 2 = p
  · rw [e]; exact hl.le i h0 hi e
  · exact h.ord i h0 hi e
theorem DownInv.down {p l : Nat} (h : DownInv key f n p) (hl : LeastOf key f n p l) (hne : l ≠ p) : DownInv key (swp f p l) n l := by
  obtain ⟨h1, h2, h3, h4⟩ : l < n ∧ 0 < l ∧ (l - 1) / 2 = p ∧ key (f l) < key (f p) := by
    rcases hl.at_ with e | e
    · exact absurd e hne
    · exact e
  have sp : swp f p l p = f l := by unfold swp; rw [if_pos rfl]
  have sl : swp f p l l = f p := by unfold swp; rw [if_neg hne, if_pos rfl]
  have so : ∀ k, k ≠ p → k ≠ l → swp f p l k = f k := fun k e1 e2 => by unfold swp; rw [if_neg e1, if_neg e2]
  refine ⟨fun i hi0 hi hp => ?_, fun i hi0 hi hp _ => ?_⟩
  · by_cases e : i = l
    · subst e
      rw [h3, sp, sl]
      exact Int.le_of_lt h4
    · by_cases e2 : (i - 1) / 2 = p
      · rw [e2, sp, so i (by omega) e]
        exact hl.le i hi0 hi e2
      · by_cases e3 : i = p
        · subst e3
          rw [sp, so _ e2 hp]
          exact h.kids l h2 h1 h3 hi0
        · rw [so _ e2 hp, so _ e3 e]
          exact h.ord i hi0 hi e2
  · rw [h3, sp, so i (by omega) (by omega)]
    have := h.ord i hi0 hi (by omega)
    rw [hp] at this
    exact this
theorem has_popped {x : α} : Has f (n + 1) x ↔ x = f 0 ∨ Has (updA f 0 (f n)) n x := by
  constructor
  · rintro ⟨k, hk, rfl⟩
    by_cases h0 : k = 0
    · subst h0; exact Or.inl rfl
    · by_cases h1 : k = n
      · subst h1
        exact Or.inr ⟨0, by omega, by simp [updA]⟩
      · exact Or.inr ⟨k, by omega, by unfold updA; rw [if_neg h0]⟩
  · rintro (rfl | ⟨k, hk, e⟩)
    · exact ⟨0, by omega, rfl⟩
    · unfold updA at e
      by_cases h0 : k = 0
      · rw [if_pos h0] at e; exact ⟨n, by omega, e⟩
      · rw [if_neg h0] at e; exact ⟨k, by omega, e⟩
theorem has_pushed {x y : α} : Has (updA f n y) (n + 1) x ↔ x = y ∨ Has f n x := by
  constructor
  · rintro ⟨k, hk, e⟩
    unfold updA at e
    by_cases h0 : k = n
    · rw [if_pos h0] at e; exact Or.inl e.symm
    · rw [if_neg h0] at e; exact Or.inr ⟨k, by omega, e⟩
  · rintro (rfl | ⟨k, hk, e⟩)
    · exact ⟨n, by omega, by simp [updA]⟩
    · exact ⟨k, by omega, by unfold updA; rw [if_neg (by omega)]; exact e⟩
end heap
end Go.Proofs.Ytmjjigdnoiphbaa

/-
  THE BEST ORDER, as mathematics: what is left to pay, the best move, the search from the end on.
-/
namespace Go.Proofs.Ytmjjigdnoiphbaa
open Go.RowKit Go.Deep Go.Maps
set_option linter.unusedVariables false

/-- every section has room for those that are on it -/
def FitP (st : St) (d : Pr) : Prop := ∀ s : Nat, s < st.1.length → (cntUp st.2.1 d (s : Int) st.2.1.length : Int) ≤ el st.1 s
theorem fit_pz {st : St} (h : RightSt st) : FitP st pz := fun s hs => by
  have := allUp_at h.fits s hs
  rw [cntUp_pz]
  exact of_decide_eq_true this
def one (b : Bool) : Nat := if b = true then 1 else 0
theorem onB_bump {ts : List Tr} {d : Pr} {m i : Nat} {s : Int} (h : i ≠ m) : onB ts (bump d m) s i = onB ts d s i := by
  have : bump d m i = d i := by unfold bump; rw [if_neg h]
  unfold onB leftB
  rw [this]
theorem cntUp_succ (ts : List Tr) (d : Pr) (s : Int) (k : Nat) : cntUp ts d s (k + 1) = cntUp ts d s k + one (onB ts d s k) := by
  simp [cntUp, one]
theorem cnt_bump0 {ts : List Tr} {d : Pr} {m : Nat} {s : Int} : ∀ k, k ≤ m → cntUp ts (bump d m) s k = cntUp ts d s k
  | 0, _ => rfl
  | k + 1, hk => by rw [cntUp_succ, cntUp_succ, cnt_bump0 k (by omega), onB_bump (by omega)]
theorem cnt_bump {ts : List Tr} {d : Pr} {m : Nat} {s : Int} : ∀ k, m < k → cntUp ts (bump d m) s k + one (onB ts d s m) = cntUp ts d s k + one (onB ts (bump d m) s m)
  | 0, h => absurd h (Nat.not_lt_zero _)
  | k + 1, h => by
    rw [cntUp_succ, cntUp_succ]
    by_cases e : m = k
    · subst e
      rw [cnt_bump0 m (Nat.le_refl _)]
      omega
    · have := cnt_bump (ts := ts) (d := d) (s := s) k (show m < k by omega)
      rw [onB_bump (i := k) (by omega)]
      omega
theorem bump_at (d : Pr) (m : Nat) : bump d m m = d m + 1 := by unfold bump; rw [if_pos rfl]
/-- where a train stands, and where it goes next, are two sections -/
theorem RightSt.apart {st : St} (h : RightSt st) {m : Nat} (hm : m < st.2.1.length) {k : Nat} (hk : k < (tPath st.2.1 m).length) : el (tPath st.2.1 m) k ≠ farAt (tAt st.2.1 m) (tPath st.2.1 m) k := by
  have h1 := allUp_at h.trains m hm
  simp only [trainB, Bool.and_eq_true] at h1
  have h2 := allUp_at h1.2.2.2 k hk
  simp only [stepB, Bool.and_eq_true, Bool.not_eq_true', beq_eq_false_iff_ne] at h2
  have e : prev (tAt st.2.1 m) (tPath st.2.1 m) k = farAt (tAt st.2.1 m) (tPath st.2.1 m) k := by
    cases k with
    | zero => rfl
    | succ j => simp [prev, farAt]
  rw [← e]
  exact h2.2
theorem far_ok {st : St} (h : SoSt st) {m : Nat} (hm : m < st.2.1.length) {k : Nat} (hk : k ≤ (tPath st.2.1 m).length) : 0 ≤ farAt (tAt st.2.1 m) (tPath st.2.1 m) k ∧ farAt (tAt st.2.1 m) (tPath st.2.1 m) k < st.1.length := by
  obtain ⟨h1, h2, h3, h4, h5, h6⟩ := h.train m hm
  unfold farAt
  split
  · exact ⟨h1, h2⟩
  · exact h6 _ (by omega)
theorem onB_eq {ts : List Tr} {d : Pr} {m : Nat} {s : Int} (hl : leftB ts d m = false) : onB ts d s m = decide (farAt (tAt ts m) (tPath ts m) (d m) = s) := by
  unfold onB
  rw [hl]
  simp only [Bool.not_false, Bool.true_and]
  by_cases h : farAt (tAt ts m) (tPath ts m) (d m) = s <;> simp [h]
theorem onB_left {ts : List Tr} {d : Pr} {m : Nat} {s : Int} (hl : leftB ts d m = true) : onB ts d s m = false := by
  unfold onB
  rw [hl]
  rfl
theorem one_le (b : Bool) : one b ≤ 1 := by unfold one; split <;> omega

/-- a move that can be done leads where all have room -/
theorem fit_bump {st : St} (h : RightSt st) {d : Pr} (hf : FitP st d) {m : Nat} (hm : m < st.2.1.length) (hc : canP st d m = true) : FitP st (bump d m) := fun s hs => by
  have e := cnt_bump (ts := st.2.1) (d := d) (s := (s : Int)) st.2.1.length hm
  have hfs := hf s hs
  cases hl2 : leftB st.2.1 (bump d m) m
  · have e2 := onB_eq (s := (s : Int)) hl2
    rw [bump_at] at e2
    have hfar : farAt (tAt st.2.1 m) (tPath st.2.1 m) (d m + 1) = el (tPath st.2.1 m) (d m) := by simp [farAt]
    rw [hfar] at e2
    by_cases hy : el (tPath st.2.1 m) (d m) = (s : Int)
    · have hlt : ¬ (tPath st.2.1 m).length < d m + 1 := by
        have := hl2
        unfold leftB at this
        rw [bump_at] at this
        exact of_decide_eq_false this
      have hcan : (cntUp st.2.1 d (s : Int) st.2.1.length : Int) < el st.1 s := by
        unfold canP at hc
        simp only [Bool.and_eq_true, Bool.or_eq_true, decide_eq_true_eq] at hc
        rcases hc.2 with h1 | h1
        · omega
        · rw [hy] at h1
          simpa using h1
      have h1 := one_le (onB st.2.1 (bump d m) (s : Int) m)
      omega
    · rw [e2] at e
      have : one (decide (el (tPath st.2.1 m) (d m) = (s : Int))) = 0 := by simp [one, hy]
      rw [this] at e
      omega
  · rw [onB_left hl2] at e
    have : one false = 0 := rfl
    rw [this] at e
    omega
/-- against a move: only the section that the train came from can have been too full -/
theorem fit_back {st : St} (h : RightSt st) {d : Pr} {m : Nat} (hm : m < st.2.1.length) (hl : leftB st.2.1 d m = false) (hf : FitP st (bump d m)) :
    (FitP st d ↔ (cntUp st.2.1 d (farAt (tAt st.2.1 m) (tPath st.2.1 m) (d m)) st.2.1.length : Int) ≤ el st.1 (farAt (tAt st.2.1 m) (tPath st.2.1 m) (d m)).toNat) ∧ (FitP st d → canP st d m = true) := by
  have hdm : d m ≤ (tPath st.2.1 m).length := by
    unfold leftB at hl
    have := of_decide_eq_false hl
    omega
  obtain ⟨x0, x1⟩ := far_ok h.so hm hdm
  have hX : ((farAt (tAt st.2.1 m) (tPath st.2.1 m) (d m)).toNat : Int) = farAt (tAt st.2.1 m) (tPath st.2.1 m) (d m) := by omega
  refine ⟨⟨fun hfd => ?_, fun hx s hs => ?_⟩, fun hfd => ?_⟩
  · have := hfd (farAt (tAt st.2.1 m) (tPath st.2.1 m) (d m)).toNat (by omega)
    rw [hX] at this
    exact this
  · by_cases e : (s : Int) = farAt (tAt st.2.1 m) (tPath st.2.1 m) (d m)
    · rw [← e] at hx
      simpa using hx
    · have e1 := cnt_bump (ts := st.2.1) (d := d) (s := (s : Int)) st.2.1.length hm
      have : one (onB st.2.1 d (s : Int) m) = 0 := by
        rw [onB_eq hl]
        simp [one, Ne.symm e]
      have h2 := hf s hs
      omega
  · unfold canP
    rw [hl]
    simp only [Bool.not_false, Bool.true_and, Bool.or_eq_true, decide_eq_true_eq]
    by_cases e : (tPath st.2.1 m).length = d m
    · exact Or.inl e
    · refine Or.inr ?_
      obtain ⟨y0, y1⟩ := (h.so.train m hm).2.2.2.2.2 (d m) (by omega)
      have hap := h.apart hm (k := d m) (by omega)
      generalize hY : el (tPath st.2.1 m) (d m) = Y at *
      have hYn : ((Y.toNat : Nat) : Int) = Y := by omega
      have e1 := cnt_bump (ts := st.2.1) (d := d) (s := Y) st.2.1.length hm
      have h0 : one (onB st.2.1 d Y m) = 0 := by
        rw [onB_eq hl]
        simp [one, Ne.symm hap]
      have hl2 : leftB st.2.1 (bump d m) m = false := by
        unfold leftB
        rw [bump_at]
        exact decide_eq_false (by omega)
      have h1 : one (onB st.2.1 (bump d m) Y m) = 1 := by
        rw [onB_eq hl2, bump_at]
        simp [one, farAt, hY]
      have h2 := hf Y.toNat (by omega)
      rw [hYn] at h2
      omega

theorem overUp_min {st : St} {g : Nat → Int} {wt : Int} (hw : 0 ≤ wt) : ∀ k, (0 ≤ overUp st g wt k → ∃ i, i < k ∧ canB st i = true ∧ 0 ≤ g i ∧ overUp st g wt k = g i + wt) ∧ ∀ i, i < k → canB st i = true → 0 ≤ g i → 0 ≤ overUp st g wt k ∧ overUp st g wt k ≤ g i + wt
  | 0 => ⟨fun h => by simp [overUp] at h, fun i hi => absurd hi (Nat.not_lt_zero _)⟩
  | k + 1 => by
    obtain ⟨h1, h2⟩ := overUp_min (st := st) (g := g) hw k
    have e : overUp st g wt (k + 1) = lesser (canB st k) (overUp st g wt k) (g k) wt := rfl
    rw [e]
    generalize overUp st g wt k = b at *
    by_cases hc : canB st k = true ∧ 0 ≤ g k ∧ (b < 0 ∨ g k + wt < b)
    · obtain ⟨c1, c2, c3⟩ := hc
      have el : lesser (canB st k) b (g k) wt = g k + wt := by
        unfold lesser
        have c4 : (decide (b < 0) || decide (g k + wt < b)) = true := by simp only [Bool.or_eq_true, decide_eq_true_eq]; exact c3
        rw [c1, c4]
        simp [c2]
      rw [el]
      refine ⟨fun _ => ⟨k, by omega, c1, c2, rfl⟩, fun i hi hci hgi => ?_⟩
      by_cases ei : i = k
      · subst ei; omega
      · obtain ⟨a1, a2⟩ := h2 i (by omega) hci hgi
        omega
    · have el : lesser (canB st k) b (g k) wt = b := by
        unfold lesser
        cases hck : canB st k
        · simp
        · simp only [Bool.true_and]
          by_cases c2 : 0 ≤ g k
          · have c3 : ¬ (b < 0 ∨ g k + wt < b) := fun c3 => hc ⟨hck, c2, c3⟩
            have : (decide (0 ≤ g k) && (decide (b < 0) || decide (g k + wt < b))) = false := by
              simp only [Bool.and_eq_false_iff, decide_eq_false_iff_not, Bool.or_eq_false_iff]
              omega
            rw [this]
            rfl
          · simp [c2]
      rw [el]
      refine ⟨fun h => ?_, fun i hi hci hgi => ?_⟩
      · obtain ⟨i, a1, a2⟩ := h1 h
        exact ⟨i, by omega, a2⟩
      · by_cases ei : i = k
        · subst ei
          have c3 : ¬ (b < 0 ∨ g i + wt < b) := fun c3 => hc ⟨hci, hgi, c3⟩
          omega
        · exact h2 i (by omega) hci hgi

/-- what is left to pay behind a progress, -1 where not all can leave -/
def vP (st : St) (d : Pr) : Int := val (behindSt st d)
theorem vP_end {st : St} {d : Pr} (h : allLeft st d = true) : vP st d = 0 := val_zero (behind_none.2 h)
theorem vP_some {st : St} (hs : SoSt st) {d : Pr} (hd : PrOk st d) (hl : ¬ allLeft st d = true) (h : 0 ≤ vP st d) : ∃ i, i < st.2.1.length ∧ canP st d i = true ∧ 0 ≤ vP st (bump d i) ∧ vP st d = vP st (bump d i) + wtP st d := by
  have hn : ¬ (behindSt st d).2.1.length = 0 := fun e => hl (behind_none.1 e)
  have hw := (wtP_le hs d).1
  unfold vP at h ⊢
  rw [val_pos hn, wt_behind] at h ⊢
  obtain ⟨j, h1, h2, h3, h4⟩ := (overUp_min hw _).1 h
  rw [behind_len] at h1
  obtain ⟨i, a1, a2, rfl⟩ := pos_inv _ h1
  rw [canB_behind hd a1 a2] at h2
  simp only [step_behind hd a1 a2] at h3 h4
  exact ⟨i, a1, h2, h3, h4⟩
theorem vP_le {st : St} (hs : SoSt st) {d : Pr} (hd : PrOk st d) {i : Nat} (hi : i < st.2.1.length) (hc : canP st d i = true) (h : 0 ≤ vP st (bump d i)) : 0 ≤ vP st d ∧ vP st d ≤ vP st (bump d i) + wtP st d := by
  have hl := canP_left hc
  have hn : ¬ (behindSt st d).2.1.length = 0 := fun e => by
    have := (posUp_zero st.2.1.length).1 (by rw [← behind_len (st := st) (d := d)]; exact e) i hi
    rw [hl] at this
    cases this
  have hw := (wtP_le hs d).1
  unfold vP at h ⊢
  rw [val_pos hn, wt_behind]
  have h2 := (overUp_min (st := behindSt st d) (g := fun j => val (stepSt (behindSt st d) j)) hw (behindSt st d).2.1.length).2 (posUp st.2.1 d i) (behind_lt hi hl) (by rw [canB_behind hd hi hl]; exact hc)
  simp only [step_behind hd hi hl] at h2
  exact h2 h
theorem vP_bounds {st : St} (h : SoSt st) {d : Pr} (hd : PrOk st d) : -1 ≤ vP st d ∧ vP st d ≤ 22500 := val_bounds h hd

def firstUp (p : Nat → Bool) : Nat → Nat
  | 0 => 0
  | k + 1 => if firstUp p k < k then firstUp p k else if p k = true then k else k + 1
theorem firstUp_spec (p : Nat → Bool) : ∀ k, firstUp p k ≤ k ∧ (firstUp p k < k → p (firstUp p k) = true) ∧ (∀ j, j < firstUp p k → p j = false)
  | 0 => ⟨Nat.le_refl _, fun h => absurd h (Nat.lt_irrefl _), fun j h => absurd h (Nat.not_lt_zero _)⟩
  | k + 1 => by
    obtain ⟨h1, h2, h3⟩ := firstUp_spec p k
    simp only [firstUp]
    by_cases h : firstUp p k < k
    · rw [if_pos h]
      exact ⟨by omega, fun _ => h2 h, h3⟩
    · rw [if_neg h]
      have e : firstUp p k = k := by omega
      rw [e] at h3
      cases hp : p k
      · rw [if_neg (by simp)]
        refine ⟨Nat.le_refl _, fun h => absurd h (Nat.lt_irrefl _), fun j hj => ?_⟩
        by_cases ej : j = k
        · subst ej; exact hp
        · exact h3 j (by omega)
      · rw [if_pos rfl]
        exact ⟨by omega, fun _ => hp, h3⟩
theorem firstUp_le {p : Nat → Bool} {k i : Nat} (hi : i < k) (hp : p i = true) : firstUp p k ≤ i := by
  obtain ⟨_, _, h3⟩ := firstUp_spec p k
  by_cases h : firstUp p k ≤ i
  · exact h
  · have := h3 i (by omega)
    rw [hp] at this
    cases this
def goodB (st : St) (d : Pr) (i : Nat) : Bool := canP st d i && decide (vP st (bump d i) = vP st d - wtP st d)
/-- the best move -/
def bm (st : St) (d : Pr) : Nat := firstUp (goodB st d) st.2.1.length
structure BmOk (st : St) (d : Pr) : Prop where
  lt : bm st d < st.2.1.length
  can : canP st d (bm st d) = true
  eq : vP st (bump d (bm st d)) = vP st d - wtP st d
  nn : 0 ≤ vP st (bump d (bm st d))
  least : ∀ i, i < st.2.1.length → canP st d i = true → vP st (bump d i) = vP st d - wtP st d → bm st d ≤ i
theorem bm_ok {st : St} (hs : SoSt st) {d : Pr} (hd : PrOk st d) (hl : ¬ allLeft st d = true) (h : 0 ≤ vP st d) : BmOk st d := by
  obtain ⟨i, h1, h2, h3, h4⟩ := vP_some hs hd hl h
  have hgood : goodB st d i = true := by simp [goodB, h2]; omega
  have hle := firstUp_le h1 hgood
  have hlt : bm st d < st.2.1.length := Nat.lt_of_le_of_lt hle h1
  have hg := (firstUp_spec (goodB st d) st.2.1.length).2.1 hlt
  have hg2 : goodB st d (bm st d) = true := hg
  simp only [goodB, Bool.and_eq_true, decide_eq_true_eq] at hg2
  exact ⟨hlt, hg2.1, hg2.2, by rw [hg2.2]; omega, fun j a1 a2 a3 => firstUp_le a1 (by simp [goodB, a2, a3])⟩
end Go.Proofs.Ytmjjigdnoiphbaa

/-
  WHAT IS KNOWN, IN A MAP; TASKS, ON A STACK OF CLOSURES.
-/
namespace Go.Proofs.Ytmjjigdnoiphbaa
open Go.RowKit Go.Deep Go.Maps
set_option linter.unusedVariables false

abbrev DU : Type := DataW Unit
/-- the map of what is known, as data -/
structure KData (st : St) (kn : Kn) (D : DU) : Prop where
  keys : ∃ L, D = .map L ∧ L.Pairwise (fun p q => p.1 ≠ q.1) ∧ ∀ p, p ∈ L → ∃ d, PV st d ∧ keyOf Try.prog 63 (pv d) = some p.1
  vals : ∀ d, PV st d → ∀ kl, keyOf Try.prog 63 (pv d) = some kl → D.atKey kl (.lit (.int .i64 0)) = .lit (.int .i64 (kn d))
def KnownAt (st : St) (w : World) (mb : Nat) (kn : Kn) : Prop := ∃ D : DU, w.ownsMap Try.prog 63 (plainElem Try.prog 106) mb 100000 D ∧ KData st kn D

theorem pv_inj {st : St} (hs : SoSt st) {d e : Pr} (hd : PV st d) (he : PV st e) (h : pv d = pv e) : e = d := by
  refine (same5_iff hs hd he).1 ?_
  simp only [pv, pc5, Value.agg.injEq, Array.mk.injEq, List.cons.injEq, Value.int.injEq, true_and, and_true] at h
  simp only [same5, Bool.and_eq_true, decide_eq_true_eq]
  omega
theorem PV.key {st : St} (hs : SoSt st) {d : Pr} (h : PV st d) : ∃ kl, keyOf Try.prog 63 (pv d) = some kl := keyOf_pv (fun i _ => h.lt hs i)

theorem nodup_nat : ∀ {l m : List Nat}, l.Nodup → (∀ x, x ∈ l → x ∈ m) → l.length ≤ m.length
  | [], _, _, _ => Nat.zero_le _
  | x :: l, m, hn, hs => by
    have hx : x ∈ m := hs x (by simp)
    rw [List.nodup_cons] at hn
    have := nodup_nat (m := m.erase x) hn.2 (fun y hy => (List.mem_erase_of_ne (fun e => hn.1 (by rw [← e]; exact hy))).2 (hs y (by simp [hy])))
    rw [List.length_erase_of_mem hx] at this
    have h1 : 0 < m.length := List.length_pos_of_mem hx
    simp only [List.length_cons]
    omega
/-- there are no more keys than ways to have come so far -/
theorem keys_few {st : St} (hs : SoSt st) : ∀ (L : List (Lit × DU)), L.Pairwise (fun p q => p.1 ≠ q.1) → (∀ p, p ∈ L → ∃ d, PV st d ∧ keyOf Try.prog 63 (pv d) = some p.1) →
    ∃ l : List Nat, l.length = L.length ∧ l.Nodup ∧ (∀ x, x ∈ l → ∃ p, p ∈ L ∧ ∃ d, PV st d ∧ keyOf Try.prog 63 (pv d) = some p.1 ∧ x = idxUp st.2.1 d st.2.1.length)
  | [], _, _ => ⟨[], rfl, List.nodup_nil, fun x hx => by simp at hx⟩
  | p :: L, hp, hk => by
    obtain ⟨h1, h2⟩ := List.pairwise_cons.1 hp
    obtain ⟨l, e1, e2, e3⟩ := keys_few hs L h2 (fun q hq => hk q (by simp [hq]))
    obtain ⟨d, hd, hkd⟩ := hk p (by simp)
    refine ⟨idxUp st.2.1 d st.2.1.length :: l, by simp [e1], List.nodup_cons.2 ⟨fun hm => ?_, e2⟩, fun x hx => ?_⟩
    · obtain ⟨q, hq, e, he, hke, hix⟩ := e3 _ hm
      have hde : ∀ i, d i = e i := fun i => by
        by_cases hi : i < st.2.1.length
        · exact idx_inj hd.ok he.ok _ (Nat.le_refl _) hix i hi
        · rw [hd.out i (by omega), he.out i (by omega)]
      have : d = e := funext hde
      subst this
      rw [hkd] at hke
      exact h1 q hq (Option.some.inj hke)
    · rcases List.mem_cons.1 hx with rfl | hx
      · exact ⟨p, by simp, d, hd, hkd, rfl⟩
      · obtain ⟨q, hq, r⟩ := e3 x hx
        exact ⟨q, by simp [hq], r⟩
theorem KData.few {st : St} (hs : SoSt st) {kn : Kn} {L : List (Lit × DU)} (h : KData st kn (.map L)) : L.length ≤ 100000 := by
  obtain ⟨L', e, h1, h2⟩ := h.keys
  cases e
  obtain ⟨l, e1, e2, e3⟩ := keys_few hs L h1 h2
  have := nodup_nat (m := List.range (prodUp st.2.1 st.2.1.length)) e2 (fun x hx => by
    obtain ⟨p, _, d, hd, _, rfl⟩ := e3 x hx
    exact List.mem_range.2 (idx_lt hd.ok _ (Nat.le_refl _)))
  rw [List.length_range] at this
  have := prod_small hs (Nat.le_refl st.2.1.length)
  omega

theorem KnownAt.look {st : St} (hs : SoSt st) {w : World} {mb : Nat} {kn : Kn} (h : KnownAt st w mb kn) {d : Pr} (hd : PV st d) :
    (Instr.lookup 99 (.map (some mb)) (pv d) false).run Try.prog w = .ok (.int .i64 (kn d)) w := by
  obtain ⟨D, ho, hD⟩ := h
  obtain ⟨kl, hk⟩ := hd.key hs
  obtain ⟨c, h1, h2, _⟩ := ho.lookup_int prKeyed Try.underlying99 Try.underlying106 (zeroVerdict w) hk
  rw [hD.vals d hd kl hk] at h2
  simp only [DataW.lit.injEq, Lit.int.injEq, true_and] at h2
  rw [h1, h2]
theorem KnownAt.put {st : St} (hs : SoSt st) {w : World} {mb : Nat} {kn : Kn} (h : KnownAt st w mb kn) {d : Pr} (hd : PV st d) {x : Int} (hx : x = 1 ∨ x = 2) :
    ∃ w', (Instr.mapUpdate 99 (.map (some mb)) (pv d) (.int .i64 x)).run Try.prog w = .ok () w' ∧ KnownAt st w' mb (setK kn d x) ∧ w.grownBy w' (some mb) := by
  obtain ⟨D, ho, hD⟩ := h
  obtain ⟨kl, hk⟩ := hd.key hs
  have hwf : (Lit.int .i64 x).wf = true := by rcases hx with rfl | rfl <;> decide
  obtain ⟨w', h1, h2, h3⟩ := ho.update prKeyed Try.underlying99 (by unfold maxLen; omega) hk (plainElem_int Try.underlying106 hwf)
  have hD' : KData st (setK kn d x) (D.put kl (.lit (.int .i64 x))) := by
    obtain ⟨L, rfl, hp, hL⟩ := hD.keys
    obtain ⟨L', e, hp'⟩ := Tidy.put (k := kl) ⟨L, rfl, hp⟩ (prKeyed.key hk) (.lit (.int .i64 x))
    refine ⟨⟨L', e, hp', fun p hp => ?_⟩, fun e' he' kl' hkl' => ?_⟩
    · have e2 : L' = DataW.insert (kl, .lit (.int .i64 x)) (L.filter fun p => !p.1.sameKey kl) := by
        have : DataW.map L' = DataW.map (DataW.insert (kl, .lit (.int .i64 x)) (L.filter fun p => !p.1.sameKey kl)) := e.symm
        exact DataW.map.inj this
      rw [e2] at hp
      rcases ChangeMaps.mem_insert_iff.1 hp with rfl | hp
      · exact ⟨d, hd, hk⟩
      · exact hL p (List.mem_filter.1 hp).1
    · by_cases hed : e' = d
      · subst hed
        rw [hk] at hkl'
        cases hkl'
        rw [atKey_put_same ⟨L, rfl⟩ (prKeyed.key hk), setK_same]
      · have hne : kl' ≠ kl := fun ee => by
          subst ee
          exact hed (pv_inj hs hd he' (prKeyed.inj hk hkl'))
        rw [atKey_put_other hne, setK_other hs hd he' hed]
        exact hD.vals e' he' kl' hkl'
  refine ⟨w', h1, ⟨_, ?_, hD'⟩, h3⟩
  obtain ⟨es, clock, g1, g2, g3, g4⟩ := h2
  refine ⟨es, clock, g1, g2, ?_, g4⟩
  rw [g4] at hD'
  have := hD'.few hs
  rw [length_sorted] at this
  simpa using this
theorem KnownAt.kept {st : St} {w w' : World} {mb : Nat} {kn : Kn} (h : KnownAt st w mb kn) (hb : w'.heap[mb]? = w.heap[mb]?) : KnownAt st w' mb kn := by
  obtain ⟨D, ⟨es, clock, g1, r⟩, hD⟩ := h
  exact ⟨D, ⟨es, clock, hb.trans g1, r⟩, hD⟩
theorem KnownAt.lt {st : St} {w : World} {mb : Nat} {kn : Kn} (h : KnownAt st w mb kn) : mb < w.heap.size := by
  obtain ⟨D, ho, _⟩ := h
  exact ho.lt
end Go.Proofs.Ytmjjigdnoiphbaa

/-
  Two progresses, two ways, held against one another.
-/
namespace Go.Proofs.Ytmjjigdnoiphbaa
open Go.RowKit Go.Deep Go.Maps
set_option linter.unusedVariables false

theorem eqAr (k : Nat) (d e : Pr) (w : World) : (Op.equalIn (k + 1 + 1) 61 (.agg (pc5 d)) (.agg (pc5 e))).run Try.prog w = .ok (same5 d e) w := by
  have u3 := Try.underlying60
  have a3 := Try.isAgg60
  have z3 := Try.sizeOf60
  rw [show k + 1 + 1 = (k + 1) + 1 from rfl, Op.equalIn]
  simp only [Sem.run_bind, run_underlying Try.underlying61, Result.andThen_ok]
  simp only [Std.Legacy.Range.forIn_eq_forIn_range', Std.Legacy.Range.size, Nat.sub_zero, Nat.add_sub_cancel, Nat.div_one, List.range'_succ, List.range'_zero, List.forIn_cons, List.forIn_nil]
  unfold pc5 same5
  go_simp
  by_cases h0 : d 0 = e 0 <;> by_cases h1 : d 1 = e 1 <;> by_cases h2 : d 2 = e 2 <;> by_cases h3 : d 3 = e 3 <;> by_cases h4 : d 4 = e 4 <;> simp [h0, h1, h2, h3, h4] <;> omega
theorem eqPr (k : Nat) (d e : Pr) (w : World) : (Op.equalIn (k + 1 + 1 + 1) 63 (.agg (pc5 d)) (.agg (pc5 e))).run Try.prog w = .ok (same5 d e) w := by
  have u3 := Try.underlying61
  have a3 := Try.isAgg61
  have z3 := Try.sizeOf61
  have hS : Try.prog.underlying 63 = some (.struct (Try.prog.fieldsOf 63)) := by kernel_rfl
  have hp : Try.prog.stoodInHeld 63 = false := by kernel_rfl
  have hE := eqAr k d e
  rw [run_equalIn_agg w (k + 1 + 1) 63 _ _ hS hp]
  simp only [Program.fieldsOf, Try.underlying63]
  unfold pc5 at hE ⊢
  go_simp
  cases same5 d e <;> rfl
/-- how an order goes on: from where, what it costs, who moves first -/
abbrev Way : Type := Pr × Int × Nat
def wc7 (x : Way) : Array Value := #[.int .i8 (x.1 0), .int .i8 (x.1 1), .int .i8 (x.1 2), .int .i8 (x.1 3), .int .i8 (x.1 4), .int .i64 x.2.1, .int .i64 (x.2.2 : Int)]
def wv (x : Way) : Value := .agg (wc7 x)
def sameW (x y : Way) : Bool := same5 x.1 y.1 && (decide (x.2.1 = y.2.1) && decide (x.2.2 = y.2.2))
theorem eqWay (k : Nat) (x y : Way) (w : World) : (Op.equalIn (k + 1 + 1 + 1 + 1) 72 (.agg (wc7 x)) (.agg (wc7 y))).run Try.prog w = .ok (sameW x y) w := by
  have u3 := Try.underlying63
  have a3 := Try.isAgg63
  have z3 := Try.sizeOf63
  have u4 := Try.underlying3
  have a4 := Try.isAgg3
  have z4 := Try.sizeOf3
  have hS : Try.prog.underlying 72 = some (.struct (Try.prog.fieldsOf 72)) := by kernel_rfl
  have hp : Try.prog.stoodInHeld 72 = false := by kernel_rfl
  have hE := eqPr k x.1 y.1
  have hI : ∀ (a b : Int) (w : World), (Op.equalIn (k + 1 + 1 + 1) 3 (.int .i64 a) (.int .i64 b)).run Try.prog w = .ok (a == b) w := fun a b w => run_equalIn_int w (k + 1 + 1) 3 .i64 .i64 a b Try.underlying3
  rw [run_equalIn_agg w (k + 1 + 1 + 1) 72 _ _ hS hp]
  simp only [Program.fieldsOf, Try.underlying72]
  unfold wc7 sameW
  unfold pc5 at hE
  go_simp
  cases same5 x.1 y.1 <;> by_cases h1 : x.2.1 = y.2.1 <;> by_cases h2 : x.2.2 = y.2.2 <;> simp [h1, h2] <;> omega
theorem eqPr' (d e : Pr) (w : World) : (Op.equalIn 10000 63 (.agg (pc5 d)) (.agg (pc5 e))).run Try.prog w = .ok (same5 d e) w := eqPr 9997 d e w
theorem eqWay' (x y : Way) (w : World) : (Op.equalIn 10000 72 (.agg (wc7 x)) (.agg (wc7 y))).run Try.prog w = .ok (sameW x y) w := eqWay 9996 x y w
theorem sameW_iff {st : St} (hs : SoSt st) {x y : Way} (hx : PV st x.1) (hy : PV st y.1) : sameW x y = true ↔ y = x := by
  unfold sameW
  simp only [Bool.and_eq_true, decide_eq_true_eq, same5_iff hs hx hy]
  constructor
  · rintro ⟨h1, h2, h3⟩
    obtain ⟨x1, x2, x3⟩ := x
    obtain ⟨y1, y2, y3⟩ := y
    simp only at h1 h2 h3
    subst h1 h2 h3
    rfl
  · rintro rfl
    exact ⟨rfl, rfl, rfl⟩
end Go.Proofs.Ytmjjigdnoiphbaa

/-
  WHICH WAYS ARE KNOWN, IN A MAP.
-/
namespace Go.Proofs.Ytmjjigdnoiphbaa
open Go.RowKit Go.Deep Go.Maps
set_option linter.unusedVariables false

abbrev DV : Type := DataW Value
def heldElem (v : Value) : Option (DV × List MemPlace) := some (.held v, [])
/-- what is known of a progress: what it costs from there on, and who moves first -/
abbrev KW : Type := Pr → Option (Int × Nat)
def heldOf (d : Pr) : Option (Int × Nat) → DV
  | none => .nil
  | some y => .held (wv (d, y))
structure WData (st : St) (K : KW) (D : DV) : Prop where
  keys : ∃ L, D = .map L ∧ L.Pairwise (fun p q => p.1 ≠ q.1) ∧ ∀ p, p ∈ L → ∃ d, PV st d ∧ keyOf Try.prog 63 (pv d) = some p.1
  vals : ∀ d, PV st d → ∀ kl, keyOf Try.prog 63 (pv d) = some kl → D.atKey kl .nil = heldOf d (K d)
def WaysAt (st : St) (w : World) (mb : Nat) (K : KW) : Prop := ∃ D : DV, w.ownsMap Try.prog 63 heldElem mb 100000 D ∧ WData st K D
def setW (K : KW) (d : Pr) (y : Int × Nat) : KW := fun e => bif same5 d e then some y else K e
theorem setW_same (K : KW) (d : Pr) (y : Int × Nat) : setW K d y d = some y := by simp [setW, same5]
theorem setW_other {st : St} (hs : SoSt st) {K : KW} {d e : Pr} {y : Int × Nat} (hd : PV st d) (he : PV st e) (hne : e ≠ d) : setW K d y e = K e := by
  have : same5 d e = false := by
    cases h : same5 d e
    · rfl
    · exact absurd ((same5_iff hs hd he).1 h) hne
  simp [setW, this]

theorem keys_fewB {β : Type} {st : St} (hs : SoSt st) : ∀ (L : List (Lit × β)), L.Pairwise (fun p q => p.1 ≠ q.1) → (∀ p, p ∈ L → ∃ d, PV st d ∧ keyOf Try.prog 63 (pv d) = some p.1) →
    ∃ l : List Nat, l.length = L.length ∧ l.Nodup ∧ (∀ x, x ∈ l → ∃ p, p ∈ L ∧ ∃ d, PV st d ∧ keyOf Try.prog 63 (pv d) = some p.1 ∧ x = idxUp st.2.1 d st.2.1.length)
  | [], _, _ => ⟨[], rfl, List.nodup_nil, fun x hx => by simp at hx⟩
  | p :: L, hp, hk => by
    obtain ⟨h1, h2⟩ := List.pairwise_cons.1 hp
    obtain ⟨l, e1, e2, e3⟩ := keys_fewB hs L h2 (fun q hq => hk q (by simp [hq]))
    obtain ⟨d, hd, hkd⟩ := hk p (by simp)
    refine ⟨idxUp st.2.1 d st.2.1.length :: l, by simp [e1], List.nodup_cons.2 ⟨fun hm => ?_, e2⟩, fun x hx => ?_⟩
    · obtain ⟨q, hq, e, he, hke, hix⟩ := e3 _ hm
      have hde : ∀ i, d i = e i := fun i => by
        by_cases hi : i < st.2.1.length
        · exact idx_inj hd.ok he.ok _ (Nat.le_refl _) hix i hi
        · rw [hd.out i (by omega), he.out i (by omega)]
      have : d = e := funext hde
      subst this
      rw [hkd] at hke
      exact h1 q hq (Option.some.inj hke)
    · rcases List.mem_cons.1 hx with rfl | hx
      · exact ⟨p, by simp, d, hd, hkd, rfl⟩
      · obtain ⟨q, hq, r⟩ := e3 x hx
        exact ⟨q, by simp [hq], r⟩
theorem WData.few {st : St} (hs : SoSt st) {K : KW} {L : List (Lit × DV)} (h : WData st K (.map L)) : L.length ≤ 100000 := by
  obtain ⟨L', e, h1, h2⟩ := h.keys
  cases e
  obtain ⟨l, e1, e2, e3⟩ := keys_fewB hs L h1 h2
  have := nodup_nat (m := List.range (prodUp st.2.1 st.2.1.length)) e2 (fun x hx => by
    obtain ⟨p, _, d, hd, _, rfl⟩ := e3 x hx
    exact List.mem_range.2 (idx_lt hd.ok _ (Nat.le_refl _)))
  rw [List.length_range] at this
  have := prod_small hs (Nat.le_refl st.2.1.length)
  omega
theorem zeroWay (w : World) : (zeroValue 72).run Try.prog w = .ok (wv (pz, 0, 0)) w := by kernel_rfl
/-- look-up, with 'ok' and without -/
theorem WaysAt.look {st : St} (hs : SoSt st) {w : World} {mb : Nat} {K : KW} (h : WaysAt st w mb K) {d : Pr} (hd : PV st d) (c : Bool) :
    (Instr.lookup 69 (.map (some mb)) (pv d) c).run Try.prog w = .ok (match K d with | none => (if c then .tuple #[wv (pz, 0, 0), .bool false] else wv (pz, 0, 0)) | some y => (if c then .tuple #[wv (d, y), .bool true] else wv (d, y))) w := by
  obtain ⟨D, ⟨es, clock, hb, F, _, rfl⟩, hD⟩ := h
  obtain ⟨kl, hk⟩ := hd.key hs
  have hv := hD.vals d hd kl hk
  rcases Maps.fit_look c prKeyed Try.underlying69 (zeroWay w) hb F hk with ⟨hrun, _, hat⟩ | ⟨e0, y, _, _, hrun, hRv, hat, _⟩
  · rw [hat .nil] at hv
    cases hK : K d with
    | none => exact hrun
    | some y => rw [hK] at hv; simp [heldOf] at hv
  · rw [hat .nil] at hv
    simp only [heldElem, Option.some.injEq] at hRv
    subst hRv
    cases hK : K d with
    | none => rw [hK] at hv; simp [heldOf] at hv
    | some y =>
      rw [hK] at hv
      simp only [heldOf, DataW.held.injEq] at hv
      rw [hrun, hv]
theorem WaysAt.put {st : St} (hs : SoSt st) {w : World} {mb : Nat} {K : KW} (h : WaysAt st w mb K) {d : Pr} (hd : PV st d) (y : Int × Nat) :
    ∃ w', (Instr.mapUpdate 69 (.map (some mb)) (pv d) (wv (d, y))).run Try.prog w = .ok () w' ∧ WaysAt st w' mb (setW K d y) ∧ w.grownBy w' (some mb) := by
  obtain ⟨D, ho, hD⟩ := h
  obtain ⟨kl, hk⟩ := hd.key hs
  obtain ⟨w', h1, h2, h3⟩ := ho.update prKeyed Try.underlying69 (by unfold maxLen; omega) hk (val := wv (d, y)) rfl
  have hD' : WData st (setW K d y) (D.put kl (.held (wv (d, y)))) := by
    obtain ⟨L, rfl, hp, hL⟩ := hD.keys
    obtain ⟨L', e, hp'⟩ := Tidy.put (k := kl) ⟨L, rfl, hp⟩ (prKeyed.key hk) (.held (wv (d, y)))
    refine ⟨⟨L', e, hp', fun p hp => ?_⟩, fun e' he' kl' hkl' => ?_⟩
    · have e2 : L' = DataW.insert (kl, .held (wv (d, y))) (L.filter fun p => !p.1.sameKey kl) := by
        have : DataW.map L' = DataW.map (DataW.insert (kl, .held (wv (d, y))) (L.filter fun p => !p.1.sameKey kl)) := e.symm
        exact DataW.map.inj this
      rw [e2] at hp
      rcases ChangeMaps.mem_insert_iff.1 hp with rfl | hp
      · exact ⟨d, hd, hk⟩
      · exact hL p (List.mem_filter.1 hp).1
    · by_cases hed : e' = d
      · subst hed
        rw [hk] at hkl'
        cases hkl'
        rw [atKey_put_same ⟨L, rfl⟩ (prKeyed.key hk), setW_same]
        rfl
      · have hne : kl' ≠ kl := fun ee => by
          subst ee
          exact hed (pv_inj hs hd he' (prKeyed.inj hk hkl'))
        rw [atKey_put_other hne, setW_other hs hd he' hed]
        exact hD.vals e' he' kl' hkl'
  refine ⟨w', h1, ⟨_, ?_, hD'⟩, h3⟩
  obtain ⟨es, clock, g1, g2, g3, g4⟩ := h2
  refine ⟨es, clock, g1, g2, ?_, g4⟩
  rw [g4] at hD'
  have := hD'.few hs
  rw [length_sorted] at this
  simpa using this
theorem WaysAt.kept {st : St} {w w' : World} {mb : Nat} {K : KW} (h : WaysAt st w mb K) (hb : w'.heap[mb]? = w.heap[mb]?) : WaysAt st w' mb K := by
  obtain ⟨D, ⟨es, clock, g1, r⟩, hD⟩ := h
  exact ⟨D, ⟨es, clock, hb.trans g1, r⟩, hD⟩
theorem WaysAt.lt {st : St} {w : World} {mb : Nat} {K : KW} (h : WaysAt st w mb K) : mb < w.heap.size := by
  obtain ⟨D, ho, _⟩ := h
  exact ho.lt
theorem ways_made {st : St} (w : World) : WaysAt st (w.alloc (.map #[] 0)) w.heap.size (fun _ => none) :=
  ⟨.map [], (World.ownsMap_made w Try.prog 63 heldElem).mono (by omega), ⟨⟨[], rfl, List.Pairwise.nil, fun p hp => by simp at hp⟩, fun d _ kl _ => rfl⟩⟩
end Go.Proofs.Ytmjjigdnoiphbaa

/-
  THE SEARCH FROM THE END ON, as mathematics.
-/
namespace Go.Proofs.Ytmjjigdnoiphbaa
open Go.RowKit Go.Deep Go.Maps
set_option linter.unusedVariables false

def wkey (x : Way) : Int := x.2.1 * 8 + x.2.2
/-- the best way from a progress on -/
def bway (st : St) (d : Pr) : Way := if allLeft st d = true then (d, 0, 0) else (d, vP st d, bm st d)
theorem bway_fst (st : St) (d : Pr) : (bway st d).1 = d := by unfold bway; split <;> rfl
theorem bway_eq (st : St) (d : Pr) : (d, (bway st d).2) = bway st d := by
  have := bway_fst st d
  generalize bway st d = x at *
  subst this
  rfl
theorem allLeft_end (st : St) : allLeft st (endP st) = true := (allLeft_iff (PV.endP st)).2 rfl
theorem not_left {st : St} {d : Pr} {m : Nat} (hm : m < st.2.1.length) (hc : canP st d m = true) : ¬ allLeft st d = true := fun h => by
  have h1 := canP_left hc
  have h2 := allUp_at (f := leftB st.2.1 d) h m hm
  rw [h1] at h2
  cases h2
structure WSound (st : St) (x : Way) : Prop where
  pv : PV st x.1
  fit : FitP st x.1
  at_ : x = (endP st, 0, 0) ∨ (x.2.2 < st.2.1.length ∧ canP st x.1 x.2.2 = true ∧ 0 ≤ vP st (bump x.1 x.2.2) ∧ x.2.1 = vP st (bump x.1 x.2.2) + wtP st x.1)
theorem WSound.nn {st : St} (hs : SoSt st) {x : Way} (h : WSound st x) : 0 ≤ vP st x.1 := by
  rcases h.at_ with e | ⟨h1, h2, h3, _⟩
  · rw [e]
    rw [vP_end (allLeft_end st)]
    exact Int.le_refl _
  · exact (vP_le hs h.pv.ok h1 h2 h3).1
theorem WSound.bound {st : St} (hs : SoSt st) {x : Way} (h : WSound st x) : 0 ≤ x.2.1 ∧ x.2.1 ≤ 23000 ∧ x.2.2 < 5 := by
  have hn := hs.lens.2.2.1
  rcases h.at_ with e | ⟨h1, h2, h3, h4⟩
  · rw [e]; simp
  · have h5 := (vP_bounds hs (h.pv.bump h1 (canP_left h2)).ok).2
    have h6 := wtP_le hs x.1
    omega
theorem WSound.ge {st : St} (hs : SoSt st) {x : Way} (h : WSound st x) : wkey (bway st x.1) ≤ wkey x ∧ (wkey x ≤ wkey (bway st x.1) → x = bway st x.1) := by
  have hn := hs.lens.2.2.1
  rcases h.at_ with e | ⟨h1, h2, h3, h4⟩
  · have : bway st x.1 = x := by
      rw [e]
      unfold bway
      rw [if_pos (allLeft_end st)]
    rw [this]
    exact ⟨Int.le_refl _, fun _ => rfl⟩
  · have hnl := not_left h1 h2
    obtain ⟨v0, v1⟩ := vP_le hs h.pv.ok h1 h2 h3
    have hb := bm_ok hs h.pv.ok hnl v0
    have hl := hb.lt
    have hle : vP st x.1 = x.2.1 → bm st x.1 ≤ x.2.2 := fun e => hb.least _ h1 h2 (by omega)
    have ebw : bway st x.1 = (x.1, vP st x.1, bm st x.1) := by unfold bway; rw [if_neg hnl]
    rw [ebw]
    obtain ⟨d, c, m⟩ := x
    simp only [wkey] at *
    constructor
    · by_cases e : vP st d = c
      · have := hle e
        omega
      · omega
    · intro hk
      have e1 : vP st d = c := by omega
      have e2 := hle e1
      have e3 : m = bm st d := by omega
      rw [e3, e1]
theorem bway_key {st : St} (hs : SoSt st) {d : Pr} (hd : PV st d) (h : 0 ≤ vP st d) : vP st d * 8 ≤ wkey (bway st d) ∧ wkey (bway st d) < vP st d * 8 + 8 := by
  unfold bway
  split
  · rename_i e
    rw [vP_end e]
    simp [wkey]
  · rename_i e
    have := (bm_ok hs hd.ok e h).lt
    have := hs.lens.2.2.1
    simp only [wkey]
    omega

/-- from here on all that leads here has been looked at -/
def Done (st : St) (K : KW) (d : Pr) : Prop := ∀ e i, PV st e → FitP st e → i < st.2.1.length → canP st e i = true → bump e i = d → ∃ y, K e = some y ∧ wkey (e, y) ≤ (vP st d + wtP st e) * 8 + i
structure DInv (st : St) (K : KW) (has : Way → Prop) (ex : Pr → Prop) : Prop where
  kn : ∀ d y, PV st d → K d = some y → WSound st (d, y)
  it : ∀ x, has x → WSound st x ∧ ∃ y, K x.1 = some y
  pend : ∀ d y, PV st d → K d = some y → ¬ ex d → (y = (bway st d).2 ∧ Done st K d) ∨ has (d, y)
  fin : K (endP st) = some (0, 0)
theorem bway_end (st : St) : (bway st (endP st)).2 = (0, 0) := by unfold bway; rw [if_pos (allLeft_end st)]

theorem DInv.claim {st : St} (hR : RightSt st) {K : KW} {has : Way → Prop} (h : DInv st K has (fun _ => False)) : ∀ r d, restR st d = r → PV st d → FitP st d → 0 ≤ vP st d →
    (K d = some (bway st d).2 ∧ (Done st K d ∨ has (bway st d))) ∨ ∃ x, has x ∧ wkey x < vP st d * 8
  | r, d, hr, hd, hf, hv => by
    have hs := hR.so
    by_cases hl : allLeft st d = true
    · have e := (allLeft_iff hd).1 hl
      subst e
      have hk := h.fin
      rw [← bway_end st] at hk
      rcases h.pend _ _ hd hk (fun e => e) with ⟨_, hp⟩ | hp
      · exact Or.inl ⟨hk, Or.inl hp⟩
      · rw [bway_eq] at hp
        exact Or.inl ⟨hk, Or.inr hp⟩
    · have hb := bm_ok hs hd.ok hl hv
      have hlm := canP_left hb.can
      have hrb := restR_bump hd.ok hb.lt hlm
      have hwp := wtP_pos hs d hb.lt hlm
      have hdq := hd.bump hb.lt hlm
      have hfq := fit_bump hR hf hb.lt hb.can
      match r, hr with
      | 0, hr => omega
      | r + 1, hr =>
        have kq := bway_key hs hdq hb.nn
        have hq := hb.eq
        rcases DInv.claim hR h r (bump d (bm st d)) (by omega) hdq hfq hb.nn with ⟨_, hp | hp⟩ | ⟨x, hx, hk⟩
        · obtain ⟨y, h1, h2⟩ := hp d (bm st d) hd hf hb.lt hb.can rfl
          have hws := h.kn d y hd h1
          have ebw : bway st d = (d, vP st d, bm st d) := by unfold bway; rw [if_neg hl]
          have hke : wkey (d, y) ≤ wkey (bway st d) := by
            rw [ebw]
            have : wkey (d, vP st d, bm st d) = vP st d * 8 + bm st d := rfl
            rw [this]
            omega
          have he := (hws.ge hs).2 hke
          have hy : y = (bway st d).2 := congrArg Prod.snd he
          rw [hy] at h1
          rcases h.pend d _ hd h1 (fun e => e) with ⟨_, hp⟩ | hp
          · exact Or.inl ⟨h1, Or.inl hp⟩
          · rw [bway_eq] at hp
            exact Or.inl ⟨h1, Or.inr hp⟩
        · exact Or.inr ⟨_, hp, by omega⟩
        · exact Or.inr ⟨x, hx, by omega⟩

/-- the cheapest of those that are waiting, if it is what is known of its progress, is best -/
theorem DInv.best {st : St} (hR : RightSt st) {K : KW} {has : Way → Prop} (h : DInv st K has (fun _ => False)) {x0 : Way} (hx : has x0) (hmin : ∀ x, has x → wkey x0 ≤ wkey x) (hK : K x0.1 = some x0.2) : x0 = bway st x0.1 := by
  have hs := hR.so
  have hw := (h.it x0 hx).1
  have hnn := hw.nn hs
  rcases h.claim hR _ x0.1 rfl hw.pv hw.fit hnn with ⟨h1, _⟩ | ⟨x, h1, h2⟩
  · rw [hK] at h1
    have e : x0.2 = (bway st x0.1).2 := Option.some.inj h1
    have := bway_eq st x0.1
    rw [← e] at this
    exact this
  · have h3 := hmin x h1
    have h4 := (hw.ge hs).1
    have h5 := (bway_key hs hw.pv hnn).1
    omega

structure BestWays (st : St) (K : KW) : Prop where
  none : vP st pz < 0 → K pz = none
  all : 0 ≤ vP st pz → ∀ d, PV st d → FitP st d → 0 ≤ vP st d → (d = pz ∨ vP st d < vP st pz) → K d = some (bway st d).2
theorem DInv.none_pz {st : St} (hR : RightSt st) {K : KW} {has : Way → Prop} (h : DInv st K has (fun _ => False)) (hv : vP st pz < 0) : K pz = none := by
  cases e : K pz with
  | none => rfl
  | some y =>
    have := (h.kn pz y (PV.pz st) e).nn hR.so
    simp only at this
    omega
theorem DInv.broke {st : St} (hR : RightSt st) {K : KW} {has : Way → Prop} (h : DInv st K has (fun _ => False)) {x0 : Way} (hx : has x0) (hmin : ∀ x, has x → wkey x0 ≤ wkey x) (hz : x0.1 = pz) : BestWays st K := by
  have hs := hR.so
  refine ⟨h.none_pz hR, fun hv d hd hf hvd hdz => ?_⟩
  rcases h.claim hR _ d rfl hd hf hvd with ⟨h1, _⟩ | ⟨x, h1, h2⟩
  · exact h1
  · exfalso
    have hw := (h.it x0 hx).1
    have h3 := hmin x h1
    have h4 := (hw.ge hs).1
    rw [hz] at h4
    have h5 := (bway_key hs (PV.pz st) hv).1
    have h6 : vP st d ≤ vP st pz := by
      rcases hdz with e | e
      · rw [e]; exact Int.le_refl _
      · omega
    omega
theorem DInv.empty {st : St} (hR : RightSt st) {K : KW} {has : Way → Prop} (h : DInv st K has (fun _ => False)) (he : ∀ x, ¬ has x) : BestWays st K := by
  refine ⟨h.none_pz hR, fun hv d hd hf hvd hdz => ?_⟩
  rcases h.claim hR _ d rfl hd hf hvd with ⟨h1, _⟩ | ⟨x, h1, h2⟩
  · exact h1
  · exact absurd h1 (he x)

theorem DInv.stale {st : St} {K : KW} {has has' : Way → Prop} (h : DInv st K has (fun _ => False)) {x0 : Way} (h1 : ∀ x, has x → x = x0 ∨ has' x) (h2 : ∀ x, has' x → has x) (hK : K x0.1 ≠ some x0.2) : DInv st K has' (fun _ => False) :=
  ⟨h.kn, fun x hx => h.it x (h2 x hx), fun d y hd hk hx => by
    rcases h.pend d y hd hk hx with hp | hp
    · exact Or.inl hp
    · rcases h1 _ hp with e | e
      · rw [← e] at hK
        exact absurd hk hK
      · exact Or.inr e, h.fin⟩
/-- while what leads to d0 is looked at, of the trains below i already -/
structure Exp (st : St) (K : KW) (has : Way → Prop) (d0 : Pr) (i : Nat) : Prop where
  inv : DInv st K has (fun d => d = d0)
  at0 : K d0 = some (bway st d0).2
  upto : ∀ e j, PV st e → FitP st e → j < i → canP st e j = true → bump e j = d0 → ∃ y, K e = some y ∧ wkey (e, y) ≤ (vP st d0 + wtP st e) * 8 + j
theorem DInv.begin {st : St} {K : KW} {has has' : Way → Prop} (h : DInv st K has (fun _ => False)) {x0 : Way} (h1 : ∀ x, has x → x = x0 ∨ has' x) (h2 : ∀ x, has' x → has x) (hK : K x0.1 = some x0.2) (hb : x0 = bway st x0.1) : Exp st K has' x0.1 0 := by
  refine ⟨⟨h.kn, fun x hx => h.it x (h2 x hx), fun d y hd hk hx => ?_, h.fin⟩, ?_, fun e j _ _ hj => absurd hj (Nat.not_lt_zero _)⟩
  · rcases h.pend d y hd hk (fun e => e) with hp | hp
    · exact Or.inl hp
    · rcases h1 _ hp with e | e
      · exact absurd (congrArg Prod.fst e) hx
      · exact Or.inr e
  · rw [hK]
    exact congrArg some (congrArg Prod.snd hb)
theorem Exp.done {st : St} {K : KW} {has : Way → Prop} {d0 : Pr} (h : Exp st K has d0 st.2.1.length) : DInv st K has (fun _ => False) :=
  ⟨h.inv.kn, h.inv.it, fun d y hd hk _ => by
    by_cases e : d = d0
    · subst e
      rw [h.at0] at hk
      exact Or.inl ⟨(Option.some.inj hk).symm, h.upto⟩
    · exact h.inv.pend d y hd hk e, h.inv.fin⟩
theorem Exp.skip {st : St} {K : KW} {has : Way → Prop} {d0 : Pr} {i : Nat} (h : Exp st K has d0 i) (hi : ∀ e, PV st e → FitP st e → canP st e i = true → bump e i = d0 → ∃ y, K e = some y ∧ wkey (e, y) ≤ (vP st d0 + wtP st e) * 8 + i) : Exp st K has d0 (i + 1) :=
  ⟨h.inv, h.at0, fun e j he hf hj hc hb => by
    by_cases e2 : j = i
    · subst e2; exact hi e he hf hc hb
    · exact h.upto e j he hf (by omega) hc hb⟩
theorem bump_inj {d e : Pr} {i : Nat} (h : bump d i = bump e i) : d = e := by
  funext k
  have := congrFun h k
  unfold bump at this
  by_cases hk : k = i
  · rw [if_pos hk, if_pos hk] at this; omega
  · rw [if_neg hk, if_neg hk] at this; exact this
theorem bump_ne {d : Pr} {i : Nat} : bump d i ≠ d := fun h => by
  have := congrFun h i
  rw [bump_at] at this
  omega
theorem Exp.set {st : St} (hs : SoSt st) {K : KW} {has has' : Way → Prop} {d0 e : Pr} {c : Int} {i : Nat} (h : Exp st K has d0 i) (hi : i < st.2.1.length) (hd0 : PV st d0) (hw : WSound st (e, c, i)) (hc : c = vP st d0 + wtP st e) (hb : bump e i = d0)
    (hlt : ∀ y, K e = some y → wkey (e, c, i) < wkey (e, y)) (h1 : ∀ x, has x → has' x) (h2 : has' (e, c, i)) (h3 : ∀ x, has' x → x = (e, c, i) ∨ has x) : Exp st (setW K e (c, i)) has' d0 (i + 1) := by
  have hne0 : d0 ≠ e := fun ee => by subst ee; exact bump_ne hb
  have hends : endP st ≠ e := fun ee => by
    have h4 := hd0.ok i hi
    rw [← hb, bump_at, ← ee] at h4
    have h5 := endP_left hi
    unfold leftB at h5
    have := of_decide_eq_true h5
    omega
  have less : ∀ d y, PV st d → K d = some y → ∃ y', setW K e (c, i) d = some y' ∧ wkey (d, y') ≤ wkey (d, y) := fun d y hd hk => by
    by_cases hde : d = e
    · subst hde
      exact ⟨_, setW_same _ _ _, Int.le_of_lt (hlt y hk)⟩
    · exact ⟨y, by rw [setW_other hs hw.pv hd hde]; exact hk, Int.le_refl _⟩
  refine ⟨⟨fun d y hd hk => ?_, fun x hx => ?_, fun d y hd hk hx => ?_, ?_⟩, ?_, fun e' j he' hf' hj hc' hb' => ?_⟩
  · by_cases hde : d = e
    · subst hde
      rw [setW_same] at hk
      cases hk
      exact hw
    · rw [setW_other hs hw.pv hd hde] at hk
      exact h.inv.kn d y hd hk
  · rcases h3 x hx with rfl | hx
    · exact ⟨hw, _, setW_same _ _ _⟩
    · obtain ⟨g1, y, g2⟩ := h.inv.it x hx
      obtain ⟨y', g3, _⟩ := less x.1 y g1.pv g2
      exact ⟨g1, y', g3⟩
  · by_cases hde : d = e
    · subst hde
      rw [setW_same] at hk
      cases hk
      exact Or.inr h2
    · rw [setW_other hs hw.pv hd hde] at hk
      rcases h.inv.pend d y hd hk hx with ⟨g1, g2⟩ | g
      · refine Or.inl ⟨g1, fun e' j he' hf' hj hc' hb' => ?_⟩
        obtain ⟨y', g3, g4⟩ := g2 e' j he' hf' hj hc' hb'
        obtain ⟨y'', g5, g6⟩ := less e' y' he' g3
        exact ⟨y'', g5, Int.le_trans g6 g4⟩
      · exact Or.inr (h1 _ g)
  · rw [setW_other hs hw.pv (PV.endP st) hends]
    exact h.inv.fin
  · rw [setW_other hs hw.pv hd0 hne0]
    exact h.at0
  · by_cases e2 : j = i
    · subst e2
      have : e' = e := bump_inj (hb'.trans hb.symm)
      subst this
      refine ⟨_, setW_same _ _ _, ?_⟩
      simp only [wkey]
      omega
    · obtain ⟨y, g1, g2⟩ := h.upto e' j he' hf' (by omega) hc' hb'
      obtain ⟨y', g3, g4⟩ := less e' y he' g1
      exact ⟨y', g3, Int.le_trans g4 g2⟩
end Go.Proofs.Ytmjjigdnoiphbaa

/-
  HOW LONG THE SEARCH FROM THE END ON GOES ON; WHAT Solve ANSWERS.
-/
namespace Go.Proofs.Ytmjjigdnoiphbaa
open Go.RowKit Go.Deep Go.Maps
set_option linter.unusedVariables false

/-- all progresses of the first k trains -/
def prUp (ts : List Tr) : Nat → List Pr
  | 0 => [pz]
  | k + 1 => (prUp ts k).flatMap (fun d => (List.range ((tPath ts k).length + 2)).map (fun x => fun i => if i = k then x else d i))
theorem mem_prUp (ts : List Tr) : ∀ k (d : Pr), d ∈ prUp ts k ↔ (∀ i, i < k → d i ≤ (tPath ts i).length + 1) ∧ ∀ i, k ≤ i → d i = 0
  | 0, d => by
    simp only [prUp, List.mem_singleton]
    constructor
    · rintro rfl
      exact ⟨fun i hi => absurd hi (Nat.not_lt_zero _), fun i _ => rfl⟩
    · rintro ⟨_, h⟩
      funext i
      exact h i (Nat.zero_le _)
  | k + 1, d => by
    have ih := mem_prUp ts k
    simp only [prUp, List.mem_flatMap, List.mem_map, List.mem_range]
    constructor
    · rintro ⟨e, he, x, hx, rfl⟩
      obtain ⟨h1, h2⟩ := (ih e).1 he
      refine ⟨fun i hi => ?_, fun i hi => ?_⟩
      · simp only
        by_cases hik : i = k
        · subst hik; rw [if_pos rfl]; omega
        · rw [if_neg hik]; exact h1 i (by omega)
      · simp only
        rw [if_neg (by omega)]
        exact h2 i (by omega)
    · rintro ⟨h1, h2⟩
      refine ⟨fun i => if i = k then 0 else d i, (ih _).2 ⟨fun i hi => ?_, fun i hi => ?_⟩, d k, by have := h1 k (by omega); omega, ?_⟩
      · rw [if_neg (by omega)]
        exact h1 i (by omega)
      · by_cases hik : i = k
        · rw [if_pos hik]
        · rw [if_neg hik]; exact h2 i (by omega)
      · funext i
        by_cases hik : i = k
        · subst hik; simp
        · simp [hik]
def prAll (st : St) : List Pr := prUp st.2.1 st.2.1.length
theorem mem_prAll {st : St} {d : Pr} : d ∈ prAll st ↔ PV st d := by
  unfold prAll
  rw [mem_prUp]
  exact ⟨fun h => ⟨h.1, h.2⟩, fun h => ⟨h.ok, h.out⟩⟩
theorem prUp_len (ts : List Tr) : ∀ k, (prUp ts k).length = prodUp ts k
  | 0 => rfl
  | k + 1 => by
    have ih := prUp_len ts k
    simp only [prUp, prodUp, List.length_flatMap, List.length_map, List.length_range]
    rw [← ih]
    induction prUp ts k with
    | nil => simp
    | cons a l ihl => simp only [List.map_cons, List.sum_cons, List.length_cons]; rw [ihl, Nat.succ_mul]; omega
def rankY : Option (Int × Nat) → Nat
  | none => 200000
  | some y => (y.1 * 8 + y.2).toNat
def rankK (st : St) (K : KW) : Nat := ((prAll st).map (fun d => rankY (K d))).sum
theorem sum_le {α : Type} {f g : α → Nat} : ∀ (l : List α), (∀ d, d ∈ l → f d ≤ g d) → (l.map f).sum ≤ (l.map g).sum
  | [], _ => Nat.le_refl _
  | a :: l, h => by
    have h1 := h a (by simp)
    have h2 := sum_le l (fun d hd => h d (by simp [hd]))
    simp only [List.map_cons, List.sum_cons]
    omega
theorem sum_lt {α : Type} {f g : α → Nat} {e : α} : ∀ (l : List α), (∀ d, d ∈ l → f d ≤ g d) → e ∈ l → f e < g e → (l.map f).sum < (l.map g).sum
  | [], _, he, _ => by simp at he
  | a :: l, h, he, hlt => by
    have h1 := h a (by simp)
    have h2 := sum_le l (fun d hd => h d (by simp [hd]))
    simp only [List.map_cons, List.sum_cons]
    rcases List.mem_cons.1 he with rfl | he
    · omega
    · have := sum_lt l (fun d hd => h d (by simp [hd])) he hlt
      omega
theorem rank_set {st : St} (hs : SoSt st) {K : KW} {e : Pr} {c : Int} {i : Nat} (hw : WSound st (e, c, i)) (hlt : ∀ y, K e = some y → wkey (e, c, i) < wkey (e, y)) : rankK st (setW K e (c, i)) < rankK st K := by
  obtain ⟨b1, b2, b3⟩ := hw.bound hs
  simp only at b1 b2 b3
  have hr : rankY (setW K e (c, i) e) < rankY (K e) := by
    rw [setW_same]
    cases hk : K e with
    | none => simp only [rankY]; omega
    | some y =>
      have := hlt y hk
      simp only [wkey] at this
      simp only [rankY]
      omega
  refine sum_lt _ (fun d hd => ?_) (mem_prAll.2 hw.pv) hr
  by_cases hde : d = e
  · subst hde; exact Nat.le_of_lt hr
  · rw [setW_other hs hw.pv (mem_prAll.1 hd) hde]
    exact Nat.le_refl _
theorem rank_le {st : St} (hs : SoSt st) {K : KW} (h : ∀ d y, PV st d → K d = some y → WSound st (d, y)) : rankK st K ≤ 20000000000 := by
  have h1 : rankK st K ≤ ((prAll st).map (fun _ => 200000)).sum := sum_le _ (fun d hd => by
    cases hk : K d with
    | none => exact Nat.le_refl _
    | some y =>
      have := (h d y (mem_prAll.1 hd) hk).bound hs
      simp only at this
      simp only [rankY]
      omega)
  have h2 : ∀ l : List Pr, (l.map (fun _ => 200000)).sum = l.length * 200000 := fun l => by
    induction l with
    | nil => rfl
    | cons a l ih => simp only [List.map_cons, List.sum_cons, List.length_cons]; rw [ih]; omega
  rw [h2, prAll, prUp_len] at h1
  have := prod_small hs (Nat.le_refl st.2.1.length)
  omega

/-- the best order, from a progress on -/
def solveL (st : St) : Nat → Pr → List Int
  | 0, _ => []
  | f + 1, d => if allLeft st d = true then [] else el st.2.2 (bm st d) :: solveL st f (bump d (bm st d))
def solveP (st : St) (d : Pr) : List Int := solveL st (restR st d) d
def solveF (st : St) : Bool × Int × List Int := if stOk st = 0 ∧ 0 ≤ vP st pz then (true, vP st pz, solveP st pz) else (false, 0, [])
theorem restR_end {st : St} {d : Pr} (h : allLeft st d = true) : restR st d = 0 := by
  unfold restR remOf
  rw [behind_none.2 h]
  rfl
theorem solveP_end {st : St} {d : Pr} (h : allLeft st d = true) : solveP st d = [] := by
  unfold solveP
  rw [restR_end h]
  rfl
theorem solveP_step {st : St} {d : Pr} (hd : PrOk st d) (hb : BmOk st d) : solveP st d = el st.2.2 (bm st d) :: solveP st (bump d (bm st d)) := by
  have hl := canP_left hb.can
  have hr := restR_bump hd hb.lt hl
  unfold solveP
  rw [← hr]
  show (if allLeft st d = true then [] else el st.2.2 (bm st d) :: solveL st (restR st (bump d (bm st d))) (bump d (bm st d))) = _
  rw [if_neg (not_left hb.lt hb.can)]
theorem solveL_len (st : St) : ∀ f d, (solveL st f d).length ≤ f
  | 0, _ => Nat.le_refl _
  | f + 1, d => by
    have := solveL_len st f (bump d (bm st d))
    simp only [solveL]
    split
    · simp
    · simp only [List.length_cons]; omega
theorem solveP_len {st : St} (hs : SoSt st) {d : Pr} (hd : PrOk st d) : (solveP st d).length ≤ 45 := by
  have h1 := solveL_len st (restR st d) d
  have h2 : restR st d ≤ 45 := rem_le (hs.behind hd)
  unfold solveP
  omega
theorem rest_le {st : St} (hs : SoSt st) {d : Pr} (hd : PrOk st d) : restR st d ≤ 45 := rem_le (hs.behind hd)
theorem vP_pz {st : St} (hn : st.2.2.length = st.2.1.length) : vP st pz = val st := by unfold vP; rw [behind_pz hn]
end Go.Proofs.Ytmjjigdnoiphbaa

/-
  WHAT THE BEST ORDER COSTS, and two trains that meet: as mathematics. No program here.
-/
namespace Go.Proofs.Ytmjjigdnoiphbaa
open Go.RowKit Go.Deep
set_option linter.unusedVariables false

theorem nameIx_self' {st : St} (h : RightSt st) {i : Nat} (hi : i < st.2.2.length) : nameIx st.2.2 (el st.2.2 i) = i :=
  nameIx_at hi rfl (fun j hj e => by have := h.inj (by omega) hi e; omega)
/-- the best order costs what it is said to cost -/
theorem costD_solve {st : St} (hs : SoSt st) (hr : RightSt st) : ∀ (f : Nat) (d : Pr), PrOk st d → restR st d = f → 0 ≤ vP st d → ∀ n, costD st (solveP st d) d n = n + vP st d := by
  intro f
  induction f with
  | zero =>
    intro d hd hf hv n
    by_cases hl : allLeft st d = true
    · rw [solveP_end hl, vP_end hl]
      simp [costD, hl]
    · have hb := bm_ok hs hd hl hv
      have := restR_bump hd hb.lt (canP_left hb.can)
      omega
  | succ f ih =>
    intro d hd hf hv n
    by_cases hl : allLeft st d = true
    · rw [solveP_end hl, vP_end hl]
      simp [costD, hl]
    · have hb := bm_ok hs hd hl hv
      have hrb := restR_bump hd hb.lt (canP_left hb.can)
      have hn := hr.lens.2.2.2
      rw [solveP_step hd hb]
      unfold costD
      rw [nameIx_self' hr (by have := hb.lt; omega), if_pos ⟨by have := hb.lt; omega, hb.can⟩, ih _ (hd.bump hb.lt (canP_left hb.can)) (by omega) hb.nn, hb.eq]
      omega
theorem costF_solve {st : St} (hs : SoSt st) (hr : RightSt st) (h : 0 ≤ vP st pz) : costF st (solveP st pz) = vP st pz := by
  unfold costF
  rw [if_pos ⟨ok_of_right hr, solveP_len hs (pz_ok st)⟩, costD_solve hs hr _ pz (pz_ok st) rfl h]
  omega

end Go.Proofs.Ytmjjigdnoiphbaa

/-
  MOVES THAT ARE ALLOWED LEAD TO RIGHT STATES, AND SAFE ONES, as mathematics. No program here.
-/
namespace Go.Proofs.Ytmjjigdnoiphbaa
open Go.RowKit Go.Deep
set_option linter.unusedVariables false

theorem el_drop (p : List Int) (k j : Nat) : el (p.drop k) j = el p (k + j) := by unfold el; rw [List.getElem?_drop]
theorem prev_drop (x : Int) (p : List Int) (k : Nat) : ∀ j, prev (farAt x p k) (p.drop k) j = prev x p (k + j)
  | 0 => by
    show farAt x p k = _
    cases k with
    | zero => rfl
    | succ k => simp [farAt, prev]
  | j + 1 => by
    show el (p.drop k) j = el p (k + j)
    exact el_drop p k j
theorem inR_iff {x a b : Int} : inR x a b = true ↔ a ≤ x ∧ x ≤ b := by simp [inR]
theorem posUp_lt_of {ts : List Tr} {d : Nat → Nat} {i j : Nat} (h : posUp ts d i < posUp ts d j) : i < j := by
  rcases Nat.lt_or_ge i j with e | e
  · exact e
  · have := posUp_mono ts d i e
    omega
/-- what lies behind moves that can be done is right -/
theorem right_behind {st : St} (h : RightSt st) {d : Nat → Nat} (hd : PrOk st d) (hf : FitP st d) : RightSt (behindSt st d) := by
  have hb := posUp_le st.2.1 d st.2.1.length
  have hl := h.lens
  have hnl : (behindSt st d).2.2.length = posUp st.2.1 d st.2.1.length := bhN_len _ _ _ _
  refine ⟨?_, h.rooms, allUp_true (fun j hj => ?_), allUp_true (fun j hj => ?_), allUp_true (fun s hs => ?_)⟩
  · unfold sizesB
    rw [behind_len, hnl]
    have e1 : (behindSt st d).1 = st.1 := rfl
    rw [e1]
    simp only [Bool.and_eq_true, inR_iff, decide_eq_true_eq]
    exact ⟨⟨by omega, by omega⟩, by omega, trivial⟩
  · rw [behind_len] at hj
    obtain ⟨i, h1, h2, rfl⟩ := pos_inv _ hj
    obtain ⟨b1, b2, b3⟩ := behind_at h1 h2
    rw [b1, b2, b3]
    have ht := allUp_at h.trains i h1
    simp only [trainB, Bool.and_eq_true, decide_eq_true_eq] at ht
    have hdi : d i ≤ (tPath st.2.1 i).length := by unfold leftB at h2; have := of_decide_eq_false h2; omega
    have hfar := far_ok h.so h1 hdi
    have e1 : (behindSt st d).1 = st.1 := rfl
    rw [e1]
    simp only [trainB, Bool.and_eq_true, decide_eq_true_eq]
    refine ⟨inR_iff.2 ⟨hfar.1, by omega⟩, by rw [List.length_drop]; omega, ht.2.2.1, allUp_true (fun j hj => ?_)⟩
    rw [List.length_drop] at hj
    have := allUp_at ht.2.2.2 (d i + j) (by omega)
    unfold stepB at this ⊢
    rw [el_drop, prev_drop]
    exact this
  · rw [hnl] at hj
    obtain ⟨i, h1, h2, rfl⟩ := pos_inv _ hj
    have hni := allUp_at h.names i (by omega)
    simp only [nameB, Bool.and_eq_true] at hni
    simp only [nameB, Bool.and_eq_true, Bool.or_eq_true, decide_eq_true_eq]
    rw [behind_name h1 h2]
    refine ⟨hni.1, ?_⟩
    by_cases e : posUp st.2.1 d i = 0
    · exact Or.inl e
    · right
      obtain ⟨q, g1, g2, g3⟩ := pos_inv (ts := st.2.1) (d := d) (j := posUp st.2.1 d i - 1) i (by omega)
      rw [← g3, behind_name (by omega) g2]
      exact h.asc i g1 (by omega)
  · have := hf s hs
    simp only [decide_eq_true_eq]
    unfold there
    rw [behind_len, there_behind _ (Nat.le_refl _)]
    exact this
theorem right_step {st : St} (h : RightSt st) {m : Nat} (hm : m < st.2.1.length) (hc : canB st m = true) : RightSt (stepSt st m) := by
  rw [← behindSt_one]
  exact right_behind h (bump_ok m) (fit_bump h (fit_pz h) hm (by rw [canP_pz]; exact hc))
theorem stepF_name {st : St} (h : RightSt st) {m : Nat} (hm : m < st.2.1.length) (hc : canB st m = true) : stepF st (el st.2.2 m) = stepSt st m := by
  have hn := h.lens.2.2.2
  unfold stepF
  rw [nameIx_self' h (by omega), ok_of_right h, hc]
  simp [show m < st.2.2.length by omega]

theorem mem_movesUp (st : St) {x : Int} : ∀ k, x ∈ movesUp st k ↔ ∃ i, i < k ∧ x = el st.2.2 i ∧ canB st i = true
  | 0 => ⟨fun h => by simp [movesUp] at h, fun ⟨i, h, _⟩ => absurd h (Nat.not_lt_zero _)⟩
  | k + 1 => by
    unfold movesUp
    rw [List.mem_append, mem_movesUp st k]
    constructor
    · rintro (⟨i, h1, h2⟩ | h)
      · exact ⟨i, by omega, h2⟩
      · cases hc : canB st k
        · rw [hc] at h; simp at h
        · rw [hc] at h; simp at h; exact ⟨k, by omega, h, hc⟩
    · rintro ⟨i, h1, h2, h3⟩
      by_cases e : i = k
      · subst e
        right
        rw [h3]
        simp [h2]
      · exact Or.inl ⟨i, by omega, h2, h3⟩
theorem mem_allowUp (st : St) {x : Int} : ∀ k, x ∈ allowUp st k ↔ ∃ i, i < k ∧ x = el st.2.2 i ∧ canB st i = true ∧ 0 ≤ val (stepSt st i)
  | 0 => ⟨fun h => by simp [allowUp] at h, fun ⟨i, h, _⟩ => absurd h (Nat.not_lt_zero _)⟩
  | k + 1 => by
    unfold allowUp
    rw [List.mem_append, mem_allowUp st k]
    constructor
    · rintro (⟨i, h1, h2⟩ | h)
      · exact ⟨i, by omega, h2⟩
      · cases hc : (canB st k && decide (0 ≤ val (stepSt st k)))
        · rw [hc] at h; simp at h
        · rw [hc] at h; simp at h
          simp only [Bool.and_eq_true, decide_eq_true_eq] at hc
          exact ⟨k, by omega, h, hc⟩
    · rintro ⟨i, h1, h2, h3, h4⟩
      by_cases e : i = k
      · subst e
        right
        rw [h3, decide_eq_true h4]
        simp [h2]
      · exact Or.inl ⟨i, by omega, h2, h3, h4⟩
theorem mem_moves {st : St} {x : Int} : x ∈ movesF st ↔ RightSt st ∧ ∃ i, i < st.2.1.length ∧ x = el st.2.2 i ∧ canB st i = true := by
  unfold movesF
  by_cases h : stOk st = 0
  · have hr := right_of_ok h
    rw [h, decide_eq_true rfl, cond_true, mem_movesUp, hr.lens.2.2.2]
    exact ⟨fun e => ⟨hr, e⟩, fun e => e.2⟩
  · rw [decide_eq_false h]
    exact ⟨fun e => by simp at e, fun e => absurd (ok_of_right e.1) h⟩
theorem mem_allowed {st : St} {x : Int} : x ∈ allowedF st ↔ RightSt st ∧ ∃ i, i < st.2.1.length ∧ x = el st.2.2 i ∧ canB st i = true ∧ 0 ≤ val (stepSt st i) := by
  unfold allowedF
  by_cases h : stOk st = 0
  · have hr := right_of_ok h
    rw [h, decide_eq_true rfl, cond_true, mem_allowUp, hr.lens.2.2.2]
    exact ⟨fun e => ⟨hr, e⟩, fun e => e.2⟩
  · rw [decide_eq_false h]
    exact ⟨fun e => by simp at e, fun e => absurd (ok_of_right e.1) h⟩
theorem val_step {st : St} (h : RightSt st) (hz : ¬ st.2.1.length = 0) : 0 ≤ val st ↔ ∃ i, i < st.2.1.length ∧ canB st i = true ∧ 0 ≤ val (stepSt st i) := by
  rw [val_pos hz, overUp_nonneg (wtOf_le h.so).1]
theorem safeF_iff {st : St} : safeF st = true ↔ RightSt st ∧ 0 ≤ val st := by
  unfold safeF
  simp only [Bool.and_eq_true, decide_eq_true_eq]
  exact ⟨fun e => ⟨right_of_ok e.1, e.2⟩, fun e => ⟨ok_of_right e.1, e.2⟩⟩
theorem nil_of_none {l : List Int} (h : ∀ x, ¬ x ∈ l) : l = [] := by
  cases l with
  | nil => rfl
  | cons x r => exact absurd (by simp) (h x)
/-- in a state that isn't safe, and where nobody is, none is allowed -/
theorem allowed_unsafe {st : St} (h : safeF st = false) : allowedF st = [] :=
  nil_of_none (fun x hx => by
    obtain ⟨hr, i, h1, h2, h3, h4⟩ := mem_allowed.1 hx
    have : safeF st = true := safeF_iff.2 ⟨hr, (val_step hr (by omega)).2 ⟨i, h1, h3, h4⟩⟩
    rw [h] at this
    cases this)
theorem allowed_end {st : St} (h : st.2.1.length = 0) : allowedF st = [] :=
  nil_of_none (fun x hx => by
    obtain ⟨hr, i, h1, _⟩ := mem_allowed.1 hx
    omega)
theorem allowed_some {st : St} (h : safeF st = true) (hz : ¬ st.2.1.length = 0) : 0 < (allowedF st).length := by
  obtain ⟨hr, hv⟩ := safeF_iff.1 h
  obtain ⟨i, h1, h2, h3⟩ := (val_step hr hz).1 hv
  exact List.length_pos_of_mem (mem_allowed.2 ⟨hr, i, h1, rfl, h2, h3⟩)
theorem moves_some {st : St} (h : safeF st = true) (hz : ¬ st.2.1.length = 0) : 0 < (movesF st).length := by
  obtain ⟨hr, hv⟩ := safeF_iff.1 h
  obtain ⟨i, h1, h2, h3⟩ := (val_step hr hz).1 hv
  exact List.length_pos_of_mem (mem_moves.2 ⟨hr, i, h1, rfl, h2⟩)
/-- a move that is allowed leads to a safe state, with a move less -/
theorem allowed_step {st : St} {x : Int} (hx : x ∈ allowedF st) : safeF (stepF st x) = true ∧ stOk (stepF st x) = 0 ∧ remOf (stepF st x) + 1 = remOf st := by
  obtain ⟨hr, i, h1, rfl, h3, h4⟩ := mem_allowed.1 hx
  rw [stepF_name hr h1 h3]
  have hr' := right_step hr h1 h3
  exact ⟨safeF_iff.2 ⟨hr', h4⟩, ok_of_right hr', remOf_step h1⟩
/-- a move that can be done leads to a right state, with a move less; from there on it is as before -/
theorem moves_step {st : St} {x : Int} (hx : x ∈ movesF st) : stOk (stepF st x) = 0 ∧ remOf (stepF st x) + 1 = remOf st ∧ (0 ≤ val (stepF st x) → 0 ≤ val st) := by
  obtain ⟨hr, i, h1, rfl, h3⟩ := mem_moves.1 hx
  rw [stepF_name hr h1 h3]
  have hr' := right_step hr h1 h3
  exact ⟨ok_of_right hr', remOf_step h1, fun h4 => (val_step hr (by omega)).2 ⟨i, h1, h3, h4⟩⟩
theorem moves_allowed {st : St} {x : Int} (hx : x ∈ movesF st) : x ∈ allowedF st ↔ 0 ≤ val (stepF st x) := by
  obtain ⟨hr, i, h1, rfl, h3⟩ := mem_moves.1 hx
  rw [stepF_name hr h1 h3]
  constructor
  · intro h
    obtain ⟨_, j, g1, g2, g3, g4⟩ := mem_allowed.1 h
    have hn := hr.lens.2.2.2
    have := hr.inj (by omega) (by omega) g2
    subst this
    exact g4
  · intro h
    exact mem_allowed.2 ⟨hr, i, h1, rfl, h3, h⟩
theorem solve_ok {st : St} : (solveF st).1 = safeF st := by
  unfold solveF
  by_cases h : stOk st = 0
  · have hr := right_of_ok h
    rw [vP_pz hr.lens.2.2.2]
    by_cases hv : 0 ≤ val st
    · rw [if_pos ⟨h, hv⟩]; exact (safeF_iff.2 ⟨hr, hv⟩).symm
    · rw [if_neg (fun e => hv e.2)]
      show false = _
      cases e : safeF st
      · rfl
      · exact absurd (safeF_iff.1 e).2 hv
  · rw [if_neg (fun e => h e.1)]
    show false = _
    cases e : safeF st
    · rfl
    · exact absurd (ok_of_right (safeF_iff.1 e).1) h
theorem solve_parts {st : St} (h : safeF st = true) : solveF st = (true, vP st pz, solveP st pz) := by
  obtain ⟨hr, hv⟩ := safeF_iff.1 h
  unfold solveF
  rw [if_pos ⟨ok_of_right hr, by rw [vP_pz hr.lens.2.2.2]; exact hv⟩]
end Go.Proofs.Ytmjjigdnoiphbaa

/-
  NO ORDER IS BETTER THAN THE BEST ONE, as mathematics. No program here.
-/
namespace Go.Proofs.Ytmjjigdnoiphbaa
open Go.RowKit Go.Deep
set_option linter.unusedVariables false

theorem nameIx_el {ns : List Int} {x : Int} (h : nameIx ns x < ns.length) : el ns (nameIx ns x) = x := by
  have h1 : ns[nameIx ns x]? = some x := by
    rw [List.getElem?_eq_getElem h]
    have := List.findIdx_getElem (w := h) (p := fun y => decide (y = x))
    simp only [decide_eq_true_eq] at this
    exact congrArg some this
  unfold el
  rw [h1]
  rfl
theorem costD_cons {st : St} {x : Int} {ms : List Int} {d : Pr} {n : Int} (h1 : nameIx st.2.2 x < st.2.2.length) (h2 : canP st d (nameIx st.2.2 x) = true) : costD st (x :: ms) d n = costD st ms (bump d (nameIx st.2.2 x)) (n + wtP st d) := by
  rw [costD, if_pos ⟨h1, h2⟩]
theorem not_allLeft {st : St} {d : Pr} {i : Nat} (hi : i < st.2.1.length) (hc : canP st d i = true) : ¬ allLeft st d = true := fun e => by
  have := allUp_at e i hi
  rw [canP_left hc] at this
  cases this
/-- what an order costs is no less -/
theorem costD_ge {st : St} (hs : SoSt st) : ∀ (ms : List Int) (d : Pr) (n : Int), PrOk st d → 0 ≤ n → 0 ≤ costD st ms d n → 0 ≤ vP st d ∧ n + vP st d ≤ costD st ms d n ∧ ms.length = restR st d
  | [], d, n, hd, hn, h => by
    unfold costD at h ⊢
    cases ha : allLeft st d
    · rw [ha] at h; simp at h
    · rw [vP_end ha, restR_end ha]
      simp
  | x :: ms, d, n, hd, hn, h => by
    by_cases hc : nameIx st.2.2 x < st.2.2.length ∧ canP st d (nameIx st.2.2 x) = true
    · rw [costD_cons hc.1 hc.2] at h ⊢
      have hi : nameIx st.2.2 x < st.2.1.length := by have := hs.lens.2.2.2; have := hc.1; omega
      have hw := (wtP_le hs d).1
      obtain ⟨h1, h2, h3⟩ := costD_ge hs ms _ _ (hd.bump hi (canP_left hc.2)) (by omega) h
      obtain ⟨g1, g2⟩ := vP_le hs hd hi hc.2 h1
      have hr := restR_bump hd hi (canP_left hc.2)
      exact ⟨g1, by omega, by rw [List.length_cons]; omega⟩
    · unfold costD at h
      rw [if_neg hc] at h
      omega
theorem solveP_length {st : St} (hs : SoSt st) : ∀ (f : Nat) (d : Pr), PrOk st d → restR st d = f → 0 ≤ vP st d → (solveP st d).length = f := by
  intro f
  induction f with
  | zero =>
    intro d hd hf hv
    by_cases hl : allLeft st d = true
    · rw [solveP_end hl]; rfl
    · have hb := bm_ok hs hd hl hv
      have := restR_bump hd hb.lt (canP_left hb.can)
      omega
  | succ f ih =>
    intro d hd hf hv
    by_cases hl : allLeft st d = true
    · have := restR_end hl; omega
    · have hb := bm_ok hs hd hl hv
      have hrb := restR_bump hd hb.lt (canP_left hb.can)
      rw [solveP_step hd hb, List.length_cons, ih _ (hd.bump hb.lt (canP_left hb.can)) (by omega) hb.nn]
/-- of as cheap orders the best one has the lower number where they first part -/
theorem costD_tie {st : St} (hr : RightSt st) : ∀ (ms : List Int) (d : Pr) (n : Int), PrOk st d → 0 ≤ n → 0 ≤ vP st d → costD st ms d n = n + vP st d → ∀ i, i < ms.length → (∀ j, j < i → el ms j = el (solveP st d) j) → el ms i ≠ el (solveP st d) i → el (solveP st d) i < el ms i
  | [], d, n, hd, hn, hv, h => fun i hi => absurd hi (Nat.not_lt_zero _)
  | x :: ms, d, n, hd, hn, hv, h => by
    have hs := hr.so
    have hc : nameIx st.2.2 x < st.2.2.length ∧ canP st d (nameIx st.2.2 x) = true := by
      by_cases hc : nameIx st.2.2 x < st.2.2.length ∧ canP st d (nameIx st.2.2 x) = true
      · exact hc
      · unfold costD at h
        rw [if_neg hc] at h
        omega
    rw [costD_cons hc.1 hc.2] at h
    have hl4 := hs.lens.2.2.2
    have hi : nameIx st.2.2 x < st.2.1.length := by have := hc.1; omega
    have hx := nameIx_el hc.1
    generalize nameIx st.2.2 x = i0 at *
    have hw := (wtP_le hs d).1
    obtain ⟨h1, h2, h3⟩ := costD_ge hs ms _ _ (hd.bump hi (canP_left hc.2)) (by omega) (show 0 ≤ costD st ms (bump d i0) (n + wtP st d) by omega)
    obtain ⟨g1, g2⟩ := vP_le hs hd hi hc.2 h1
    have hl := not_allLeft hi hc.2
    have hb := bm_ok hs hd hl hv
    have hle := hb.least i0 hi hc.2 (by omega)
    rw [solveP_step hd hb]
    intro i hi' hall hne
    cases i with
    | zero =>
      have e1 : el (x :: ms) 0 = x := by simp [el]
      have e2 : el (el st.2.2 (bm st d) :: solveP st (bump d (bm st d))) 0 = el st.2.2 (bm st d) := by simp [el]
      rw [e1, e2] at hne ⊢
      have hlt : bm st d < i0 := by
        rcases Nat.lt_or_ge (bm st d) i0 with e | e
        · exact e
        · have : bm st d = i0 := by omega
          rw [this, hx] at hne
          exact absurd rfl hne
      rw [← hx]
      exact hr.asc i0 hlt (by omega)
    | succ i =>
      have e0 := hall 0 (by omega)
      have e1 : el (x :: ms) 0 = x := by simp [el]
      have e2 : el (el st.2.2 (bm st d) :: solveP st (bump d (bm st d))) 0 = el st.2.2 (bm st d) := by simp [el]
      rw [e1, e2, ← hx] at e0
      have hbi := hb.lt
      have heq := hr.inj (by omega) (by omega) e0
      rw [← heq]
      rw [← heq] at hall hne
      have e3 : ∀ (y : Int) (l : List Int) (j : Nat), el (y :: l) (j + 1) = el l j := fun y l j => by simp [el]
      rw [e3, e3] at hne ⊢
      have hveq : costD st ms (bump d i0) (n + wtP st d) = n + wtP st d + vP st (bump d i0) := by omega
      exact costD_tie hr ms (bump d i0) _ (hd.bump hi (canP_left hc.2)) (by omega) h1 hveq i (by simpa using hi') (fun j hj => by
        have := hall (j + 1) (by omega)
        rw [e3, e3] at this
        exact this) hne

/-- a run of moves: where it has come to, and what is paid -/
structure RunTo (st : St) (ms : List Int) (d : Pr) (C : Int) : Prop where
  ok : PrOk st d
  fit : FitP st d
  cost : ∀ rest, costD st (ms ++ rest) pz 0 = costD st rest d C
  nn : 0 ≤ C
  len : ms.length + restR st d = restR st pz
theorem run_begin {st : St} (hr : RightSt st) : RunTo st [] pz 0 := ⟨pz_ok st, fit_pz hr, fun rest => rfl, Int.le_refl _, by simp⟩
theorem run_step {st : St} (hr : RightSt st) {ms : List Int} {d : Pr} {C : Int} (h : RunTo st ms d C) {x : Int} (hx : x ∈ movesF (behindSt st d)) : ∃ d' C', RunTo st (ms ++ [x]) d' C' ∧ stepF (behindSt st d) x = behindSt st d' := by
  obtain ⟨hrb, j, h1, h2, h3⟩ := mem_moves.1 hx
  rw [behind_len] at h1
  obtain ⟨i, g1, g2, g3⟩ := pos_inv _ h1
  subst g3
  have hn := hr.lens.2.2.2
  rw [behind_name g1 g2] at h2
  have hcp : canP st d i = true := by rw [← canB_behind h.ok g1 g2]; exact h3
  have hix : nameIx st.2.2 x = i := by rw [h2]; exact nameIx_self' hr (by omega)
  refine ⟨bump d i, C + wtP st d, ⟨h.ok.bump g1 g2, fit_bump hr h.fit g1 hcp, fun rest => ?_, ?_, ?_⟩, ?_⟩
  · rw [List.append_assoc, h.cost, List.singleton_append, costD_cons (by rw [hix]; omega) (by rw [hix]; exact hcp), hix]
  · have := (wtP_le hr.so d).1; have := h.nn; omega
  · have := restR_bump h.ok g1 g2
    have := h.len
    simp only [List.length_append, List.length_singleton]
    omega
  · have e : x = el (behindSt st d).2.2 (posUp st.2.1 d i) := by rw [h2, behind_name g1 g2]
    rw [e, stepF_name hrb (by rw [behind_len]; exact h1) h3, step_behind h.ok g1 g2]
theorem run_len {st : St} (hr : RightSt st) {ms : List Int} {d : Pr} {C : Int} (h : RunTo st ms d C) : ms.length ≤ 45 ∧ (¬ (behindSt st d).2.1.length = 0 → ms.length < 45) := by
  have h1 := h.len
  have h2 := rest_le hr.so (pz_ok st)
  refine ⟨by omega, fun hz => ?_⟩
  have : 0 < restR st d := by
    show 0 < remOf (behindSt st d)
    have := remUp_pos (behindSt st d).2.1 (behindSt st d).2.1.length
    unfold remOf
    omega
  omega
/-- what is told of a run's end -/
theorem run_cost {st : St} (hr : RightSt st) {ms : List Int} {d : Pr} {C : Int} (h : RunTo st ms d C) : costF st ms = if (behindSt st d).2.1.length = 0 then C else -1 := by
  have h1 := h.cost []
  rw [List.append_nil] at h1
  unfold costF
  rw [if_pos ⟨ok_of_right hr, (run_len hr h).1⟩, h1]
  unfold costD
  by_cases e : (behindSt st d).2.1.length = 0
  · rw [if_pos e, behind_none.1 e]; rfl
  · rw [if_neg e]
    cases ha : allLeft st d
    · rfl
    · exact absurd (behind_none.2 ha) e
theorem run_ge {st : St} (hr : RightSt st) {ms : List Int} (h : 0 ≤ costF st ms) : vP st pz ≤ costF st ms ∧ ms.length = restR st pz ∧ 0 ≤ vP st pz := by
  unfold costF at h ⊢
  by_cases e : stOk st = 0 ∧ ms.length ≤ 45
  · rw [if_pos e] at h ⊢
    obtain ⟨h1, h2, h3⟩ := costD_ge hr.so ms pz 0 (pz_ok st) (Int.le_refl _) h
    exact ⟨by omega, h3, h1⟩
  · rw [if_neg e] at h
    omega
theorem run_tie {st : St} (hr : RightSt st) {ms : List Int} (h : costF st ms = vP st pz) (hv : 0 ≤ vP st pz) : ms.length = (solveP st pz).length ∧ ∀ i, i < ms.length → (∀ j, j < i → el ms j = el (solveP st pz) j) → el ms i ≠ el (solveP st pz) i → el (solveP st pz) i < el ms i := by
  have h0 := run_ge hr (ms := ms) (by omega)
  refine ⟨by rw [h0.2.1, solveP_length hr.so _ pz (pz_ok st) rfl hv], ?_⟩
  have hc : costD st ms pz 0 = 0 + vP st pz := by
    unfold costF at h
    by_cases e : stOk st = 0 ∧ ms.length ≤ 45
    · rw [if_pos e] at h; omega
    · rw [if_neg e] at h; omega
  exact costD_tie hr ms pz 0 (pz_ok st) (Int.le_refl _) hv hc
end Go.Proofs.Ytmjjigdnoiphbaa
