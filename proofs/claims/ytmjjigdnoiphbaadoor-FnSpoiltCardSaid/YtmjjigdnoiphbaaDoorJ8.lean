import Derived.Test.YtmjjigdnoiphbaaDoorSf6
import Derived.Test.YtmjjigdnoiphbaaDoorJ2
import Derived.Maps.OwnOps
import Derived.Maps.Views
import Derived.DeepKeys4
/-
  A progress as the key of a map.
-/
namespace Go.Proofs.YtmjjigdnoiphbaaDoor
open Go.RowKit Go.Deep Go.Maps
set_option linter.unusedVariables false

theorem Tryd.rowPr : (61 : TypeId) < Tryd.prog.types.size := of_decide_eq_true (by kernel_rfl)
theorem Tryd.cellsPr : Tryd.prog.cellsOf 61 = 5 := by kernel_rfl
theorem Tryd.cellsAr : Tryd.prog.cellsOf 59 = 5 := by kernel_rfl
theorem Tryd.cellsI8 : Tryd.prog.cellsOf 58 = 1 := by kernel_rfl
theorem Tryd.keyPr : Tryd.prog.keyType 61 = true := by kernel_rfl
theorem Tryd.widePr : (match Tryd.prog.underlying 61 with | some (.array _ _) | some (.struct _) => true | _ => false) = true := by kernel_rfl
set_option maxRecDepth 16000 in
theorem prKeyed : Keyed Tryd.prog 61 := Keyed.of_law (deep_law_laid Tryd.laidOut (m := 3) (by omega) Tryd.rowPr (by kernel_rfl) Tryd.widePr)
theorem zeroVerdict (w : World) : (zeroValue 118).run Tryd.prog w = .ok (.int .i64 0) w := by kernel_rfl

theorem i8wf {n : Nat} (h : n < 100) : (Lit.int .i8 (n : Int)).wf = true := by
  have h1 : IntKind.i8.min = -128 := by decide
  have h2 : IntKind.i8.max = 127 := by decide
  simp only [Lit.wf, h1, h2, Bool.and_eq_true, decide_eq_true_eq]
  omega
theorem keyOf_pv {d : Nat → Nat} (hd : ∀ i, i < 5 → d i < 100) : ∃ kl, keyOf Tryd.prog 61 (pv d) = some kl := by
  obtain ⟨m, hm⟩ : ∃ m, Tryd.prog.types.size + 1 = m + 1 + 1 + 1 := ⟨Tryd.prog.types.size - 2, by have : 2 ≤ Tryd.prog.types.size := of_decide_eq_true (by kernel_rfl); omega⟩
  have w0 := i8wf (hd 0 (by omega))
  have w1 := i8wf (hd 1 (by omega))
  have w2 := i8wf (hd 2 (by omega))
  have w3 := i8wf (hd 3 (by omega))
  have w4 := i8wf (hd 4 (by omega))
  have hf : (pv d).formed Tryd.prog 61 = true := by simp [pv, pc5, Value.formed, Tryd.underlying61, Tryd.cellsPr]
  unfold keyOf
  rw [Tryd.underlying61]
  simp only [Tryd.keyPr, hf, Bool.and_self, if_true, hm]
  simp [Program.keyLits, Tryd.underlying61, Tryd.underlying59, Tryd.underlying58, Tryd.cellsPr, Tryd.cellsAr, Tryd.cellsI8, pv, pc5, Value.cells, List.range, List.range.loop, w0, w1, w2, w3, w4]
end Go.Proofs.YtmjjigdnoiphbaaDoor

/-
  THE SEARCH IN PLAIN MATHEMATICS: a stack of tasks, and what is known. No program here.
-/
namespace Go.Proofs.YtmjjigdnoiphbaaDoor
open Go.RowKit Go.Deep Go.Maps
set_option linter.unusedVariables false

abbrev Pr : Type := Nat → Nat
/-- a progress of this state, and nothing beyond it -/
structure PV (st : St) (d : Pr) : Prop where
  ok : PrOk st d
  out : ∀ i, st.2.1.length ≤ i → d i = 0
theorem PV.pz (st : St) : PV st pz := ⟨pz_ok st, fun _ _ => rfl⟩
theorem PV.bump {st : St} {d : Pr} (h : PV st d) {m : Nat} (hm : m < st.2.1.length) (hl : leftB st.2.1 d m = false) : PV st (bump d m) :=
  ⟨h.ok.bump hm hl, fun i hi => by unfold Go.Proofs.YtmjjigdnoiphbaaDoor.bump; rw [if_neg (by omega)]; exact h.out i hi⟩
theorem canP_left {st : St} {d : Pr} {m : Nat} (h : canP st d m = true) : leftB st.2.1 d m = false := by
  cases e : leftB st.2.1 d m
  · rfl
  · simp [canP, e] at h
def safeP (st : St) (d : Pr) : Prop := 0 ≤ val (behindSt st d)
theorem PV.lt {st : St} (hs : SoSt st) {d : Pr} (h : PV st d) (i : Nat) : d i < 100 := by
  by_cases hi : i < st.2.1.length
  · have h1 := h.ok i hi
    have h2 := (hs.train i hi).2.2.1
    omega
  · rw [h.out i (by omega)]
    omega

/-- a task: to visit d; or, behind the visit of what lies behind the move m of d, to go on with d -/
abbrev Task : Type := Pr × Option Nat
/-- what is known: 0 nothing, 1 no way home, 2 a way home -/
abbrev Kn : Type := Pr → Int
def same5 (d e : Pr) : Bool := decide (d 0 = e 0) && (decide (d 1 = e 1) && (decide (d 2 = e 2) && (decide (d 3 = e 3) && decide (d 4 = e 4))))
theorem same5_iff {st : St} (hs : SoSt st) {d e : Pr} (hd : PV st d) (he : PV st e) : same5 d e = true ↔ e = d := by
  constructor
  · intro h
    simp only [same5, Bool.and_eq_true, decide_eq_true_eq] at h
    obtain ⟨h0, h1, h2, h3, h4⟩ := h
    have h5 := hs.lens.2.2.1
    funext i
    by_cases hi : i < 5
    · rcases (show i = 0 ∨ i = 1 ∨ i = 2 ∨ i = 3 ∨ i = 4 by omega) with rfl | rfl | rfl | rfl | rfl
      · exact h0.symm
      · exact h1.symm
      · exact h2.symm
      · exact h3.symm
      · exact h4.symm
    · rw [hd.out i (by omega), he.out i (by omega)]
  · rintro rfl
    simp [same5]
def setK (kn : Kn) (d : Pr) (x : Int) : Kn := fun e => bif same5 d e then x else kn e
theorem setK_same (kn : Kn) (d : Pr) (x : Int) : setK kn d x d = x := by simp [setK, same5]
theorem setK_other {st : St} (hs : SoSt st) {kn : Kn} {d e : Pr} {x : Int} (hd : PV st d) (he : PV st e) (hne : e ≠ d) : setK kn d x e = kn e := by
  have : same5 d e = false := by
    cases h : same5 d e
    · rfl
    · exact absurd ((same5_iff hs hd he).1 h) hne
  simp [setK, this]

def allLeft (st : St) (d : Pr) : Bool := allUp st.2.1.length (leftB st.2.1 d)
/-- what 'try' does, from train m on -/
def TryR (st : St) (d : Pr) (m : Nat) (kn : Kn) (S : List Task) (kn' : Kn) (S' : List Task) : Prop :=
  ∃ m', m ≤ m' ∧ m' ≤ st.2.1.length ∧ (∀ j, m ≤ j → j < m' → canP st d j = false) ∧ ((m' = st.2.1.length ∧ kn' = setK kn d 1 ∧ S' = S) ∨ (m' < st.2.1.length ∧ canP st d m' = true ∧ kn' = kn ∧ S' = (bump d m', none) :: (d, some m') :: S))
def RunR (st : St) (t : Task) (kn : Kn) (S : List Task) (kn' : Kn) (S' : List Task) : Prop :=
  match t.2 with
  | none => (kn t.1 ≠ 0 ∧ kn' = kn ∧ S' = S) ∨ (kn t.1 = 0 ∧ allLeft st t.1 = true ∧ kn' = setK kn t.1 2 ∧ S' = S) ∨ (kn t.1 = 0 ∧ allLeft st t.1 = false ∧ TryR st t.1 0 kn S kn' S')
  | some m => (kn (bump t.1 m) = 2 ∧ kn' = setK kn t.1 2 ∧ S' = S) ∨ (kn (bump t.1 m) ≠ 2 ∧ TryR st t.1 (m + 1) kn S kn' S')

/-- this stack (its top first) waits for d -/
def Awaits (st : St) (d0 : Pr) : List Task → Pr → Prop
  | [], d => d = d0
  | t :: S, d => (∃ m, t.2 = some m ∧ d = bump t.1 m ∧ PV st t.1 ∧ m < st.2.1.length ∧ canP st t.1 m = true ∧ ∀ j, j < m → canP st t.1 j = true → ¬ safeP st (bump t.1 j)) ∧ Awaits st d0 S t.1
def Sound (st : St) (kn : Kn) : Prop := ∀ e, PV st e → (kn e = 2 → safeP st e) ∧ (kn e = 1 → ¬ safeP st e) ∧ (kn e = 0 ∨ kn e = 1 ∨ kn e = 2)
structure SInv (st : St) (d0 : Pr) (kn : Kn) (S : List Task) : Prop where
  sound : Sound st kn
  form : (∃ d, PV st d ∧ Awaits st d0 S d ∧ kn d ≠ 0) ∨ (∃ d S0, S = (d, none) :: S0 ∧ PV st d ∧ Awaits st d0 S0 d)

def costC : Nat → Nat
  | 0 => 7
  | r + 1 => 7 + 6 * costC r
def restR (st : St) (d : Pr) : Nat := remOf (behindSt st d)
def costT (st : St) (t : Task) : Nat :=
  match t.2 with
  | none => costC (restR st t.1)
  | some m => 1 + (5 - m) * (1 + costC (restR st t.1 - 1))
def measS (st : St) : List Task → Nat
  | [] => 0
  | t :: S => costT st t + measS st S
theorem restR_bump {st : St} {d : Pr} (hd : PrOk st d) {m : Nat} (hm : m < st.2.1.length) (hl : leftB st.2.1 d m = false) : restR st (bump d m) + 1 = restR st d := by
  have := remOf_step (st := behindSt st d) (behind_lt hm hl)
  rw [step_behind hd hm hl] at this
  exact this
theorem costC_pos (r : Nat) : 7 ≤ costC r := by cases r <;> simp [costC]

theorem Sound.set {st : St} (hs : SoSt st) {kn : Kn} (h : Sound st kn) {d : Pr} (hd : PV st d) {x : Int} (hx : (x = 2 ∧ safeP st d) ∨ (x = 1 ∧ ¬ safeP st d)) : Sound st (setK kn d x) := fun e he => by
  by_cases hed : e = d
  · subst hed
    rw [setK_same]
    rcases hx with ⟨rfl, hx⟩ | ⟨rfl, hx⟩
    · exact ⟨fun _ => hx, fun h => by omega, by omega⟩
    · exact ⟨fun h => by omega, fun _ => hx, by omega⟩
  · rw [setK_other hs hd he hed]
    exact h e he

theorem try_inv {st : St} (hs : SoSt st) {d0 : Pr} {kn kn' : Kn} {S S' : List Task} {d : Pr} {m : Nat} (hsound : Sound st kn) (hd : PV st d) (haw : Awaits st d0 S d) (hnl : ¬ ∀ i, i < st.2.1.length → leftB st.2.1 d i = true)
    (hbad : ∀ j, j < m → j < st.2.1.length → canP st d j = true → ¬ safeP st (bump d j)) (h : TryR st d m kn S kn' S') :
    SInv st d0 kn' S' ∧ measS st S' ≤ (5 - m) * (1 + costC (restR st d - 1)) + (1 + costC (restR st d - 1)) + measS st S := by
  have h5 := hs.lens.2.2.1
  obtain ⟨m', h1, h2, h3, ⟨h4, rfl, rfl⟩ | ⟨h4, h6, rfl, rfl⟩⟩ := h
  · refine ⟨⟨hsound.set hs hd (Or.inr ⟨rfl, fun hsafe => ?_⟩), Or.inl ⟨d, hd, haw, by rw [setK_same]; omega⟩⟩, by omega⟩
    rcases (safe_iff hs hd.ok).1 hsafe with hall | ⟨i, g1, g2, g3⟩
    · exact hnl hall
    · by_cases hi : i < m
      · exact hbad i hi g1 g2 g3
      · rw [h3 i (by omega) (by omega)] at g2
        cases g2
  · have hl := canP_left h6
    have hr := restR_bump hd.ok h4 hl
    have hm : measS st ((bump d m', none) :: (d, some m') :: S) = costC (restR st (bump d m')) + (1 + (5 - m') * (1 + costC (restR st d - 1)) + measS st S) := rfl
    have he : restR st (bump d m') = restR st d - 1 := by omega
    have hle : (5 - m') * (1 + costC (restR st d - 1)) ≤ (5 - m) * (1 + costC (restR st d - 1)) := Nat.mul_le_mul_right _ (by omega)
    refine ⟨⟨hsound, Or.inr ⟨bump d m', _, rfl, hd.bump h4 hl, ⟨m', rfl, rfl, hd, h4, h6, fun j hj hc => ?_⟩, haw⟩⟩, by rw [hm, he]; omega⟩
    by_cases hjm : j < m
    · exact hbad j hjm (by omega) hc
    · rw [h3 j (by omega) hj] at hc
      cases hc

theorem run_inv {st : St} (hs : SoSt st) {d0 : Pr} {kn kn' : Kn} {t : Task} {S S' : List Task} (hi : SInv st d0 kn (t :: S)) (h : RunR st t kn S kn' S') : SInv st d0 kn' S' ∧ measS st S' < measS st (t :: S) := by
  have hcp := costC_pos
  rcases hi.form with ⟨d, hd, haw, hk⟩ | ⟨d, S0, e, hd, haw⟩
  · obtain ⟨⟨m, e1, rfl, e3, e4, e5, e6⟩, haw'⟩ := haw
    have hl := canP_left e5
    have hsafe := hi.sound (bump t.1 m) (e3.bump e4 hl)
    have hcost : measS st (t :: S) = 1 + (5 - m) * (1 + costC (restR st t.1 - 1)) + measS st S := by
      show costT st t + _ = _
      unfold costT
      rw [e1]
    unfold RunR at h
    rw [e1] at h
    rcases h with ⟨h1, rfl, rfl⟩ | ⟨h1, h2⟩
    · refine ⟨⟨hi.sound.set hs e3 (Or.inl ⟨rfl, ?_⟩), Or.inl ⟨t.1, e3, haw', by rw [setK_same]; omega⟩⟩, by rw [hcost]; omega⟩
      exact (safe_iff hs e3.ok).2 (Or.inr ⟨m, e4, e5, hsafe.1 h1⟩)
    · have hb : ¬ safeP st (bump t.1 m) := hsafe.2.1 (by rcases hsafe.2.2 with g | g | g <;> omega)
      have := try_inv hs hi.sound e3 haw' (fun hall => by rw [hall m e4] at hl; cases hl) (fun j hj hj2 hc => by
        by_cases hjm : j = m
        · subst hjm; exact hb
        · exact e6 j (by omega) hc) h2
      refine ⟨this.1, ?_⟩
      rw [hcost]
      have h5 := hs.lens.2.2.1
      have h3 : (5 - m) * (1 + costC (restR st t.1 - 1)) = (5 - (m + 1)) * (1 + costC (restR st t.1 - 1)) + (1 + costC (restR st t.1 - 1)) := by
        rw [show 5 - m = (5 - (m + 1)) + 1 by omega, Nat.succ_mul]
      have := this.2
      omega
  · simp only [List.cons.injEq] at e
    obtain ⟨rfl, rfl⟩ := e
    have hcost : measS st ((d, none) :: S) = costC (restR st d) + measS st S := rfl
    have h7 := hcp (restR st d)
    unfold RunR at h
    simp only at h
    rcases h with ⟨h1, rfl, rfl⟩ | ⟨h1, h2, rfl, rfl⟩ | ⟨h1, h2, h3⟩
    · exact ⟨⟨hi.sound, Or.inl ⟨d, hd, haw, h1⟩⟩, by rw [hcost]; omega⟩
    · refine ⟨⟨hi.sound.set hs hd (Or.inl ⟨rfl, ?_⟩), Or.inl ⟨d, hd, haw, by rw [setK_same]; omega⟩⟩, by rw [hcost]; omega⟩
      exact (safe_iff hs hd.ok).2 (Or.inl (fun i hi => allUp_at h2 i hi))
    · have hnl : ¬ ∀ i, i < st.2.1.length → leftB st.2.1 d i = true := fun hall => by
        rw [show allLeft st d = true from allUp_true hall] at h2
        cases h2
      have := try_inv hs hi.sound hd haw hnl (fun j hj => absurd hj (Nat.not_lt_zero _)) h3
      refine ⟨this.1, ?_⟩
      rw [hcost]
      have hle := this.2
      have hpos : 1 ≤ restR st d := by
        obtain ⟨i, g⟩ := Classical.not_forall.1 hnl
        obtain ⟨g1, g2⟩ := Classical.not_imp.1 g
        have hl : leftB st.2.1 d i = false := by simpa using g2
        have := restR_bump hd.ok g1 hl
        omega
      obtain ⟨r, hr⟩ : ∃ r, restR st d = r + 1 := ⟨restR st d - 1, by omega⟩
      rw [hr] at hle ⊢
      simp only [Nat.add_sub_cancel, costC] at hle ⊢
      omega
theorem search_done {st : St} {d0 : Pr} {kn : Kn} (hi : SInv st d0 kn []) : (kn d0 = 2 ↔ safeP st d0) ∧ PV st d0 := by
  rcases hi.form with ⟨d, hd, rfl, hk⟩ | ⟨d, S0, e, _⟩
  · have := hi.sound d hd
    refine ⟨⟨this.1, fun hsafe => ?_⟩, hd⟩
    rcases this.2.2 with g | g | g
    · exact absurd g hk
    · exact absurd hsafe (this.2.1 g)
    · exact g
  · cases e
end Go.Proofs.YtmjjigdnoiphbaaDoor

/-
  WHAT IS KNOWN, IN A MAP; TASKS, ON A STACK OF CLOSURES.
-/
namespace Go.Proofs.YtmjjigdnoiphbaaDoor
open Go.RowKit Go.Deep Go.Maps
set_option linter.unusedVariables false

abbrev DU : Type := DataW Unit
/-- the map of what is known, as data -/
structure KData (st : St) (kn : Kn) (D : DU) : Prop where
  keys : ∃ L, D = .map L ∧ L.Pairwise (fun p q => p.1 ≠ q.1) ∧ ∀ p, p ∈ L → ∃ d, PV st d ∧ keyOf Tryd.prog 61 (pv d) = some p.1
  vals : ∀ d, PV st d → ∀ kl, keyOf Tryd.prog 61 (pv d) = some kl → D.atKey kl (.lit (.int .i64 0)) = .lit (.int .i64 (kn d))
def KnownAt (st : St) (w : World) (mb : Nat) (kn : Kn) : Prop := ∃ D : DU, w.ownsMap Tryd.prog 61 (plainElem Tryd.prog 118) mb 100000 D ∧ KData st kn D

theorem pv_inj {st : St} (hs : SoSt st) {d e : Pr} (hd : PV st d) (he : PV st e) (h : pv d = pv e) : e = d := by
  refine (same5_iff hs hd he).1 ?_
  simp only [pv, pc5, Value.agg.injEq, Array.mk.injEq, List.cons.injEq, Value.int.injEq, true_and, and_true] at h
  simp only [same5, Bool.and_eq_true, decide_eq_true_eq]
  omega
theorem PV.key {st : St} (hs : SoSt st) {d : Pr} (h : PV st d) : ∃ kl, keyOf Tryd.prog 61 (pv d) = some kl := keyOf_pv (fun i _ => h.lt hs i)

theorem nodup_nat : ∀ {l m : List Nat}, l.Nodup → (∀ x, x ∈ l → x ∈ m) → l.length ≤ m.length
  | [], _, _, _ => Nat.zero_le _
  | x :: l, m, hn, hs => by
    have hx : x ∈ m := hs x (by simp)
    rw [List.nodup_cons] at hn
    have := nodup_nat (m := m.erase x) hn.2 (fun y hy => (List.mem_erase_of_ne (fun e => hn.1 (by rw [← e]; exact hy))).2 (hs y (by simp [hy])))
    rw [List.length_erase_of_mem hx] at this
    have h1 : 0 < m.length := List.length_pos_of_mem hx
    simp only [List.length_cons]
    omega
/-- there are no more keys than ways to have come so far -/
theorem keys_few {st : St} (hs : SoSt st) : ∀ (L : List (Lit × DU)), L.Pairwise (fun p q => p.1 ≠ q.1) → (∀ p, p ∈ L → ∃ d, PV st d ∧ keyOf Tryd.prog 61 (pv d) = some p.1) →
    ∃ l : List Nat, l.length = L.length ∧ l.Nodup ∧ (∀ x, x ∈ l → ∃ p, p ∈ L ∧ ∃ d, PV st d ∧ keyOf Tryd.prog 61 (pv d) = some p.1 ∧ x = idxUp st.2.1 d st.2.1.length)
  | [], _, _ => ⟨[], rfl, List.nodup_nil, fun x hx => by simp at hx⟩
  | p :: L, hp, hk => by
    obtain ⟨h1, h2⟩ := List.pairwise_cons.1 hp
    obtain ⟨l, e1, e2, e3⟩ := keys_few hs L h2 (fun q hq => hk q (by simp [hq]))
    obtain ⟨d, hd, hkd⟩ := hk p (by simp)
    refine ⟨idxUp st.2.1 d st.2.1.length :: l, by simp [e1], List.nodup_cons.2 ⟨fun hm => ?_, e2⟩, fun x hx => ?_⟩
    · obtain ⟨q, hq, e, he, hke, hix⟩ := e3 _ hm
      have hde : ∀ i, d i = e i := fun i => by
        by_cases hi : i < st.2.1.length
        · exact idx_inj hd.ok he.ok _ (Nat.le_refl _) hix i hi
        · rw [hd.out i (by omega), he.out i (by omega)]
      have : d = e := funext hde
      subst this
      rw [hkd] at hke
      exact h1 q hq (Option.some.inj hke)
    · rcases List.mem_cons.1 hx with rfl | hx
      · exact ⟨p, by simp, d, hd, hkd, rfl⟩
      · obtain ⟨q, hq, r⟩ := e3 x hx
        exact ⟨q, by simp [hq], r⟩
theorem KData.few {st : St} (hs : SoSt st) {kn : Kn} {L : List (Lit × DU)} (h : KData st kn (.map L)) : L.length ≤ 100000 := by
  obtain ⟨L', e, h1, h2⟩ := h.keys
  cases e
  obtain ⟨l, e1, e2, e3⟩ := keys_few hs L h1 h2
  have := nodup_nat (m := List.range (prodUp st.2.1 st.2.1.length)) e2 (fun x hx => by
    obtain ⟨p, _, d, hd, _, rfl⟩ := e3 x hx
    exact List.mem_range.2 (idx_lt hd.ok _ (Nat.le_refl _)))
  rw [List.length_range] at this
  have := prod_small hs (Nat.le_refl st.2.1.length)
  omega

theorem KnownAt.look {st : St} (hs : SoSt st) {w : World} {mb : Nat} {kn : Kn} (h : KnownAt st w mb kn) {d : Pr} (hd : PV st d) :
    (Instr.lookup 111 (.map (some mb)) (pv d) false).run Tryd.prog w = .ok (.int .i64 (kn d)) w := by
  obtain ⟨D, ho, hD⟩ := h
  obtain ⟨kl, hk⟩ := hd.key hs
  obtain ⟨c, h1, h2, _⟩ := ho.lookup_int prKeyed Tryd.underlying111 Tryd.underlying118 (zeroVerdict w) hk
  rw [hD.vals d hd kl hk] at h2
  simp only [DataW.lit.injEq, Lit.int.injEq, true_and] at h2
  rw [h1, h2]
theorem KnownAt.put {st : St} (hs : SoSt st) {w : World} {mb : Nat} {kn : Kn} (h : KnownAt st w mb kn) {d : Pr} (hd : PV st d) {x : Int} (hx : x = 1 ∨ x = 2) :
    ∃ w', (Instr.mapUpdate 111 (.map (some mb)) (pv d) (.int .i64 x)).run Tryd.prog w = .ok () w' ∧ KnownAt st w' mb (setK kn d x) ∧ w.grownBy w' (some mb) := by
  obtain ⟨D, ho, hD⟩ := h
  obtain ⟨kl, hk⟩ := hd.key hs
  have hwf : (Lit.int .i64 x).wf = true := by rcases hx with rfl | rfl <;> decide
  obtain ⟨w', h1, h2, h3⟩ := ho.update prKeyed Tryd.underlying111 (by unfold maxLen; omega) hk (plainElem_int Tryd.underlying118 hwf)
  have hD' : KData st (setK kn d x) (D.put kl (.lit (.int .i64 x))) := by
    obtain ⟨L, rfl, hp, hL⟩ := hD.keys
    obtain ⟨L', e, hp'⟩ := Tidy.put (k := kl) ⟨L, rfl, hp⟩ (prKeyed.key hk) (.lit (.int .i64 x))
    refine ⟨⟨L', e, hp', fun p hp => ?_⟩, fun e' he' kl' hkl' => ?_⟩
    · have e2 : L' = DataW.insert (kl, .lit (.int .i64 x)) (L.filter fun p => !p.1.sameKey kl) := by
        have : DataW.map L' = DataW.map (DataW.insert (kl, .lit (.int .i64 x)) (L.filter fun p => !p.1.sameKey kl)) := e.symm
        exact DataW.map.inj this
      rw [e2] at hp
      rcases ChangeMaps.mem_insert_iff.1 hp with rfl | hp
      · exact ⟨d, hd, hk⟩
      · exact hL p (List.mem_filter.1 hp).1
    · by_cases hed : e' = d
      · subst hed
        rw [hk] at hkl'
        cases hkl'
        rw [atKey_put_same ⟨L, rfl⟩ (prKeyed.key hk), setK_same]
      · have hne : kl' ≠ kl := fun ee => by
          subst ee
          exact hed (pv_inj hs hd he' (prKeyed.inj hk hkl'))
        rw [atKey_put_other hne, setK_other hs hd he' hed]
        exact hD.vals e' he' kl' hkl'
  refine ⟨w', h1, ⟨_, ?_, hD'⟩, h3⟩
  obtain ⟨es, clock, g1, g2, g3, g4⟩ := h2
  refine ⟨es, clock, g1, g2, ?_, g4⟩
  rw [g4] at hD'
  have := hD'.few hs
  rw [length_sorted] at this
  simpa using this
theorem KnownAt.kept {st : St} {w w' : World} {mb : Nat} {kn : Kn} (h : KnownAt st w mb kn) (hb : w'.heap[mb]? = w.heap[mb]?) : KnownAt st w' mb kn := by
  obtain ⟨D, ⟨es, clock, g1, r⟩, hD⟩ := h
  exact ⟨D, ⟨es, clock, hb.trans g1, r⟩, hD⟩
theorem KnownAt.lt {st : St} {w : World} {mb : Nat} {kn : Kn} (h : KnownAt st w mb kn) : mb < w.heap.size := by
  obtain ⟨D, ho, _⟩ := h
  exact ho.lt
end Go.Proofs.YtmjjigdnoiphbaaDoor

/-
  impl: endOf, the progress behind which all have left.
-/
namespace Go.Proofs.YtmjjigdnoiphbaaDoor
open Go.RowKit Go.Deep Go.Maps
set_option linter.unusedVariables false

def endUp (ts : List Tr) (k : Nat) : Pr := fun i => if i < k then (tPath ts i).length + 1 else 0
def endP (st : St) : Pr := endUp st.2.1 st.2.1.length
theorem PV.endP (st : St) : PV st (endP st) := ⟨fun i hi => by unfold Go.Proofs.YtmjjigdnoiphbaaDoor.endP endUp; rw [if_pos hi]; exact Nat.le_refl _, fun i hi => by unfold Go.Proofs.YtmjjigdnoiphbaaDoor.endP endUp; rw [if_neg (by omega)]⟩
theorem endP_left {st : St} {i : Nat} (hi : i < st.2.1.length) : leftB st.2.1 (endP st) i = true := by
  unfold leftB endP endUp
  rw [if_pos hi]
  simp
theorem allLeft_iff {st : St} {d : Pr} (hd : PV st d) : allLeft st d = true ↔ d = endP st := by
  constructor
  · intro h
    funext i
    by_cases hi : i < st.2.1.length
    · have h1 := hd.ok i hi
      have h2 : leftB st.2.1 d i = true := by
        cases e : leftB st.2.1 d i
        · have := allUp_false (f := leftB st.2.1 d) i hi e
          unfold allLeft at h
          rw [this] at h
          exact absurd h (by decide)
        · rfl
      unfold leftB at h2
      unfold endP endUp
      rw [if_pos hi]
      have := of_decide_eq_true h2
      omega
    · rw [hd.out i (by omega)]
      unfold endP endUp
      rw [if_neg hi]
  · rintro rfl
    exact allUp_true (fun j hj => endP_left hj)
theorem endP_small {st : St} (hs : SoSt st) (i : Nat) : endP st i < 100 := (PV.endP st).lt hs i

theorem endUp_succ (ts : List Tr) (k i : Nat) : endUp ts (k + 1) i = if i = k then (tPath ts k).length + 1 else endUp ts k i := by
  unfold endUp
  by_cases h : i = k
  · subst h; simp
  · rw [if_neg h]
    by_cases h2 : i < k
    · rw [if_pos h2, if_pos (by omega)]
    · rw [if_neg h2, if_neg (by omega)]

set_option maxRecDepth 4000 in
set_option maxHeartbeats 4000000 in
theorem endOf_any (v : Value) (st : St) (w : World) (h : StateAt w v st) (hs : SoSt st) :
    Calls Tryd.prog 55 #[v] w fun e w' => e = .returned (pv (endP st)) ∧ Below w.heap.size w w' := by
  have HST := hide h
  have HSO := hide hs
  obtain ⟨a1, q1, a2, q2, a3, q3, rfl⟩ := h.form
  obtain ⟨l1, l2, l3, l4⟩ := hs.lens
  clear h hs l4
  go_enter Tryd.func55, Tryd.ntmps55
  go_wp2_with fail
  obtain ⟨V, hV⟩ : ∃ V, V = ((w.alloc (.cells #[.slice a1 st.1.length q1, .slice a2 st.2.1.length q2, .slice a3 st.2.2.length q3] 26)).alloc (.cells (pc5 pz) 61)).alloc (.cells (pc5 pz) 61) := ⟨_, rfl⟩
  have HBV : Hid (Below w.heap.size w V) := by rw [hV]; exact Joins.below_alloc3 _ _ _ _
  have HR : Hid (V.heap[w.heap.size + 1]? = some (.cells (pc5 pz) 61 (0, 0))) := by rw [hV]; exact blockLater (Joins.below_alloc1 _ _) (heap_alloc2_new _ _ _)
  have HE : Hid (V.heap[w.heap.size + 1 + 1]? = some (.cells (pc5 pz) 61 (0, 0))) := by
    rw [hV]
    have := heap_alloc_new ((w.alloc (.cells #[.slice a1 st.1.length q1, .slice a2 st.2.1.length q2, .slice a3 st.2.2.length q3] 26)).alloc (.cells (pc5 pz) 61)) (.cells (pc5 pz) 61)
    simpa [Hid] using this
  change Code.wp _ _ _ _ (((w.alloc (.cells #[.slice a1 st.1.length q1, .slice a2 st.2.1.length q2, .slice a3 st.2.2.length q3] 26)).alloc (.cells (pc5 pz) 61)).alloc (.cells (pc5 pz) 61))
  rw [← hV]
  clear hV
  generalize hrb : w.heap.size + 1 = rb at *
  have hw1 : w.heap.size < rb := by omega
  have hrV : rb + 1 < V.heap.size := (Array.getElem?_eq_some_iff.1 HE.out).1
  clear hrb
  go_loopw [9] (fun i wr => ∃ k : Nat, k ≤ st.2.1.length ∧ i = .int .i64 k ∧ Below rb V wr ∧ wr.heap[rb]? = some (.cells (pc5 pz) 61 (0, 0)) ∧ wr.heap[rb + 1]? = some (.cells (pc5 (endUp st.2.1 k)) 61 (0, 0))) (fun i _ => st.2.1.length - (intOf i).toNat)
  case atStart => exact ⟨0, Nat.zero_le _, rfl, Below.refl _ _, HR.out, HE.out⟩
  case round =>
    obtain ⟨k, hk, rfl, hb, hR, hE⟩ := hrel
    have hbw : Below w.heap.size w wr := HBV.out.trans (hb.mono (by omega))
    by_cases hlt : k < st.2.1.length
    · obtain ⟨b, off, rfl, vp, t0, t1, hI, t2⟩ := HST.out.parts.2.1.trainAt k hlt
      obtain ⟨ap, cp, rfl, -⟩ := hI
      have g0 := cell_later hbw t0
      have g1 := cell_later hbw t1
      have g2 := cell_later hbw t2
      have h8 := (HSO.out.train k hlt).2.2.1
      have hwr : IntKind.i8.wrap (((tPath st.2.1 k).length : Int) + 1) = ((tPath st.2.1 k).length : Int) + 1 := by simp [IntKind.wrap, IntKind.bits]; omega
      have HES := hide (endUp_succ st.2.1 k)
      have hz := pc5_at (endUp st.2.1 k) k (by omega)
      have fz : wr.frozen? ⟨rb + 1, k, none⟩ = false := frozen_of_row wr _ k _ _ hE
      have ck : wr.cell? ⟨rb + 1, k, none⟩ = some (.int .i8 (endUp st.2.1 k k)) := by rw [cell_of_row wr (rb + 1) k _ _ (0, 0) hE]; exact hz
      have hsz : rb + 1 < wr.heap.size := (Array.getElem?_eq_some_iff.1 hE).1
      have HB := hide hb
      have HRR := hide hR
      have HEE := hide hE
      clear t0 t1 t2 hb hbw hR hE hz
      generalize (tPath st.2.1 k).length = ln at *
      generalize tAt st.2.1 k = xa at *
      generalize tWt st.2.1 k = ya at *
      generalize endUp st.2.1 k = eu at *
      have hk5 : k < 5 := by omega
      have hk5i : (k : Int) < 5 := by omega
      go_wp2_with fail
      go_roundw
      case rel =>
        refine ⟨k + 1, by omega, by go_num, (HB.out.setCell (p := ⟨rb + 1, k, none⟩) (by simp) _).trans ((Joins.below_alloc1 _ _).mono (by simp; omega)), ?_, ?_⟩
        · rw [(Joins.below_alloc1 _ _).block rb (by simp; omega), Below.heap_setCell _ _ _ _ (by simp)]
          exact HRR.out
        · rw [(Joins.below_alloc1 _ _).block (rb + 1) (by simp; omega)]
          have := Joins.block_setCell (i := k) HEE.out (.int .i8 ((ln : Int) + 1))
          rw [this]
          congr 2
          unfold pc5
          have E : ∀ i, endUp st.2.1 (k + 1) i = if i = k then ln + 1 else eu i := HES.out
          simp only [E]
          rcases (show k = 0 ∨ k = 1 ∨ k = 2 ∨ k = 3 ∨ k = 4 by omega) with rfl | rfl | rfl | rfl | rfl <;> simp
      case measure => simp [intOf]; omega
    · obtain rfl : k = st.2.1.length := by omega
      obtain ⟨e0, e1, e2, e3, e4⟩ := cells5 hE
      obtain ⟨r0, r1, r2, r3, r4⟩ := cells5 hR
      have rf : ∀ o, wr.frozen? ⟨rb, o, none⟩ = false := fun o => frozen_of_row wr rb o _ _ hR
      have f0 := rf 0
      have f1 := rf 1
      have f2 := rf 2
      have f3 := rf 3
      have f4 := rf 4
      clear rf
      go_wp2_with fail
      have HBW := hide hbw
      have hsz : rb < wr.heap.size := (Array.getElem?_eq_some_iff.1 hR).1
      have hlw : ∀ (x : Value) (o : Nat), Below w.heap.size w (wr.setCell ⟨rb, o, none⟩ x) := fun x o => hbw.setCell (p := ⟨rb, o, none⟩) (by simp; omega) x
      refine bodyPost_ret ?_ rfl ⟨rfl, ?_⟩
      · simp [results, Tryd.results55, go_sem, endP, pv, pc5, r0, r1, r2, r3, r4]
      · exact ((((hbw.setCell (p := ⟨rb, 0, none⟩) (by simp; omega) _).setCell (p := ⟨rb, 1, none⟩) (by simp; omega) _).setCell (p := ⟨rb, 2, none⟩) (by simp; omega) _).setCell (p := ⟨rb, 3, none⟩) (by simp; omega) _).setCell (p := ⟨rb, 4, none⟩) (by simp; omega) _
end Go.Proofs.YtmjjigdnoiphbaaDoor

/-
  Two progresses, two ways, held against one another.
-/
namespace Go.Proofs.YtmjjigdnoiphbaaDoor
open Go.RowKit Go.Deep Go.Maps
set_option linter.unusedVariables false

theorem eqAr (k : Nat) (d e : Pr) (w : World) : (Op.equalIn (k + 1 + 1) 59 (.agg (pc5 d)) (.agg (pc5 e))).run Tryd.prog w = .ok (same5 d e) w := by
  have u3 := Tryd.underlying58
  have a3 := Tryd.isAgg58
  have z3 := Tryd.sizeOf58
  rw [show k + 1 + 1 = (k + 1) + 1 from rfl, Op.equalIn]
  simp only [Sem.run_bind, run_underlying Tryd.underlying59, Result.andThen_ok]
  simp only [Std.Legacy.Range.forIn_eq_forIn_range', Std.Legacy.Range.size, Nat.sub_zero, Nat.add_sub_cancel, Nat.div_one, List.range'_succ, List.range'_zero, List.forIn_cons, List.forIn_nil]
  unfold pc5 same5
  go_simp
  by_cases h0 : d 0 = e 0 <;> by_cases h1 : d 1 = e 1 <;> by_cases h2 : d 2 = e 2 <;> by_cases h3 : d 3 = e 3 <;> by_cases h4 : d 4 = e 4 <;> simp [h0, h1, h2, h3, h4] <;> omega
theorem eqPr (k : Nat) (d e : Pr) (w : World) : (Op.equalIn (k + 1 + 1 + 1) 61 (.agg (pc5 d)) (.agg (pc5 e))).run Tryd.prog w = .ok (same5 d e) w := by
  have u3 := Tryd.underlying59
  have a3 := Tryd.isAgg59
  have z3 := Tryd.sizeOf59
  have hS : Tryd.prog.underlying 61 = some (.struct (Tryd.prog.fieldsOf 61)) := by kernel_rfl
  have hp : Tryd.prog.stoodInHeld 61 = false := by kernel_rfl
  have hE := eqAr k d e
  rw [run_equalIn_agg w (k + 1 + 1) 61 _ _ hS hp]
  simp only [Program.fieldsOf, Tryd.underlying61]
  unfold pc5 at hE ⊢
  go_simp
  cases same5 d e <;> rfl
/-- how an order goes on: from where, what it costs, who moves first -/
abbrev Way : Type := Pr × Int × Nat
def wc7 (x : Way) : Array Value := #[.int .i8 (x.1 0), .int .i8 (x.1 1), .int .i8 (x.1 2), .int .i8 (x.1 3), .int .i8 (x.1 4), .int .i64 x.2.1, .int .i64 (x.2.2 : Int)]
def wv (x : Way) : Value := .agg (wc7 x)
def sameW (x y : Way) : Bool := same5 x.1 y.1 && (decide (x.2.1 = y.2.1) && decide (x.2.2 = y.2.2))
theorem eqWay (k : Nat) (x y : Way) (w : World) : (Op.equalIn (k + 1 + 1 + 1 + 1) 99 (.agg (wc7 x)) (.agg (wc7 y))).run Tryd.prog w = .ok (sameW x y) w := by
  have u3 := Tryd.underlying61
  have a3 := Tryd.isAgg61
  have z3 := Tryd.sizeOf61
  have u4 := Tryd.underlying3
  have a4 := Tryd.isAgg3
  have z4 := Tryd.sizeOf3
  have hS : Tryd.prog.underlying 99 = some (.struct (Tryd.prog.fieldsOf 99)) := by kernel_rfl
  have hp : Tryd.prog.stoodInHeld 99 = false := by kernel_rfl
  have hE := eqPr k x.1 y.1
  have hI : ∀ (a b : Int) (w : World), (Op.equalIn (k + 1 + 1 + 1) 3 (.int .i64 a) (.int .i64 b)).run Tryd.prog w = .ok (a == b) w := fun a b w => run_equalIn_int w (k + 1 + 1) 3 .i64 .i64 a b Tryd.underlying3
  rw [run_equalIn_agg w (k + 1 + 1 + 1) 99 _ _ hS hp]
  simp only [Program.fieldsOf, Tryd.underlying99]
  unfold wc7 sameW
  unfold pc5 at hE
  go_simp
  cases same5 x.1 y.1 <;> by_cases h1 : x.2.1 = y.2.1 <;> by_cases h2 : x.2.2 = y.2.2 <;> simp [h1, h2] <;> omega
theorem eqPr' (d e : Pr) (w : World) : (Op.equalIn 10000 61 (.agg (pc5 d)) (.agg (pc5 e))).run Tryd.prog w = .ok (same5 d e) w := eqPr 9997 d e w
theorem eqWay' (x y : Way) (w : World) : (Op.equalIn 10000 99 (.agg (wc7 x)) (.agg (wc7 y))).run Tryd.prog w = .ok (sameW x y) w := eqWay 9996 x y w
theorem sameW_iff {st : St} (hs : SoSt st) {x y : Way} (hx : PV st x.1) (hy : PV st y.1) : sameW x y = true ↔ y = x := by
  unfold sameW
  simp only [Bool.and_eq_true, decide_eq_true_eq, same5_iff hs hx hy]
  constructor
  · rintro ⟨h1, h2, h3⟩
    obtain ⟨x1, x2, x3⟩ := x
    obtain ⟨y1, y2, y3⟩ := y
    simp only at h1 h2 h3
    subst h1 h2 h3
    rfl
  · rintro rfl
    exact ⟨rfl, rfl, rfl⟩
end Go.Proofs.YtmjjigdnoiphbaaDoor
