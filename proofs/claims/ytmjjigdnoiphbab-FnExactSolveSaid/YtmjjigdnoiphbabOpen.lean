/-
  A STATE THAT CAME IN, OPENED.
-/
import Derived.Test.YtmjjigdnoiphbabW14
import Derived.ProofKit
import Derived.OpenShut
import Derived.ChangeOld
namespace Go.Proofs.Ytmjjigdnoiphbab
set_option maxRecDepth 8000
open Go.ChangeShapes Go.WideShapes Go.ChangeAt Go.RowKit Go.Deep Go.Joins
set_option linter.unusedVariables false

theorem Try.own : ownKnob Try.prog.godebug = none := by kernel_rfl
theorem Try.laidOut : laidOutB Try.prog = true := by kernel_rfl
theorem Try.cellsInt : Try.prog.cellsOf 3 = 1 := by kernel_rfl
theorem Try.cellsInts : Try.prog.cellsOf 22 = 1 := by kernel_rfl
theorem Try.cellsLTrain : Try.prog.cellsOf 79 = 3 := by kernel_rfl
theorem Try.cellsLState : Try.prog.cellsOf 25 = 3 := by kernel_rfl

section
variable {H : Type} {enc : TypeId × Value → H} {w : World} {base : Nat} {spare : Nat → Bool} {held : Bool}

theorem add_of_spot {a : Addr} (h : a.spot = none) (i : Nat) : a.add i = ⟨a.block, a.off + i, none⟩ := by
  obtain ⟨b, o, s⟩ := a
  simp only at h
  subst h
  exact add_plain b o i

theorem spot_of_cell {w : World} {a : Addr} {v : Value} (h : w.cell? (a.add 0) = some v) : a.spot = none := by
  have := World.cell?_spot h
  simpa [Addr.add] using this

theorem open_intsAt {fuel : Nat} {c : Value} {y : DataW H × List MemPlace} (hf : DataW.trod enc Try.prog w base spare held fuel 22 [c] = some y) : ∃ xs, IntsAt w c xs ∧ xs.length ≤ 9223372036854775807 := by
  rcases open_ints Try.underlying22 Try.underlying3 Try.cellsInt hf with ⟨hcs, _⟩ | ⟨x, l, cap, zs, hcs, _, hl, hm, hz, _, hcell, _⟩
  · simp only [List.cons.injEq, and_true] at hcs
    subst hcs
    exact ⟨[], ⟨none, 0, rfl, fun i hi => absurd hi (Nat.not_lt_zero _)⟩, by simp⟩
  · simp only [List.cons.injEq, and_true] at hcs
    subst hcs
    have hlz : l ≤ zs.length := by rw [hz]; split <;> omega
    have hlen : (zs.take l).length = l := by simp; omega
    refine ⟨zs.take l, ⟨some x, cap, by rw [hlen], fun i hi => ?_⟩, by unfold maxLen at hm; omega⟩
    rw [hlen] at hi
    have hc := hcell i (by omega)
    have hs := spot_of_cell (hcell 0 (by omega))
    rw [add_of_spot hs] at hc
    refine ⟨x.block, x.off, ?_, ?_⟩
    · obtain ⟨b, o, s⟩ := x
      simp only at hs
      subst hs
      rfl
    · rw [hc]
      congr 2
      simp [el, List.getD, hi]

theorem open_trainsAt {fuel : Nat} {c : Value} {y : DataW H × List MemPlace} (hf : DataW.trod enc Try.prog w base spare held fuel 23 [c] = some y) :
    ∃ ts, TrainsAt w c ts ∧ ts.length ≤ 9223372036854775807 ∧ ∀ i, i < ts.length → (tPath ts i).length ≤ 9223372036854775807 := by
  rcases open_slice Try.underlying23 hf with ⟨hcs, _⟩ | ⟨x, l, cap, m, n, D, Pl, hcs, _, hl, hm, hmm, _, hx⟩
  · simp only [List.cons.injEq, and_true] at hcs
    subst hcs
    exact ⟨[], ⟨none, 0, rfl, fun i hi => absurd hi (Nat.not_lt_zero _)⟩, by simp, fun i hi => absurd hi (Nat.not_lt_zero _)⟩
  · simp only [List.cons.injEq, and_true] at hcs
    subst hcs
    have hlm : l ≤ m := by rw [hmm]; split <;> omega
    have hs0 : 0 < l → x.spot = none := fun hl0 => by
      obtain ⟨cs', h1, h2⟩ := hx 0 (by omega)
      rw [Try.cellsLTrain] at h1
      obtain ⟨_, hl3, hcell⟩ := World.cells?_some h1
      have q0 := hcell 0 (by omega)
      rw [add_add] at q0
      exact spot_of_cell (q0.trans (List.getElem?_eq_getElem (by omega)))
    have key : ∀ i, i < l → ∃ t : Tr, t.2.1.length ≤ 9223372036854775807 ∧ ∃ b off, some x = some ⟨b, off, none⟩ ∧ TrainAt w b (off + i * 3) t.1 t.2.1 t.2.2 := fun i hi => by
      obtain ⟨cs', h1, h2⟩ := hx i (by omega)
      rw [Try.cellsLTrain] at h1
      obtain ⟨_, hl3, hcell⟩ := World.cells?_some h1
      obtain ⟨y0, y1, y2, k, _, _, t0, t1, t2⟩ := trod_struct3 Try.underlying79 h2
      obtain ⟨c0, c1, c2, rfl⟩ : ∃ c0 c1 c2, cs' = [c0, c1, c2] := by
        match cs', hl3 with
        | [c0, c1, c2], _ => exact ⟨c0, c1, c2, rfl⟩
      simp only [Try.cellsInt, Try.cellsInts, List.drop_zero, List.drop_succ_cons, List.take_succ_cons, List.take_zero] at t0 t1 t2
      obtain ⟨z0, e0, _, _⟩ := DataW.trod_int Try.underlying3 t0
      obtain ⟨z2, e2, _, _⟩ := DataW.trod_int Try.underlying3 t2
      obtain ⟨p, hp, hpl⟩ := open_intsAt t1
      simp only [List.cons.injEq, and_true] at e0 e2
      subst e0 e2
      have q0 := hcell 0 (by omega)
      have q1 := hcell 1 (by omega)
      have q2 := hcell 2 (by omega)
      rw [add_add] at q0 q1 q2
      have hs := hs0 (by omega)
      rw [add_of_spot hs] at q0 q1 q2
      refine ⟨(z0, p, z2), hpl, x.block, x.off, ?_, c1, ?_, ?_, hp, ?_⟩
      · obtain ⟨b, o, s⟩ := x
        simp only at hs
        subst hs
        rfl
      · simpa [Nat.add_assoc] using q0
      · simpa [Nat.add_assoc] using q1
      · simpa [Nat.add_assoc] using q2
    obtain ⟨T, hT⟩ := choose_lt key
    have hlen : ((List.range l).map T).length = l := by simp
    have hget : ∀ i, i < l → ((List.range l).map T)[i]?.getD (0, [], 0) = T i := fun i hi => by simp [hi]
    refine ⟨(List.range l).map T, ⟨some x, cap, by rw [hlen], fun i hi => ?_⟩, by rw [hlen]; unfold maxLen at hm; omega, fun i hi => ?_⟩
    · rw [hlen] at hi
      unfold tAt tPath tWt
      rw [hget i hi]
      exact (hT i hi).2
    · rw [hlen] at hi
      unfold tPath
      rw [hget i hi]
      exact (hT i hi).1

theorem open_state {r : Reach} {b0 : Nat} {v : Value} {d : DataW H} {p : List MemPlace} (hv : Value.okWide Try.prog w r b0 25 v) (h : DataW.Trod enc Try.prog w base spare held 25 v d p) : ∃ st, ArgSt w v st := by
  obtain ⟨v0, v1, v2, y0, y1, y2, n, rfl, _, _, t0, t1, t2⟩ := open_agg3 Try.underlying25 (by kernel_rfl) Try.cellsLState hv h
  obtain ⟨rs, hr, hrl⟩ := open_intsAt t0
  obtain ⟨ts, ht, htl, htp⟩ := open_trainsAt t1
  obtain ⟨ns, hn, hnl⟩ := open_intsAt t2
  exact ⟨(rs, ts, ns), ⟨v0, v1, v2, rfl, hr, ht, hn⟩, hrl, htl, hnl, htp⟩
end
end Go.Proofs.Ytmjjigdnoiphbab
