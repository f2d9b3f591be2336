/-
  laws.FnExactStateOk: the walk.
-/
import Derived.Test.YtmjjigdnoiphbabW13
namespace Go.Proofs.Ytmjjigdnoiphbab
open Go.RowKit Go.Deep
set_option linter.unusedVariables false

/-- what a law asks of the state that comes in: it reads so, and no slice of it is longer than any slice can be -/
structure ArgSt (w : World) (v : Value) (st : St) : Prop where
  at_ : StateAt w v st
  rl : st.1.length ≤ 9223372036854775807
  tl : st.2.1.length ≤ 9223372036854775807
  nl : st.2.2.length ≤ 9223372036854775807
  pl : ∀ i, i < st.2.1.length → (tPath st.2.1 i).length ≤ 9223372036854775807

structure SmallSt (st : St) : Prop where
  rl : st.1.length ≤ 1048576
  nl : st.2.2.length ≤ 1048576
  tl : st.2.1.length ≤ 1048576
  pl : ∀ i, i < st.2.1.length → (tPath st.2.1 i).length ≤ 1048576

theorem StateAt.form {w : World} {v : Value} {st : St} (h : StateAt w v st) : ∃ a1 c1 a2 c2 a3 c3, v = .agg #[.slice a1 st.1.length c1, .slice a2 st.2.1.length c2, .slice a3 st.2.2.length c3] := by
  obtain ⟨vr, vt, vn, rfl, ⟨ar, cr, rfl, _⟩, ⟨a, cap, rfl, _⟩, ⟨an, cn, rfl, _⟩⟩ := h
  exact ⟨_, _, _, _, _, _, rfl⟩

theorem toState_small (v : Value) (st : St) (w : World) (h : StateAt w v st) (hs : SmallSt st) :
    Calls Try.prog 12 #[v] w fun e w' => e = .returned (stVal w.heap.size st) ∧ StMade w.heap.size st w' ∧ w'.heap.size = w.heap.size + 6 + 4 * st.2.1.length ∧ Below w.heap.size w w' :=
  toState_any v st w h hs.rl hs.nl hs.tl hs.pl

theorem szState_arg (v : Value) (st : St) (w : World) (h : StateAt w v st) {w0 : World} (ha : ArgSt w0 v st) :
    Calls Try.prog 10 #[v, .int .i64 1048576] w fun e w' => ∃ r, e = .returned (.int .i64 r) ∧ (r < 0 ∨ (0 ≤ r ∧ SmallSt st)) ∧ Below w.heap.size w w' :=
  (szState_any v st w h ha.rl ha.tl ha.nl ha.pl).mono fun e w' ⟨r, he, hr, hb⟩ => ⟨r, he, hr.imp id (fun ⟨h0, h1, h2, h3, h4⟩ => ⟨h0, h1, h2, h3, h4⟩), hb⟩

theorem eqState_small (v u : Value) (st : St) (w : World) (h : StateAt w v st) (h' : StateAt w u st) (hs : SmallSt st) :
    Calls Try.prog 14 #[v, u] w fun e w' => e = .returned (.bool true) ∧ Below w.heap.size w w' :=
  eqState_true v u st w h h' (by have := hs.rl; omega) (by have := hs.nl; omega) (by have := hs.tl; omega) (fun i hi => by have := hs.pl i hi; omega)

end Go.Proofs.Ytmjjigdnoiphbab
