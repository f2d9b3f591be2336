/-
  markIntS, heldIntS, markTrainS, markState.
-/
import Derived.Test.YtmjjigdnoiphbaaGreatDoorMark
namespace Go.Proofs.YtmjjigdnoiphbaaGreatDoor
open Go.RowKit Go.Deep
set_option linter.unusedVariables false

/-- the marks of the first k trains -/
def mX (m : Int) (pl : Nat → Nat) (X : Nat → Int) (k : Nat) : Nat → Int := fun i => if i < k then cnt m pl i else X i
def mY (m : Int) (pl : Nat → Nat) (Y : Nat → Int) (k : Nat) : Nat → Int := fun i => if i < k then cnt m pl i + 1 + pl i else Y i
def mZ (m : Int) (pl : Nat → Nat) (Z : Nat → Nat → Int) (k : Nat) : Nat → Nat → Int := fun i => if i < k then (fun j => cnt m pl i + 1 + j) else Z i

/-- where a state of the call's own lies -/
structure Lies where
  ra : Option Addr
  rc : Nat
  ta : Option Addr
  tc : Nat
  na : Option Addr
  nc : Nat
  pa : Nat → Option Addr
  pc : Nat → Nat

def Lies.val (L : Lies) (st : St) : Value := .agg #[.slice L.ra st.1.length L.rc, .slice L.ta st.2.1.length L.tc, .slice L.na st.2.2.length L.nc]
/-- its blocks -/
def Lies.F (L : Lies) (n : Nat) : Nat → Prop := fun k => FA L.ra k ∨ FA L.na k ∨ FT L.ta L.pa n k

/-- its lists lie apart, in blocks that are there -/
structure Lies.Apart (L : Lies) (n : Nat) (w : World) : Prop where
  rt : ∀ k, FA L.ra k → ¬ FT L.ta L.pa n k
  nt : ∀ k, FA L.na k → ¬ FT L.ta L.pa n k
  rn : ∀ k, FA L.ra k → ¬ FA L.na k
  lt : ∀ k, L.F n k → k < w.heap.size

structure OwnS (w : World) (L : Lies) (st : St) : Prop where
  r : OwnF w L.ra st.1.length (el st.1)
  t : OwnT w L.ta st.2.1.length L.pa (fun i => (tPath st.2.1 i).length) L.pc (tAt st.2.1) (tWt st.2.1) (fun i j => el (tPath st.2.1 i) j)
  n : OwnF w L.na st.2.2.length (el st.2.2)
  apart : L.Apart st.2.1.length w

theorem OwnS.at {w : World} {L : Lies} {st : St} (h : OwnS w L st) : StateAt w (L.val st) st :=
  ⟨_, _, _, rfl, h.r.at (fun _ _ => rfl), h.t.at (fun _ _ => rfl) (fun _ _ => rfl) (fun _ _ => rfl) (fun _ _ _ _ => rfl), h.n.at (fun _ _ => rfl)⟩

theorem OwnS.keep {w w' : World} {L : Lies} {st : St} (h : OwnS w L st) (hz : w.heap.size ≤ w'.heap.size) (hb : ∀ k, k < w.heap.size → L.F st.2.1.length k → w'.heap[k]? = w.heap[k]?) : OwnS w' L st :=
  ⟨h.r.keep (fun k hk e => hb k hk (Or.inl e)), h.t.keep (fun k hk e => hb k hk (Or.inr (Or.inr e))), h.n.keep (fun k hk e => hb k hk (Or.inr (Or.inl e))), ⟨h.apart.rt, h.apart.nt, h.apart.rn, fun k hk => Nat.lt_of_lt_of_le (h.apart.lt k hk) hz⟩⟩
theorem OwnS.below {w w' : World} {L : Lies} {st : St} (h : OwnS w L st) (hb : Below w.heap.size w w') : OwnS w' L st := h.keep hb.size (fun k hk _ => hb.block k hk)

/-- the same state, marked -/
structure MarkedS (w : World) (L : Lies) (st : St) (m : Int) : Prop where
  r : OwnF w L.ra st.1.length (fun i => m + i)
  t : OwnT w L.ta st.2.1.length L.pa (fun i => (tPath st.2.1 i).length) L.pc (mX (m + st.1.length) (fun i => (tPath st.2.1 i).length) (tAt st.2.1) st.2.1.length) (mY (m + st.1.length) (fun i => (tPath st.2.1 i).length) (tWt st.2.1) st.2.1.length) (mZ (m + st.1.length) (fun i => (tPath st.2.1 i).length) (fun i j => el (tPath st.2.1 i) j) st.2.1.length)
  n : OwnF w L.na st.2.2.length (fun i => cnt (m + st.1.length) (fun i => (tPath st.2.1 i).length) st.2.1.length + i)
theorem MarkedS.keep {w w' : World} {L : Lies} {st : St} {m : Int} (h : MarkedS w L st m) (hb : ∀ k, k < w.heap.size → L.F st.2.1.length k → w'.heap[k]? = w.heap[k]?) : MarkedS w' L st m :=
  ⟨h.r.keep (fun k hk e => hb k hk (Or.inl e)), h.t.keep (fun k hk e => hb k hk (Or.inr (Or.inr e))), h.n.keep (fun k hk e => hb k hk (Or.inr (Or.inl e)))⟩
theorem MarkedS.below {w w' : World} {L : Lies} {st : St} {m : Int} (h : MarkedS w L st m) (hb : Below w.heap.size w w') : MarkedS w' L st m := h.keep (fun k hk _ => hb.block k hk)

/-- what marking a state comes to -/
def total (m : Int) (st : St) : Int := cnt (m + st.1.length) (fun i => (tPath st.2.1 i).length) st.2.1.length + st.2.2.length

theorem total_le {st : St} (h : SmallSt st) : 1 ≤ total 1 st ∧ cnt (1 + st.1.length) (fun i => (tPath st.2.1 i).length) st.2.1.length ≤ 4503599627370496 ∧ 1 ≤ cnt (1 + st.1.length) (fun i => (tPath st.2.1 i).length) st.2.1.length := by
  obtain ⟨u1, u2⟩ := cnt_le (m := 1 + st.1.length) (pl := fun i => (tPath st.2.1 i).length) h.pl st.2.1.length (Nat.le_refl _)
  have u3 : (st.2.1.length : Int) * 1048578 ≤ 1048576 * 1048578 := Int.mul_le_mul_of_nonneg_right (by have := h.tl; omega) (by omega)
  have := h.rl
  unfold total
  omega

end Go.Proofs.YtmjjigdnoiphbaaGreatDoor
