/-
  SMALL THINGS THAT THE LAWS SHARE: the room of paths, a field of a Best, bytes that stay.
-/
import Derived.Test.YtmjjigdnoiphbaaW19
import Derived.Test.YtmjjigdnoiphbaaApp
import Derived.Test.YtmjjigdnoiphbaaWl
namespace Go.Proofs.Ytmjjigdnoiphbaa
open Go.RowKit Go.Deep
set_option linter.unusedVariables false
set_option linter.unusedSimpArgs false

theorem run_fieldBest (o : Bool) (x : Int) (u : Value) (w : World) : (Instr.field 32 (.agg #[.bool o, .int .i64 x, u]) 1).run Try.prog w = .ok (.int .i64 x) w := by
  obtain ⟨i0, hi, hz0, hz1, hz2⟩ := info_parts Try.infoInt
  obtain ⟨i1, hi1, -, hy1, -⟩ := info_parts Try.infoBool
  simp [Instr.field, run_underlying Try.underlying32, run_underlying Try.underlying3, run_underlying Try.underlying4, part, isAgg, sizeOf, typeInfo, hi, hz1, hi1, hy1, asAgg, go_sem]
theorem OwnS.capSt {w : World} {L : Lies} {st : St} (h : OwnS w L st) (hpc : ∀ i, i < st.2.1.length → (tPath st.2.1 i).length ≤ L.pc i) : CapSt w (L.val st) st.2.1.length := by
  intro a1 l1 q1 a2 l2 q2 a3 l3 q3 hv i b off p q c hi ha hc
  simp only [Lies.val, Value.agg.injEq, Array.mk.injEq, List.cons.injEq, Value.slice.injEq, and_true] at hv
  obtain ⟨_, ⟨rfl, _, _⟩, _⟩ := hv
  obtain ⟨b', off', e, _, h1, _⟩ := h.t.row i hi
  rw [e] at ha
  simp only [Option.some.injEq, Addr.mk.injEq, and_true] at ha
  obtain ⟨rfl, rfl⟩ := ha
  rw [h1] at hc
  simp only [Option.some.injEq, Value.slice.injEq] at hc
  obtain ⟨_, rfl, rfl⟩ := hc
  exact hpc i hi
theorem BytesAt.below {w w' : World} {a : Option Addr} {n : Nat} (h : BytesAt w a n) (hb : Below w.heap.size w w') : BytesAt w' a n :=
  ⟨h.1, fun i hi => by
    obtain ⟨b, off, x, e, hc, h0, h1⟩ := h.2 i hi
    exact ⟨b, off, x, e, cell_later hb hc, h0, h1⟩⟩
theorem tmod_nat {y : Int} {d : Nat} (hy : 0 ≤ y) (hd : 0 < d) : ∃ u : Nat, y.tmod (d : Int) = (u : Int) ∧ u < d := by
  have h0 : (d : Int) ≠ 0 := by omega
  have h1 := Int.emod_nonneg y h0
  have h2 := Int.emod_lt_of_pos y (show (0 : Int) < (d : Int) by omega)
  rw [Int.tmod_eq_emod_of_nonneg hy]
  generalize y % (d : Int) = z at *
  exact ⟨z.toNat, by omega, by omega⟩
end Go.Proofs.Ytmjjigdnoiphbaa
