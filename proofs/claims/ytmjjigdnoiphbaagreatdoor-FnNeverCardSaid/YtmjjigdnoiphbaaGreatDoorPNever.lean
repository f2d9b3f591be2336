/-
  THE STATEMENT 'Rows.FnNeverCardSaid', PROVED.
-/
import Derived.Test.YtmjjigdnoiphbaaGreatDoorCards
import Derived.Test.YtmjjigdnoiphbaaGreatDoorTie
import Derived.Test.YtmjjigdnoiphbaaGreatDoorJ4
import Derived.Test.YtmjjigdnoiphbaaGreatDoorLNv
import Derived.ProofKit
import Derived.OpenShut
import Derived.OpenVars
import Derived.Deep.DeepHandedRow
import Derived.LaidSub
namespace Go.Proofs.YtmjjigdnoiphbaaGreatDoor
open Go.ChangeShapes Go.WideShapes Go.ChangeAt Go.RowKit
set_option linter.unusedVariables false

set_option maxRecDepth 100000 in
theorem contractNever (H : Type) (enc : TypeId × Value → H) (W : World) (base : Nat) (args : Array Value) (ds gs : List (DataW H)) (before : List MemPlace)
    (hval0 : ∀ (j : Nat) t v, Tryz.f3.params[j]? = some t → args[j]? = some v → Value.okWide Tryz.prog W .any base t v)
    (hW : DataW.Whole enc Tryz.prog Tryz.f3.params.toList Rows.fnNeverSpec.vars false W args.toList ds gs before) :
    Calls Tryz.prog 3 args W fun e W' => ∃ v, e = .returned v ∧ Rows.fnNeverSpec.post enc Tryz.prog Tryz.f3 false true false false W args v W' := by
  have hval : ∀ (j : Nat) t v, Tryz.f3.params[j]? = some t → args[j]? = some v → Value.okWide Tryz.prog W .any base t v := hval0
  have hW' := hW
  obtain ⟨p, q, hA0, hV, rfl, hfz, hnd⟩ := hW
  have hA : DataW.TrodAll enc Tryz.prog W 0 (fun _ => true) true Tryz.f3.params.toList args.toList ds p := hA0
  rw [Tryz.params3] at hA hval
  obtain ⟨v0, vs0, d0, ds0, p0, q0, hargs, rfl, rfl, h0, r0⟩ := trodAll_cons hA
  obtain ⟨v1, vs1, d1, ds1, p1, q1, rfl, rfl, rfl, h1, r1⟩ := trodAll_cons r0
  obtain ⟨rfl, rfl, rfl⟩ := trodAll_nil r1
  obtain rfl : args = #[v0, v1] := by cases args; simp_all
  have hV3 : DataW.TrodVars enc Tryz.prog W (fun _ => true) ["loop.example/regulator/impl.errNoTrain", "loop.example/regulator/impl.errCannotMove", "loop.example/regulator/impl.errNotAllLeave"] gs q := hV
  obtain ⟨g1, g2, g3, rfl⟩ : ∃ g1 g2 g3, gs = [g1, g2, g3] := by
    rcases gs with _ | ⟨g1, _ | ⟨g2, _ | ⟨g3, _ | ⟨g4, r⟩⟩⟩⟩
    · simp [DataW.TrodVars] at hV3
    · simp [DataW.TrodVars] at hV3
    · simp [DataW.TrodVars] at hV3
    · exact ⟨g1, g2, g3, rfl⟩
    · simp [DataW.TrodVars] at hV3
  have lt0 : ∀ x ∈ p0, x.block < W.heap.size := by obtain ⟨m, hm⟩ := h0; exact DataW.trod_lt m _ _ _ hm
  obtain ⟨a, B, q', rfl, hBl, hBy, hBb⟩ := open_bytesF (hval 0 22 v0 rfl rfl) h0
  have lt1 : ∀ x ∈ p1, x.block < W.heap.size := by obtain ⟨m, hm⟩ := h1; exact DataW.trod_lt m _ _ _ hm
  obtain ⟨a2, B2, q2, rfl, hBl2, hBy2, hBb2⟩ := open_bytesF (hval 1 22 v1 rfl rfl) h1
  clear hA0 hval0
  refine (fnNever_walk a B q' a2 B2 q2 W hBl hBl2 hBy hBb hBy2 hBb2).mono fun e W' ⟨he, bel⟩ => ?_
  subst he
  exact ⟨_, rfl, _, _, _, [], _, _, hW', trodAll_mk1 (shut_bool Tryz.underlying4 _), (trodAll_cons_mk (Below.trod Tryz.laidOut (by kernel_rfl) (of_decide_eq_true (by kernel_rfl)) h0 bel lt0) (trodAll_cons_mk (Below.trod Tryz.laidOut (by kernel_rfl) (of_decide_eq_true (by kernel_rfl)) h1 bel lt1) trodAll_mk0)), (Below.trodVars Tryz.laidOut bel (by kernel_rfl) hV3), bel.frame _, fun h => by cases h⟩

abbrev sNo : ByteArray := { data := #[116, 104, 101, 114, 101, 32, 105, 115, 32, 110, 111, 32, 115, 117, 99, 104, 32, 116, 114, 97, 105, 110] }
abbrev sCan : ByteArray := { data := #[105, 116, 32, 99, 97, 110, 110, 111, 116, 32, 109, 111, 118, 101] }
abbrev sAll : ByteArray := { data := #[98, 101, 104, 105, 110, 100, 32, 105, 116, 115, 32, 109, 111, 118, 101, 32, 110, 111, 116, 32, 97, 108, 108, 32, 99, 97, 110, 32, 108, 101, 97, 118, 101] }
noncomputable def low : Nat := (World.holding Tryz.prog default ⟨#[], #[], []⟩).heap.size
def layErr (g : Nat) (a : Nat) (h : Array Obj) : Array Obj := h.modify g fun
  | .cells _ t frozen => .cells #[.iface 151 (.pointer (some ⟨a, 0, none⟩))] t frozen
  | o => o
/-- a world in which the listed variables lie as the program's text lays them -/
noncomputable def laidWorld (os : Os) : World :=
  { World.holding Tryz.prog os ⟨#[.cells #[.string sNo] 175, .cells #[.string sCan] 175, .cells #[.string sAll] 175], #[], []⟩ with
    heap := layErr 0 low (layErr 1 (low + 1) (layErr 2 (low + 2) (World.holding Tryz.prog os ⟨#[.cells #[.string sNo] 175, .cells #[.string sCan] 175, .cells #[.string sAll] 175], #[], []⟩).heap)) }
theorem laid_met (os : Os) : laidMet Tryz.prog Rows.fnNeverRow.laid ((laidWorld os).forCall (fun _ _ => 0) ⟨#[], #[.slice none 0 0, .slice none 0 0], []⟩).memory :=
  laidMet_of_run' 8 (by kernel_rfl) (by kernel_rfl)

set_option maxRecDepth 100000 in
theorem liftedNever (os : Os) (started : os.Started) (H : Type) (enc : TypeId × Value → H) (F : Stop.Interp) :
    ReturnsInHanded {} Tryz.checked os 3 .any ((OpenSpec.ofChange Rows.fnNeverSpec).preRow enc Tryz.prog Tryz.f3 Rows.fnNeverRow.domain false Rows.fnNeverRow.laid) (((OpenSpec.ofChange Rows.fnNeverSpec).at F).post enc Tryz.prog Tryz.f3 false true false false) := by
  refine returnsInHanded_of_row (C := Tryz.checked) (s := OpenSpec.ofChange Rows.fnNeverSpec) Tryz.own started (by kernel_rfl) Tryz.func3
    (witness_row_at (enc := enc) (C := Tryz.checked) false (laidWorld os) #[.slice none 0 0, .slice none 0 0] rfl (by kernel_rfl) (by kernel_rfl) (by kernel_rfl)
      (OpenSpec.preRow_of_B rfl 8 (by kernel_rfl) (by kernel_rfl) (laid_met os))) ?_
  intro W base args ds gs before hval hW _ _ _ hL _ _
  exact contractNever H enc W base args ds gs before hval hW

theorem neverSaid : Rows.FnNeverSaid :=
  OpenClaim.holds_of_cond 3 Tryz.f3 rfl rfl rfl rfl rfl rfl rfl ⟨rfl, rfl, rfl, rfl, rfl⟩ rfl rfl rfl rfl rfl (by kernel_rfl) Tryz.func3 (by kernel_rfl)
    (of_decide_eq_true (by kernel_rfl)) (by unfold Func.isWrapper; first | (rw [if_pos (by decide +kernel)]; kernel_rfl) | (rw [if_neg (by decide +kernel)]; exact ⟨rfl, rfl⟩))
    (fun os started H enc _ F => by rw [OpenClaim.pre_eq_preRow]; exact liftedNever os started H enc F)

theorem plainNever (f : FuncId) (fn : Func) (hf : Tryz.pinned.checked.prog.funcNamed Rows.fnNeverRow.func = some f) (hfn : Tryz.pinned.checked.prog.funcs[f]? = some fn) :
    true = Tryz.pinned.checked.prog.looks [] ∧ ∀ (j : Nat) t, fn.params[j]? = some t → Tryz.pinned.checked.prog.wantsStandIn t = false := by
  obtain rfl : f = 3 := Option.some.inj ((show Tryz.prog.funcNamed Rows.fnNeverRow.func = some 3 by kernel_rfl).symm.trans hf) |>.symm
  obtain rfl : fn = Tryz.f3 := (Option.some.inj (Tryz.func3.symm.trans hfn)).symm
  refine ⟨by kernel_rfl, fun j t ht => ?_⟩
  rw [Tryz.params3] at ht
  obtain rfl : t = 22 := by simpa using Array.mem_of_getElem? ht
  exact (show Tryz.prog.wantsStandIn 22 = false by kernel_rfl)

/-- ████ THE STATEMENT ████ -/
theorem never_holds : Rows.FnNeverCardSaid :=
  ⟨Claim7.tied_new_at .later [.sentinel, .sentinel, .sentinel] true (Claim7.new_of_sixth neverSaid _ _ rfl ⟨rfl, rfl⟩ (by kernel_rfl) rfl plainNever) (by kernel_rfl), (fun D hD => by cases hD), fnNever_row_tie, (fun h => by cases h), (by kernel_rfl)⟩
end Go.Proofs.YtmjjigdnoiphbaaGreatDoor
