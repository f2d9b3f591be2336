/-
  spec: Allowed.
-/
import Derived.Test.YtmjjigdnoiphbaaSf6
namespace Go.Proofs.Ytmjjigdnoiphbaa
open Go.RowKit Go.Deep
set_option linter.unusedVariables false

theorem Chg.trans2 {F : Nat → Prop} {a b c : World} (h : Chg F a b) (hb : Below a.heap.size b c) : Chg F a c :=
  ⟨hb.os.trans h.os, hb.tape.trans h.tape, hb.output.trans h.output, Nat.le_trans h.size hb.size, fun k hk hf => (hb.block k hk).trans (h.block k hk hf)⟩
/-- a table all of whose blocks were there in w2 -/
theorem Tab.keepOld {st0 : St} {B tb cb mb : Nat} {pv' nv : Value} {w2 w w' : World} {c0 : Nat → Int} {m0 : Nat → Bool} {cost : Nat → Int} {met : Nat → Bool} (h : Tab st0 B tb cb mb pv' nv w cost met) (h0 : Tab st0 B tb cb mb pv' nv w2 c0 m0) (hb : Below w2.heap.size w w') : Tab st0 B tb cb mb pv' nv w' cost met :=
  ⟨(hb.block tb (Array.getElem?_eq_some_iff.1 h0.var).1).trans h.var, ownsRow_keep h.paths (fun k hk => hb.block k (ownBlock_lt h0.paths hk).2), ownsRow_keep h.names (fun k hk => hb.block k (ownBlock_lt h0.names hk).2), rowIs_keep h.costs (hb.block cb h0.costs.lt), rowIs_keep h.mets (hb.block mb h0.mets.lt), h.ok, h.tc, h.tm, h.cm, h.pn⟩

end Go.Proofs.Ytmjjigdnoiphbaa
