/-
  impl: a heap's pop: the exchange of two ways.
-/
import Derived.Test.YtmjjigdnoiphbaaHp0
import Derived.Deep.RegionHeld3
namespace Go.Proofs.Ytmjjigdnoiphbaa
open Go.RowKit Go.Deep Go.Maps
set_option linter.unusedVariables false

/-- a region of a code, by its number -/
def regionOf (k : Nat) : Code → Option Code
  | .region id ops d => if id = k then some (.region id ops d) else none
  | .seq a b => match regionOf k a with
    | some c => some c
    | none => regionOf k b
  | .block _ c => regionOf k c
  | .scope c => regionOf k c
  | .loop c => regionOf k c
  | .cond _ a b => match regionOf k a with
    | some c => some c
    | none => regionOf k b
  | _ => none
noncomputable def popX : Code := ((Try.f90.body.bind (regionOf 8)).getD .skip)

set_option maxRecDepth 100000 in
set_option maxHeartbeats 40000000 in
theorem popX_any {B : Nat} {w2 : World} {ob g cap n l p : Nat} {f' : Nat → Way} (hrow : HRow w2 B g cap n f') (hvar : w2.heap[ob]? = some (.cells #[.slice (some ⟨g, 0, none⟩) n cap, beforeV] 111 (0, 0))) (hl1 : l < n) (hpn2 : p < n) (hplt : p < l) (hn : n ≤ 90000000000)
    (c1 c2 c3 c4 c7 c8 c9 c10 c11 c12 c13 c14 c15 c16 c17 c18 c19 c20 c21 c22 c23 c24 c25 c26 c27 c28 c29 c30 c31 c32 c33 c34 c35 c36 c37 c38 c39 c40 c41 c42 c43 c44 c45 c46 c47 c48 c49 c50 c51 c52 c53 c54 c55 c56 c57 c58 c59 c60 c61 c62 c63 c64 c65 c66 c67 c68 c69 c70 c71 c72 c73 : Value) (Q : Exit → Act → World → Prop) (hQ : ∀ (u47 u48 u49 u50 u51 u52 u53 u54 u55 u56 u57 u58 u59 u60 u61 u62 u63 u64 u65 u66 u67 u68 u69 u70 u71 u72 : Value), Q .normal ⟨(List.toArray (.pointer (some ⟨ob, 0, none⟩) :: c1 :: c2 :: c3 :: c4 :: .int .i64 (p : Int) :: .int .i64 (l : Int) :: c7 :: c8 :: c9 :: c10 :: c11 :: c12 :: c13 :: c14 :: c15 :: c16 :: c17 :: c18 :: c19 :: c20 :: c21 :: c22 :: c23 :: c24 :: c25 :: c26 :: c27 :: c28 :: c29 :: c30 :: c31 :: c32 :: c33 :: c34 :: c35 :: c36 :: c37 :: c38 :: c39 :: c40 :: c41 :: c42 :: c43 :: c44 :: c45 :: c46 :: u47 :: u48 :: u49 :: u50 :: u51 :: u52 :: u53 :: u54 :: u55 :: u56 :: u57 :: u58 :: u59 :: u60 :: u61 :: u62 :: u63 :: u64 :: u65 :: u66 :: u67 :: u68 :: u69 :: u70 :: u71 :: u72 :: c73 :: [])), []⟩ (set7 (set7 w2 g (p * 7) (f' l)) g (l * 7) (f' p)).drew) :
    Code.wp Try.prog popX (NoPanic Q) ⟨(List.toArray (.pointer (some ⟨ob, 0, none⟩) :: c1 :: c2 :: c3 :: c4 :: .int .i64 (p : Int) :: .int .i64 (l : Int) :: c7 :: c8 :: c9 :: c10 :: c11 :: c12 :: c13 :: c14 :: c15 :: c16 :: c17 :: c18 :: c19 :: c20 :: c21 :: c22 :: c23 :: c24 :: c25 :: c26 :: c27 :: c28 :: c29 :: c30 :: c31 :: c32 :: c33 :: c34 :: c35 :: c36 :: c37 :: c38 :: c39 :: c40 :: c41 :: c42 :: c43 :: c44 :: c45 :: c46 :: c47 :: c48 :: c49 :: c50 :: c51 :: c52 :: c53 :: c54 :: c55 :: c56 :: c57 :: c58 :: c59 :: c60 :: c61 :: c62 :: c63 :: c64 :: c65 :: c66 :: c67 :: c68 :: c69 :: c70 :: c71 :: c72 :: c73 :: [])), []⟩ w2 := by
  have hli : (l : Int) < (n : Int) := by omega
  have hpi : (p : Int) < (n : Int) := by omega
  obtain ⟨x0, x1, x2, x3, x4, x5, x6, xf⟩ := hrow.cells hl1
  obtain ⟨y0, y1, y2, y3, y4, y5, y6, yf⟩ := hrow.cells hpn2
  have b0 : w2.cell? ⟨ob, 0, none⟩ = some (.slice (some ⟨g, 0, none⟩) n cap) := by rw [cell_of_row w2 ob 0 _ _ (0, 0) hvar]; rfl
  have u0 := xf (l * 7)
  have u1 := xf (l * 7 + 1)
  have u2 := xf (l * 7 + 2)
  have u3 := xf (l * 7 + 3)
  have u4 := xf (l * 7 + 4)
  have u5 := xf (l * 7 + 5)
  have u6 := xf (l * 7 + 6)
  have v0 := xf (p * 7)
  have v1 := xf (p * 7 + 1)
  have v2 := xf (p * 7 + 2)
  have v3 := xf (p * 7 + 3)
  have v4 := xf (p * 7 + 4)
  have v5 := xf (p * 7 + 5)
  have v6 := xf (p * 7 + 6)
  have HQ := hide hQ
  clear xf yf hQ hrow hvar hl1 hpn2 hn
  conv => arg 2; whnf
  go_big_region
  exact HQ.out _ _ _ _ _ _ _ _ _ _ _ _ _ _ _ _ _ _ _ _ _ _ _ _ _ _
end Go.Proofs.Ytmjjigdnoiphbaa
