import Derived.Test.YtmjjigdnoiphbaaDoorL5
import Derived.Deep.RegionHeld3
/-
  impl: a heap's pop: the exchange of two ways.
-/
namespace Go.Proofs.YtmjjigdnoiphbaaDoor
open Go.RowKit Go.Deep Go.Maps
set_option linter.unusedVariables false

/-- a region of a code, by its number -/
def regionOf (k : Nat) : Code → Option Code
  | .region id ops d => if id = k then some (.region id ops d) else none
  | .seq a b => match regionOf k a with
    | some c => some c
    | none => regionOf k b
  | .block _ c => regionOf k c
  | .scope c => regionOf k c
  | .loop c => regionOf k c
  | .cond _ a b => match regionOf k a with
    | some c => some c
    | none => regionOf k b
  | _ => none
noncomputable def popX : Code := ((Tryd.f98.body.bind (regionOf 8)).getD .skip)

set_option maxRecDepth 100000 in
set_option maxHeartbeats 40000000 in
theorem popX_any {B : Nat} {w2 : World} {ob g cap n l p : Nat} {f' : Nat → Way} (hrow : HRow w2 B g cap n f') (hvar : w2.heap[ob]? = some (.cells #[.slice (some ⟨g, 0, none⟩) n cap, beforeV] 150 (0, 0))) (hl1 : l < n) (hpn2 : p < n) (hplt : p < l) (hn : n ≤ 90000000000)
    (c1 c2 c3 c4 c7 c8 c9 c10 c11 c12 c13 c14 c15 c16 c17 c18 c19 c20 c21 c22 c23 c24 c25 c26 c27 c28 c29 c30 c31 c32 c33 c34 c35 c36 c37 c38 c39 c40 c41 c42 c43 c44 c45 c46 c47 c48 c49 c50 c51 c52 c53 c54 c55 c56 c57 c58 c59 c60 c61 c62 c63 c64 c65 c66 c67 c68 c69 c70 c71 c72 c73 : Value) (Q : Exit → Act → World → Prop) (hQ : ∀ (u47 u48 u49 u50 u51 u52 u53 u54 u55 u56 u57 u58 u59 u60 u61 u62 u63 u64 u65 u66 u67 u68 u69 u70 u71 u72 : Value), Q .normal ⟨(List.toArray (.pointer (some ⟨ob, 0, none⟩) :: c1 :: c2 :: c3 :: c4 :: .int .i64 (p : Int) :: .int .i64 (l : Int) :: c7 :: c8 :: c9 :: c10 :: c11 :: c12 :: c13 :: c14 :: c15 :: c16 :: c17 :: c18 :: c19 :: c20 :: c21 :: c22 :: c23 :: c24 :: c25 :: c26 :: c27 :: c28 :: c29 :: c30 :: c31 :: c32 :: c33 :: c34 :: c35 :: c36 :: c37 :: c38 :: c39 :: c40 :: c41 :: c42 :: c43 :: c44 :: c45 :: c46 :: u47 :: u48 :: u49 :: u50 :: u51 :: u52 :: u53 :: u54 :: u55 :: u56 :: u57 :: u58 :: u59 :: u60 :: u61 :: u62 :: u63 :: u64 :: u65 :: u66 :: u67 :: u68 :: u69 :: u70 :: u71 :: u72 :: c73 :: [])), []⟩ (set7 (set7 w2 g (p * 7) (f' l)) g (l * 7) (f' p)).drew) :
    Code.wp Tryd.prog popX (NoPanic Q) ⟨(List.toArray (.pointer (some ⟨ob, 0, none⟩) :: c1 :: c2 :: c3 :: c4 :: .int .i64 (p : Int) :: .int .i64 (l : Int) :: c7 :: c8 :: c9 :: c10 :: c11 :: c12 :: c13 :: c14 :: c15 :: c16 :: c17 :: c18 :: c19 :: c20 :: c21 :: c22 :: c23 :: c24 :: c25 :: c26 :: c27 :: c28 :: c29 :: c30 :: c31 :: c32 :: c33 :: c34 :: c35 :: c36 :: c37 :: c38 :: c39 :: c40 :: c41 :: c42 :: c43 :: c44 :: c45 :: c46 :: c47 :: c48 :: c49 :: c50 :: c51 :: c52 :: c53 :: c54 :: c55 :: c56 :: c57 :: c58 :: c59 :: c60 :: c61 :: c62 :: c63 :: c64 :: c65 :: c66 :: c67 :: c68 :: c69 :: c70 :: c71 :: c72 :: c73 :: [])), []⟩ w2 := by
  have hli : (l : Int) < (n : Int) := by omega
  have hpi : (p : Int) < (n : Int) := by omega
  obtain ⟨x0, x1, x2, x3, x4, x5, x6, xf⟩ := hrow.cells hl1
  obtain ⟨y0, y1, y2, y3, y4, y5, y6, yf⟩ := hrow.cells hpn2
  have b0 : w2.cell? ⟨ob, 0, none⟩ = some (.slice (some ⟨g, 0, none⟩) n cap) := by rw [cell_of_row w2 ob 0 _ _ (0, 0) hvar]; rfl
  have u0 := xf (l * 7)
  have u1 := xf (l * 7 + 1)
  have u2 := xf (l * 7 + 2)
  have u3 := xf (l * 7 + 3)
  have u4 := xf (l * 7 + 4)
  have u5 := xf (l * 7 + 5)
  have u6 := xf (l * 7 + 6)
  have v0 := xf (p * 7)
  have v1 := xf (p * 7 + 1)
  have v2 := xf (p * 7 + 2)
  have v3 := xf (p * 7 + 3)
  have v4 := xf (p * 7 + 4)
  have v5 := xf (p * 7 + 5)
  have v6 := xf (p * 7 + 6)
  have HQ := hide hQ
  clear xf yf hQ hrow hvar hl1 hpn2 hn
  conv => arg 2; whnf
  go_big_region
  exact HQ.out _ _ _ _ _ _ _ _ _ _ _ _ _ _ _ _ _ _ _ _ _ _ _ _ _ _
end Go.Proofs.YtmjjigdnoiphbaaDoor

/-
  impl: a heap's pop.
-/
namespace Go.Proofs.YtmjjigdnoiphbaaDoor
open Go.RowKit Go.Deep Go.Maps
set_option linter.unusedVariables false

theorem HRow.less {w : World} {B g cap n : Nat} {f : Nat → Way} (h : HRow w B g cap (n + 1) f) : HRow w B g cap n f := by
  obtain ⟨cur, h1, h2, h3⟩ := h.ex
  exact ⟨h.lo, by have := h.le; omega, h.max, cur, h1, h2, fun i hi => h3 i (by omega)⟩

set_option maxRecDepth 4000 in
set_option maxHeartbeats 40000000 in
theorem hpop_any {B : Nat} {w : World} {ob : Nat} {g cap n : Nat} {f : Nat → Way} (h : HeapAt B w ob (.slice (some ⟨g, 0, none⟩) (n + 1) cap) (n + 1) f) (hr : HRow w B g cap (n + 1) f) (hk : HeapOk wkey f (n + 1)) (hn : n ≤ 90000000000) :
    Calls Tryd.prog 98 #[.pointer (some ⟨ob, 0, none⟩)] w fun e w' => e = .returned (wv (f 0)) ∧ ∃ f', HeapAt B w' ob (.slice (some ⟨g, 0, none⟩) n cap) n f' ∧ HRow w' B g cap n f' ∧ HeapOk wkey f' n ∧ (∀ y, Has f (n + 1) y ↔ y = f 0 ∨ Has f' n y) ∧ Chg (fun q => q = ob ∨ q = g) w w' := by
  have HH := hide h
  have HR := hide hr
  have HK := hide hk
  have hob : ob < w.heap.size := (Array.getElem?_eq_some_iff.1 h.var).1
  have hobB := h.lo
  have hgB := hr.lo
  have hcap := hr.le
  have hne : g ≠ ob := by omega
  have b0 : w.cell? ⟨ob, 0, none⟩ = some (.slice (some ⟨g, 0, none⟩) (n + 1) cap) := by rw [cell_of_row w ob 0 _ _ (0, 0) h.var]; rfl
  have bf : w.frozen? ⟨ob, 0, none⟩ = false := frozen_of_row w ob 0 _ _ h.var
  obtain ⟨x0, x1, x2, x3, x4, x5, x6, xf⟩ := hr.cells (i := 0) (by omega)
  obtain ⟨y0, y1, y2, y3, y4, y5, y6, yf⟩ := hr.cells (i := n) (by omega)
  simp only [Nat.zero_mul, Nat.zero_add] at x0 x1 x2 x3 x4 x5 x6
  have g0 := xf 0
  have g1 := xf 1
  have g2 := xf 2
  have g3 := xf 3
  have g4 := xf 4
  have g5 := xf 5
  have g6 := xf 6
  have hw1 : wrap64 (((n + 1 : Nat) : Int) - 1) = (n : Int) := by rw [w64] <;> omega
  have hci : (n : Int) < ((n + 1 : Nat) : Int) := by omega
  have hci' : (n : Int) < (n : Int) + 1 := by omega
  have hcap' : (n : Int) ≤ (cap : Int) := by omega
  clear h hr hk xf yf
  go_enter Tryd.func98, Tryd.ntmps98
  go_wp2_with fail
  have hw3 : wrap64 ((n : Int) + 1 - 1) = (n : Int) := by rw [w64] <;> omega
  have hw2 : ((n : Int) + 1 - 1) = (n : Int) := by omega
  have hgl : g < w.heap.size := HR.out.lt
  obtain ⟨V, hV⟩ : ∃ V, V = w.alloc (.cells #[.int .i8 0, .int .i8 0, .int .i8 0, .int .i8 0, .int .i8 0, .int .i64 0, .int .i64 0] 99) := ⟨_, rfl⟩
  rw [← hV]
  have HBV : Hid (Below w.heap.size w V) := by rw [hV]; exact Joins.below_alloc1 _ _
  have HRZ : Hid (V.heap[w.heap.size]? = some (.cells #[.int .i8 0, .int .i8 0, .int .i8 0, .int .i8 0, .int .i8 0, .int .i64 0, .int .i64 0] 99 (0, 0))) := by rw [hV]; exact heap_alloc_new _ _
  have hVs : w.heap.size < V.heap.size := (Array.getElem?_eq_some_iff.1 HRZ.out).1
  clear hV
  replace b0 := cell_later HBV.out b0
  replace x0 := cell_later HBV.out x0
  replace x1 := cell_later HBV.out x1
  replace x2 := cell_later HBV.out x2
  replace x3 := cell_later HBV.out x3
  replace x4 := cell_later HBV.out x4
  replace x5 := cell_later HBV.out x5
  replace x6 := cell_later HBV.out x6
  replace y0 := cell_later HBV.out y0
  replace y1 := cell_later HBV.out y1
  replace y2 := cell_later HBV.out y2
  replace y3 := cell_later HBV.out y3
  replace y4 := cell_later HBV.out y4
  replace y5 := cell_later HBV.out y5
  replace y6 := cell_later HBV.out y6
  have b0' := cell_later (Joins.below_alloc1 V (.cells #[.int .i8 0, .int .i8 0, .int .i8 0, .int .i8 0, .int .i8 0, .int .i64 0, .int .i64 0] 99)) b0
  have x0' := cell_later (Joins.below_alloc1 V (.cells #[.int .i8 0, .int .i8 0, .int .i8 0, .int .i8 0, .int .i8 0, .int .i64 0, .int .i64 0] 99)) x0
  have x1' := cell_later (Joins.below_alloc1 V (.cells #[.int .i8 0, .int .i8 0, .int .i8 0, .int .i8 0, .int .i8 0, .int .i64 0, .int .i64 0] 99)) x1
  have x2' := cell_later (Joins.below_alloc1 V (.cells #[.int .i8 0, .int .i8 0, .int .i8 0, .int .i8 0, .int .i8 0, .int .i64 0, .int .i64 0] 99)) x2
  have x3' := cell_later (Joins.below_alloc1 V (.cells #[.int .i8 0, .int .i8 0, .int .i8 0, .int .i8 0, .int .i8 0, .int .i64 0, .int .i64 0] 99)) x3
  have x4' := cell_later (Joins.below_alloc1 V (.cells #[.int .i8 0, .int .i8 0, .int .i8 0, .int .i8 0, .int .i8 0, .int .i64 0, .int .i64 0] 99)) x4
  have x5' := cell_later (Joins.below_alloc1 V (.cells #[.int .i8 0, .int .i8 0, .int .i8 0, .int .i8 0, .int .i8 0, .int .i64 0, .int .i64 0] 99)) x5
  have x6' := cell_later (Joins.below_alloc1 V (.cells #[.int .i8 0, .int .i8 0, .int .i8 0, .int .i8 0, .int .i8 0, .int .i64 0, .int .i64 0] 99)) x6
  have y0' := cell_later (Joins.below_alloc1 V (.cells #[.int .i8 0, .int .i8 0, .int .i8 0, .int .i8 0, .int .i8 0, .int .i64 0, .int .i64 0] 99)) y0
  have y1' := cell_later (Joins.below_alloc1 V (.cells #[.int .i8 0, .int .i8 0, .int .i8 0, .int .i8 0, .int .i8 0, .int .i64 0, .int .i64 0] 99)) y1
  have y2' := cell_later (Joins.below_alloc1 V (.cells #[.int .i8 0, .int .i8 0, .int .i8 0, .int .i8 0, .int .i8 0, .int .i64 0, .int .i64 0] 99)) y2
  have y3' := cell_later (Joins.below_alloc1 V (.cells #[.int .i8 0, .int .i8 0, .int .i8 0, .int .i8 0, .int .i8 0, .int .i64 0, .int .i64 0] 99)) y3
  have y4' := cell_later (Joins.below_alloc1 V (.cells #[.int .i8 0, .int .i8 0, .int .i8 0, .int .i8 0, .int .i8 0, .int .i64 0, .int .i64 0] 99)) y4
  have y5' := cell_later (Joins.below_alloc1 V (.cells #[.int .i8 0, .int .i8 0, .int .i8 0, .int .i8 0, .int .i8 0, .int .i64 0, .int .i64 0] 99)) y5
  have y6' := cell_later (Joins.below_alloc1 V (.cells #[.int .i8 0, .int .i8 0, .int .i8 0, .int .i8 0, .int .i8 0, .int .i64 0, .int .i64 0] 99)) y6
  have b0'' := cell_later (Joins.below_alloc1 V (.cells #[.int .i8 ((f 0).1 0), .int .i8 ((f 0).1 1), .int .i8 ((f 0).1 2), .int .i8 ((f 0).1 3), .int .i8 ((f 0).1 4), .int .i64 (f 0).2.1, .int .i64 ((f 0).2.2 : Int)] 99)) b0
  have n1 := World.new_ne V ⟨ob, 0, none⟩ b0
  have n2 := World.new_ne V ⟨g, 0, none⟩ x0
  clear g0 g1 g2 g3 g4 g5 g6 bf
  go_region
  have hb1 : Below V.heap.size V (V.alloc (.cells #[.int .i8 ((f 0).1 0), .int .i8 ((f 0).1 1), .int .i8 ((f 0).1 2), .int .i8 ((f 0).1 3), .int .i8 ((f 0).1 4), .int .i64 (f 0).2.1, .int .i64 ((f 0).2.2 : Int)] 99)).drew := (Joins.below_alloc1 V _).drew
  have HTOP : Hid ((V.alloc (.cells #[.int .i8 ((f 0).1 0), .int .i8 ((f 0).1 1), .int .i8 ((f 0).1 2), .int .i8 ((f 0).1 3), .int .i8 ((f 0).1 4), .int .i64 (f 0).2.1, .int .i64 ((f 0).2.2 : Int)] 99)).drew.heap[V.heap.size]? = some (.cells #[.int .i8 ((f 0).1 0), .int .i8 ((f 0).1 1), .int .i8 ((f 0).1 2), .int .i8 ((f 0).1 3), .int .i8 ((f 0).1 4), .int .i64 (f 0).2.1, .int .i64 ((f 0).2.2 : Int)] 99 (0, 0))) := heap_alloc_new V _
  have HB1 : Hid (Below w.heap.size w (V.alloc (.cells #[.int .i8 ((f 0).1 0), .int .i8 ((f 0).1 1), .int .i8 ((f 0).1 2), .int .i8 ((f 0).1 3), .int .i8 ((f 0).1 4), .int .i64 (f 0).2.1, .int .i64 ((f 0).2.2 : Int)] 99)).drew) := below_tail HBV.out hb1
  have HRZ1 := hide (blockLater hb1 HRZ.out)
  clear b0' x0' x1' x2' x3' x4' x5' x6' y0' y1' y2' y3' y4' y5' y6' b0''
  replace b0 := cell_later hb1 b0
  replace x0 := cell_later hb1 x0
  replace x1 := cell_later hb1 x1
  replace x2 := cell_later hb1 x2
  replace x3 := cell_later hb1 x3
  replace x4 := cell_later hb1 x4
  replace x5 := cell_later hb1 x5
  replace x6 := cell_later hb1 x6
  replace y0 := cell_later hb1 y0
  replace y1 := cell_later hb1 y1
  replace y2 := cell_later hb1 y2
  replace y3 := cell_later hb1 y3
  replace y4 := cell_later hb1 y4
  replace y5 := cell_later hb1 y5
  replace y6 := cell_later hb1 y6
  generalize (V.alloc (.cells #[.int .i8 ((f 0).1 0), .int .i8 ((f 0).1 1), .int .i8 ((f 0).1 2), .int .i8 ((f 0).1 3), .int .i8 ((f 0).1 4), .int .i64 (f 0).2.1, .int .i64 ((f 0).2.2 : Int)] 99)).drew = W1 at *
  have HR1 := hide (HR.out.below HB1.out)
  have HV1 := hide (blockLater HB1.out HH.out.var)
  have hgf := (HR1.out.cells (i := 0) (by omega)).2.2.2.2.2.2.2
  have g0 := hgf 0
  have g1 := hgf 1
  have g2 := hgf 2
  have g3 := hgf 3
  have g4 := hgf 4
  have g5 := hgf 5
  have g6 := hgf 6
  clear hb1 hgf n1 n2
  go_wp2_with fail
  go_region
  have HRW2 : Hid (HRow (set7 W1 g (0 * 7) (f n)).drew B g cap n (updA f 0 (f n))) := ((HR1.out.set (i := 0) (by omega) (f n)).below (Joins.below_draws _ _ 1)).less
  have HV2 : Hid ((set7 W1 g (0 * 7) (f n)).drew.heap[ob]? = some (.cells #[.slice (some ⟨g, 0, none⟩) (n + 1) cap, beforeV] 150 (0, 0))) := blockLater (Joins.below_draws _ _ 1) ((set7_far _ g _ _ (Ne.symm hne)).trans HV1.out)
  have HC2 : Hid (Chg (fun q => q = ob ∨ q = g) w (set7 W1 g (0 * 7) (f n)).drew) := (set7_chg (Chg.of_below HB1.out) (Or.inr rfl) _ _).trans (Chg.of_below (Joins.below_draws _ _ 1))
  have HT2 : Hid ((set7 W1 g (0 * 7) (f n)).drew.heap[V.heap.size]? = _) := blockLater (Joins.below_draws _ _ 1) ((set7_far _ g _ _ (by omega)).trans HTOP.out)
  have HZ2 : Hid ((set7 W1 g (0 * 7) (f n)).drew.heap[w.heap.size]? = _) := blockLater (Joins.below_draws _ _ 1) ((set7_far _ g _ _ (by omega)).trans HRZ1.out)
  change Exit.then _ _ _ _ (set7 W1 g (0 * 7) (f n)).drew
  generalize (set7 W1 g (0 * 7) (f n)).drew = W2 at *
  clear b0 x0 x1 x2 x3 x4 x5 x6 y0 y1 y2 y3 y4 y5 y6 g0 g1 g2 g3 g4 g5 g6
  have b0 : W2.cell? ⟨ob, 0, none⟩ = some (.slice (some ⟨g, 0, none⟩) (n + 1) cap) := by rw [cell_of_row W2 ob 0 _ _ (0, 0) HV2.out]; rfl
  have bf : W2.frozen? ⟨ob, 0, none⟩ = false := frozen_of_row W2 ob 0 _ _ HV2.out
  go_wp2_with fail
  first | go_region | skip
  have HV3 : Hid ((W2.setCell ⟨ob, 0, none⟩ (.slice (some ⟨g, 0, none⟩) n cap)).heap[ob]? = some (.cells #[.slice (some ⟨g, 0, none⟩) n cap, beforeV] 150 (0, 0))) := by
    have := Joins.block_setCell (i := 0) HV2.out (.slice (some ⟨g, 0, none⟩) n cap)
    simpa [Hid] using this
  have HR3 : Hid (HRow (W2.setCell ⟨ob, 0, none⟩ (.slice (some ⟨g, 0, none⟩) n cap)) B g cap n (updA f 0 (f n))) := HRW2.out.kept (Below.heap_setCell _ _ _ _ hne)
  have HC3 : Hid (Chg (fun q => q = ob ∨ q = g) w (W2.setCell ⟨ob, 0, none⟩ (.slice (some ⟨g, 0, none⟩) n cap))) := HC2.out.setCell (p := ⟨ob, 0, none⟩) (Or.inl rfl) _
  have HT3 := hide ((Below.heap_setCell W2 ⟨ob, 0, none⟩ (.slice (some ⟨g, 0, none⟩) n cap) V.heap.size (by show V.heap.size ≠ ob; omega)).trans HT2.out)
  have HZ3 := hide ((Below.heap_setCell W2 ⟨ob, 0, none⟩ (.slice (some ⟨g, 0, none⟩) n cap) w.heap.size (by show w.heap.size ≠ ob; omega)).trans HZ2.out)
  generalize W2.setCell ⟨ob, 0, none⟩ (.slice (some ⟨g, 0, none⟩) n cap) = W3 at *
  have HDN := hide HK.out.popped
  have HHS : Hid (∀ y, Has f (n + 1) y ↔ y = f 0 ∨ Has (updA f 0 (f n)) n y) := fun y => has_popped
  have HOK3 : Hid (WaysOk (updA f 0 (f n)) n) := fun i hi => by
    unfold updA
    split
    · exact HH.out.ok n (by omega)
    · exact HH.out.ok i (by omega)
  have hw3s : V.heap.size < W3.heap.size := (Array.getElem?_eq_some_iff.1 HT3.out).1
  generalize updA f 0 (f n) = f0 at *
  clear b0 bf
  generalize Value.agg #[.int .i8 ((f 0).1 0), .int .i8 ((f 0).1 1), .int .i8 ((f 0).1 2), .int .i8 ((f 0).1 3), .int .i8 ((f 0).1 4), .int .i64 (f 0).2.1, .int .i64 ((f 0).2.2 : Int)] = gA
  generalize Value.agg #[.int .i8 ((f n).1 0), .int .i8 ((f n).1 1), .int .i8 ((f n).1 2), .int .i8 ((f n).1 3), .int .i8 ((f n).1 4), .int .i64 (f n).2.1, .int .i64 ((f n).2.2 : Int)] = gB
  generalize (Value.slice (some ⟨g, 0, none⟩) (n + 1) cap) = gC
  generalize (Value.pointer (some ⟨g, n * 7, none⟩)) = gD
  generalize (Value.int .i64 ((n : Int) + 1)) = gE
  obtain ⟨gP, eP⟩ : ∃ gP, gP = Value.pointer (some ⟨ob, 0, none⟩) := ⟨_, rfl⟩
  rw (occs := .neg [1]) [← eP]
  clear eP
  generalize (Value.pointer (some ⟨g, 0, none⟩)) = gG
  generalize (Value.slice (some ⟨g, 0, none⟩) n cap) = gS
  generalize (Value.int .i64 (n : Int)) = gN
  go_loopw [5] (fun u wr => ∃ (p : Nat) (f' : Nat → Way), u = .int .i64 p ∧ p ≤ n ∧ DownInv wkey f' n p ∧ (∀ y, Has f (n + 1) y ↔ y = f 0 ∨ Has f' n y) ∧ HRow wr B g cap n f' ∧ WaysOk f' n ∧ wr.heap[ob]? = some (.cells #[.slice (some ⟨g, 0, none⟩) n cap, beforeV] 150 (0, 0)) ∧ Chg (fun q => q = g) W3 wr) (fun u _ => n - (intOf u).toNat)
  case atStart => exact ⟨0, f0, rfl, Nat.zero_le _, HDN.out, HHS.out, HR3.out, HOK3.out, HV3.out, Chg.refl _ _⟩
  case round =>
    obtain ⟨p, f', rfl, hpn, hdn, hhas, hrow, hwok, hvar, hchg⟩ := hrel
    have HDN' := hide hdn
    have HHAS' := hide hhas
    have HROWr := hide hrow
    have HWOK := hide hwok
    have HVARr := hide hvar
    have HCHr := hide hchg
    clear hdn hhas hrow hwok hvar hchg
    go_wp2_with fail
    refine (leastOf_any ob p B g cap n f' wr HVARr.out HROWr.out HWOK.out (by omega) (by omega)).mono ?_
    rintro e w2 ⟨l, rfl, hlo, hb2⟩
    have HROW2 := hide (HROWr.out.below hb2)
    have HVAR2 := hide (blockLater hb2 HVARr.out)
    have HCH2 : Hid (Chg (fun q => q = g) W3 w2) := HCHr.out.trans (Chg.of_below hb2)
    have HTOP2 := hide ((HCH2.out.block V.heap.size hw3s (by omega)).trans HT3.out)
    have HRES2 := hide ((HCH2.out.block w.heap.size (by omega) (by omega)).trans HZ3.out)
    have HLO := hide hlo
    clear hb2 hlo
    by_cases hlp : l = p
    · subst hlp
      have hlb : ((l : Int) == (l : Int)) = true := by simp
      obtain ⟨t0, t1, t2, t3, t4, t5, t6⟩ := cells7 HTOP2.out
      obtain ⟨r0, r1, r2, r3, r4, r5, r6⟩ := cells7 HRES2.out
      have rf : ∀ o, w2.frozen? ⟨w.heap.size, o, none⟩ = false := fun o => frozen_of_row w2 _ o _ _ HRES2.out
      have f0' := rf 0
      have f1' := rf 1
      have f2' := rf 2
      have f3' := rf 3
      have f4' := rf 4
      have f5' := rf 5
      have f6' := rf 6
      clear rf
      go_wp2_with fail
      refine bodyPost_ret ?_ rfl ⟨rfl, f', ?_⟩
      · simp [results, Tryd.results98, go_sem, wv, wc7, r0, r1, r2, r3, r4, r5, r6]
      · have hfar : ∀ q, q ≠ w.heap.size → (((((((w2.setCell ⟨w.heap.size, 0, none⟩ (.int .i8 ((f 0).1 0))).setCell ⟨w.heap.size, 1, none⟩ (.int .i8 ((f 0).1 1))).setCell ⟨w.heap.size, 2, none⟩ (.int .i8 ((f 0).1 2))).setCell ⟨w.heap.size, 3, none⟩ (.int .i8 ((f 0).1 3))).setCell ⟨w.heap.size, 4, none⟩ (.int .i8 ((f 0).1 4))).setCell ⟨w.heap.size, 5, none⟩ (.int .i64 (f 0).2.1)).setCell ⟨w.heap.size, 6, none⟩ (.int .i64 ((f 0).2.2 : Int))).heap[q]? = w2.heap[q]? := fun q hq => by
          rw [Below.heap_setCell _ _ _ _ hq, Below.heap_setCell _ _ _ _ hq, Below.heap_setCell _ _ _ _ hq, Below.heap_setCell _ _ _ _ hq, Below.heap_setCell _ _ _ _ hq, Below.heap_setCell _ _ _ _ hq, Below.heap_setCell _ _ _ _ hq]
        have hrow3 := HROW2.out.kept (hfar g (by omega))
        refine ⟨⟨(hfar ob (by omega)).trans HVAR2.out, Or.inr ⟨g, cap, rfl, hrow3⟩, hobB, HWOK.out⟩, hrow3, HDN'.out.done HLO.out, HHAS'.out, ?_⟩
        have hC2 : Chg (fun q => q = ob ∨ q = g ∨ q = w.heap.size) w w2 := (HC3.out.mono (fun q e => by rcases e with e | e <;> simp [e])).trans (HCH2.out.mono (fun q e => by simp [e]))
        have hC : Chg (fun q => q = ob ∨ q = g ∨ q = w.heap.size) w _ := ((((((hC2.setCell (p := ⟨w.heap.size, 0, none⟩) (Or.inr (Or.inr rfl)) (.int .i8 ((f 0).1 0))).setCell (p := ⟨w.heap.size, 1, none⟩) (Or.inr (Or.inr rfl)) (.int .i8 ((f 0).1 1))).setCell (p := ⟨w.heap.size, 2, none⟩) (Or.inr (Or.inr rfl)) (.int .i8 ((f 0).1 2))).setCell (p := ⟨w.heap.size, 3, none⟩) (Or.inr (Or.inr rfl)) (.int .i8 ((f 0).1 3))).setCell (p := ⟨w.heap.size, 4, none⟩) (Or.inr (Or.inr rfl)) (.int .i8 ((f 0).1 4))).setCell (p := ⟨w.heap.size, 5, none⟩) (Or.inr (Or.inr rfl)) (.int .i64 (f 0).2.1)).setCell (p := ⟨w.heap.size, 6, none⟩) (Or.inr (Or.inr rfl)) (.int .i64 ((f 0).2.2 : Int))
        exact ⟨hC.os, hC.tape, hC.output, hC.size, fun q hq hq2 => hC.block q hq (fun e => by
          rcases e with e | e | e
          · exact hq2 (Or.inl e)
          · exact hq2 (Or.inr e)
          · omega)⟩
    · have hlb : ((l : Int) == (p : Int)) = false := by rw [beq_eq_false_iff_ne]; omega
      obtain ⟨hl1, hl2, hl3, hl4⟩ : l < n ∧ 0 < l ∧ (l - 1) / 2 = p ∧ wkey (f' l) < wkey (f' p) := by
        rcases HLO.out.at_ with e | e
        · exact absurd e hlp
        · exact e
      have hpn2 : p < n := by omega
      have hpl : p ≠ l := by omega
      have hli : (l : Int) < (n : Int) := by omega
      have hpi : (p : Int) < (n : Int) := by omega
      have HL4 := hide hl4
      have hplt : p < l := by omega
      clear hl4 hl3
      have HLP := hide hlp
      go_wp2_with fail
      refine wp_region_noPanic (popX_any HROW2.out HVAR2.out hl1 hpn2 hplt hn _ _ _ _ _ _ _ _ _ _ _ _ _ _ _ _ _ _ _ _ _ _ _ _ _ _ _ _ _ _ _ _ _ _ _ _ _ _ _ _ _ _ _ _ _ _ _ _ _ _ _ _ _ _ _ _ _ _ _ _ _ _ _ _ _ _ _ _ _ _ _ _ ?_)
      intro z47 z48 z49 z50 z51 z52 z53 z54 z55 z56 z57 z58 z59 z60 z61 z62 z63 z64 z65 z66 z67 z68 z69 z70 z71 z72
      have HROW3 : Hid (HRow (set7 (set7 w2 g (p * 7) (f' l)) g (l * 7) (f' p)).drew B g cap n (swp f' p l)) := (HROW2.out.swap hpn2 hl1 hpl).below (Joins.below_draws _ _ 1)
      have HVAR3 : Hid ((set7 (set7 w2 g (p * 7) (f' l)) g (l * 7) (f' p)).drew.heap[ob]? = some (.cells #[.slice (some ⟨g, 0, none⟩) n cap, beforeV] 150 (0, 0))) := blockLater (Joins.below_draws _ _ 1) (((set7_far _ g _ _ (Ne.symm hne)).trans (set7_far _ g _ _ (Ne.symm hne))).trans HVAR2.out)
      have HCH3 : Hid (Chg (fun q => q = g) W3 (set7 (set7 w2 g (p * 7) (f' l)) g (l * 7) (f' p)).drew) := (set7_chg (set7_chg HCH2.out rfl _ _) rfl _ _).trans (Chg.of_below (Joins.below_draws _ _ 1))
      generalize (set7 (set7 w2 g (p * 7) (f' l)) g (l * 7) (f' p)).drew = W4 at *
      go_wp2_with fail
      go_roundw
      case rel => exact ⟨l, swp f' p l, rfl, by omega, HDN'.out.down HLO.out HLP.out, fun y => (HHAS'.out y).trans (or_congr Iff.rfl (has_swp hpn2 hl1).symm), HROW3.out, HWOK.out.swp hpn2 hl1, HVAR3.out, HCH3.out⟩
      case measure => simp [intOf]; omega
end Go.Proofs.YtmjjigdnoiphbaaDoor
