/-
  spec.States.
-/
import Derived.Test.YtmjjigdnoiphbaaDs0
import Derived.Test.YtmjjigdnoiphbaaJ7
namespace Go.Proofs.Ytmjjigdnoiphbaa
open Go.RowKit Go.Deep
set_option linter.unusedVariables false

/-- a state that was drawn, in blocks of its own -/
structure DrawnAt (w w' : World) (L : Lies) (st : St) : Prop where
  own : OwnS w' L st
  rc : st.1.length ≤ L.rc
  tc : st.2.1.length ≤ L.tc
  nc : st.2.2.length ≤ L.nc
  pc : ∀ i, i < st.2.1.length → (tPath st.2.1 i).length ≤ L.pc i
  new : ∀ k, L.F st.2.1.length k → w.heap.size ≤ k
  below : Below w.heap.size w w'
def stD (B : List Int) : St := (stateD B (0, 0)).1
theorem stD_drawn (B : List Int) : Drawn (stD B) := (stateD_drawn B (0, 0)).1
theorem stD_paths (B : List Int) : ∀ i, i < (stD B).2.1.length → (tPath (stD B).2.1 i).length ≤ 4611686018427387904 := fun i hi => by
  have := (stD_drawn B).few.paths i hi
  omega

set_option maxHeartbeats 1000000 in
theorem states_f {w : World} {a : Option Addr} {B : List Int} {q : Nat} (h : BytesF w a B) (ha : ∀ b off s, a = some ⟨b, off, s⟩ → 0 < B.length → b < w.heap.size) :
    Calls Try.prog 12 #[.slice a B.length q] w fun e w' => ∃ L : Lies, e = .returned (L.val (stD B)) ∧ DrawnAt w w' L (stD B) := by
  obtain ⟨c0, hc0⟩ : ∃ c0 : Cu, c0 = (0, 0) := ⟨_, rfl⟩
  have hS : stD B = (stateD B c0).1 := by rw [hc0, stD]
  obtain ⟨W, hW⟩ : ∃ W, W = (w.alloc (.cells #[.slice none 0 0, .slice none 0 0, .slice none 0 0] 26)).alloc (.cells #[.slice a B.length q, .int .i64 0, .int .u64 0] 57) := ⟨_, rfl⟩
  have hbW : Below w.heap.size w W := by rw [hW]; exact Joins.below_alloc2 _ _ _
  have hzW : W.heap.size = w.heap.size + 2 := by rw [hW]; simp
  have hR0 : W.heap[w.heap.size]? = some (.cells #[.slice none 0 0, .slice none 0 0, .slice none 0 0] 26 (0, 0)) := by rw [hW]; exact blockLater (Joins.below_alloc1 _ _) (heap_alloc_new w _)
  have hcu : CurF W (w.heap.size + 1) a B q c0 := by
    rw [hc0]
    exact ⟨by rw [hW]; exact heap_alloc2_new _ _ _, h.below hbW, fun b off s e h0 => by have := ha b off s e h0; omega⟩
  have hst := hide (state_f hcu (by rw [hc0]; exact Nat.zero_le _))
  have HW := hide hW
  rw [hS]
  clear h ha hcu hS hc0 hW
  generalize stateD B c0 = SD at *
  go_enter Try.func12, Try.ntmps12
  go_wp2_with fail
  rw [← HW.out]
  refine hst.out.mono ?_
  rintro e w1 ⟨L, rfl, h1, h2, h3, h4, h5, h6, h7, h8⟩
  have hz1 : w.heap.size < w1.heap.size := by have := h8.size; omega
  have hR1 := (h8.block w.heap.size (by omega) (by omega)).trans hR0
  obtain ⟨k0, k1, k2, kf⟩ := block3 hR1
  have kf0 := kf 0
  have kf1 := kf 1
  have kf2 := kf 2
  have HR1 := hide hR1
  have HX : Hid (OwnS w1 L SD.1 ∧ (SD.1.1.length ≤ L.rc ∧ SD.1.2.1.length ≤ L.tc ∧ SD.1.2.2.length ≤ L.nc ∧ ∀ i, i < SD.1.2.1.length → (tPath SD.1.2.1 i).length ≤ L.pc i) ∧ (∀ k, L.F SD.1.2.1.length k → w.heap.size + 2 ≤ k) ∧ Below w.heap.size w w1) :=
    ⟨h1, ⟨h2, h3, h4, h5⟩, fun k hk => by have := h6 k hk; omega, hbW.trans (h8.below (by omega) (fun k hk e => by omega))⟩
  clear h1 h2 h3 h4 h5 h6 h7 h8 hbW hzW hR0 hR1 kf hst HW
  obtain ⟨ra, rc, ta, tc, na, nc, pa, pc⟩ := L
  obtain ⟨⟨rs, ts, ns⟩, cu⟩ := SD
  simp only [Lies.val] at HX ⊢
  go_wp2_with fail
  have hc : Chg (fun q => q = w.heap.size) w1 (((w1.setCell ⟨w.heap.size, 0, none⟩ (.slice ra rs.length rc)).setCell ⟨w.heap.size, 1, none⟩ (.slice ta ts.length tc)).setCell ⟨w.heap.size, 2, none⟩ (.slice na ns.length nc)) :=
    Chg.setCell (F := fun q => q = w.heap.size) (Chg.setCell (F := fun q => q = w.heap.size) (Chg.setCell (F := fun q => q = w.heap.size) (Chg.refl _ _) rfl _) rfl _) rfl _
  have hvar := block3_set2 (block3_set1 (block3_set0 HR1.out (.slice ra rs.length rc)) (.slice ta ts.length tc)) (.slice na ns.length nc)
  generalize ((w1.setCell ⟨w.heap.size, 0, none⟩ (.slice ra rs.length rc)).setCell ⟨w.heap.size, 1, none⟩ (.slice ta ts.length tc)).setCell ⟨w.heap.size, 2, none⟩ (.slice na ns.length nc) = WF at *
  obtain ⟨z0, z1, z2, _⟩ := block3 hvar
  obtain ⟨x1, ⟨x2, x3, x4, x5⟩, x6, x7⟩ := HX.out
  refine bodyPost_ret (v := .agg #[.slice ra rs.length rc, .slice ta ts.length tc, .slice na ns.length nc]) (by simp [results, Try.results12, go_sem, z0, z1, z2]) rfl ⟨⟨ra, rc, ta, tc, na, nc, pa, pc⟩, rfl, x1.keep hc.size (fun k hk e => hc.block k hk (by have := x6 k e; omega)), x2, x3, x4, x5, fun k e => by have := x6 k e; omega, x7.trans (hc.below (by omega) (fun k hk e => by omega))⟩
end Go.Proofs.Ytmjjigdnoiphbaa
