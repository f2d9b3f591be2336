/-
  impl: endOf, the progress behind which all have left.
-/
import Derived.Test.YtmjjigdnoiphbabSr1
namespace Go.Proofs.Ytmjjigdnoiphbab
open Go.RowKit Go.Deep Go.Maps
set_option linter.unusedVariables false

def endUp (ts : List Tr) (k : Nat) : Pr := fun i => if i < k then (tPath ts i).length + 1 else 0
def endP (st : St) : Pr := endUp st.2.1 st.2.1.length
theorem PV.endP (st : St) : PV st (endP st) := ⟨fun i hi => by unfold Go.Proofs.Ytmjjigdnoiphbab.endP endUp; rw [if_pos hi]; exact Nat.le_refl _, fun i hi => by unfold Go.Proofs.Ytmjjigdnoiphbab.endP endUp; rw [if_neg (by omega)]⟩
theorem endP_left {st : St} {i : Nat} (hi : i < st.2.1.length) : leftB st.2.1 (endP st) i = true := by
  unfold leftB endP endUp
  rw [if_pos hi]
  simp
theorem allLeft_iff {st : St} {d : Pr} (hd : PV st d) : allLeft st d = true ↔ d = endP st := by
  constructor
  · intro h
    funext i
    by_cases hi : i < st.2.1.length
    · have h1 := hd.ok i hi
      have h2 : leftB st.2.1 d i = true := by
        cases e : leftB st.2.1 d i
        · have := allUp_false (f := leftB st.2.1 d) i hi e
          unfold allLeft at h
          rw [this] at h
          exact absurd h (by decide)
        · rfl
      unfold leftB at h2
      unfold endP endUp
      rw [if_pos hi]
      have := of_decide_eq_true h2
      omega
    · rw [hd.out i (by omega)]
      unfold endP endUp
      rw [if_neg hi]
  · rintro rfl
    exact allUp_true (fun j hj => endP_left hj)
theorem endP_small {st : St} (hs : SoSt st) (i : Nat) : endP st i < 100 := (PV.endP st).lt hs i

theorem endUp_succ (ts : List Tr) (k i : Nat) : endUp ts (k + 1) i = if i = k then (tPath ts k).length + 1 else endUp ts k i := by
  unfold endUp
  by_cases h : i = k
  · subst h; simp
  · rw [if_neg h]
    by_cases h2 : i < k
    · rw [if_pos h2, if_pos (by omega)]
    · rw [if_neg h2, if_neg (by omega)]

set_option maxRecDepth 4000 in
set_option maxHeartbeats 4000000 in
theorem endOf_any (v : Value) (st : St) (w : World) (h : StateAt w v st) (hs : SoSt st) :
    Calls Try.prog 58 #[v] w fun e w' => e = .returned (pv (endP st)) ∧ Below w.heap.size w w' := by
  have HST := hide h
  have HSO := hide hs
  obtain ⟨a1, q1, a2, q2, a3, q3, rfl⟩ := h.form
  obtain ⟨l1, l2, l3, l4⟩ := hs.lens
  clear h hs l4
  go_enter Try.func58, Try.ntmps58
  go_wp2_with fail
  obtain ⟨V, hV⟩ : ∃ V, V = ((w.alloc (.cells #[.slice a1 st.1.length q1, .slice a2 st.2.1.length q2, .slice a3 st.2.2.length q3] 30)).alloc (.cells (pc5 pz) 59)).alloc (.cells (pc5 pz) 59) := ⟨_, rfl⟩
  have HBV : Hid (Below w.heap.size w V) := by rw [hV]; exact Joins.below_alloc3 _ _ _ _
  have HR : Hid (V.heap[w.heap.size + 1]? = some (.cells (pc5 pz) 59 (0, 0))) := by rw [hV]; exact blockLater (Joins.below_alloc1 _ _) (heap_alloc2_new _ _ _)
  have HE : Hid (V.heap[w.heap.size + 1 + 1]? = some (.cells (pc5 pz) 59 (0, 0))) := by
    rw [hV]
    have := heap_alloc_new ((w.alloc (.cells #[.slice a1 st.1.length q1, .slice a2 st.2.1.length q2, .slice a3 st.2.2.length q3] 30)).alloc (.cells (pc5 pz) 59)) (.cells (pc5 pz) 59)
    simpa [Hid] using this
  change Code.wp _ _ _ _ (((w.alloc (.cells #[.slice a1 st.1.length q1, .slice a2 st.2.1.length q2, .slice a3 st.2.2.length q3] 30)).alloc (.cells (pc5 pz) 59)).alloc (.cells (pc5 pz) 59))
  rw [← hV]
  clear hV
  generalize hrb : w.heap.size + 1 = rb at *
  have hw1 : w.heap.size < rb := by omega
  have hrV : rb + 1 < V.heap.size := (Array.getElem?_eq_some_iff.1 HE.out).1
  clear hrb
  go_loopw [9] (fun i wr => ∃ k : Nat, k ≤ st.2.1.length ∧ i = .int .i64 k ∧ Below rb V wr ∧ wr.heap[rb]? = some (.cells (pc5 pz) 59 (0, 0)) ∧ wr.heap[rb + 1]? = some (.cells (pc5 (endUp st.2.1 k)) 59 (0, 0))) (fun i _ => st.2.1.length - (intOf i).toNat)
  case atStart => exact ⟨0, Nat.zero_le _, rfl, Below.refl _ _, HR.out, HE.out⟩
  case round =>
    obtain ⟨k, hk, rfl, hb, hR, hE⟩ := hrel
    have hbw : Below w.heap.size w wr := HBV.out.trans (hb.mono (by omega))
    by_cases hlt : k < st.2.1.length
    · obtain ⟨b, off, rfl, vp, t0, t1, hI, t2⟩ := HST.out.parts.2.1.trainAt k hlt
      obtain ⟨ap, cp, rfl, -⟩ := hI
      have g0 := cell_later hbw t0
      have g1 := cell_later hbw t1
      have g2 := cell_later hbw t2
      have h8 := (HSO.out.train k hlt).2.2.1
      have hwr : IntKind.i8.wrap (((tPath st.2.1 k).length : Int) + 1) = ((tPath st.2.1 k).length : Int) + 1 := by simp [IntKind.wrap, IntKind.bits]; omega
      have HES := hide (endUp_succ st.2.1 k)
      have hz := pc5_at (endUp st.2.1 k) k (by omega)
      have fz : wr.frozen? ⟨rb + 1, k, none⟩ = false := frozen_of_row wr _ k _ _ hE
      have ck : wr.cell? ⟨rb + 1, k, none⟩ = some (.int .i8 (endUp st.2.1 k k)) := by rw [cell_of_row wr (rb + 1) k _ _ (0, 0) hE]; exact hz
      have hsz : rb + 1 < wr.heap.size := (Array.getElem?_eq_some_iff.1 hE).1
      have HB := hide hb
      have HRR := hide hR
      have HEE := hide hE
      clear t0 t1 t2 hb hbw hR hE hz
      generalize (tPath st.2.1 k).length = ln at *
      generalize tAt st.2.1 k = xa at *
      generalize tWt st.2.1 k = ya at *
      generalize endUp st.2.1 k = eu at *
      have hk5 : k < 5 := by omega
      have hk5i : (k : Int) < 5 := by omega
      go_wp2_with fail
      go_roundw
      case rel =>
        refine ⟨k + 1, by omega, by go_num, (HB.out.setCell (p := ⟨rb + 1, k, none⟩) (by simp) _).trans ((Joins.below_alloc1 _ _).mono (by simp; omega)), ?_, ?_⟩
        · rw [(Joins.below_alloc1 _ _).block rb (by simp; omega), Below.heap_setCell _ _ _ _ (by simp)]
          exact HRR.out
        · rw [(Joins.below_alloc1 _ _).block (rb + 1) (by simp; omega)]
          have := Joins.block_setCell (i := k) HEE.out (.int .i8 ((ln : Int) + 1))
          rw [this]
          congr 2
          unfold pc5
          have E : ∀ i, endUp st.2.1 (k + 1) i = if i = k then ln + 1 else eu i := HES.out
          simp only [E]
          rcases (show k = 0 ∨ k = 1 ∨ k = 2 ∨ k = 3 ∨ k = 4 by omega) with rfl | rfl | rfl | rfl | rfl <;> simp
      case measure => simp [intOf]; omega
    · obtain rfl : k = st.2.1.length := by omega
      obtain ⟨e0, e1, e2, e3, e4⟩ := cells5 hE
      obtain ⟨r0, r1, r2, r3, r4⟩ := cells5 hR
      have rf : ∀ o, wr.frozen? ⟨rb, o, none⟩ = false := fun o => frozen_of_row wr rb o _ _ hR
      have f0 := rf 0
      have f1 := rf 1
      have f2 := rf 2
      have f3 := rf 3
      have f4 := rf 4
      clear rf
      go_wp2_with fail
      have HBW := hide hbw
      have hsz : rb < wr.heap.size := (Array.getElem?_eq_some_iff.1 hR).1
      have hlw : ∀ (x : Value) (o : Nat), Below w.heap.size w (wr.setCell ⟨rb, o, none⟩ x) := fun x o => hbw.setCell (p := ⟨rb, o, none⟩) (by simp; omega) x
      refine bodyPost_ret ?_ rfl ⟨rfl, ?_⟩
      · simp [results, Try.results58, go_sem, endP, pv, pc5, r0, r1, r2, r3, r4]
      · exact ((((hbw.setCell (p := ⟨rb, 0, none⟩) (by simp; omega) _).setCell (p := ⟨rb, 1, none⟩) (by simp; omega) _).setCell (p := ⟨rb, 2, none⟩) (by simp; omega) _).setCell (p := ⟨rb, 3, none⟩) (by simp; omega) _).setCell (p := ⟨rb, 4, none⟩) (by simp; omega) _
end Go.Proofs.Ytmjjigdnoiphbab
