/-
  impl: standingOf, allFit.
-/
import Derived.Test.YtmjjigdnoiphbabW11
namespace Go.Proofs.Ytmjjigdnoiphbab
open Go.RowKit Go.Deep
set_option linter.unusedVariables false

theorem row40_first (w : World) (o : Obj) : ((w.alloc (.cells (Array.replicate 40 (.int .i64 0)) 110)).alloc o).rowIs w.heap.size 110 40 (fun _ => .int .i64 0) :=
  (World.rowIs_alloc w (Array.replicate 40 (.int .i64 0)) 110 (fun _ => .int .i64 0) (fun i hi => by simp at hi; simp [hi])).alloc o
theorem row40_second (w : World) (o : Obj) (ts : List Tr) : ((w.alloc o).alloc (.cells (Array.replicate 40 (.int .i64 0)) 110)).rowIs (w.heap.size + 1) 110 40 (fun j => .int .i64 (thereUp ts (j : Int) 0)) := by
  have := World.rowIs_alloc (w.alloc o) (Array.replicate 40 (.int .i64 0)) 110 (fun _ => .int .i64 0) (fun i hi => by simp at hi; simp [hi])
  simp at this
  exact this

theorem below_setRow {B : Nat} {a w : World} (h : Below B a w) {g : Nat} (hg : B ≤ g) (cs : Array Value) : Below B a (w.setRow g cs) :=
  h.trans ⟨rfl, rfl, rfl, by simp, fun k hk => by simp only [World.setRow, Array.getElem?_modify]; rw [if_neg (by omega)]⟩

theorem Try.size40 : (Try.prog.info? 110).map (·.size) = some 40 := by kernel_rfl

theorem there_step {ts : List Tr} {w : World} {b : Nat} {t : TypeId} {k : Nat} (h : w.rowIs b t 40 (fun j => .int .i64 (thereUp ts (j : Int) k))) (h0 : 0 ≤ tAt ts k) (h1 : tAt ts k < 40) :
    (w.setCell ⟨b, (tAt ts k).toNat, none⟩ (.int .i64 (thereUp ts ((tAt ts k).toNat : Int) k + 1))).rowIs b t 40 (fun j => .int .i64 (thereUp ts (j : Int) (k + 1))) :=
  (h.set (tAt ts k).toNat _).congr (fun j hj => by
    by_cases e : j = (tAt ts k).toNat
    · subst e
      rw [if_pos rfl]
      have : tAt ts k = ((tAt ts k).toNat : Int) := by omega
      simp only [thereUp]
      rw [if_pos this]
      simp
    · rw [if_neg e]
      have : ¬ tAt ts k = (j : Int) := by omega
      simp only [thereUp]
      rw [if_neg this]
      rfl)

set_option maxHeartbeats 800000 in
theorem standingOf_any (v : Value) (ts : List Tr) (w : World) (h : TrainsAt w v ts) (hl : ts.length ≤ 4611686018427387904) (ha : ∀ i, i < ts.length → 0 ≤ tAt ts i ∧ tAt ts i < 40) :
    Calls Try.prog 88 #[v] w fun e w' => ∃ A : Array Value, e = .returned (.agg A) ∧ A.size = 40 ∧ (∀ i, i < 40 → A[i]? = some (.int .i64 (there ts (i : Int)))) ∧ Below w.heap.size w w' := by
  obtain ⟨a, cap, rfl, h⟩ := h
  unfold there
  generalize ts.length = n at *
  go_enter Try.func88, Try.ntmps88
  go_wp2_with fail
  go_loopw [8] (fun i wr => ∃ k : Nat, k ≤ n ∧ i = .int .i64 k ∧ wr.rowIs (w.heap.size + 1) 110 40 (fun j => .int .i64 (thereUp ts (j : Int) k)) ∧ wr.rowIs w.heap.size 110 40 (fun _ => .int .i64 0) ∧ Below w.heap.size w wr) (fun i _ => n - (intOf i).toNat)
  case atStart => exact ⟨0, Nat.zero_le _, rfl, row40_second w _ ts, row40_first w _, Joins.below_alloc2 _ _ _⟩
  case round =>
    obtain ⟨k, hk, rfl, hrow, hrow0, hb⟩ := hrel
    by_cases hlt : k < n
    · obtain ⟨b, off, rfl, vp, hc1, hc2, ⟨ap, cp, rfl, _⟩, hc3⟩ := h k hlt
      obtain ⟨ha0, ha1⟩ := ha k hlt
      have g1 := cell_later hb hc1
      have g2 := cell_later hb hc2
      have g3 := cell_later hb hc3
      have hq : (tAt ts k).toNat < 40 := by omega
      have hon := hrow.cell hq
      have hfr := hrow.frozen (tAt ts k).toNat
      have hle := thereUp_le ts ((tAt ts k).toNat : Int) k
      obtain ⟨c, hcd⟩ : ∃ c : Nat, c = thereUp ts ((tAt ts k).toNat : Int) k := ⟨_, rfl⟩
      simp only [← hcd] at hon hle
      have HCD := hide hcd
      clear hcd
      have hsz := hrow.lt
      have HB := hide hb
      have HR := hide hrow
      have HR0 := hide hrow0
      clear hc1 hc2 hc3 h ha hb hrow hrow0
      go_wp2_with fail
      go_roundw
      case rel =>
        have hst := there_step HR.out ha0 ha1
        rw [← HCD.out] at hst
        exact ⟨k + 1, by omega, by go_num, hst.alloc _, (HR0.out.setOther (by simp) _).alloc _, ((HB.out.setCell (by simp) _).alloc (by have := HB.out.size; simpa using this) _)⟩
      case measure => simp [intOf]; omega
    · obtain rfl : k = n := by omega
      have HB := hide hb
      obtain ⟨A, hA, hAs, hAc⟩ := hrow
      obtain ⟨A0, hA0, hA0s, _⟩ := hrow0
      have hI : Hid ((Try.prog.info? 110).map (·.size) = some A.size) := by rw [hAs]; exact Try.size40
      have h1 : Hid (A.all (·.oneCell') = true) := by
        refine Array.all_eq_true_iff_forall_mem.2 (fun v hv => ?_)
        obtain ⟨i, hi, rfl⟩ := Array.mem_iff_getElem.1 hv
        have := hAc i (by omega)
        rw [Array.getElem?_eq_getElem hi] at this
        rw [Option.some.inj this]; rfl
      have HA := hide hA
      have HA0 := hide hA0
      have HAS := hide hAs
      have HAC := hide hAc
      have HA0S := hide hA0s
      clear hA hA0 hAs hAc hA0s h ha hb
      go_wp2_with (first | (refine wpList_load_row rfl 110 _ rfl (w.heap.size + 1) rfl 110 A (0, 0) _ HA.out Try.underlying110 rfl hI.out ?_) | (refine wpList_store_row rfl 110 _ _ rfl w.heap.size A rfl rfl 110 A0 HA0.out hI.out (HA0S.out.trans HAS.out.symm) h1.out ?_))
      exact bodyPost_ret (v := .agg A) (results_cell_row Try.results88 _ _ w.heap.size 110 A (0, 0) _ rfl (setRow_heap wr w.heap.size _ _ 110 _ HA0.out) Try.underlying110 rfl hI.out) rfl ⟨A, rfl, HAS.out, HAC.out, below_setRow HB.out (Nat.le_refl _) _⟩

set_option maxHeartbeats 800000 in
theorem allFit_any (v : Value) (st : St) (w : World) (h : StateAt w v st) (hr : st.1.length ≤ 40) (hl : st.2.1.length ≤ 4611686018427387904) (ha : ∀ i, i < st.2.1.length → 0 ≤ tAt st.2.1 i ∧ tAt st.2.1 i < 40) :
    Calls Try.prog 69 #[v] w fun e w' => e = .returned (.bool (fitsB st.1 st.2.1)) ∧ Below w.heap.size w w' := by
  obtain ⟨vr, vt, vn, rfl, hR, hT, hN⟩ := h
  obtain ⟨rs, ts, ns⟩ := st
  obtain ⟨ar, cr, rfl, hR⟩ := hR
  obtain ⟨an, cn, rfl, _⟩ := hN
  obtain ⟨a, cap, rfl, _⟩ := id hT
  simp only at *
  unfold fitsB
  generalize rs.length = nr at *
  have HT := hide hT
  clear hT
  go_enter Try.func69, Try.ntmps69
  go_wp2_with fail
  refine (standingOf_any _ ts _ (HT.out.below (Joins.below_alloc1 _ _)) hl ha).mono ?_
  rintro e w1 ⟨A, rfl, hAs, hAc, hb1⟩
  have hbw := below_tail (Joins.below_alloc1 w (.cells #[.slice ar nr cr, .slice a ts.length cap, .slice an ns.length cn] 30)) hb1
  have c0 : w1.cell? ⟨w.heap.size, 0, none⟩ = some (.slice ar nr cr) := cell_later hb1 (by simp)
  have hI : Hid ((Try.prog.info? 110).map (·.size) = some A.size) := by rw [hAs]; exact Try.size40
  have h1 : Hid (A.all (·.oneCell') = true) := by
    refine Array.all_eq_true_iff_forall_mem.2 (fun v hv => ?_)
    obtain ⟨i, hi, rfl⟩ := Array.mem_iff_getElem.1 hv
    have := hAc i (by omega)
    rw [Array.getElem?_eq_getElem hi] at this
    rw [Option.some.inj this]; rfl
  have hszw : w.heap.size < w1.heap.size := World.block_lt_of_cell? _ _ c0
  have HAS := hide hAs
  have HAC := hide hAc
  have HB := hide hbw
  have hbV : ∀ Z, Below w1.heap.size w1 ((w1.alloc Z).setRow w1.heap.size A) := fun Z => below_setRow (Joins.below_alloc1 _ _) (Nat.le_refl _) _
  have k0 : ∀ Z, ((w1.alloc Z).setRow w1.heap.size A).cell? ⟨w.heap.size, 0, none⟩ = some (.slice ar nr cr) := fun Z => cell_later (hbV Z) c0
  have k1 : ∀ old, ∀ i, i < 40 → ((w1.alloc (.cells old 110)).setRow w1.heap.size A).cell? ⟨w1.heap.size, i, none⟩ = some (.int .i64 (there ts (i : Int))) := fun old i hi => by
    rw [cell_of_row _ _ _ A 110 (0, 0) (setRow_heap _ _ old A 110 (0, 0) (heap_alloc_new _ _))]
    exact hAc i hi
  have HK1 := hide k1
  have HBV : Hid (∀ Z, Below w.heap.size w ((w1.alloc Z).setRow w1.heap.size A)) := fun Z => below_tail hbw (hbV Z)
  clear hAs hAc hb1 hbw HT ha k1 hbV
  go_wp2_with (first | (refine wpList_store_row rfl 110 _ _ rfl w1.heap.size A rfl rfl 110 _ (heap_alloc_new _ _) hI.out (by rw [HAS.out]; rfl) h1.out ?_))
  have hq1 := fun i hi => HK1.out (Array.replicate 40 (.int .i64 0)) i hi
  have HQ := hide (HBV.out (.cells (Array.replicate 40 (.int .i64 0)) 110))
  change Code.wp _ _ _ _ ((w1.alloc (.cells (Array.replicate 40 (.int .i64 0)) 110)).setRow w1.heap.size A)
  generalize (w1.alloc (.cells (Array.replicate 40 (.int .i64 0)) 110)).setRow w1.heap.size A = V at *
  have HQ1 := hide hq1
  clear hq1 HK1 HBV k0 c0
  go_loop [12] (fun i => ∃ k : Nat, k ≤ nr ∧ i = .int .i64 k ∧ Hid (∀ j, j < k → decide ((there ts (j : Int) : Int) ≤ el rs j) = true)) (fun i => nr - (intOf i).toNat)
  case atStart => exact ⟨0, Nat.zero_le _, rfl, fun j hj => absurd hj (Nat.not_lt_zero _)⟩
  case round =>
    obtain ⟨k, hk, rfl, hall⟩ := hrel
    by_cases hlt : k < nr
    · obtain ⟨b, off, rfl, hc⟩ := hR k hlt
      have g := cell_later HQ.out hc
      have g2 := HQ1.out k (by omega)
      have h40 : (k : Int) < 40 := by omega
      clear hR hc
      generalize hth : there ts (k : Int) = c at *
      have HTH := hide hth
      clear hth
      by_cases hi : (c : Int) ≤ el rs k
      · have hib : decide (el rs k < (c : Int)) = false := by simp; omega
        have HI := hide hi
        clear hi
        go_wp2_with fail
        go_round
        case rel => exact ⟨k + 1, by omega, by go_num, fun m hm => by
          by_cases e : m = k
          · subst e; rw [HTH.out]; simpa using HI.out
          · exact hall.out m (by omega)⟩
        case measure => simp [intOf]; omega
      · have hib : decide (el rs k < (c : Int)) = true := by simp; omega
        have HF := hide (allUp_false (f := fun i => decide ((there ts (i : Int) : Int) ≤ el rs i)) k hlt (by simp only [HTH.out]; simpa using hi))
        clear hi
        go_wp2_with fail
        go_ret
        exact ⟨by rw [HF.out]; rfl, HQ.out⟩
    · go_wp2_with fail
      go_ret
      exact ⟨by rw [allUp_true (fun j hj => hall.out j (by omega))]; rfl, HQ.out⟩
end Go.Proofs.Ytmjjigdnoiphbab
