/-
  spec.MadeMeet.
-/
import Derived.Test.YtmjjigdnoiphbaaPu
import Derived.Test.YtmjjigdnoiphbaaPrg
namespace Go.Proofs.Ytmjjigdnoiphbaa
open Go.RowKit Go.Deep
set_option linter.unusedVariables false

/-- two trains that go against one another -/
def mPathA (n k : Nat) (b : Bool) : Nat → List Int
  | 0 => []
  | j + 1 => mPathA n k b j ++ [if b = true ∧ j + 1 = k then (n : Int) else ((j + 1 : Nat) : Int)]
def mPathB (n : Nat) : Nat → List Int
  | 0 => []
  | j + 1 => mPathB n j ++ [((n - 1 - (j + 1) : Nat) : Int)]
def meetSt (n k : Nat) (b : Bool) : St := (List.replicate (n + 1) 1, [(0, mPathA n k b (n - 1), 1), (((n - 1 : Nat) : Int), mPathB n (n - 1), 1)], [1, 2])
theorem mPathA_len (n k : Nat) (b : Bool) : ∀ j, (mPathA n k b j).length = j
  | 0 => rfl
  | j + 1 => by simp [mPathA, mPathA_len n k b j]
theorem mPathB_len (n : Nat) : ∀ j, (mPathB n j).length = j
  | 0 => rfl
  | j + 1 => by simp [mPathB, mPathB_len n j]

set_option maxHeartbeats 40000000 in
set_option maxRecDepth 100000 in
theorem madeMeet_any (n k : Nat) (b : Bool) (w : World) (hn2 : 2 ≤ n) (hn8 : n ≤ 8) (hk8 : k ≤ 8) :
    Calls Try.prog 29 #[.int .i64 (n : Int), .int .i64 (k : Int), .bool b] w fun e w' => ∃ v, e = .returned v ∧ StateAt w' v (meetSt n k b) ∧ CapSt w' v 2 ∧ Below w.heap.size w w' := by
  go_enter Try.func29, Try.ntmps29
  go_wp2_with fail
  go_loopw [8] (fun u wr => ∃ (i : Nat) (rv : Value), u = .int .i64 i ∧ i ≤ n + 1 ∧ wr.heap[w.heap.size]? = some (.cells #[.slice none 0 0, .slice none 0 0, .slice none 0 0] 26 (0, 0)) ∧ wr.heap[w.heap.size + 1]? = some (.cells #[.int .i64 1, .int .i64 2] 3 (0, 0)) ∧ wr.heap[w.heap.size + 2]? = some (.cells #[rv, .slice none 0 0, .slice (some ⟨w.heap.size + 1, 0, none⟩) 2 2] 26 (0, 0)) ∧ OwnInts (w.heap.size + 3) wr rv (List.replicate i 1) ∧ Below w.heap.size w wr) (fun u _ => n + 1 - (intOf u).toNat)
  case atStart => 
    refine ⟨0, .slice none 0 0, rfl, by omega, ?_, ?_, ?_, OwnInts.nil _ _, Joins.below_alloc3 _ _ _ _⟩
    · exact blockLater (Joins.below_alloc1 _ _) (blockLater (Joins.below_alloc1 _ _) (heap_alloc_new w _))
    · have := blockLater (Joins.below_alloc1 ((w.alloc (.cells #[.slice none 0 0, .slice none 0 0, .slice none 0 0] 26)).alloc (.cells #[.int .i64 1, .int .i64 2] 3)) (.cells #[.slice none 0 0, .slice none 0 0, .slice (some ⟨w.heap.size + 1, 0, none⟩) 2 2] 26)) (heap_alloc_new (w.alloc (.cells #[.slice none 0 0, .slice none 0 0, .slice none 0 0] 26)) _)
      simpa using this
    · have := heap_alloc_new ((w.alloc (.cells #[.slice none 0 0, .slice none 0 0, .slice none 0 0] 26)).alloc (.cells #[.int .i64 1, .int .i64 2] 3)) (.cells #[.slice none 0 0, .slice none 0 0, .slice (some ⟨w.heap.size + 1, 0, none⟩) 2 2] 26)
      simpa using this
  case round =>
    obtain ⟨i, rv, rfl, hi, h0, h1, h2, ho, hb⟩ := hrel
    have HH0 := hide h0
    have HH1 := hide h1
    have HH2 := hide h2
    have HO := hide ho
    have HB := hide hb
    have hsz : w.heap.size + 2 < wr.heap.size := (Array.getElem?_eq_some_iff.1 h2).1
    by_cases hin : i ≤ n
    · have hini : (i : Int) ≤ (n : Int) := by omega
      have c0 : wr.cell? ⟨w.heap.size + 2, 0, none⟩ = some rv := by rw [cell_of_row wr (w.heap.size + 2) 0 _ _ (0, 0) h2]; rfl
      have hne : ∀ q, rv.ownBlock = some q → w.heap.size + 3 ≤ q ∧ q < wr.heap.size := fun q hq => ho.own hq
      have HNE := hide hne
      clear h0 h1 h2 ho hb hne
      go_wp2_with (first | (at_builtin; refine wpList_push rfl _ _ rfl (w.heap.size + 3) _ _ _ wr.heap.size rfl rfl (HO.out.below (Joins.below_alloc1 _ _)) (heap_alloc_new _ _) (by simp; omega) (by simp; omega) ?_))
      intro g cap w' hown hgrow hat hlt
      have hrow := pushed_row HH2.out HO.out (by omega) hgrow
      have HPU := hide (pushed (j := 0) HH2.out HO.out (by omega) (by omega) HB.out hown hgrow hat)
      have e0 : w'.cell? ⟨w.heap.size + 2, 0, none⟩ = some rv := by rw [cell_of_row w' (w.heap.size + 2) 0 _ _ (0, 0) hrow]; rfl
      have f0 : w'.frozen? ⟨w.heap.size + 2, 0, none⟩ = false := frozen_of_row w' (w.heap.size + 2) 0 _ _ hrow
      clear hown hgrow hat hlt hrow c0
      go_wp2_with fail
      go_roundw
      case rel =>
        obtain ⟨p1, p2, p3, p4, p5, p6⟩ := HPU.out
        have hn0 : ∀ q, q ≤ w.heap.size + 1 → rv.ownBlock ≠ some q := fun q hq e => by have := (HNE.out q e).1; omega
        refine ⟨i + 1, _, by go_num, by omega, (p2 _ (by omega) (by omega) (hn0 _ (by omega))).trans HH0.out, (p2 _ (by omega) (by omega) (hn0 _ (by omega))).trans HH1.out, p1, ?_, p4⟩
        rw [List.replicate_succ']
        exact p3
      case measure => simp [intOf]; omega
    · have hini : ¬ ((i : Int) ≤ (n : Int)) := by omega
      have hie : i = n + 1 := by omega
      subst hie
      have HRB : Hid (∀ q, rv.ownBlock = some q → w.heap.size + 3 ≤ q ∧ q < wr.heap.size) := fun q hq => HO.out.own hq
      clear h0 h1 h2 ho hb
      obtain ⟨m, hm⟩ : ∃ m : Nat, n = m + 1 := ⟨n - 1, by omega⟩
      have hw1 : wrap64 ((n : Int) - 1) = (m : Int) := by unfold wrap64; omega
      have hw2 : (n : Int) - 1 = (m : Int) := by omega
      have HM := hide hm
      clear hm
      go_wp2_with fail
      obtain ⟨V, hV⟩ : ∃ V, V = (wr.alloc (.cells #[.int .i64 0, .slice none 0 0, .int .i64 1] 39)).alloc (.cells #[.int .i64 (m : Int), .slice none 0 0, .int .i64 1] 39) := ⟨_, rfl⟩
      rw [← hV]
      have HBV : Hid (Below wr.heap.size wr V) := by rw [hV]; exact Joins.below_alloc2 _ _ _
      have HVA : Hid (V.heap[wr.heap.size]? = some (.cells #[.int .i64 0, .slice none 0 0, .int .i64 1] 39 (0, 0))) := by rw [hV]; exact blockLater (Joins.below_alloc1 _ _) (heap_alloc_new wr _)
      have HVB : Hid (V.heap[wr.heap.size + 1]? = some (.cells #[.int .i64 (m : Int), .slice none 0 0, .int .i64 1] 39 (0, 0))) := by
        rw [hV]
        have := heap_alloc_new (wr.alloc (.cells #[.int .i64 0, .slice none 0 0, .int .i64 1] 39)) (.cells #[.int .i64 (m : Int), .slice none 0 0, .int .i64 1] 39)
        show _ = _
        simpa using this
      clear hV
      have HV0 := hide ((HBV.out.block _ (by omega)).trans HH0.out)
      have HV1 := hide ((HBV.out.block _ (by omega)).trans HH1.out)
      have HV2 := hide ((HBV.out.block _ hsz).trans HH2.out)
      have HOV := hide (HO.out.below HBV.out)
      have HBW := hide (below_tail HB.out HBV.out)
      clear HH0 HH1 HH2 HO HB HBV
      generalize wr.heap.size = S1 at *
      go_loopw [11] (fun u wx => ∃ (j : Nat) (av bv : Value), u = .int .i64 ((j + 1 : Nat) : Int) ∧ j + 1 ≤ n ∧ wx.heap[w.heap.size]? = some (.cells #[.slice none 0 0, .slice none 0 0, .slice none 0 0] 26 (0, 0)) ∧ wx.heap[w.heap.size + 1]? = some (.cells #[.int .i64 1, .int .i64 2] 3 (0, 0)) ∧ wx.heap[w.heap.size + 2]? = some (.cells #[rv, .slice none 0 0, .slice (some ⟨w.heap.size + 1, 0, none⟩) 2 2] 26 (0, 0)) ∧ OwnInts (w.heap.size + 3) wx rv (List.replicate (n + 1) 1) ∧
        wx.heap[S1]? = some (.cells #[.int .i64 0, av, .int .i64 1] 39 (0, 0)) ∧ wx.heap[S1 + 1]? = some (.cells #[.int .i64 (m : Int), bv, .int .i64 1] 39 (0, 0)) ∧ OwnInts (S1 + 2) wx av (mPathA n k b j) ∧ OwnInts (S1 + 2) wx bv (mPathB n j) ∧ (∀ q, av.ownBlock = some q → bv.ownBlock ≠ some q) ∧ Below w.heap.size w wx) (fun u _ => n + 1 - (intOf u).toNat)
      case atStart =>
        exact ⟨0, .slice none 0 0, .slice none 0 0, rfl, by omega, HV0.out, HV1.out, HV2.out, HOV.out, HVA.out, HVB.out, OwnInts.nil _ _, OwnInts.nil _ _, fun q hq => by simp [Value.ownBlock] at hq, HBW.out⟩
      case round =>
        obtain ⟨j, av, bv, rfl, hj, h0, h1, h2, ho, ha, hbk, hoa, hob, hab, hbx⟩ := hrel
        have HX0 := hide h0
        have HX1 := hide h1
        have HX2 := hide h2
        have HXO := hide ho
        have HXA := hide ha
        have HXB := hide hbk
        have HOA := hide hoa
        have HOB := hide hob
        have HAB := hide hab
        have HBX := hide hbx
        have hsx : S1 + 1 < wr.heap.size := (Array.getElem?_eq_some_iff.1 hbk).1
        have HRS : Hid (∀ q, rv.ownBlock = some q → q < S1) := fun q hq => (HRB.out q hq).2
        by_cases hjn : j + 1 < n
        · have hji : ((j + 1 : Nat) : Int) < (n : Int) := by omega
          have hji' : (j : Int) + 1 < (n : Int) := by omega
          obtain ⟨y, hy⟩ : ∃ y : Int, y = (if b = true ∧ j + 1 = k then (n : Int) else ((j + 1 : Nat) : Int)) := ⟨_, rfl⟩
          have HY : Hid (mPathA n k b (j + 1) = mPathA n k b j ++ [y]) := by rw [hy]; rfl
          have HLA := hide (mPathA_len n k b j)
          have HLB := hide (mPathB_len n j)
          have c0 : wr.cell? ⟨S1, 1, none⟩ = some av := by rw [cell_of_row wr S1 1 _ _ (0, 0) ha]; rfl
          clear h0 h1 h2 ho ha hbk hoa hob hab hbx
          have hcase : (b = true ∧ j + 1 = k ∧ y = (n : Int)) ∨ (b = true ∧ ¬ j + 1 = k ∧ y = ((j + 1 : Nat) : Int)) ∨ (b = false ∧ y = ((j + 1 : Nat) : Int)) := by
            cases b
            · exact Or.inr (Or.inr ⟨rfl, by rw [hy]; simp⟩)
            · by_cases e : j + 1 = k
              · exact Or.inl ⟨rfl, e, by rw [hy]; simp [e]⟩
              · exact Or.inr (Or.inl ⟨rfl, e, by rw [hy]; simp [e]⟩)
          clear hy
          have HPA : Hid ((mPathA n k b j).length ≤ 8) := by show _ ≤ 8; rw [HLA.out]; omega
          have HPB : Hid ((mPathB n j).length ≤ 8) := by show _ ≤ 8; rw [HLB.out]; omega
          generalize mPathA n k b j = PA at *
          have HBS : Hid (mPathB n (j + 1) = mPathB n j ++ [((n - 1 - (j + 1) : Nat) : Int)]) := rfl
          generalize mPathB n j = PB at *
          rcases hcase with ⟨rfl, hjk, hye⟩ | ⟨rfl, hjk, hye⟩ | ⟨rfl, hye⟩
          all_goals
            have HYE := hide hye
            clear hye
            first
            | (have hjb : (((j : Int) + 1) == (k : Int)) = true := by rw [beq_iff_eq]; omega
               have hjb' : (((j + 1 : Nat) : Int) == (k : Int)) = true := by rw [beq_iff_eq]; omega
               clear hjk)
            | (have hjb : (((j : Int) + 1) == (k : Int)) = false := by rw [beq_eq_false_iff_ne]; omega
               have hjb' : (((j + 1 : Nat) : Int) == (k : Int)) = false := by rw [beq_eq_false_iff_ne]; omega
               clear hjk)
            | skip
            go_wp2_with (first | (at_builtin; refine wpList_push rfl _ _ rfl (S1 + 2) _ _ y wr.heap.size rfl rfl (HOA.out.below (Joins.below_alloc1 _ _)) (by rw [HYE.out]; exact heap_alloc_new _ _) (by have := HPA.out; omega) (by simp; omega) ?_))
            intro g cap w' hown hgrow hat hlt
            have hrow := pushed_row HXA.out HOA.out (by omega) hgrow
            have hpu := pushed (j := 1) HXA.out HOA.out (by omega) (by omega) HBX.out hown hgrow hat
            have e0 : w'.cell? ⟨S1, 1, none⟩ = some av := by rw [cell_of_row w' S1 1 _ _ (0, 0) hrow]; rfl
            have f0 : w'.frozen? ⟨S1, 1, none⟩ = false := frozen_of_row w' S1 1 _ _ hrow
            have e1 : w'.cell? ⟨S1 + 1, 1, none⟩ = some bv := by
              have hr1 : w'.heap[S1 + 1]? = _ := pushed_row HXB.out HOA.out (by omega) hgrow
              rw [cell_of_row w' (S1 + 1) 1 _ _ (0, 0) hr1]; rfl
            obtain ⟨z, hz⟩ : ∃ z : Nat, z = n - 1 - (j + 1) := ⟨_, rfl⟩
            have hm := HM.out
            have hw3 : (m : Int) - ((j : Int) + 1) = (z : Int) := by omega
            have hw4 : wrap64 ((m : Int) - ((j : Int) + 1)) = (z : Int) := by unfold wrap64; omega
            have HBE : Hid (mPathB n (j + 1) = PB ++ [(z : Int)]) := by rw [hz]; exact HBS.out
            obtain ⟨p1, p2, p3, p4, p5, p6⟩ := hpu
            have hna : ∀ q, q < S1 + 2 → av.ownBlock ≠ some q := fun q hq e => by have := (HOA.out.own e).1; omega
            have HOB1 := hide (HOB.out.far (w' := w'.setCell ⟨S1, 1, none⟩ (.slice (some ⟨g, 0, none⟩) (PA.length + 1) cap)) (fun q hq => p2 q (HOB.out.own hq).2 (by have := (HOB.out.own hq).1; omega) (fun e => HAB.out q e hq)))
            have HOR1 := hide (HXO.out.far (w' := w'.setCell ⟨S1, 1, none⟩ (.slice (some ⟨g, 0, none⟩) (PA.length + 1) cap)) (fun q hq => p2 q (by have := HRS.out q hq; omega) (by have := HRS.out q hq; omega) (hna q (by have := HRS.out q hq; omega))))
            have HP1 := hide p1
            have HP3 := hide p3
            have HP4 := hide p4
            have HP56 := hide (And.intro p5 p6)
            have HQ0 := hide ((p2 w.heap.size (by omega) (by omega) (hna _ (by omega))).trans HX0.out)
            have HQ1 := hide ((p2 (w.heap.size + 1) (by omega) (by omega) (hna _ (by omega))).trans HX1.out)
            have HQ2 := hide ((p2 (w.heap.size + 2) (by omega) (by omega) (hna _ (by omega))).trans HX2.out)
            have HQB := hide ((p2 (S1 + 1) (by omega) (by omega) (hna _ (by omega))).trans HXB.out)
            have HG1 : Hid (∀ o, ((w'.setCell ⟨S1, 1, none⟩ (.slice (some ⟨g, 0, none⟩) (PA.length + 1) cap)).alloc o).heap[w'.heap.size]? = some o) := fun o => by
              have := heap_alloc_new (w'.setCell ⟨S1, 1, none⟩ (.slice (some ⟨g, 0, none⟩) (PA.length + 1) cap)) o
              simpa using this
            have hs' : S1 + 2 ≤ w'.heap.size := by have := hgrow.size; simp at this; omega
            have HGW : Hid (wr.heap.size ≤ w'.heap.size) := by show _ ≤ _; have := hgrow.size; simp at this; omega
            clear hown hgrow hat hlt hrow c0 p1 p2 p3 p4 p5 p6 hz hm hna
            go_wp2_with (first | (at_builtin; refine wpList_push rfl _ _ rfl (S1 + 2) _ _ (z : Int) w'.heap.size rfl rfl (HOB1.out.below (Joins.below_alloc1 _ _)) (HG1.out _) (by have := HPB.out; omega) (by simp; omega) ?_))
            intro g2 cap2 w'' hown hgrow hat hlt
            have hrow2 := pushed_row HQB.out HOB1.out (by omega) hgrow
            have e2 : w''.cell? ⟨S1 + 1, 1, none⟩ = some bv := by rw [cell_of_row w'' (S1 + 1) 1 _ _ (0, 0) hrow2]; rfl
            have f2 : w''.frozen? ⟨S1 + 1, 1, none⟩ = false := frozen_of_row w'' (S1 + 1) 1 _ _ hrow2
            have HPU2 := hide (pushed (j := 1) HQB.out HOB1.out (by omega) (by omega) HP4.out hown hgrow (by simpa using hat))
            clear hown hgrow hat hlt hrow2 e0 f0 e1
            go_wp2_with fail
            go_roundw
            case rel =>
              obtain ⟨p1, p2, p3, p4, p5, p6⟩ := HPU2.out
              have hW1 : (w'.setCell ⟨S1, 1, none⟩ (.slice (some ⟨g, 0, none⟩) (PA.length + 1) cap)).heap.size = w'.heap.size := by simp
              rw [hW1] at p2 p5
              have hgw := HGW.out
              have hnb : ∀ q, q < S1 + 2 → bv.ownBlock ≠ some q := fun q hq e => by have := (HOB.out.own e).1; omega
              have hgl := (HP3.out.own (q := g) rfl)
              rw [hW1] at hgl
              have hgb : bv.ownBlock ≠ some g := fun e => by
                rcases HP56.out.1 with h | h
                · exact HAB.out g h e
                · have := (HOB.out.own e).2; omega
              refine ⟨j + 1, _, _, by go_num, by omega, (p2 _ (by omega) (by omega) (hnb _ (by omega))).trans HQ0.out, (p2 _ (by omega) (by omega) (hnb _ (by omega))).trans HQ1.out, (p2 _ (by omega) (by omega) (hnb _ (by omega))).trans HQ2.out, HOR1.out.far (fun q hq => p2 q (by have := HRS.out q hq; omega) (by have := HRS.out q hq; omega) (hnb q (by have := HRS.out q hq; omega))), (p2 S1 (by omega) (by omega) (hnb _ (by omega))).trans HP1.out, p1, ?_, ?_, fun q hq => ?_, p4⟩
              · rw [HY.out]
                exact HP3.out.far (fun q hq => by
                  simp [Value.ownBlock] at hq
                  subst hq
                  exact p2 g (by omega) (by omega) hgb)
              · rw [HBE.out]
                exact p3
              · simp [Value.ownBlock] at hq
                subst hq
                intro e
                simp [Value.ownBlock] at e
                subst e
                rcases p5 with h | h
                · exact hgb h
                · omega
            case measure => simp [intOf]; omega
        · have hji : ¬ (((j + 1 : Nat) : Int) < (n : Int)) := by omega
          have hji' : ¬ ((j : Int) + 1 < (n : Int)) := by omega
          have hjm : j = n - 1 := by omega
          have hm := HM.out
          obtain ⟨ra, rc, hrv⟩ := HXO.out.form
          obtain ⟨aa, ac, hav⟩ := HOA.out.form
          obtain ⟨ba, bc, hbv⟩ := HOB.out.form
          subst hrv hav hbv
          rw [List.length_replicate] at h2
          rw [mPathA_len] at ha
          rw [mPathB_len] at hbk
          have x0 : wr.cell? ⟨S1, 0, none⟩ = some (.int .i64 0) := by rw [cell_of_row wr S1 0 _ _ (0, 0) ha]; rfl
          have x1 : wr.cell? ⟨S1, 1, none⟩ = some (.slice aa j ac) := by rw [cell_of_row wr S1 1 _ _ (0, 0) ha]; rfl
          have x2 : wr.cell? ⟨S1, 2, none⟩ = some (.int .i64 1) := by rw [cell_of_row wr S1 2 _ _ (0, 0) ha]; rfl
          have y0 : wr.cell? ⟨S1 + 1, 0, none⟩ = some (.int .i64 (m : Int)) := by rw [cell_of_row wr (S1 + 1) 0 _ _ (0, 0) hbk]; rfl
          have y1 : wr.cell? ⟨S1 + 1, 1, none⟩ = some (.slice ba j bc) := by rw [cell_of_row wr (S1 + 1) 1 _ _ (0, 0) hbk]; rfl
          have y2 : wr.cell? ⟨S1 + 1, 2, none⟩ = some (.int .i64 1) := by rw [cell_of_row wr (S1 + 1) 2 _ _ (0, 0) hbk]; rfl
          have s0 : wr.cell? ⟨w.heap.size + 2, 0, none⟩ = some (.slice ra (n + 1) rc) := by rw [cell_of_row wr (w.heap.size + 2) 0 _ _ (0, 0) h2]; rfl
          have s1 : wr.cell? ⟨w.heap.size + 2, 1, none⟩ = some (.slice none 0 0) := by rw [cell_of_row wr (w.heap.size + 2) 1 _ _ (0, 0) h2]; rfl
          have s2 : wr.cell? ⟨w.heap.size + 2, 2, none⟩ = some (.slice (some ⟨w.heap.size + 1, 0, none⟩) 2 2) := by rw [cell_of_row wr (w.heap.size + 2) 2 _ _ (0, 0) h2]; rfl
          have f1 : wr.frozen? ⟨w.heap.size + 2, 1, none⟩ = false := frozen_of_row wr (w.heap.size + 2) 1 _ _ h2
          have r0 : wr.cell? ⟨w.heap.size, 0, none⟩ = some (.slice none 0 0) := by rw [cell_of_row wr w.heap.size 0 _ _ (0, 0) h0]; rfl
          have r1 : wr.cell? ⟨w.heap.size, 1, none⟩ = some (.slice none 0 0) := by rw [cell_of_row wr w.heap.size 1 _ _ (0, 0) h0]; rfl
          have r2 : wr.cell? ⟨w.heap.size, 2, none⟩ = some (.slice none 0 0) := by rw [cell_of_row wr w.heap.size 2 _ _ (0, 0) h0]; rfl
          have g0 : wr.frozen? ⟨w.heap.size, 0, none⟩ = false := frozen_of_row wr w.heap.size 0 _ _ h0
          have g1 : wr.frozen? ⟨w.heap.size, 1, none⟩ = false := frozen_of_row wr w.heap.size 1 _ _ h0
          have g2 : wr.frozen? ⟨w.heap.size, 2, none⟩ = false := frozen_of_row wr w.heap.size 2 _ _ h0
          have lt2 : w.heap.size + 1 + 1 < wr.heap.size := (Array.getElem?_eq_some_iff.1 h2).1
          have lt0 : w.heap.size < wr.heap.size := by omega
          have k0 : ∀ o : Obj, (wr.alloc o).cell? ⟨w.heap.size + 1 + 1, 0, none⟩ = some (.slice ra (n + 1) rc) := fun o => cell_later (Joins.below_alloc1 _ _) s0
          have k1 : ∀ o : Obj, (wr.alloc o).cell? ⟨w.heap.size + 1 + 1, 1, none⟩ = some (.slice none 0 0) := fun o => cell_later (Joins.below_alloc1 _ _) s1
          have k2 : ∀ o : Obj, (wr.alloc o).cell? ⟨w.heap.size + 1 + 1, 2, none⟩ = some (.slice (some ⟨w.heap.size + 1, 0, none⟩) 2 2) := fun o => cell_later (Joins.below_alloc1 _ _) s2
          have kf : ∀ o : Obj, (wr.alloc o).frozen? ⟨w.heap.size + 1 + 1, 1, none⟩ = false := fun o => by
            rw [(Joins.below_alloc1 wr o).frozen (p := ⟨w.heap.size + 1 + 1, 1, none⟩) lt2]
            exact f1
          have t0 : ∀ o : Obj, (wr.alloc o).cell? ⟨w.heap.size, 0, none⟩ = some (.slice none 0 0) := fun o => cell_later (Joins.below_alloc1 _ _) r0
          have t1 : ∀ o : Obj, (wr.alloc o).cell? ⟨w.heap.size, 1, none⟩ = some (.slice none 0 0) := fun o => cell_later (Joins.below_alloc1 _ _) r1
          have t2 : ∀ o : Obj, (wr.alloc o).cell? ⟨w.heap.size, 2, none⟩ = some (.slice none 0 0) := fun o => cell_later (Joins.below_alloc1 _ _) r2
          have tf : ∀ (o : Obj) (i : Nat), (wr.alloc o).frozen? ⟨w.heap.size, i, none⟩ = false := fun o i => by
            rw [(Joins.below_alloc1 wr o).frozen (p := ⟨w.heap.size, i, none⟩) lt0]
            exact frozen_of_row wr w.heap.size i _ _ h0
          clear h0 h1 h2 ho ha hbk hoa hob hab hbx hm hjm
          go_wp2_with fail
          clear k0 k1 k2 kf t0 t1 t2 tf s0 s1 s2 f1 x0 x1 x2 y0 y1 y2 r0 r1 r2 g0 g1 g2
          obtain ⟨X, hX⟩ : ∃ X, X = (((wr.setCell ⟨w.heap.size + 1 + 1, 1, none⟩ (.slice (some ⟨wr.heap.size, 0, none⟩) 2 2)).setCell ⟨w.heap.size, 0, none⟩ (.slice ra (n + 1) rc)).setCell ⟨w.heap.size, 1, none⟩ (.slice (some ⟨wr.heap.size, 0, none⟩) 2 2)).setCell ⟨w.heap.size, 2, none⟩ (.slice (some ⟨w.heap.size + 1, 0, none⟩) 2 2) := ⟨_, rfl⟩
          rw [← hX]
          have hXs : X.heap.size = wr.heap.size := by rw [hX]; simp
          have hXb : Below w.heap.size w X := by
            rw [hX]
            exact (((HBX.out.setCell (p := ⟨w.heap.size + 1 + 1, 1, none⟩) (by show w.heap.size ≤ w.heap.size + 1 + 1; omega) _).setCell (p := ⟨w.heap.size, 0, none⟩) (Nat.le_refl _) _).setCell (p := ⟨w.heap.size, 1, none⟩) (Nat.le_refl _) _).setCell (p := ⟨w.heap.size, 2, none⟩) (Nat.le_refl _) _
          have hXf : ∀ q, q ≠ w.heap.size → q ≠ w.heap.size + 2 → X.heap[q]? = wr.heap[q]? := fun q hq hq2 => by
            rw [hX, Below.heap_setCell _ _ _ _ hq, Below.heap_setCell _ _ _ _ hq, Below.heap_setCell _ _ _ _ hq, Below.heap_setCell _ _ _ _ hq2]
          have hXr : X.heap[w.heap.size]? = some (.cells #[.slice ra (n + 1) rc, .slice (some ⟨wr.heap.size, 0, none⟩) 2 2, .slice (some ⟨w.heap.size + 1, 0, none⟩) 2 2] 26 (0, 0)) := by
            have e1 : (wr.setCell ⟨w.heap.size + 1 + 1, 1, none⟩ (.slice (some ⟨wr.heap.size, 0, none⟩) 2 2)).heap[w.heap.size]? = _ := (Below.heap_setCell _ _ _ _ (by show w.heap.size ≠ w.heap.size + 1 + 1; omega)).trans HX0.out
            have e2 := Joins.block_setCell (i := 0) e1 (.slice ra (n + 1) rc)
            have e3 := Joins.block_setCell (i := 1) e2 (.slice (some ⟨wr.heap.size, 0, none⟩) 2 2)
            have e4 := Joins.block_setCell (i := 2) e3 (.slice (some ⟨w.heap.size + 1, 0, none⟩) 2 2)
            rw [hX]
            simpa using e4
          clear hX
          obtain ⟨F, hF⟩ : ∃ F, F = X.alloc (.cells #[.int .i64 0, .slice aa j ac, .int .i64 1, .int .i64 (m : Int), .slice ba j bc, .int .i64 1] 39) := ⟨_, rfl⟩
          rw [← hF]
          have hXF : Below X.heap.size X F := by rw [hF]; exact Joins.below_alloc1 _ _
          have hFt : F.heap[wr.heap.size]? = some (.cells #[.int .i64 0, .slice aa j ac, .int .i64 1, .int .i64 (m : Int), .slice ba j bc, .int .i64 1] 39 (0, 0)) := by
            have := heap_alloc_new X (.cells #[.int .i64 0, .slice aa j ac, .int .i64 1, .int .i64 (m : Int), .slice ba j bc, .int .i64 1] 39)
            rw [hXs] at this
            rw [hF]
            exact this
          have hFr := blockLater hXF hXr
          have hFb : Below w.heap.size w F := below_tail hXb hXF
          have hFf : ∀ q, q < wr.heap.size → q ≠ w.heap.size → q ≠ w.heap.size + 2 → F.heap[q]? = wr.heap[q]? := fun q h1 h2 h3 => (hXF.block q (by omega)).trans (hXf q h2 h3)
          clear hF hXF hXb hXf hXr
          have hFn := (hFf (w.heap.size + 1) (by omega) (by omega) (by omega)).trans HX1.out
          have hOR : OwnInts (w.heap.size + 3) F (.slice ra (n + 1) rc) (List.replicate (n + 1) 1) := (show OwnInts (w.heap.size + 3) wr (.slice ra (n + 1) rc) _ by simpa using HXO.out).far (fun q hq => hFf q (HXO.out.own (by simpa using hq)).2 (by have := (HXO.out.own (by simpa using hq)).1; omega) (by have := (HXO.out.own (by simpa using hq)).1; omega))
          have hOA : OwnInts (S1 + 2) F (.slice aa j ac) (mPathA n k b j) := (show OwnInts (S1 + 2) wr (.slice aa j ac) _ by simpa [mPathA_len] using HOA.out).far (fun q hq => hFf q (HOA.out.own (by simpa [mPathA_len] using hq)).2 (by have := (HOA.out.own (by simpa [mPathA_len] using hq)).1; omega) (by have := (HOA.out.own (by simpa [mPathA_len] using hq)).1; omega))
          have hOB : OwnInts (S1 + 2) F (.slice ba j bc) (mPathB n j) := (show OwnInts (S1 + 2) wr (.slice ba j bc) _ by simpa [mPathB_len] using HOB.out).far (fun q hq => hFf q (HOB.out.own (by simpa [mPathB_len] using hq)).2 (by have := (HOB.out.own (by simpa [mPathB_len] using hq)).1; omega) (by have := (HOB.out.own (by simpa [mPathB_len] using hq)).1; omega))
          have capOf : ∀ {B0 : Nat} {a : Option Addr} {l c : Nat} {xs : List Int}, OwnInts B0 F (.slice a l c) xs → l ≤ c := fun h => by
            rcases h.lies with ⟨e, _⟩ | ⟨g, cap, cur, e, _, _, h1, _⟩
            · simp only [Value.slice.injEq] at e; omega
            · simp only [Value.slice.injEq] at e; omega
          have hca := capOf hOA
          have hcb := capOf hOB
          have hm := HM.out
          have hjm : j = m := by omega
          have hn1 : n - 1 = j := by omega
          have q0 : F.cell? ⟨w.heap.size, 0, none⟩ = some (.slice ra (n + 1) rc) := by rw [cell_of_row F w.heap.size 0 _ _ (0, 0) hFr]; rfl
          have q1 : F.cell? ⟨w.heap.size, 1, none⟩ = some (.slice (some ⟨wr.heap.size, 0, none⟩) 2 2) := by rw [cell_of_row F w.heap.size 1 _ _ (0, 0) hFr]; rfl
          have q2 : F.cell? ⟨w.heap.size, 2, none⟩ = some (.slice (some ⟨w.heap.size + 1, 0, none⟩) 2 2) := by rw [cell_of_row F w.heap.size 2 _ _ (0, 0) hFr]; rfl
          have tc : ∀ i, F.cell? ⟨wr.heap.size, i, none⟩ = (#[Value.int .i64 0, .slice aa j ac, .int .i64 1, .int .i64 (m : Int), .slice ba j bc, .int .i64 1] : Array Value)[i]? := fun i => cell_of_row F wr.heap.size i _ _ (0, 0) hFt
          refine bodyPost_ret (v := .agg #[.slice ra (n + 1) rc, .slice (some ⟨wr.heap.size, 0, none⟩) 2 2, .slice (some ⟨w.heap.size + 1, 0, none⟩) 2 2]) ?_ rfl ⟨_, rfl, ⟨_, _, _, rfl, hOR.at, ⟨_, 2, rfl, fun i hi => ⟨wr.heap.size, 0, rfl, ?_⟩⟩, ⟨_, 2, rfl, fun i hi => ⟨w.heap.size + 1, 0, rfl, ?_⟩⟩⟩, ?_, hFb⟩
          · simp [results, Try.results29, go_sem, q0, q1, q2]
          · have hi2 : i < 2 := hi
            rcases (show i = 0 ∨ i = 1 by omega) with rfl | rfl
            · exact ⟨.slice aa j ac, tc 0, tc 1, by
                have := hOA.at
                show IntsAt F (.slice aa j ac) (mPathA n k b (n - 1))
                rw [hn1]; exact this, tc 2⟩
            · refine ⟨.slice ba j bc, ?_, tc 4, ?_, tc 5⟩
              · rw [show (0 + 1 * 3 : Nat) = 3 from rfl, tc 3]
                show some (Value.int .i64 (m : Int)) = some (.int .i64 ((n - 1 : Nat) : Int))
                rw [hn1, hjm]
              · have := hOB.at
                show IntsAt F (.slice ba j bc) (mPathB n (n - 1))
                rw [hn1]; exact this
          · have hi2 : i < 2 := hi
            rw [cell_of_row F (w.heap.size + 1) (0 + i) _ _ (0, 0) hFn]
            rcases (show i = 0 ∨ i = 1 by omega) with rfl | rfl <;> rfl
          · intro a1 l1 q1 a2 l2 q2 a3 l3 q3 hv i b' off p q c hi ha hc
            simp only [Value.agg.injEq, Array.mk.injEq, List.cons.injEq, Value.slice.injEq, and_true] at hv
            obtain ⟨_, ⟨rfl, _, _⟩, _⟩ := hv
            simp only [Option.some.injEq, Addr.mk.injEq, and_true] at ha
            obtain ⟨rfl, rfl⟩ := ha
            rcases (show i = 0 ∨ i = 1 by omega) with rfl | rfl
            · rw [show (0 + 0 * 3 + 1 : Nat) = 1 from rfl, tc 1] at hc
              simp at hc
              omega
            · rw [show (0 + 1 * 3 + 1 : Nat) = 4 from rfl, tc 4] at hc
              simp at hc
              omega
end Go.Proofs.Ytmjjigdnoiphbaa
