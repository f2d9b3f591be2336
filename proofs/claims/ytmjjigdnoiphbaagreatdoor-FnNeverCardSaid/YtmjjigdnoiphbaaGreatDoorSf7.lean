/-
  spec: Allowed.
-/
import Derived.Test.YtmjjigdnoiphbaaGreatDoorSf6
namespace Go.Proofs.YtmjjigdnoiphbaaGreatDoor
open Go.RowKit Go.Deep
set_option linter.unusedVariables false

theorem Chg.trans2 {F : Nat → Prop} {a b c : World} (h : Chg F a b) (hb : Below a.heap.size b c) : Chg F a c :=
  ⟨hb.os.trans h.os, hb.tape.trans h.tape, hb.output.trans h.output, Nat.le_trans h.size hb.size, fun k hk hf => (hb.block k hk).trans (h.block k hk hf)⟩
/-- a table all of whose blocks were there in w2 -/
theorem Tab.keepOld {st0 : St} {B tb cb mb : Nat} {pv' nv : Value} {w2 w w' : World} {c0 : Nat → Int} {m0 : Nat → Bool} {cost : Nat → Int} {met : Nat → Bool} (h : Tab st0 B tb cb mb pv' nv w cost met) (h0 : Tab st0 B tb cb mb pv' nv w2 c0 m0) (hb : Below w2.heap.size w w') : Tab st0 B tb cb mb pv' nv w' cost met :=
  ⟨(hb.block tb (Array.getElem?_eq_some_iff.1 h0.var).1).trans h.var, ownsRow_keep h.paths (fun k hk => hb.block k (ownBlock_lt h0.paths hk).2), ownsRow_keep h.names (fun k hk => hb.block k (ownBlock_lt h0.names hk).2), rowIs_keep h.costs (hb.block cb h0.costs.lt), rowIs_keep h.mets (hb.block mb h0.mets.lt), h.ok, h.tc, h.tm, h.cm, h.pn⟩

set_option maxRecDepth 4000 in
set_option maxHeartbeats 8000000 in
theorem specAllowed_any (v : Value) (st : St) (w : World) (h : StateAt w v st) :
    Calls Tryz.prog 11 #[v] w fun e w' => ∃ r, e = .returned r ∧ OwnInts w.heap.size w' r (allowedF st) ∧ Below w.heap.size w w' := by
  have HS := hide h
  obtain ⟨a1, q1, a2, q2, a3, q3, rfl⟩ := h.form
  clear h
  go_enter Tryz.func11, Tryz.ntmps11
  go_wp2_with fail
  refine (specStateOk_any _ st _ (HS.out.below (Joins.below_alloc1 _ _))).mono ?_
  rintro e w1 ⟨rfl, hb1⟩
  have HX1 := hide (blockLater hb1 (heap_alloc_new w (.cells #[.slice a1 st.1.length q1, .slice a2 st.2.1.length q2, .slice a3 st.2.2.length q3] 26)))
  have HB1 := hide (below_tail (Joins.below_alloc1 w (.cells #[.slice a1 st.1.length q1, .slice a2 st.2.1.length q2, .slice a3 st.2.2.length q3] 26)) hb1)
  obtain ⟨c0, c1, c2, _⟩ := block3 HX1.out
  clear hb1
  by_cases hok : stOk st = 0
  · have HR := hide (right_of_ok hok)
    have hokb : (stOk st != 0) = false := by simp [hok]
    have HF := hide (show allowedF st = allowUp st st.2.2.length by simp [allowedF, hok])
    obtain ⟨l1, l2, l3, l4⟩ := HR.out.lens
    have HL4 := hide l4
    have HP := hide (behind_pz l4)
    have hn5 : st.2.2.length ≤ 5 := by omega
    clear hok l4
    generalize stOk st = code at *
    go_wp2_with fail
    refine (l2new_any _ st _ (HS.out.below HB1.out) HR.out).mono ?_
    rintro e w2 ⟨tb, cb, mb, pv', nv, rfl, ht, hcb, hmb, hb2⟩
    have HX2 := hide (blockLater hb2 HX1.out)
    have HB2 := hide (below_tail HB1.out hb2)
    have HT2 := hide ht
    have hw1 : w.heap.size < w1.heap.size := (Array.getElem?_eq_some_iff.1 HX1.out).1
    have hw12 := hb2.size
    have hcb2 : cb < w2.heap.size := ht.costs.lt
    have hmb2 : mb < w2.heap.size := ht.mets.lt
    have HST : Hid (∀ w', Chg (CM cb mb) w2 w' → Below w.heap.size w w') := fun w' hw' => HB2.out.trans (hw'.below (by omega) (fun k hk e => by rcases e with e | e <;> omega))
    obtain ⟨d0, d1, d2, _⟩ := block3 HX2.out
    clear hb2 ht c0 c1 c2
    go_wp2_with fail
    clear d0 d1 d2
    go_loopw [4, 15] (fun u i wr => ∃ k : Nat, k ≤ st.2.2.length ∧ i = .int .i64 k ∧ OwnInts w2.heap.size wr u (allowUp st k) ∧ (∃ cost met, Tab st w1.heap.size tb cb mb pv' nv wr cost met) ∧ Chg (CM cb mb) w2 wr) (fun _ i _ => st.2.2.length - (intOf i).toNat)
    case atStart => exact ⟨0, Nat.zero_le _, rfl, OwnInts.nil _ _, ⟨_, _, HT2.out⟩, Chg.refl _ _⟩
    case round =>
      obtain ⟨k, hk, rfl, hown, ⟨cost, met, ht⟩, hc⟩ := hrel
      have hbw := HST.out _ hc
      by_cases hlt : k < st.2.2.length
      · have hkt : k < st.2.1.length := by have := HL4.out; omega
        have hbx : wr.heap[w.heap.size]? = some (.cells #[.slice a1 st.1.length q1, .slice a2 st.2.1.length q2, .slice a3 st.2.2.length q3] 26 (0, 0)) := (hc.block w.heap.size (by omega) (fun e => by rcases e with e | e <;> omega)).trans HX2.out
        obtain ⟨e0, e1, e2, _⟩ := block3 hbx
        obtain ⟨b, off, rfl, hx⟩ := (HS.out.below hbw).parts.2.2.cellAt k hlt
        have HBX := hide hbx
        have HO := hide hown
        have HT := hide ht
        have HC := hide hc
        have HBW := hide hbw
        have HAU := hide (show allowUp st (k + 1) = allowUp st k ++ (bif canB st k && decide (0 ≤ val (stepSt st k)) then [el st.2.2 k] else []) from rfl)
        clear hown ht hc hbw hbx
        go_wp2_with fail
        refine (l1can_any _ st k _ (HS.out.below HBW.out) HR.out hkt).mono ?_
        rintro e w3 ⟨rfl, hb3⟩
        have HO3 := hide (HO.out.below hb3)
        have HT3 := hide (HT.out.below hb3)
        have HC3 : Hid (Chg (CM cb mb) w2 w3) := HC.out.trans (Chg.of_below hb3)
        have HBX3 := hide (blockLater hb3 HBX.out)
        obtain ⟨f0, f1, f2, _⟩ := block3 HBX3.out
        clear hb3 e0 e1 e2 HO HT HC HBX
        cases hcan : canB st k with
        | false =>
          rw [hcan] at HAU
          have HA2 := hide (show allowUp st (k + 1) = allowUp st k by rw [HAU.out]; simp)
          clear hcan
          go_wp2_with fail
          go_roundw
          case rel => exact ⟨k + 1, by omega, by go_num, by rw [HA2.out]; exact HO3.out, ⟨_, _, HT3.out⟩, HC3.out⟩
          case measure => simp [intOf]; omega
        | true =>
          rw [hcan] at HAU
          clear hcan
          have hl : leftB st.2.1 pz k = false := by simp [leftB, pz]
          have HG3 : Hid (stepSt st k = behindSt st (bump pz k)) := (behindSt_one st k).symm
          have HPR := hide ((pz_ok st).bump hkt hl)
          obtain ⟨x1, x2⟩ := val_bounds HR.out.so HPR.out
          have hcb3 : cb < w3.heap.size := HT3.out.costs.lt
          have hmb3 : mb < w3.heap.size := HT3.out.mets.lt
          clear hl
          go_wp2_with fail
          refine (l1step_any _ st k _ (HS.out.below (HST.out _ HC3.out)) HR.out.so.small hkt HR.out.lens.2.2.2).mono ?_
          rintro e w4 ⟨r, rfl, hrs, hb4⟩
          have HO4 := hide (HO3.out.below hb4)
          have HT4 := hide (HT3.out.below hb4)
          have HC4 : Hid (Chg (CM cb mb) w2 w4) := HC3.out.trans (Chg.of_below hb4)
          have HRS : Hid (∀ w', Chg (CM cb mb) w4 w' → StateAt w' r (behindSt st (bump pz k))) := fun w' hw' => by
            rw [← HG3.out]
            exact hrs w' (hw'.mono (fun q hq => by rcases hq with e | e <;> omega))
          clear hb4 hrs f0 f1 f2 HO3 HT3 HC3 HBX3
          go_wp2_with fail
          refine (value_any st w1.heap.size tb cb mb pv' nv HR.out _ _ r w4 _ _ HPR.out rfl HRS.out HT4.out).mono ?_
          rintro e w5 ⟨rfl, ⟨cost5, met5, ht5⟩, hc5⟩
          have HT5 := hide ht5
          have HC5 : Hid (Chg (CM cb mb) w2 w5) := HC4.out.trans hc5
          have HO5 : Hid (OwnInts w2.heap.size w5 u4 (allowUp st k)) := ownsRow_keep HO4.out (fun q hq => hc5.block q (ownBlock_lt HO4.out hq).2 (fun e => by have := (ownBlock_lt HO4.out hq).1; rcases e with e | e <;> omega))
          clear ht5 hc5 HO4 HT4 HC4 HRS
          rw [← HG3.out] at x1 x2 ⊢
          generalize val (stepSt st k) = x at *
          by_cases hx0 : 0 ≤ x
          · have HA2 := hide (show allowUp st (k + 1) = allowUp st k ++ [el st.2.2 k] by rw [HAU.out]; simp [hx0])
            have hml := allowUp_le st k
            obtain ⟨i0, hi, hz0, hz1, hz2⟩ := info_parts Tryz.infoInt
            have HI0 := hide hi
            have HZ0 := hide hz0
            have HZ1 := hide hz1
            have HZ2 := hide hz2
            have hs25 := HC5.out.size
            clear hi hz0 hz1 hz2
            go_wp2_with (first | (at_builtin; refine wpList_append_lies _ rfl _ _ 23 rfl w2.heap.size 3 i0 (.int .i64 0) 1 8 Tryz.underlying23 HI0.out HZ0.out HZ1.out HZ2.out rfl (by decide) _ _ _ rfl (HO5.out.alloc _) ⟨w5.heap.size, 0, none⟩ 1 1 [.int .i64 (el st.2.2 k)] rfl rfl ?c1 ?c2 (by decide) ?c3 ?c4 ?c5 _ rfl ?_))
            case c1 => exact cell_one_new _ _ _
            case c2 => intro u hu; simp at hu; subst hu; rfl
            case c3 => unfold maxLen; omega
            case c4 => omega
            case c5 => simp; omega
            intro g cap w6 hown6 hgrow6 _ _
            have HO6 := hide (OwnInts.snoc hown6)
            have hba := Joins.below_alloc1 w5 (.cells #[.int .i64 (el st.2.2 k)] 3)
            have hb56 : Below w2.heap.size w5 w6 := below_grown (hba.mono (by omega)) (HO5.out.alloc (.cells #[.int .i64 (el st.2.2 k)] 3)) hgrow6 (by simp; omega) (Nat.le_refl _)
            have hfar6 : ∀ q, q < w5.heap.size → u4.ownBlock ≠ some q → w6.heap[q]? = w5.heap[q]? := fun q hq hne => by
              rw [hgrow6.block q (by simp; omega) (fun e => hne e.symm), hba.block q hq]
            have hub : ∀ q, u4.ownBlock = some q → w2.heap.size ≤ q := fun q hq => (ownBlock_lt HO5.out hq).1
            have HC6 : Hid (Chg (CM cb mb) w2 w6) := HC5.out.trans2 hb56
            have HT6 : Hid (Tab st w1.heap.size tb cb mb pv' nv w6 cost5 met5) := HT5.out.keepOld HT2.out hb56
            clear hown6 hgrow6 hba hb56 hfar6 hub
            go_wp2_with fail
            go_roundw
            case rel => exact ⟨k + 1, by omega, by go_num, by rw [HA2.out]; exact HO6.out, ⟨_, _, HT6.out⟩, HC6.out⟩
            case measure => simp [intOf]; omega
          · have HA2 := hide (show allowUp st (k + 1) = allowUp st k by rw [HAU.out]; simp [hx0])
            go_wp2_with fail
            go_roundw
            case rel => exact ⟨k + 1, by omega, by go_num, by rw [HA2.out]; exact HO5.out, ⟨_, _, HT5.out⟩, HC5.out⟩
            case measure => simp [intOf]; omega
      · go_wp2_with fail
        go_ret
        obtain rfl : k = st.2.2.length := by omega
        exact ⟨_, rfl, by rw [HF.out]; exact hown.le HB2.out.size, hbw⟩
  · have hokb : (stOk st != 0) = true := by simp [hok]
    have HF := hide (show allowedF st = [] by simp [allowedF, hok])
    clear hok
    generalize stOk st = code at *
    go_wp2_with fail
    go_ret
    exact ⟨_, rfl, by rw [HF.out]; exact OwnInts.nil _ _, HB1.out⟩
end Go.Proofs.YtmjjigdnoiphbaaGreatDoor
