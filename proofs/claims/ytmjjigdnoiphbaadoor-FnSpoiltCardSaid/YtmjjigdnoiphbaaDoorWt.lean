/-
  spec.Waits, impl.Waits.
-/
import Derived.Test.YtmjjigdnoiphbaaDoorL1
namespace Go.Proofs.YtmjjigdnoiphbaaDoor
open Go.RowKit Go.Deep
set_option linter.unusedVariables false

/-- those of the first k that are where train i wants to go -/
def waitsUp (st : St) (i : Nat) : Nat → List Int
  | 0 => []
  | k + 1 => waitsUp st i k ++ (bif tAt st.2.1 k == el (tPath st.2.1 i) 0 then [el st.2.2 k] else [])
/-- Waits -/
def waitsF (st : St) (x : Int) : List Int :=
  bif decide (stOk st = 0) && (decide (nameIx st.2.2 x < st.2.2.length) && !canB st (nameIx st.2.2 x)) then waitsUp st (nameIx st.2.2 x) st.2.1.length else []
theorem waitsUp_le (st : St) (i : Nat) : ∀ k, (waitsUp st i k).length ≤ k
  | 0 => Nat.le_refl _
  | k + 1 => by have := waitsUp_le st i k; simp only [waitsUp, List.length_append]; cases (tAt st.2.1 k == el (tPath st.2.1 i) 0) <;> simp <;> omega
theorem waitsUp_succ (st : St) (i k : Nat) {s : Nat} (h : el (tPath st.2.1 i) 0 = (s : Int)) : waitsUp st i (k + 1) = waitsUp st i k ++ (bif tAt st.2.1 k == (s : Int) then [el st.2.2 k] else []) := by rw [waitsUp, h]
theorem waitsF_le (st : St) (x : Int) : (waitsF st x).length ≤ 5 := by
  unfold waitsF
  cases hc : (decide (stOk st = 0) && (decide (nameIx st.2.2 x < st.2.2.length) && !canB st (nameIx st.2.2 x))) with
  | false => simp
  | true =>
    have hok : stOk st = 0 := by
      rw [Bool.and_eq_true] at hc
      simpa using hc.1
    have := (right_of_ok hok).lens
    have h2 := waitsUp_le st (nameIx st.2.2 x) st.2.1.length
    simp only [cond_true]
    omega

set_option maxHeartbeats 4000000 in
theorem specWaits_any (v : Value) (st : St) (x : Int) (w : World) (h : StateAt w v st) :
    Calls Tryd.prog 52 #[v, .int .i64 x] w fun e w' => ∃ r, e = .returned r ∧ OwnInts w.heap.size w' r (waitsF st x) ∧ Below w.heap.size w w' := by
  have HS := hide h
  obtain ⟨a1, q1, a2, q2, a3, q3, rfl⟩ := h.form
  clear h
  go_enter Tryd.func52, Tryd.ntmps52
  go_wp2_with fail
  refine (specStateOk_any _ st _ (HS.out.below (Joins.below_alloc1 _ _))).mono ?_
  rintro e w1 ⟨rfl, hb1⟩
  have c0 : w1.cell? ⟨w.heap.size, 0, none⟩ = some (.slice a1 st.1.length q1) := cell_later hb1 (by simp)
  have c1 : w1.cell? ⟨w.heap.size, 1, none⟩ = some (.slice a2 st.2.1.length q2) := cell_later hb1 (by simp)
  have c2 : w1.cell? ⟨w.heap.size, 2, none⟩ = some (.slice a3 st.2.2.length q3) := cell_later hb1 (by simp)
  have HB1 := hide (below_tail (Joins.below_alloc1 w (.cells #[.slice a1 st.1.length q1, .slice a2 st.2.1.length q2, .slice a3 st.2.2.length q3] 26)) hb1)
  clear hb1
  by_cases hok : stOk st = 0
  · have HR := hide (right_of_ok hok)
    have hokb : (stOk st != 0) = false := by simp [hok]
    obtain ⟨l1, l2, l3, l4⟩ := HR.out.lens
    have HL4 := hide l4
    have hn5 : st.2.2.length ≤ 5 := by omega
    have HF : Hid (waitsF st x = bif (decide (nameIx st.2.2 x < st.2.2.length) && !canB st (nameIx st.2.2 x)) then waitsUp st (nameIx st.2.2 x) st.2.1.length else []) := by simp [waitsF, hok, Hid]
    clear hok l4
    generalize stOk st = code at *
    go_wp2_with fail
    refine (l1name_any _ st x _ (HS.out.below HB1.out) (by omega)).mono ?_
    rintro e w2 ⟨rfl, hb2⟩
    replace c0 := cell_later hb2 c0
    replace c1 := cell_later hb2 c1
    replace c2 := cell_later hb2 c2
    have HB2 := hide (below_tail HB1.out hb2)
    clear hb2
    by_cases hix : nameIx st.2.2 x < st.2.2.length
    · have hres : nameRes st.2.2 x = (nameIx st.2.2 x : Int) := if_pos hix
      rw [hres]
      clear hres
      generalize nameIx st.2.2 x = i at *
      have hit : i < st.2.1.length := by have := HL4.out; omega
      have hkd : decide ((i : Int) < 0) = false := by simp
      cases hcan : canB st i with
      | true =>
        have HF2 := hide (show waitsF st x = [] by rw [HF.out]; simp [hcan])
        have HCAN := hide hcan
        clear hcan
        go_wp2_with fail
        refine (l1can_any _ st i _ (HS.out.below HB2.out) HR.out hit).mono ?_
        rintro e w3 ⟨rfl, hb3⟩
        rw [HCAN.out]
        have HB3 := hide (below_tail HB2.out hb3)
        clear hb3
        go_wp2_with fail
        go_ret
        exact ⟨_, rfl, by rw [HF2.out]; exact OwnInts.nil _ _, HB3.out⟩
      | false =>
        have HF2 := hide (show waitsF st x = waitsUp st i st.2.1.length by rw [HF.out]; simp [hcan, hix])
        have hz : ¬ (tPath st.2.1 i).length = 0 := fun e => by simp [canB, e] at hcan
        obtain ⟨s, hs, hsl⟩ := HR.out.first i hit hz
        have HUP := hide (fun k => waitsUp_succ st i k hs)
        have HCAN := hide hcan
        have HSE := hide hs
        clear hcan hs
        go_wp2_with fail
        refine (l1can_any _ st i _ (HS.out.below HB2.out) HR.out hit).mono ?_
        rintro e w3 ⟨rfl, hb3⟩
        rw [HCAN.out]
        replace c0 := cell_later hb3 c0
        replace c1 := cell_later hb3 c1
        replace c2 := cell_later hb3 c2
        have HB3 := hide (below_tail HB2.out hb3)
        clear hb3
        go_wp2_with fail
        have HC1 := hide c1
        have HC2 := hide c2
        have hszw : w.heap.size < w3.heap.size := World.block_lt_of_cell? _ _ c1
        clear c0 c1 c2
        go_loopw [6, 25] (fun u j wr => ∃ k : Nat, k ≤ st.2.1.length ∧ j = .int .i64 k ∧ OwnInts w3.heap.size wr u (waitsUp st i k) ∧ Below w3.heap.size w3 wr) (fun _ j _ => st.2.1.length - (intOf j).toNat)
        case atStart => exact ⟨0, Nat.zero_le _, rfl, OwnInts.nil _ _, Below.refl _ _⟩
        case round =>
          obtain ⟨k, hk, rfl, hown, hb⟩ := hrel
          have hbw := below_tail HB3.out hb
          by_cases hlt : k < st.2.1.length
          · have HSW := hide (HS.out.below hbw)
            obtain ⟨b, off, rfl, vp, t0, t1, hI, t2⟩ := HSW.out.parts.2.1.trainAt k hlt
            obtain ⟨ap, cp, rfl, -⟩ := hI
            obtain ⟨b', off', e', vq, s0, s1, hJ, s2⟩ := HSW.out.parts.2.1.trainAt i hit
            simp only [Option.some.injEq, Addr.mk.injEq, and_true] at e'
            obtain ⟨rfl, rfl⟩ := e'
            have HJ := hide hJ
            obtain ⟨aq, cq, rfl, -⟩ := hJ
            obtain ⟨b2, off2, rfl, hx⟩ := IntsAt.cellAt HJ.out 0 (by omega)
            rw [HSE.out, Nat.add_zero] at hx
            obtain ⟨nb, noff, rfl, n0⟩ := HSW.out.parts.2.2.cellAt k (by have := HL4.out; omega)
            have d1 := cell_later hb HC1.out
            have d2 := cell_later hb HC2.out
            have HB := hide hb
            have HO := hide hown
            have hsz : w.heap.size < wr.heap.size := World.block_lt_of_cell? _ _ d1
            have lt1 : b < wr.heap.size := World.block_lt_of_cell? _ _ t0
            have lt2 : b2 < wr.heap.size := World.block_lt_of_cell? _ _ hx
            have lt3 : nb < wr.heap.size := World.block_lt_of_cell? _ _ n0
            have hii : (i : Int) < (st.2.1.length : Int) := by omega
            have hi0 : (0 : Int) ≤ (i : Int) := by omega
            have hkn : (k : Int) < (st.2.2.length : Int) := by have := HL4.out; omega
            have hk0 : (0 : Int) ≤ (k : Int) := by omega
            have HZ0 : Hid (0 < (tPath st.2.1 i).length) := show 0 < _ by omega
            clear hb hown hbw s0 s2 HJ
            go_wp2_with fail
            obtain ⟨V, hV⟩ : ∃ V, V = wr.alloc (.cells #[.int .i64 (tAt st.2.1 k), .slice ap (tPath st.2.1 k).length cp, .int .i64 (tWt st.2.1 k)] 35) := ⟨_, rfl⟩
            rw [← hV]
            have hbV : Below wr.heap.size wr V := by rw [hV]; exact Joins.below_alloc1 _ _
            have T0 : V.cell? ⟨wr.heap.size, 0, none⟩ = some (.int .i64 (tAt st.2.1 k)) := by rw [hV]; simp
            have S1 := cell_later hbV s1
            have D1 := cell_later hbV d1
            have D2 := cell_later hbV d2
            have X0 := cell_later hbV hx
            have N0 := cell_later hbV n0
            have HBV := hide (below_tail HB.out hbV)
            have HOV := hide (HO.out.below hbV)
            have hVs : w3.heap.size ≤ V.heap.size := HBV.out.size
            clear hV hbV t0 t1 t2 s1 d1 d2 hx n0 HB HO hz lt1 lt2 lt3
            have HUPk := hide (HUP.out k)
            generalize tAt st.2.1 k = y at *
            generalize (tPath st.2.1 i).length = np at *
            have hp0 : 0 < np := HZ0.out
            cases hon : (y == (s : Int)) with
            | false =>
              rw [hon] at HUPk
              go_quiet (fail)
              go_wp2_with fail
              go_roundw
              case rel => exact ⟨k + 1, by omega, by go_num, by rw [HUPk.out]; simpa using HOV.out.below (Joins.below_draws _ _ _), below_tail HBV.out (Joins.below_draws _ _ _)⟩
              case measure => simp [intOf]; omega
            | true =>
              rw [hon] at HUPk
              have hml := waitsUp_le st i k
              obtain ⟨i0, hi, hz0, hz1, hz2⟩ := info_parts Tryd.infoInt
              have HI0 := hide hi
              have HZ0 := hide hz0
              have HZ1 := hide hz1
              have HZ2 := hide hz2
              clear hi hz0 hz1 hz2
              go_quiet (fail)
              have hbQ : Below V.heap.size V (V.drewN nq) := Joins.below_draws _ _ _
              have D2' := cell_later hbQ D2
              have N0' := cell_later hbQ N0
              have HBQ := hide (below_tail HBV.out hbQ)
              have HOQ := hide (HOV.out.below hbQ)
              clear hbQ
              generalize V.drewN nq = W at *
              have hWs : w3.heap.size ≤ W.heap.size := HBQ.out.size
              go_wp2_with (first | (at_builtin; refine wpList_append_lies _ rfl _ _ 23 rfl w3.heap.size 3 i0 (.int .i64 0) 1 8 Tryd.underlying23 HI0.out HZ0.out HZ1.out HZ2.out rfl (by decide) _ _ _ rfl (HOQ.out.alloc _) ⟨W.heap.size, 0, none⟩ 1 1 [.int .i64 (el st.2.2 k)] rfl rfl ?c1 ?c2 (by decide) ?c3 ?c4 ?c5 _ rfl ?_))
              case c1 => exact cell_one_new _ _ _
              case c2 => intro u hu; simp at hu; subst hu; rfl
              case c3 => unfold maxLen; omega
              case c4 => omega
              case c5 => simp; omega
              · intro g cap w4 hown3 hgrow _ _
                have HO3 := hide (OwnInts.snoc hown3)
                have HB3' := hide (below_grown (HBQ.out.alloc HBQ.out.size (.cells #[.int .i64 (el st.2.2 k)] 3)) (HOQ.out.alloc (.cells #[.int .i64 (el st.2.2 k)] 3)) hgrow (by simp; omega) (Nat.le_refl _))
                clear hown3 hgrow
                go_wp2_with fail
                go_roundw
                case rel => exact ⟨k + 1, by omega, by go_num, by rw [HUPk.out]; exact HO3.out, HB3'.out⟩
                case measure => simp [intOf]; omega
          · go_wp2_with fail
            go_ret
            obtain rfl : k = st.2.1.length := by omega
            exact ⟨_, rfl, by rw [HF2.out]; exact hown.le HB3.out.size, hbw⟩
    · have hres : nameRes st.2.2 x = -1 := if_neg hix
      rw [hres]
      have HF2 := hide (show waitsF st x = [] by rw [HF.out]; simp [hix])
      clear hres hix
      go_wp2_with fail
      go_ret
      exact ⟨_, rfl, by rw [HF2.out]; exact OwnInts.nil _ _, HB2.out⟩
  · have hokb : (stOk st != 0) = true := by simp [hok]
    have HF2 := hide (show waitsF st x = [] by simp [waitsF, hok])
    clear hok
    generalize stOk st = code at *
    go_wp2_with fail
    go_ret
    exact ⟨_, rfl, by rw [HF2.out]; exact OwnInts.nil _ _, HB1.out⟩

set_option maxHeartbeats 4000000 in
theorem implWaits_any (v : Value) (st : St) (x : Int) (w : World) (h : StateAt w v st) (hcap : CapSt w v st.2.1.length) (hp : ∀ i, i < st.2.1.length → (tPath st.2.1 i).length ≤ 4611686018427387904) :
    Calls Tryd.prog 49 #[v, .int .i64 x] w fun e w' => ∃ r, e = .returned r ∧ OwnInts w.heap.size w' r (waitsF st x) ∧ Below w.heap.size w w' := by
  have HS := hide h
  have HP := hide hp
  have HC := hide hcap
  clear hp hcap
  obtain ⟨a1, q1, a2, q2, a3, q3, rfl⟩ := h.form
  clear h
  go_enter Tryd.func49, Tryd.ntmps49
  go_wp2_with fail
  refine (implStateOk_any _ st _ (HS.out.below (Joins.below_alloc1 _ _)) HP.out).mono ?_
  rintro e w1 ⟨rfl, hb1⟩
  have c0 : w1.cell? ⟨w.heap.size, 0, none⟩ = some (.slice a1 st.1.length q1) := cell_later hb1 (by simp)
  have c1 : w1.cell? ⟨w.heap.size, 1, none⟩ = some (.slice a2 st.2.1.length q2) := cell_later hb1 (by simp)
  have c2 : w1.cell? ⟨w.heap.size, 2, none⟩ = some (.slice a3 st.2.2.length q3) := cell_later hb1 (by simp)
  have HB1 := hide (below_tail (Joins.below_alloc1 w (.cells #[.slice a1 st.1.length q1, .slice a2 st.2.1.length q2, .slice a3 st.2.2.length q3] 26)) hb1)
  clear hb1
  by_cases hok : stOk st = 0
  · have HR := hide (right_of_ok hok)
    have hokb : (stOk st != 0) = false := by simp [hok]
    obtain ⟨l1, l2, l3, l4⟩ := HR.out.lens
    have HL4 := hide l4
    have hn5 : st.2.2.length ≤ 5 := by omega
    have HF : Hid (waitsF st x = bif (decide (nameIx st.2.2 x < st.2.2.length) && !canB st (nameIx st.2.2 x)) then waitsUp st (nameIx st.2.2 x) st.2.1.length else []) := by simp [waitsF, hok, Hid]
    clear hok l4
    generalize stOk st = code at *
    go_wp2_with fail
    refine (index_any _ _ _ st.2.2 x _ (HS.out.below HB1.out).parts.2.2 (by omega)).mono ?_
    rintro e w2 ⟨rfl, hw2⟩
    have hb2 : Below w1.heap.size w1 w2 := by rw [← hw2]; exact Below.refl _ _
    clear hw2
    replace c0 := cell_later hb2 c0
    replace c1 := cell_later hb2 c1
    replace c2 := cell_later hb2 c2
    have HB2 := hide (below_tail HB1.out hb2)
    clear hb2
    by_cases hix : nameIx st.2.2 x < st.2.2.length
    · have hres : nameRes st.2.2 x = (nameIx st.2.2 x : Int) := if_pos hix
      rw [hres]
      clear hres
      generalize nameIx st.2.2 x = i at *
      have hit : i < st.2.1.length := by have := HL4.out; omega
      have hkd : decide ((i : Int) < 0) = false := by simp
      cases hcan : canB st i with
      | true =>
        have HF2 := hide (show waitsF st x = [] by rw [HF.out]; simp [hcan])
        have HCAN := hide hcan
        clear hcan
        go_wp2_with fail
        refine (canMove_any _ st pz i _ (HS.out.below HB2.out) (CapSt.below HC.out HS.out HB2.out) HR.out (pz_ok st) hit).mono ?_
        rintro e w3 ⟨rfl, hb3⟩
        rw [canP_pz, HCAN.out]
        have HB3 := hide (below_tail HB2.out hb3)
        clear hb3
        go_wp2_with fail
        go_ret
        exact ⟨_, rfl, by rw [HF2.out]; exact OwnInts.nil _ _, HB3.out⟩
      | false =>
        have HF2 := hide (show waitsF st x = waitsUp st i st.2.1.length by rw [HF.out]; simp [hcan, hix])
        have hz : ¬ (tPath st.2.1 i).length = 0 := fun e => by simp [canB, e] at hcan
        obtain ⟨s, hs, hsl⟩ := HR.out.first i hit hz
        have HUP := hide (fun k => waitsUp_succ st i k hs)
        have HCAN := hide hcan
        have HSE := hide hs
        clear hcan hs
        go_wp2_with fail
        refine (canMove_any _ st pz i _ (HS.out.below HB2.out) (CapSt.below HC.out HS.out HB2.out) HR.out (pz_ok st) hit).mono ?_
        rintro e w3 ⟨rfl, hb3⟩
        rw [canP_pz, HCAN.out]
        replace c0 := cell_later hb3 c0
        replace c1 := cell_later hb3 c1
        replace c2 := cell_later hb3 c2
        have HB3 := hide (below_tail HB2.out hb3)
        clear hb3
        go_wp2_with fail
        have HC1 := hide c1
        have HC2 := hide c2
        have hszw : w.heap.size < w3.heap.size := World.block_lt_of_cell? _ _ c1
        clear c0 c1 c2
        go_loopw [6, 27] (fun u j wr => ∃ k : Nat, k ≤ st.2.1.length ∧ j = .int .i64 k ∧ OwnInts w3.heap.size wr u (waitsUp st i k) ∧ Below w3.heap.size w3 wr) (fun _ j _ => st.2.1.length - (intOf j).toNat)
        case atStart => exact ⟨0, Nat.zero_le _, rfl, OwnInts.nil _ _, Below.refl _ _⟩
        case round =>
          obtain ⟨k, hk, rfl, hown, hb⟩ := hrel
          have hbw := below_tail HB3.out hb
          by_cases hlt : k < st.2.1.length
          · have HSW := hide (HS.out.below hbw)
            obtain ⟨b, off, rfl, vp, t0, t1, hI, t2⟩ := HSW.out.parts.2.1.trainAt k hlt
            obtain ⟨ap, cp, rfl, -⟩ := hI
            obtain ⟨b', off', e', vq, s0, s1, hJ, s2⟩ := HSW.out.parts.2.1.trainAt i hit
            simp only [Option.some.injEq, Addr.mk.injEq, and_true] at e'
            obtain ⟨rfl, rfl⟩ := e'
            have HJ := hide hJ
            obtain ⟨aq, cq, rfl, -⟩ := hJ
            obtain ⟨b2, off2, rfl, hx⟩ := IntsAt.cellAt HJ.out 0 (by omega)
            rw [HSE.out, Nat.add_zero] at hx
            obtain ⟨nb, noff, rfl, n0⟩ := HSW.out.parts.2.2.cellAt k (by have := HL4.out; omega)
            have d1 := cell_later hb HC1.out
            have d2 := cell_later hb HC2.out
            have HB := hide hb
            have HO := hide hown
            have hsz : w.heap.size < wr.heap.size := World.block_lt_of_cell? _ _ d1
            have lt1 : b < wr.heap.size := World.block_lt_of_cell? _ _ t0
            have lt2 : b2 < wr.heap.size := World.block_lt_of_cell? _ _ hx
            have lt3 : nb < wr.heap.size := World.block_lt_of_cell? _ _ n0
            have hii : (i : Int) < (st.2.1.length : Int) := by omega
            have hi0 : (0 : Int) ≤ (i : Int) := by omega
            have hkn : (k : Int) < (st.2.2.length : Int) := by have := HL4.out; omega
            have hk0 : (0 : Int) ≤ (k : Int) := by omega
            have HZ0 : Hid (0 < (tPath st.2.1 i).length) := show 0 < _ by omega
            clear hb hown hbw s0 s2 HJ
            go_wp2_with fail
            obtain ⟨V, hV⟩ : ∃ V, V = wr.alloc (.cells #[.int .i64 (tAt st.2.1 k), .slice ap (tPath st.2.1 k).length cp, .int .i64 (tWt st.2.1 k)] 35) := ⟨_, rfl⟩
            rw [← hV]
            have hbV : Below wr.heap.size wr V := by rw [hV]; exact Joins.below_alloc1 _ _
            have T0 : V.cell? ⟨wr.heap.size, 0, none⟩ = some (.int .i64 (tAt st.2.1 k)) := by rw [hV]; simp
            have S1 := cell_later hbV s1
            have D1 := cell_later hbV d1
            have D2 := cell_later hbV d2
            have X0 := cell_later hbV hx
            have N0 := cell_later hbV n0
            have HBV := hide (below_tail HB.out hbV)
            have HOV := hide (HO.out.below hbV)
            have hVs : w3.heap.size ≤ V.heap.size := HBV.out.size
            clear hV hbV t0 t1 t2 s1 d1 d2 hx n0 HB HO hz lt1 lt2 lt3
            have HUPk := hide (HUP.out k)
            generalize tAt st.2.1 k = y at *
            generalize (tPath st.2.1 i).length = np at *
            have hp0 : 0 < np := HZ0.out
            cases hon : (y == (s : Int)) with
            | false =>
              rw [hon] at HUPk
              go_quiet (fail)
              go_wp2_with fail
              go_roundw
              case rel => exact ⟨k + 1, by omega, by go_num, by rw [HUPk.out]; simpa using HOV.out.below (Joins.below_draws _ _ _), below_tail HBV.out (Joins.below_draws _ _ _)⟩
              case measure => simp [intOf]; omega
            | true =>
              rw [hon] at HUPk
              have hml := waitsUp_le st i k
              obtain ⟨i0, hi, hz0, hz1, hz2⟩ := info_parts Tryd.infoInt
              have HI0 := hide hi
              have HZ0 := hide hz0
              have HZ1 := hide hz1
              have HZ2 := hide hz2
              clear hi hz0 hz1 hz2
              go_quiet (fail)
              have hbQ : Below V.heap.size V (V.drewN nq) := Joins.below_draws _ _ _
              have D2' := cell_later hbQ D2
              have N0' := cell_later hbQ N0
              have HBQ := hide (below_tail HBV.out hbQ)
              have HOQ := hide (HOV.out.below hbQ)
              clear hbQ
              generalize V.drewN nq = W at *
              have hWs : w3.heap.size ≤ W.heap.size := HBQ.out.size
              go_wp2_with (first | (at_builtin; refine wpList_append_lies _ rfl _ _ 23 rfl w3.heap.size 3 i0 (.int .i64 0) 1 8 Tryd.underlying23 HI0.out HZ0.out HZ1.out HZ2.out rfl (by decide) _ _ _ rfl (HOQ.out.alloc _) ⟨W.heap.size, 0, none⟩ 1 1 [.int .i64 (el st.2.2 k)] rfl rfl ?c1 ?c2 (by decide) ?c3 ?c4 ?c5 _ rfl ?_))
              case c1 => exact cell_one_new _ _ _
              case c2 => intro u hu; simp at hu; subst hu; rfl
              case c3 => unfold maxLen; omega
              case c4 => omega
              case c5 => simp; omega
              · intro g cap w4 hown3 hgrow _ _
                have HO3 := hide (OwnInts.snoc hown3)
                have HB3' := hide (below_grown (HBQ.out.alloc HBQ.out.size (.cells #[.int .i64 (el st.2.2 k)] 3)) (HOQ.out.alloc (.cells #[.int .i64 (el st.2.2 k)] 3)) hgrow (by simp; omega) (Nat.le_refl _))
                clear hown3 hgrow
                go_wp2_with fail
                go_roundw
                case rel => exact ⟨k + 1, by omega, by go_num, by rw [HUPk.out]; exact HO3.out, HB3'.out⟩
                case measure => simp [intOf]; omega
          · go_wp2_with fail
            go_ret
            obtain rfl : k = st.2.1.length := by omega
            exact ⟨_, rfl, by rw [HF2.out]; exact hown.le HB3.out.size, hbw⟩
    · have hres : nameRes st.2.2 x = -1 := if_neg hix
      rw [hres]
      have HF2 := hide (show waitsF st x = [] by rw [HF.out]; simp [hix])
      clear hres hix
      go_wp2_with fail
      go_ret
      exact ⟨_, rfl, by rw [HF2.out]; exact OwnInts.nil _ _, HB2.out⟩
  · have hokb : (stOk st != 0) = true := by simp [hok]
    have HF2 := hide (show waitsF st x = [] by simp [waitsF, hok])
    clear hok
    generalize stOk st = code at *
    go_wp2_with fail
    go_ret
    exact ⟨_, rfl, by rw [HF2.out]; exact OwnInts.nil _ _, HB1.out⟩

end Go.Proofs.YtmjjigdnoiphbaaDoor
