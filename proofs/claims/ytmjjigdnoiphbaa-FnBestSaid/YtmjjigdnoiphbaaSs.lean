/-
  spec: Solve.
-/
import Derived.Test.YtmjjigdnoiphbaaJ3
import Derived.Test.YtmjjigdnoiphbaaSf7
import Derived.Deep.LoopGhost
import Derived.Deep.RegionHeld3
import Derived.Deep.RegionLaw
namespace Go.Proofs.Ytmjjigdnoiphbaa
open Go.RowKit Go.Deep Go.Maps
set_option linter.unusedVariables false

theorem Tab.keepAll {st0 : St} {B tb cb mb : Nat} {pv' nv : Value} {w w' : World} {cost : Nat → Int} {met : Nat → Bool} (h : Tab st0 B tb cb mb pv' nv w cost met) (hb : ∀ k, (k = tb ∨ k = cb ∨ k = mb ∨ pv'.ownBlock = some k ∨ nv.ownBlock = some k) → w'.heap[k]? = w.heap[k]?) : Tab st0 B tb cb mb pv' nv w' cost met :=
  ⟨(hb tb (Or.inl rfl)).trans h.var, ownsRow_keep h.paths (fun k hk => hb k (Or.inr (Or.inr (Or.inr (Or.inl hk))))), ownsRow_keep h.names (fun k hk => hb k (Or.inr (Or.inr (Or.inr (Or.inr hk))))), rowIs_keep h.costs (hb cb (Or.inr (Or.inl rfl))), rowIs_keep h.mets (hb mb (Or.inr (Or.inr (Or.inl rfl)))), h.ok, h.tc, h.tm, h.cm, h.pn⟩

set_option maxRecDepth 4000 in
set_option maxHeartbeats 8000000 in
theorem specSolve_any (v : Value) (st : St) (w : World) (h : StateAt w v st) :
    Calls Try.prog 20 #[v] w fun e w' => ∃ r, e = .returned (.agg #[.bool (solveF st).1, .int .i64 (solveF st).2.1, r]) ∧ OwnInts w.heap.size w' r (solveF st).2.2 ∧ Below w.heap.size w w' := by
  have HS := hide h
  obtain ⟨a1, q1, a2, q2, a3, q3, rfl⟩ := h.form
  clear h
  go_enter Try.func20, Try.ntmps20
  go_wp2_with fail
  obtain ⟨W0, hW0⟩ : ∃ W0, W0 = (w.alloc (.cells #[.slice a1 st.1.length q1, .slice a2 st.2.1.length q2, .slice a3 st.2.2.length q3] 26)).alloc (.cells #[.bool false, .int .i64 0, .slice none 0 0] 32) := ⟨_, rfl⟩
  rw [← hW0]
  have HB0 : Hid (Below w.heap.size w W0) := by rw [hW0]; exact Joins.below_alloc2 _ _ _
  have HX0 : Hid (W0.heap[w.heap.size]? = some (.cells #[.slice a1 st.1.length q1, .slice a2 st.2.1.length q2, .slice a3 st.2.2.length q3] 26 (0, 0))) := by rw [hW0]; exact blockLater (Joins.below_alloc1 _ _) (heap_alloc_new _ _)
  have HR0 : Hid (W0.heap[w.heap.size + 1]? = some (.cells #[.bool false, .int .i64 0, .slice none 0 0] 32 (0, 0))) := by rw [hW0]; exact heap_alloc2_new _ _ _
  clear hW0
  refine (specStateOk_any _ st _ (HS.out.below HB0.out)).mono ?_
  rintro e w1 ⟨rfl, hb1⟩
  have HX1 := hide (blockLater hb1 HX0.out)
  have HR1 := hide (blockLater hb1 HR0.out)
  have HB1 := hide (below_tail HB0.out hb1)
  obtain ⟨c0, c1, c2, _⟩ := block3 HX1.out
  obtain ⟨r0, r1, r2, rf⟩ := block3 HR1.out
  have rf0 := rf 0
  have rf1 := rf 1
  have rf2 := rf 2
  clear hb1 rf
  by_cases hok : stOk st = 0
  · have HR := hide (right_of_ok hok)
    have hokb : (stOk st != 0) = false := by simp [hok]
    obtain ⟨l1, l2, l3, l4⟩ := HR.out.lens
    have HL4 := hide l4
    have HP := hide (behind_pz l4)
    have HOK := hide hok
    have HVP := hide (vP_pz l4)
    clear hok l4
    generalize stOk st = code at hokb c0 ⊢
    go_wp2_with fail
    refine (l2new_any _ st _ (HS.out.below HB1.out) HR.out).mono ?_
    rintro e w2 ⟨tb, cb, mb, pv', nv, rfl, ht, hcb, hmb, hb2⟩
    have HX2 := hide (blockLater hb2 HX1.out)
    have HR2 := hide (blockLater hb2 HR1.out)
    have HB2 := hide (below_tail HB1.out hb2)
    have HT2 := hide ht
    have hw1 : w.heap.size + 1 < w1.heap.size := (Array.getElem?_eq_some_iff.1 HR1.out).1
    have hw12 := hb2.size
    have hcb2 : cb < w2.heap.size := ht.costs.lt
    have hmb2 : mb < w2.heap.size := ht.mets.lt
    obtain ⟨d0, d1, d2, _⟩ := block3 HX2.out
    clear hb2 ht c0 c1 c2 r0 r1 r2 rf0 rf1 rf2
    go_wp2_with fail
    have hval := value_any st w1.heap.size tb cb mb pv' nv HR.out _ pz (.agg #[.slice a1 st.1.length q1, .slice a2 st.2.1.length q2, .slice a3 st.2.2.length q3]) w2 _ _ (pz_ok st) rfl (fun w' hw' => by rw [HP.out]; exact HS.out.below (HB2.out.trans (hw'.below (by omega) (fun k hk e => by rcases e with e | e <;> omega)))) HT2.out
    rw [HP.out] at hval
    refine hval.mono ?_
    clear hval
    rintro e w3 ⟨rfl, ⟨cost3, met3, ht3⟩, hc3⟩
    have HT3 := hide ht3
    have HC3 := hide hc3
    have HX3 : Hid (w3.heap[w.heap.size]? = some (.cells #[.slice a1 st.1.length q1, .slice a2 st.2.1.length q2, .slice a3 st.2.2.length q3] 26 (0, 0))) := (hc3.block w.heap.size (by omega) (fun e => by rcases e with e | e <;> omega)).trans HX2.out
    have HR3 : Hid (w3.heap[w.heap.size + 1]? = some (.cells #[.bool false, .int .i64 0, .slice none 0 0] 32 (0, 0))) := (hc3.block (w.heap.size + 1) (by omega) (fun e => by rcases e with e | e <;> omega)).trans HR2.out
    have hw23 := hc3.size
    obtain ⟨d0, d1, d2, _⟩ := block3 HX3.out
    obtain ⟨r0, r1, r2, rf⟩ := block3 HR3.out
    have rf0 := rf 0
    have rf1 := rf 1
    have rf2 := rf 2
    have HB3 : Hid (Below w.heap.size w w3) := HB2.out.trans (hc3.below (by omega) (fun k hk e => by rcases e with e | e <;> omega))
    clear ht3 hc3 rf
    rw [← HVP.out]
    by_cases hneg : vP st pz < 0
    · have HF := hide (show solveF st = (false, 0, []) by unfold solveF; rw [if_neg (by omega)])
      generalize vP st pz = vv at *
      go_wp2_with fail
      refine bodyPost_ret ?_ rfl ⟨.slice none 0 0, rfl, ?_, ((HB3.out.setCell (p := ⟨w.heap.size + 1, 0, none⟩) (by simp) _).setCell (p := ⟨w.heap.size + 1, 1, none⟩) (by simp) _).setCell (p := ⟨w.heap.size + 1, 2, none⟩) (by simp) _⟩
      · rw [HF.out]
        simp [results, Try.results20, go_sem, r0, r1, r2]
      · rw [HF.out]
        exact OwnInts.nil _ _
    · have HF := hide (show solveF st = (true, vP st pz, solveP st pz) by unfold solveF; rw [if_pos ⟨HOK.out, by omega⟩])
      have hvb := (vP_bounds HR.out.so (pz_ok st)).2
      obtain ⟨vv, hvv⟩ : ∃ vv, vP st pz = vv := ⟨_, rfl⟩
      rw [hvv] at HF hneg hvb ⊢
      have HVV := hide hvv
      clear hvv
      go_wp2_with fail
      obtain ⟨W4, hW4⟩ : ∃ W4, W4 = w3.alloc (.cells #[.bool true, .int .i64 vv, .slice none 0 0] 32) := ⟨_, rfl⟩
      rw [← hW4]
      have hb4 : Below w3.heap.size w3 W4 := by rw [hW4]; exact Joins.below_alloc1 _ _
      have HO4 : Hid (W4.heap[w3.heap.size]? = some (.cells #[.bool true, .int .i64 vv, .slice none 0 0] 32 (0, 0))) := by rw [hW4]; exact heap_alloc_new _ _
      have HX4 := hide (blockLater hb4 HX3.out)
      have HR4 := hide (blockLater hb4 HR3.out)
      have HT4 := hide (HT3.out.below hb4)
      have HB4 := hide (below_tail HB3.out hb4)
      have ho4 : w3.heap.size < W4.heap.size := (Array.getElem?_eq_some_iff.1 HO4.out).1
      have hzo : w.heap.size + 1 < w3.heap.size := by omega
      clear hW4 hb4 d0 d1 d2 r0 r1 r2 rf0 rf1 rf2
      obtain ⟨z, hz⟩ : ∃ z, w.heap.size = z := ⟨_, rfl⟩
      obtain ⟨o, ho⟩ : ∃ o, w3.heap.size = o := ⟨_, rfl⟩
      have HT3O : Hid (∃ c' m', Tab st w1.heap.size tb cb mb pv' nv w3 c' m' ∧ w3.heap.size = o) := ⟨_, _, HT3.out, ho⟩
      rw [hz] at HX4 HR4 hzo hw1
      rw [ho] at HO4 ho4 hzo hw23
      have HZ := hide hz
      have HZB : Hid (∀ W', Below z w W' → Below w.heap.size w W') := fun W' hh => by rw [hz]; exact hh
      have HB4' : Hid (Below z w W4) := by rw [← hz]; exact HB4.out
      simp only [hz, ho]
      clear hz ho HX3 HR3 HT3 HC3 HB3 HX2 HR2 HT2 HB2 HX1 HR1 HB1 HX0 HR0 HB0 HB4
      go_loopg [6] (restR st pz) (fun gk _ wr => ∃ (d : Pr) (M : List Int) (mv : Value), restR st d = gk ∧ PV st d ∧ FitP st d ∧ 0 ≤ vP st d ∧ M ++ solveP st d = solveP st pz ∧ OwnInts (o + 1) wr mv M ∧ wr.heap[o]? = some (.cells #[.bool true, .int .i64 vv, mv] 32 (0, 0)) ∧ wr.heap[z + 1]? = some (.cells #[.bool false, .int .i64 0, .slice none 0 0] 32 (0, 0)) ∧ (∃ cost met, Tab st w1.heap.size tb cb mb pv' nv wr cost met) ∧ (∃ b1 p1 b2 p2 b3 p3, wr.heap[z]? = some (.cells #[.slice b1 (behindSt st d).1.length p1, .slice b2 (behindSt st d).2.1.length p2, .slice b3 (behindSt st d).2.2.length p3] 26 (0, 0)) ∧ (∀ w'', Chg (fun q => q = z ∨ q = o ∨ q = cb ∨ q = mb ∨ mv.ownBlock = some q) wr w'' → StateAt w'' (.agg #[.slice b1 (behindSt st d).1.length p1, .slice b2 (behindSt st d).2.1.length p2, .slice b3 (behindSt st d).2.2.length p3]) (behindSt st d))) ∧ Below z w wr ∧ o < wr.heap.size)
      case atStart =>
        refine ⟨pz, [], .slice none 0 0, rfl, PV.pz st, fit_pz HR.out, by have := HVV.out; omega, rfl, OwnInts.nil _ _, HO4.out, HR4.out, ⟨_, _, HT4.out⟩, ?_, HB4'.out, ho4⟩
        rw [HP.out]
        exact ⟨_, _, _, _, _, _, HX4.out, fun w'' hc => HS.out.below (HZB.out _ (HB4'.out.trans (hc.below (by omega) (fun k hk e => by rcases e with e | e | e | e | e <;> first | omega | (simp [Value.ownBlock] at e)))))⟩
      case round =>
        obtain ⟨d, M, mv, hgk, hpv, hfit, hnn, hM, hown, hO, hRr, ⟨cost, met, ht⟩, ⟨b1, p1, b2, p2, b3, p3, hX, hSt⟩, hb, hor⟩ := hrel
        obtain ⟨ma, mc, rfl⟩ := hown.form
        obtain ⟨x0, x1, x2, xf⟩ := block3 hX
        have hLN := (HR.out.so.behind hpv.ok).lens
        obtain ⟨m1, m2, m3, m4⟩ := hLN
        have HSO := hide (HR.out.so.behind hpv.ok)
        have HM4 := hide m4
        have HE := hide (behind_none (st := st) (d := d))
        have HPV := hide hpv
        have HFIT := hide hfit
        have HGK := hide hgk
        have HMM := hide hM
        have HOWN := hide hown
        have HO := hide hO
        have HRR := hide hRr
        have HT := hide ht
        have HX := hide hX
        have HST := hide hSt
        have HB := hide hb
        have hzr : z < wr.heap.size := by omega
        have hmvlo : ∀ q, Value.ownBlock (.slice ma M.length mc) = some q → o + 1 ≤ q := fun q e => (ownBlock_lt hown e).1
        have HWT := hide (wt_behind (st := st) (d := d))
        have HVD := hide (show vP st d = val (behindSt st d) from rfl)
        have hvb2 := (vP_bounds HR.out.so hpv.ok).2
        obtain ⟨s0, s1⟩ := wtP_le HR.out.so d
        have HNB : Hid (∀ j, j < (behindSt st d).2.1.length → ∃ i, i < st.2.1.length ∧ leftB st.2.1 d i = false ∧ posUp st.2.1 d i = j ∧ canB (behindSt st d) j = canP st d i ∧ stepSt (behindSt st d) j = behindSt st (bump d i) ∧ el (behindSt st d).2.2 j = el st.2.2 i) := fun j hj => by
          rw [behind_len] at hj
          obtain ⟨i, h1, h2, h3⟩ := pos_inv _ hj
          subst h3
          exact ⟨i, h1, h2, rfl, canB_behind hpv.ok h1 h2, step_behind hpv.ok h1 h2, behind_name h1 h2⟩
        have HNI : Hid (∀ i, i < st.2.1.length → leftB st.2.1 d i = false → canB (behindSt st d) (posUp st.2.1 d i) = canP st d i ∧ stepSt (behindSt st d) (posUp st.2.1 d i) = behindSt st (bump d i)) := fun i h1 h2 => ⟨canB_behind hpv.ok h1 h2, step_behind hpv.ok h1 h2⟩
        have HPL : Hid (∀ i, i < st.2.1.length → leftB st.2.1 d i = false → posUp st.2.1 d i < (behindSt st d).2.1.length) := fun i h1 h2 => behind_lt h1 h2
        have HCU : Hid (behindSt st d = behindSt st d) := rfl
        obtain ⟨cu, hcu⟩ : ∃ cu, behindSt st d = cu := ⟨_, rfl⟩
        rw [hcu] at x0 x1 x2 m1 m2 m3 HSO HM4 HE HX HWT HVD HNB HPL HNI
        have HST' : Hid (∀ w'', Chg (fun q => q = z ∨ q = o ∨ q = cb ∨ q = mb ∨ Value.ownBlock (.slice ma M.length mc) = some q) wr w'' → StateAt w'' (.agg #[.slice b1 cu.1.length p1, .slice b2 cu.2.1.length p2, .slice b3 cu.2.2.length p3]) cu) := by rw [← hcu]; exact HST.out
        have HDC := hide hcu
        clear hgk hpv hfit hM hown hO hRr ht hX hSt hb m4 hcu HST HCU
        by_cases h0 : cu.2.1.length = 0
        · have h0i : ¬ ((cu.2.1.length : Int) > 0) := by omega
          have hall := HE.out.1 h0
          have HMF : Hid (M = solveP st pz) := by
            have := HMM.out
            rw [solveP_end hall, List.append_nil] at this
            exact this
          obtain ⟨y0, y1, y2, yf⟩ := block3 HO.out
          obtain ⟨r0, r1, r2, rf⟩ := block3 HRR.out
          have rf0 := rf 0
          have rf1 := rf 1
          have rf2 := rf 2
          clear rf yf hall
          go_wp2_with fail
          refine bodyPost_ret ?_ rfl ⟨.slice ma M.length mc, rfl, ?_, HZB.out _ (((HB.out.setCell (p := ⟨z + 1, 0, none⟩) (by simp) _).setCell (p := ⟨z + 1, 1, none⟩) (by simp) _).setCell (p := ⟨z + 1, 2, none⟩) (by simp) _)⟩
          · rw [HF.out]
            simp [results, Try.results20, go_sem, r0, r1, r2]
          · rw [HF.out]
            simp only
            rw [← HMF.out]
            refine OwnInts.le (base := o + 1) ?_ (by rw [HZ.out]; omega)
            exact ownsRow_keep HOWN.out (fun q hq => by
              have := hmvlo q hq
              rw [Below.heap_setCell _ _ _ _ (by simp; omega), Below.heap_setCell _ _ _ _ (by simp; omega), Below.heap_setCell _ _ _ _ (by simp; omega)])
        · have h0i : (cu.2.1.length : Int) > 0 := by omega
          have hnl : ¬ allLeft st d = true := fun e => h0 (HE.out.2 e)
          have HBM := hide (bm_ok HR.out.so HPV.out.ok hnl hnn)
          have HVAL : Hid (∀ W' c' m', (∀ w'', Chg (CM cb mb) W' w'' → StateAt w'' (.agg #[.slice b1 cu.1.length p1, .slice b2 cu.2.1.length p2, .slice b3 cu.2.2.length p3]) cu) → Tab st w1.heap.size tb cb mb pv' nv W' c' m' → Calls Try.prog 55 #[.pointer (some ⟨tb, 0, none⟩), .agg #[.slice b1 cu.1.length p1, .slice b2 cu.2.1.length p2, .slice b3 cu.2.2.length p3]] W' fun e w' => e = .returned (.int .i64 (vP st d)) ∧ (∃ cost' met', Tab st w1.heap.size tb cb mb pv' nv w' cost' met') ∧ Chg (CM cb mb) W' w') := fun W' c' m' h1 h2 => by
            have := value_any st w1.heap.size tb cb mb pv' nv HR.out _ d (.agg #[.slice b1 cu.1.length p1, .slice b2 cu.2.1.length p2, .slice b3 cu.2.2.length p3]) W' c' m' HPV.out.ok rfl (by rw [HDC.out]; exact h1) h2
            exact this
          have HSM : Hid (∀ W', Chg (CM cb mb) wr W' → ∀ w'', Chg (CM cb mb) W' w'' → StateAt w'' (.agg #[.slice b1 cu.1.length p1, .slice b2 cu.2.1.length p2, .slice b3 cu.2.2.length p3]) cu) := fun W' h1 w'' h2 => HST'.out _ ((h1.trans h2).mono (fun q e => by rcases e with e | e <;> simp [e]))
          have HXK : Hid (∀ W', Chg (CM cb mb) wr W' → W'.heap[z]? = some (.cells #[.slice b1 cu.1.length p1, .slice b2 cu.2.1.length p2, .slice b3 cu.2.2.length p3] 26 (0, 0))) := fun W' h1 => (h1.block z hzr (fun e => by rcases e with e | e <;> omega)).trans HX.out
          obtain ⟨vd, hvd⟩ : ∃ vd, vP st d = vd := ⟨_, rfl⟩
          obtain ⟨wt, hwt⟩ : ∃ wt, wtP st d = wt := ⟨_, rfl⟩
          rw [hvd] at HVAL hnn hvb2
          rw [hwt] at HWT s0 s1
          have HVDD := hide hvd
          have HWTT := hide hwt
          have hsub : wrap64 (vd - wt) = vd - wt := by unfold wrap64; omega
          have hsub2 : IntKind.i64.wrap (vd - wt) = vd - wt := by rw [IntKind.wrap_i64] <;> omega
          clear hvd hwt xf
          go_wp2_with fail
          go_region_held3 (fun w' => w'.cell? ⟨z, 0, none⟩ = some (.slice b1 cu.1.length p1) ∧ w'.cell? ⟨z, 1, none⟩ = some (.slice b2 cu.2.1.length p2) ∧ w'.cell? ⟨z, 2, none⟩ = some (.slice b3 cu.2.2.length p3))
            (first | exact ⟨by exact x0, by exact x1, by exact x2⟩ | exact ⟨kb0, kb1, kb2⟩ | exact ⟨ka0, ka1, ka2⟩ | go_keep)
            (first | (go_at_call 55; refine (HVAL.out _ _ _ (HSM.out _ (Chg.of_below (Joins.below_draws _ _ 1))) (HT.out.below (Joins.below_draws _ _ 1))).mono ?_; rintro e wa ⟨rfl, ⟨cca, mma, hta⟩, hca0⟩; have hca := (Chg.of_below (F := CM cb mb) (Joins.below_draws wr.heap.size wr 1)).trans hca0; obtain ⟨ka0, ka1, ka2, _⟩ := block3 (HXK.out _ hca)) | (go_at_call 56; refine (l2weight_any _ cu _ (HSM.out _ hca _ (Chg.refl _ _)) HSO.out).mono ?_; rw [HWT.out]; rintro e wb ⟨rfl, hbb⟩; have kb0 := cell_later hbb ka0; have kb1 := cell_later hbb ka1; have kb2 := cell_later hbb ka2))
          all_goals
            have hbb' := hbb
            have HCB : Hid (Chg (CM cb mb) wr wb) := hca.trans (Chg.of_below hbb)
            have HTB : Hid (∃ c' m', Tab st w1.heap.size tb cb mb pv' nv wb c' m') := ⟨_, _, hta.below hbb⟩
            clear hbb hbb' hta hca hca0 ka0 ka1 ka2 x0 x1 x2
            go_wp2_with fail
            clear kb0 kb1 kb2
            go_loopw [35] (fun i wi => ∃ k : Nat, i = .int .i64 k ∧ k ≤ cu.2.1.length ∧ (∀ j, j < k → ¬ (canB cu j = true ∧ val (stepSt cu j) = vd - wt)) ∧ Chg (CM cb mb) wr wi ∧ (∃ c' m', Tab st w1.heap.size tb cb mb pv' nv wi c' m')) (fun i _ => cu.2.1.length - (intOf i).toNat)
            case atStart => exact ⟨0, rfl, Nat.zero_le _, fun j hj => absurd hj (Nat.not_lt_zero _), HCB.out, HTB.out⟩
            case round =>
              obtain ⟨k, rfl, hk, hno, hc, ⟨c', m', ht⟩⟩ := hrel
              have hX := HXK.out _ hc
              obtain ⟨x0, x1, x2, xf⟩ := block3 hX
              have hsz := hc.size
              have hzw : z < wr.heap.size := by omega
              have HXI := hide hX
              have HTI := hide ht
              have HCI := hide hc
              have HNO := hide hno
              clear hX ht hc hno
              by_cases hlt : k < cu.2.1.length
              · obtain ⟨i, hi, hil, hpos, hcb, hstp, hnm⟩ := HNB.out k hlt
                have HVB : Hid (-1 ≤ vP st (bump d i) ∧ vP st (bump d i) ≤ 22500) := vP_bounds HR.out.so (HPV.out.bump hi hil).ok
                have HCBE := hide hcb
                have HSTE := hide hstp
                have HNME := hide hnm
                have HPOS := hide hpos
                clear hcb hstp hnm hpos
                go_wp2_with fail
                refine (l1can_so _ cu k _ (HSM.out _ HCI.out _ (Chg.refl _ _)) HSO.out hlt).mono ?_
                rintro e w5 ⟨rfl, hb5⟩
                have HX5 := hide (blockLater hb5 HXI.out)
                have HT5 := hide (HTI.out.below hb5)
                have HC5 : Hid (Chg (CM cb mb) _ w5) := HCI.out.trans (Chg.of_below hb5)
                obtain ⟨y0, y1, y2, yf⟩ := block3 HX5.out
                have hs5 := hb5.size
                clear hb5 x0 x1 x2 xf
                cases hcan : canB cu k with
                | false =>
                  have HNX : Hid (∀ j, j < k + 1 → ¬ (canB cu j = true ∧ val (stepSt cu j) = vd - wt)) := fun j hj => by
                    by_cases e : j = k
                    · subst e; rw [hcan]; simp
                    · exact HNO.out j (by omega)
                  clear hcan
                  go_wp2_with fail
                  go_roundw
                  case rel => exact ⟨k + 1, by go_num, by omega, HNX.out, HC5.out, ⟨_, _, HT5.out⟩⟩
                  case measure => simp [intOf]; omega
                | true =>
                  go_wp2_with fail
                  refine (l1step_any _ cu k _ (HSM.out _ HC5.out _ (Chg.refl _ _)) HSO.out.small hlt HM4.out).mono ?_
                  rintro e w6 ⟨rr, rfl, hrs, hb6⟩
                  have HX6 := hide (blockLater hb6 HX5.out)
                  have HT6 := hide (HT5.out.below hb6)
                  have HC6 : Hid (Chg (CM cb mb) _ w6) := HC5.out.trans (Chg.of_below hb6)
                  have hcb5 : cb < w5.heap.size := HT5.out.costs.lt
                  have hmb5 : mb < w5.heap.size := HT5.out.mets.lt
                  have HRS : Hid (∀ w', Chg (CM cb mb) w6 w' → StateAt w' rr (behindSt st (bump d i))) := fun w' hw' => by
                    rw [← HSTE.out]
                    exact hrs w' (hw'.mono (fun q hq => by rcases hq with e | e <;> omega))
                  have hs6 := hb6.size
                  clear hb6 hrs y0 y1 y2 yf
                  go_wp2_with fail
                  refine (value_any st w1.heap.size tb cb mb pv' nv HR.out _ _ rr w6 _ _ (HPV.out.bump hi hil).ok rfl HRS.out HT6.out).mono ?_
                  rintro e w7 ⟨rfl, ⟨cost7, met7, ht7⟩, hc7⟩
                  have HT7 := hide ht7
                  have HC7 : Hid (Chg (CM cb mb) _ w7) := HC6.out.trans hc7
                  have hs7 := hc7.size
                  have HX7 := hide (HXK.out _ HC7.out)
                  clear ht7 hc7 HRS
                  by_cases hgood : vP st (bump d i) = vd - wt
                  · have hbm : i = bm st d := by
                      have hb := HBM.out
                      have h1 := hb.least i hi (by rw [← HCBE.out]; exact hcan) (by rw [HVDD.out, HWTT.out]; exact hgood)
                      by_cases e : bm st d = i
                      · exact e.symm
                      · exfalso
                        have h2 := posUp_lt (ts := st.2.1) (d := d) (show bm st d < i by omega) (canP_left hb.can)
                        obtain ⟨g1, g2⟩ := HNI.out (bm st d) hb.lt (canP_left hb.can)
                        refine HNO.out (posUp st.2.1 d (bm st d)) (by have := HPOS.out; omega) ⟨by rw [g1]; exact hb.can, ?_⟩
                        rw [g2]
                        have := hb.eq
                        rw [HVDD.out, HWTT.out] at this
                        exact this
                    have HSOL : Hid (M ++ [el st.2.2 i] ++ solveP st (bump d i) = solveP st pz) := by
                      have := solveP_step HPV.out.ok HBM.out
                      rw [← hbm] at this
                      rw [← HMM.out, this]
                      simp [Hid]
                    have HREST : Hid (restR st (bump d i) + 1 = restR st d) := restR_bump HPV.out.ok hi hil
                    have HPV2 := hide (HPV.out.bump hi hil)
                    have HFIT2 := hide (fit_bump HR.out HFIT.out hi (by rw [← HCBE.out]; exact hcan))
                    have HNN2 : Hid (0 ≤ vP st (bump d i)) := by
                      have := HBM.out.nn
                      rw [← hbm] at this
                      exact this
                    have hML : M.length ≤ 45 := by
                      have h1 := solveP_len HR.out.so (pz_ok st)
                      rw [← HMM.out] at h1
                      simp at h1
                      omega
                    have hgb : (vP st (bump d i) == vd - wt) = true := by rw [hgood]; simp
                    have hkn : k < cu.2.2.length := by have := HM4.out; omega
                    obtain ⟨nb, noff, rfl, nn⟩ := (HSM.out _ HC7.out _ (Chg.refl _ _)).parts.2.2.cellAt k hkn
                    rw [HNME.out] at nn
                    obtain ⟨z0, z1, z2, zf⟩ := block3 HX7.out
                    have HO7 : Hid (w7.heap[o]? = some (.cells #[.bool true, .int .i64 vv, .slice ma M.length mc] 32 (0, 0))) := (HC7.out.block o hor (fun e => by rcases e with e | e <;> omega)).trans HO.out
                    obtain ⟨o0, o1, o2, of⟩ := block3 HO7.out
                    have of2 := of 2
                    have HW7 : Hid (OwnInts (o + 1) w7 (.slice ma M.length mc) M) := ownsRow_keep HOWN.out (fun q hq => HC7.out.block q (ownBlock_lt HOWN.out hq).2 (fun e => by have := hmvlo q hq; rcases e with e | e <;> omega))
                    have ho7 : o < w7.heap.size := (Array.getElem?_eq_some_iff.1 HO7.out).1
                    have hne : Value.ownBlock (.slice ma M.length mc) ≠ some o := fun e => by have := hmvlo o e; omega
                    have hc3 : M.length + 1 ≤ maxLen := by unfold maxLen; omega
                    have hc4 : (M.length + 1) * 8 ≤ 140737488355328 := by omega
                    have hc5 : o + 1 ≤ (w7.alloc (.cells #[.int .i64 (el st.2.2 i)] 3)).drew.heap.size := by show _ ≤ (w7.alloc _).heap.size; simp; omega
                    have HK6 : Hid (∀ w8, (w7.alloc (.cells #[.int .i64 (el st.2.2 i)] 3)).drew.grownBy w8 (Value.ownBlock (.slice ma M.length mc)) → (w8.cell? ⟨o, 2, none⟩ = some (.slice ma M.length mc) ∧ w8.frozen? ⟨o, 2, none⟩ = false)) := fun w8 hg8 => by
                      have hbA : Below w7.heap.size w7 (w7.alloc (.cells #[.int .i64 (el st.2.2 i)] 3)).drew := (Joins.below_alloc1 w7 _).drew
                      have hl : ∀ q, q < w7.heap.size → q < (w7.alloc (.cells #[.int .i64 (el st.2.2 i)] 3)).drew.heap.size := fun q hq => Nat.lt_of_lt_of_le hq hbA.size
                      refine ⟨?_, ?_⟩
                      · rw [hg8.cell_far ⟨o, 2, none⟩ (hl _ ho7) (Ne.symm hne)]; exact cell_later hbA o2
                      · rw [hg8.frozen_far ⟨o, 2, none⟩ (hl _ ho7) (Ne.symm hne), hbA.frozen (p := ⟨o, 2, none⟩) ho7]; exact of2
                    obtain ⟨i0, hi0, hz0, hz1, hz2⟩ := info_parts Try.infoInt
                    have HJ1 := hide hi0
                    have HJ2 := hide hz0
                    have HJ3 := hide hz1
                    have HJ4 := hide hz2
                    have o2' := cell_later (Joins.below_alloc1 w7 (.cells #[.int .i64 (el st.2.2 i)] 3)) o2
                    have hki : (k : Int) < (cu.2.2.length : Int) := by omega
                    clear hi0 hz0 hz1 hz2 of zf
                    change (vP st (bump d i) == vd - wt) = true at hgb
                    unfold vP at hgb hgood
                    generalize val (behindSt st (bump d i)) = vx at *
                    clear hcan hgood hbm
                    go_wp2_with fail
                    go_region_law ((refine step_append_lies _ (by rfl) _ _ _ (by rfl) (o + 1) 3 i0 _ 1 8 Try.underlying23 HJ1.out HJ2.out HJ3.out HJ4.out rfl (by omega) (.slice ma M.length mc) _ _ (by rfl) ((HW7.out.alloc _).drew) ⟨w7.heap.size, 0, none⟩ 1 1 [.int .i64 (el st.2.2 i)] (by rfl) (by rfl) (World.news_of_block (cs := #[.int .i64 (el st.2.2 i)]) (t := 3) (fr := (0, 0)) (heap_alloc_new w7 _)) (by simp [Value.oneCell']) (by omega) hc3 hc4 hc5 (w7.heap.size + 1) (by simp) ?_; intro g2 cap2 w8 hown2 hgrow2 hat2 hlt2; obtain ⟨k61, k62⟩ := HK6.out _ hgrow2))
                    all_goals
                      have hbA : Below w7.heap.size w7 (w7.alloc (.cells #[.int .i64 (el st.2.2 i)] 3)).drew := (Joins.below_alloc1 w7 _).drew
                      have hfar : ∀ q, q < w7.heap.size → Value.ownBlock (.slice ma M.length mc) ≠ some q → w8.heap[q]? = w7.heap[q]? := fun q hq hq2 => by
                        rw [hgrow2.block q (Nat.lt_of_lt_of_le hq hbA.size) (Ne.symm hq2)]
                        exact hbA.block q hq
                      have hg2 : o + 1 ≤ g2 := by
                        rcases hat2 with e | e
                        · exact hmvlo g2 e
                        · omega
                      have HCH9 : Hid (Chg (fun q => q = o ∨ Value.ownBlock (.slice ma M.length mc) = some q) w7 (w8.setCell ⟨o, 2, none⟩ (.slice (some ⟨g2, 0, none⟩) (M.length + 1) cap2))) := by
                        show Chg (fun q => q = o ∨ Value.ownBlock (.slice ma M.length mc) = some q) w7 _
                        exact Chg.setCell (F := fun q => q = o ∨ Value.ownBlock (.slice ma M.length mc) = some q) ⟨hgrow2.os.trans hbA.os, hgrow2.tape.trans hbA.tape, hgrow2.output.trans hbA.output, Nat.le_trans hbA.size hgrow2.size, fun q hq hq2 => hfar q hq (fun e => hq2 (Or.inr e))⟩ (p := ⟨o, 2, none⟩) (Or.inl rfl) _
                      have HO9 : Hid ((w8.setCell ⟨o, 2, none⟩ (.slice (some ⟨g2, 0, none⟩) (M.length + 1) cap2)).heap[o]? = some (.cells #[.bool true, .int .i64 vv, .slice (some ⟨g2, 0, none⟩) (M.length + 1) cap2] 32 (0, 0))) := block3_set2 ((hfar o ho7 hne).trans HO7.out) _
                      have HW9 : Hid (OwnInts (o + 1) (w8.setCell ⟨o, 2, none⟩ (.slice (some ⟨g2, 0, none⟩) (M.length + 1) cap2)) (.slice (some ⟨g2, 0, none⟩) (M.length + 1) cap2) (M ++ [el st.2.2 i])) := ownsRow_keep (OwnInts.snoc hown2) (fun q hq => Below.heap_setCell _ _ _ _ (by
                        have hq' : g2 = q := by simpa [Value.ownBlock] using hq
                        show q ≠ o
                        omega))
                      clear hbA hfar hown2 hgrow2 hat2 hlt2 k61 k62 o0 o1 o2 o2' of2 nn z0 z1 z2
                      generalize w8.setCell ⟨o, 2, none⟩ (.slice (some ⟨g2, 0, none⟩) (M.length + 1) cap2) = W9 at *
                      have hs9 := HCH9.out.size
                      have HB79 : Hid (Below o w7 W9) := HCH9.out.below (by omega) (fun q hq e => by
                        rcases e with e | e
                        · omega
                        · have := hmvlo q e
                          omega)
                      have HT9 : Hid (∃ c' m', Tab st w1.heap.size tb cb mb pv' nv W9 c' m') := by
                        obtain ⟨c3, m3', ht3, he3⟩ := HT3O.out
                        exact ⟨_, _, HT7.out.keepOld ht3 (by rw [he3]; exact HB79.out)⟩
                      have HX9 := hide ((HB79.out.block z (by omega)).trans HX7.out)
                      have HC9 : Hid (Chg (fun q => q = z ∨ q = o ∨ q = cb ∨ q = mb ∨ Value.ownBlock (.slice ma M.length mc) = some q) _ W9) := (HC7.out.mono (fun q e => by rcases e with e | e <;> simp [e])).trans (HCH9.out.mono (fun q e => by rcases e with e | e <;> simp [e]))
                      have HR9 := hide ((HC9.out.block (z + 1) (by omega) (fun e => by
                        rcases e with e | e | e | e | e
                        · omega
                        · omega
                        · omega
                        · omega
                        · have := hmvlo _ e
                          omega)).trans HRR.out)
                      have HB9 : Hid (Below z w W9) := HB.out.trans (HC9.out.below (by omega) (fun q hq e => by
                        rcases e with e | e | e | e | e
                        · omega
                        · omega
                        · omega
                        · omega
                        · have := hmvlo _ e
                          omega))
                      obtain ⟨y0, y1, y2, yf⟩ := block3 HX9.out
                      go_wp2_with fail
                      refine (l1step_any _ cu k W9 (HST'.out _ HC9.out) HSO.out.small hlt HM4.out).mono ?_
                      rintro e wA ⟨rA, rfl, hrA, hbA⟩
                      rw [HSTE.out] at hrA
                      obtain ⟨e1, g1, e2, g2', e3, g3, rfl⟩ := (hrA wA (Chg.refl _ _)).form
                      have hXA := blockLater hbA HX9.out
                      obtain ⟨t0, t1, t2, tf⟩ := block3 hXA
                      have tf0 := tf 0
                      have tf1 := tf 1
                      have tf2 := tf 2
                      have HXA := hide hXA
                      have HRA := hide hrA
                      have HBA := hide hbA
                      have hsA := hbA.size
                      clear hbA hrA hXA tf y0 y1 y2 yf
                      go_wp2_with fail
                      go_roundg (restR st (bump d i))
                      case measure =>
                        have := HREST.out
                        have := HGK.out
                        omega
                      case rel =>
                        have hg9 := (ownBlock_lt HW9.out (k := g2) rfl)
                        have hf : ∀ q, q ≠ z → (((wA.setCell ⟨z, 0, none⟩ (.slice e1 (behindSt st (bump d i)).1.length g1)).setCell ⟨z, 1, none⟩ (.slice e2 (behindSt st (bump d i)).2.1.length g2')).setCell ⟨z, 2, none⟩ (.slice e3 (behindSt st (bump d i)).2.2.length g3)).heap[q]? = wA.heap[q]? := fun q hq => by
                          rw [Below.heap_setCell _ _ _ _ hq, Below.heap_setCell _ _ _ _ hq, Below.heap_setCell _ _ _ _ hq]
                        have htA : ∃ c' m', Tab st w1.heap.size tb cb mb pv' nv (((wA.setCell ⟨z, 0, none⟩ (.slice e1 (behindSt st (bump d i)).1.length g1)).setCell ⟨z, 1, none⟩ (.slice e2 (behindSt st (bump d i)).2.1.length g2')).setCell ⟨z, 2, none⟩ (.slice e3 (behindSt st (bump d i)).2.2.length g3)) c' m' := by
                          obtain ⟨c9, m9, ht9⟩ := HT9.out
                          have ht10 := ht9.below HBA.out
                          refine ⟨_, _, ht10.keepAll (fun q hq => hf q (fun e => ?_))⟩
                          subst e
                          rcases hq with e | e | e | e | e
                          · subst e
                            have h1 := ht9.var
                            rw [HX9.out] at h1
                            simp at h1
                          · omega
                          · omega
                          · have := (ownBlock_lt ht9.paths e).1
                            omega
                          · have := (ownBlock_lt ht9.names e).1
                            omega
                        refine ⟨bump d i, M ++ [el st.2.2 i], .slice (some ⟨g2, 0, none⟩) (M.length + 1) cap2, rfl, HPV2.out, HFIT2.out, HNN2.out, HSOL.out, ?_, ?_, ?_, htA, ⟨_, _, _, _, _, _, block3_set2 (block3_set1 (block3_set0 HXA.out _) _) _, fun w'' hc => HRA.out w'' ?_⟩, (((HB9.out.trans (HBA.out.mono (by omega))).setCell (p := ⟨z, 0, none⟩) (by simp) _).setCell (p := ⟨z, 1, none⟩) (by simp) _).setCell (p := ⟨z, 2, none⟩) (by simp) _, ?_⟩
                        · exact ownsRow_keep (HW9.out.below HBA.out) (fun q hq => hf q (fun e => by
                            have := (ownBlock_lt HW9.out hq).1
                            omega))
                        · rw [hf o (by omega)]; exact blockLater HBA.out HO9.out
                        · rw [hf (z + 1) (by omega)]; exact blockLater HBA.out HR9.out
                        · refine ((((Chg.refl _ wA).setCell (p := ⟨z, 0, none⟩) ?_ _).setCell (p := ⟨z, 1, none⟩) ?_ _).setCell (p := ⟨z, 2, none⟩) ?_ _).trans (hc.mono (fun q e => ?_))
                          · show z < W9.heap.size; omega
                          · show z < W9.heap.size; omega
                          · show z < W9.heap.size; omega
                          · rcases e with e | e | e | e | e
                            · omega
                            · omega
                            · omega
                            · omega
                            · have hq' : g2 = q := by simpa [Value.ownBlock] using e
                              rw [← hq']; exact hg9.2
                        · show o < Array.size _
                          simp [World.setCell]
                          omega
                  · have HNX : Hid (∀ j, j < k + 1 → ¬ (canB cu j = true ∧ val (stepSt cu j) = vd - wt)) := fun j hj => by
                      by_cases e : j = k
                      · subst e
                        rw [HSTE.out]
                        exact fun ee => hgood ee.2
                      · exact HNO.out j (by omega)
                    have hgb : (vP st (bump d i) == vd - wt) = false := by rw [beq_eq_false_iff_ne]; exact hgood
                    change (vP st (bump d i) == vd - wt) = false at hgb
                    unfold vP at hgb hgood
                    generalize val (behindSt st (bump d i)) = vx at *
                    clear hcan
                    go_wp2_with fail
                    go_roundw
                    case rel => exact ⟨k + 1, by go_num, by omega, HNX.out, HC7.out, ⟨_, _, HT7.out⟩⟩
                    case measure => simp [intOf]; omega
              · exfalso
                have hb := HBM.out
                have hp := HPL.out (bm st d) hb.lt (canP_left hb.can)
                obtain ⟨g1, g2⟩ := HNI.out (bm st d) hb.lt (canP_left hb.can)
                refine HNO.out (posUp st.2.1 d (bm st d)) (by omega) ⟨by rw [g1]; exact hb.can, ?_⟩
                rw [g2]
                have := hb.eq
                rw [HVDD.out, HWTT.out] at this
                exact this
  · have hokb : (stOk st != 0) = true := by simp [hok]
    have HF := hide (show solveF st = (false, 0, []) by unfold solveF; rw [if_neg (fun e => hok e.1)])
    clear hok
    generalize stOk st = code at *
    go_wp2_with fail
    refine bodyPost_ret ?_ rfl ⟨.slice none 0 0, rfl, ?_, ((HB1.out.setCell (p := ⟨w.heap.size + 1, 0, none⟩) (by simp) _).setCell (p := ⟨w.heap.size + 1, 1, none⟩) (by simp) _).setCell (p := ⟨w.heap.size + 1, 2, none⟩) (by simp) _⟩
    · rw [HF.out]
      simp [results, Try.results20, go_sem, r0, r1, r2]
    · rw [HF.out]
      exact OwnInts.nil _ _
end Go.Proofs.Ytmjjigdnoiphbaa
