/-
  spec: value.
-/
import Derived.Test.YtmjjigdnoiphbaaDoorSf3
namespace Go.Proofs.YtmjjigdnoiphbaaDoor
open Go.RowKit Go.Deep
set_option linter.unusedVariables false

theorem lesser_keep {c : Bool} {b x wt : Int} (h1 : ¬ b < 0) (h2 : ¬ x + wt < b) : lesser c b x wt = b := by
  unfold lesser
  rw [decide_eq_false h1, decide_eq_false h2]
  simp
theorem SoSt.small {st : St} (h : SoSt st) : SmallSt st := by
  obtain ⟨h1, h2, h3, h4⟩ := h.lens
  exact ⟨by omega, by omega, by omega, fun i hi => by have := (h.train i hi).2.2.1; omega⟩
/-- what value writes -/
abbrev CM (cb mb : Nat) : Nat → Prop := fun q => q = cb ∨ q = mb

theorem Tab.set {st0 : St} {B tb cb mb : Nat} {pv' nv : Value} {w : World} {cost : Nat → Int} {met : Nat → Bool} (h : Tab st0 B tb cb mb pv' nv w cost met) {d : Nat → Nat} (hd : PrOk st0 d) :
    Tab st0 B tb cb mb pv' nv ((w.setCell ⟨mb, idxUp st0.2.1 d st0.2.1.length, none⟩ (.bool true)).setCell ⟨cb, idxUp st0.2.1 d st0.2.1.length, none⟩ (.int .i64 (val (behindSt st0 d))))
      (fun k => if k = idxUp st0.2.1 d st0.2.1.length then val (behindSt st0 d) else cost k) (fun k => if k = idxUp st0.2.1 d st0.2.1.length then true else met k) := by
  have hfar : ∀ q, q ≠ cb → q ≠ mb → ((w.setCell ⟨mb, idxUp st0.2.1 d st0.2.1.length, none⟩ (.bool true)).setCell ⟨cb, idxUp st0.2.1 d st0.2.1.length, none⟩ (.int .i64 (val (behindSt st0 d)))).heap[q]? = w.heap[q]? := fun q h1 h2 => by
    rw [Below.heap_setCell _ _ _ _ h1, Below.heap_setCell _ _ _ _ h2]
  have hm : (w.setCell ⟨mb, idxUp st0.2.1 d st0.2.1.length, none⟩ (.bool true)).rowIs mb 4 (prodUp st0.2.1 st0.2.1.length) (fun k => .bool (if k = idxUp st0.2.1 d st0.2.1.length then true else met k)) :=
    (h.mets.set _ _).congr (fun k hk => by by_cases e : k = idxUp st0.2.1 d st0.2.1.length <;> simp [e])
  have hc0 : (w.setCell ⟨mb, idxUp st0.2.1 d st0.2.1.length, none⟩ (.bool true)).rowIs cb 3 (prodUp st0.2.1 st0.2.1.length) (fun k => .int .i64 (cost k)) := rowIs_keep h.costs (Below.heap_setCell _ _ _ _ h.cm)
  refine ⟨(hfar tb h.tc h.tm).trans h.var, ownsRow_keep h.paths (fun k hk => hfar k (h.pn k (Or.inl hk)).1 (h.pn k (Or.inl hk)).2), ownsRow_keep h.names (fun k hk => hfar k (h.pn k (Or.inr hk)).1 (h.pn k (Or.inr hk)).2), ?_, rowIs_keep hm (Below.heap_setCell _ _ _ _ (Ne.symm h.cm)), fun d' hd' hmet => ?_, h.tc, h.tm, h.cm, h.pn⟩
  · exact (hc0.set _ _).congr (fun k hk => by by_cases e : k = idxUp st0.2.1 d st0.2.1.length <;> simp [e])
  · by_cases e : idxUp st0.2.1 d' st0.2.1.length = idxUp st0.2.1 d st0.2.1.length
    · rw [if_pos e]
      rw [behind_congr (idx_inj hd' hd _ (Nat.le_refl _) e)]
    · rw [if_neg e] at hmet ⊢
      exact h.ok d' hd' hmet

set_option maxRecDepth 8000 in
set_option maxHeartbeats 16000000 in
theorem value_any (st0 : St) (B tb cb mb : Nat) (pv' nv : Value) (hr : RightSt st0) : ∀ (f : Nat) (d : Nat → Nat) (v : Value) (w : World) (cost : Nat → Int) (met : Nat → Bool), PrOk st0 d → remOf (behindSt st0 d) = f →
    (∀ w', Chg (CM cb mb) w w' → StateAt w' v (behindSt st0 d)) → Tab st0 B tb cb mb pv' nv w cost met →
    Calls Tryd.prog 62 #[.pointer (some ⟨tb, 0, none⟩), v] w fun e w' => e = .returned (.int .i64 (val (behindSt st0 d))) ∧ (∃ cost' met', Tab st0 B tb cb mb pv' nv w' cost' met') ∧ Chg (CM cb mb) w w' := by
  intro f
  induction f with
  | zero =>
    intro d v w cost met hd hf hst ht
    have h1 := remUp_pos (behindSt st0 d).2.1 (behindSt st0 d).2.1.length
    have hz : (behindSt st0 d).2.1.length = 0 := by unfold remOf at hf; omega
    have HV := hide (val_zero hz)
    have h := hst w (Chg.refl _ _)
    obtain ⟨a1, q1, a2, q2, a3, q3, rfl⟩ := h.form
    have HT := hide ht
    have hzb : (((behindSt st0 d).2.1.length : Int) == 0) = true := by simp [hz]
    clear h hst ht hf h1 hz
    generalize (behindSt st0 d).2.1.length = n at *
    go_enter Tryd.func62, Tryd.ntmps62
    go_wp2_with fail
    go_ret
    exact ⟨by rw [HV.out]; rfl, ⟨cost, met, HT.out.below (Joins.below_alloc1 _ _)⟩, Chg.of_below (Joins.below_alloc1 _ _)⟩
  | succ f ih =>
    intro d v w cost met hd hf hst ht
    by_cases hz : (behindSt st0 d).2.1.length = 0
    · have HV := hide (val_zero hz)
      have h := hst w (Chg.refl _ _)
      obtain ⟨a1, q1, a2, q2, a3, q3, rfl⟩ := h.form
      have HT := hide ht
      have hzb : (((behindSt st0 d).2.1.length : Int) == 0) = true := by simp [hz]
      clear h hst ht hf hz ih
      generalize (behindSt st0 d).2.1.length = n at *
      go_enter Tryd.func62, Tryd.ntmps62
      go_wp2_with fail
      go_ret
      exact ⟨by rw [HV.out]; rfl, ⟨cost, met, HT.out.below (Joins.below_alloc1 _ _)⟩, Chg.of_below (Joins.below_alloc1 _ _)⟩
    · have HIH := hide ih
      have HR := hide hr
      have HD := hide hd
      have HF := hide hf
      have HST := hide hst
      have HSO := hide (hr.so.behind hd)
      have HVAL := hide (val_pos hz)
      have HVB := hide (val_bounds hr.so hd)
      have HIXL := hide (idx_lt hd st0.2.1.length (Nat.le_refl _))
      have HSTEP : Hid (∀ j, j < (behindSt st0 d).2.1.length → ∃ i, i < st0.2.1.length ∧ leftB st0.2.1 d i = false ∧ stepSt (behindSt st0 d) j = behindSt st0 (bump d i)) := fun j hj => by
        rw [behind_len] at hj
        obtain ⟨i, g1, g2, rfl⟩ := pos_inv _ hj
        exact ⟨i, g1, g2, step_behind hd g1 g2⟩
      have h := hst w (Chg.refl _ _)
      obtain ⟨a1, q1, a2, q2, a3, q3, rfl⟩ := h.form
      have HT := hide ht
      have hzb : (((behindSt st0 d).2.1.length : Int) == 0) = false := by rw [beq_eq_false_iff_ne]; omega
      obtain ⟨s1, s2, s3, s4⟩ := HSO.out.lens
      clear h hst ht hf ih hr hd hz s4
      obtain ⟨st, hstt⟩ : ∃ st, behindSt st0 d = st := ⟨_, rfl⟩
      have HEQ := hide hstt
      rw [hstt] at HST HSO HVAL HVB HSTEP HF s1 s2 s3 hzb ⊢
      clear hstt
      go_enter Tryd.func62, Tryd.ntmps62
      go_wp2_with fail
      obtain ⟨V, hV⟩ : ∃ V, V = w.alloc (.cells #[.slice a1 st.1.length q1, .slice a2 st.2.1.length q2, .slice a3 st.2.2.length q3] 26) := ⟨_, rfl⟩
      rw [← hV]
      have hbV : Below w.heap.size w V := by rw [hV]; exact Joins.below_alloc1 _ _
      have HBX : Hid (V.heap[w.heap.size]? = some (.cells #[.slice a1 st.1.length q1, .slice a2 st.2.1.length q2, .slice a3 st.2.2.length q3] 26 (0, 0))) := by rw [hV]; exact heap_alloc_new _ _
      have hcb : cb < w.heap.size := HT.out.costs.lt
      have hmb : mb < w.heap.size := HT.out.mets.lt
      have HTV := hide (HT.out.below hbV)
      have HCV : Hid (Chg (CM cb mb) w V) := Chg.of_below hbV
      clear hV hbV
      refine (at_any st0 d B tb cb mb pv' nv _ V cost met HR.out HD.out (by rw [HEQ.out]; exact HST.out V HCV.out) HTV.out).mono ?_
      rintro e w1 ⟨rfl, hb1⟩
      have HT1 := hide (HTV.out.below hb1)
      have HC1 : Hid (Chg (CM cb mb) w w1) := HCV.out.trans (Chg.of_below hb1)
      have HX1 := hide (blockLater hb1 HBX.out)
      clear hb1 HTV HCV HBX
      obtain ⟨e0, e1, e2, _⟩ := block3 HX1.out
      obtain ⟨c0, c1, c2, c3, _⟩ := cells4 HT1.out.var
      have HOKM := hide (HT1.out.ok d HD.out)
      have HIX2 := hide HIXL.out
      rw [HEQ.out] at HOKM
      obtain ⟨kx, hkx⟩ : ∃ kx, idxUp st0.2.1 d st0.2.1.length = kx := ⟨_, rfl⟩
      have HKX := hide hkx
      rw [hkx] at HIX2 HOKM ⊢
      clear hkx
      have hm := HT1.out.mets.cell HIX2.out
      have hc := HT1.out.costs.cell HIX2.out
      obtain ⟨NN, hNN⟩ : ∃ NN, prodUp st0.2.1 st0.2.1.length = NN := ⟨_, rfl⟩
      have HNN := hide hNN
      rw [hNN] at c2 c3 HIX2
      have hkn : (kx : Int) < (NN : Int) := by have := HIX2.out; omega
      have hk0 : (0 : Int) ≤ (kx : Int) := by omega
      clear hNN c0 c1
      cases hmk : met kx with
      | true =>
        have HCK := hide (HOKM.out hmk)
        rw [hmk] at hm
        clear hmk
        generalize cost kx = ck at *
        go_wp2_with fail
        go_ret
        exact ⟨by rw [HCK.out]; rfl, ⟨_, _, HT1.out⟩, HC1.out⟩
      | false =>
        rw [hmk] at hm
        clear hmk hc
        go_wp2_with fail
        have hw1 : w.heap.size < w1.heap.size := (Array.getElem?_eq_some_iff.1 HX1.out).1
        obtain ⟨wt, hwt⟩ : ∃ wt, wtOf st = wt := ⟨_, rfl⟩
        have hwb := wtOf_le HSO.out
        have HWT := hide hwt
        rw [hwt] at HVAL hwb
        clear hwt e0 e1 e2 c2 c3 hm
        go_loopw [6, 33] (fun u i wr => ∃ k : Nat, k ≤ st.2.1.length ∧ i = .int .i64 k ∧ u = .int .i64 (overUp st (fun i => val (stepSt st i)) wt k) ∧ (∃ cost' met', Tab st0 B tb cb mb pv' nv wr cost' met') ∧ Chg (CM cb mb) w1 wr) (fun _ i _ => st.2.1.length - (intOf i).toNat)
        case atStart => exact ⟨0, Nat.zero_le _, rfl, rfl, ⟨_, _, HT1.out⟩, Chg.refl _ _⟩
        case round =>
          obtain ⟨k, hk, rfl, rfl, ⟨cost', met', ht'⟩, hc'⟩ := hrel
          have hbx : wr.heap[w.heap.size]? = some (.cells #[.slice a1 st.1.length q1, .slice a2 st.2.1.length q2, .slice a3 st.2.2.length q3] 26 (0, 0)) := (hc'.block w.heap.size hw1 (fun e => by rcases e with e | e <;> omega)).trans HX1.out
          obtain ⟨e0, e1, e2, _⟩ := block3 hbx
          by_cases hlt : k < st.2.1.length
          · have HT' := hide ht'
            have HC' : Hid (Chg (CM cb mb) w wr) := HC1.out.trans hc'
            have HC1' := hide hc'
            have HBX := hide hbx
            have hOB := overUp_le (st := st) (g := fun i => val (stepSt st i)) (wt := wt) (B := 22500) hwb.1 (by omega) k (fun i hi => by
              obtain ⟨i', g1, g2, g3⟩ := HSTEP.out i (by omega)
              rw [g3]
              exact (val_bounds HR.out.so (HD.out.bump g1 g2)).2)
            have HO := hide (show overUp st (fun i => val (stepSt st i)) wt (k + 1) = lesser (canB st k) (overUp st (fun i => val (stepSt st i)) wt k) (val (stepSt st k)) wt from rfl)
            generalize overUp st (fun i => val (stepSt st i)) wt k = b at *
            clear ht' hc' hbx
            go_wp2_with fail
            refine (l1can_so _ st k _ (HST.out _ HC'.out) HSO.out hlt).mono ?_
            rintro e w2 ⟨rfl, hb2⟩
            have HT2 := hide (HT'.out.below hb2)
            have HC2 : Hid (Chg (CM cb mb) w w2) := HC'.out.trans (Chg.of_below hb2)
            have HC12 : Hid (Chg (CM cb mb) w1 w2) := HC1'.out.trans (Chg.of_below hb2)
            have HBX2 := hide (blockLater hb2 HBX.out)
            obtain ⟨f0, f1, f2, _⟩ := block3 HBX2.out
            clear hb2 e0 e1 e2 HT' HC' HC1' HBX
            cases hcan : canB st k with
            | false =>
              rw [hcan] at HO
              have HO2 := hide (show overUp st (fun i => val (stepSt st i)) wt (k + 1) = b by rw [HO.out]; simp [lesser])
              clear hcan
              go_wp2_with fail
              go_roundw
              case rel => exact ⟨k + 1, by omega, by go_num, by rw [HO2.out], ⟨_, _, HT2.out⟩, HC12.out⟩
              case measure => simp [intOf]; omega
            | true =>
              rw [hcan] at HO
              clear hcan
              obtain ⟨i', g1, g2, g3⟩ := HSTEP.out k hlt
              have hrem := remOf_step hlt
              have HPR := hide (HD.out.bump g1 g2)
              have HREM : Hid (remOf (behindSt st0 (bump d i')) = f) := show _ = f by rw [← g3]; have := HF.out; omega
              obtain ⟨x1, x2⟩ := val_bounds HR.out.so HPR.out
              have HG3 := hide g3
              clear hrem g1 g2 g3
              have hcb2 : cb < w2.heap.size := HT2.out.costs.lt
              have hmb2 : mb < w2.heap.size := HT2.out.mets.lt
              go_wp2_with fail
              refine (l1step_any _ st k _ (HST.out _ HC2.out) HSO.out.small hlt HSO.out.lens.2.2.2).mono ?_
              rintro e w3 ⟨r, rfl, hrs, hb3⟩
              have HT3 := hide (HT2.out.below hb3)
              have HC3 : Hid (Chg (CM cb mb) w w3) := HC2.out.trans (Chg.of_below hb3)
              have HC13 : Hid (Chg (CM cb mb) w1 w3) := HC12.out.trans (Chg.of_below hb3)
              have HBX3 := hide (blockLater hb3 HBX2.out)
              have HRS : Hid (∀ w', Chg (CM cb mb) w3 w' → StateAt w' r (behindSt st0 (bump d i'))) := fun w' hw' => by
                rw [← HG3.out]
                exact hrs w' (hw'.mono (fun q hq => by rcases hq with e | e <;> omega))
              clear hb3 hrs f0 f1 f2 HT2 HC2 HC12 HBX2
              go_wp2_with fail
              refine (HIH.out _ r w3 _ _ HPR.out HREM.out HRS.out HT3.out).mono ?_
              rintro e w4 ⟨rfl, ⟨cost4, met4, ht4⟩, hc4⟩
              have HT4 := hide ht4
              have HC4 : Hid (Chg (CM cb mb) w w4) := HC3.out.trans hc4
              have HC14 : Hid (Chg (CM cb mb) w1 w4) := HC13.out.trans hc4
              have HBX4 : Hid (w4.heap[w.heap.size]? = some (.cells #[.slice a1 st.1.length q1, .slice a2 st.2.1.length q2, .slice a3 st.2.2.length q3] 26 (0, 0))) := (hc4.block w.heap.size (Array.getElem?_eq_some_iff.1 HBX3.out).1 (fun e => by rcases e with e | e <;> omega)).trans HBX3.out
              obtain ⟨f0, f1, f2, _⟩ := block3 HBX4.out
              clear ht4 hc4 HT3 HC3 HC13 HBX3 HRS
              rw [← HG3.out] at x1 x2 ⊢
              generalize val (stepSt st k) = x at *
              by_cases hx : 0 ≤ x
              · have hxb : decide (0 ≤ x) = true := by simp [hx]
                by_cases hbn : b < 0
                · have hbb : decide (b < 0) = true := by simp [hbn]
                  have HO2 := hide (show overUp st (fun i => val (stepSt st i)) wt (k + 1) = x + wt by rw [HO.out]; simp [lesser, hx, hbn])
                  go_wp2_with fail
                  refine (l2weight_any _ st _ (HST.out _ HC4.out) HSO.out).mono ?_
                  rw [HWT.out]
                  rintro e w5 ⟨rfl, hb5⟩
                  have HT5 := hide (HT4.out.below hb5)
                  have HC15 : Hid (Chg (CM cb mb) w1 w5) := HC14.out.trans (Chg.of_below hb5)
                  clear hb5
                  go_wp2_with fail
                  go_roundw
                  case rel => exact ⟨k + 1, by omega, by go_num, by rw [HO2.out], ⟨_, _, HT5.out⟩, HC15.out⟩
                  case measure => simp [intOf]; omega
                · have hbb : decide (b < 0) = false := by simp [hbn]
                  have HNB := hide hbn
                  go_wp2_with fail
                  refine (l2weight_any _ st _ (HST.out _ HC4.out) HSO.out).mono ?_
                  rw [HWT.out]
                  rintro e w5 ⟨rfl, hb5⟩
                  have HT5 := hide (HT4.out.below hb5)
                  have HC5 : Hid (Chg (CM cb mb) w w5) := HC4.out.trans (Chg.of_below hb5)
                  have HC15 : Hid (Chg (CM cb mb) w1 w5) := HC14.out.trans (Chg.of_below hb5)
                  obtain ⟨g0, g1, g2, _⟩ := block3 (blockLater hb5 HBX4.out)
                  clear hb5 f0 f1 f2
                  by_cases hlb : x + wt < b
                  · have HO2 := hide (show overUp st (fun i => val (stepSt st i)) wt (k + 1) = x + wt by rw [HO.out]; simp [lesser, hx, hlb])
                    go_wp2_with fail
                    refine (l2weight_any _ st _ (HST.out _ HC5.out) HSO.out).mono ?_
                    rw [HWT.out]
                    rintro e w6 ⟨rfl, hb6⟩
                    have HT6 := hide (HT5.out.below hb6)
                    have HC16 : Hid (Chg (CM cb mb) w1 w6) := HC15.out.trans (Chg.of_below hb6)
                    clear hb6
                    go_wp2_with fail
                    go_roundw
                    case rel => exact ⟨k + 1, by omega, by go_num, by rw [HO2.out], ⟨_, _, HT6.out⟩, HC16.out⟩
                    case measure => simp [intOf]; omega
                  · have HO2 := hide (show overUp st (fun i => val (stepSt st i)) wt (k + 1) = b by rw [HO.out]; exact lesser_keep (by have := HNB.out; omega) hlb)
                    go_wp2_with fail
                    go_roundw
                    case rel => exact ⟨k + 1, by omega, by go_num, by rw [HO2.out], ⟨_, _, HT5.out⟩, HC15.out⟩
                    case measure => simp [intOf]; omega
              · have hxb : decide (0 ≤ x) = false := by simp [hx]
                have HO2 := hide (show overUp st (fun i => val (stepSt st i)) wt (k + 1) = b by rw [HO.out]; simp [lesser, hx])
                go_wp2_with fail
                go_roundw
                case rel => exact ⟨k + 1, by omega, by go_num, by rw [HO2.out], ⟨_, _, HT4.out⟩, HC14.out⟩
                case measure => simp [intOf]; omega
          · obtain rfl : k = st.2.1.length := by omega
            obtain ⟨c0, c1, c2, c3, _⟩ := cells4 ht'.var
            rw [HNN.out] at c2 c3
            have hkk := HIX2.out
            rw [← HNN.out] at hkk
            have m0 := ht'.mets.cell hkk
            have m1 := ht'.mets.frozen kx
            have z0 := ht'.costs.cell hkk
            have z1 := ht'.costs.frozen kx
            have hcm := ht'.cm
            have hmc := Ne.symm ht'.cm
            have htc := ht'.tc
            have htm := ht'.tm
            have hct := Ne.symm ht'.tc
            have hmt := Ne.symm ht'.tm
            have HT' := hide ht'
            have HC' : Hid (Chg (CM cb mb) w wr) := HC1.out.trans hc'
            clear ht' hc' hbx e0 e1 e2 c0 c1 hkk
            rw [← HVAL.out]
            generalize met' kx = mk at *
            generalize cost' kx = ck at *
            go_wp2_with fail
            go_ret
            have hset := HT'.out.set HD.out
            rw [HEQ.out, HKX.out] at hset
            exact ⟨rfl, ⟨_, _, hset⟩, HC'.out.trans (Chg.setCell (F := CM cb mb) (p := ⟨cb, kx, none⟩) (Chg.setCell (F := CM cb mb) (p := ⟨mb, kx, none⟩) (Chg.refl _ _) (Or.inr rfl) _) (Or.inl rfl) _)⟩
end Go.Proofs.YtmjjigdnoiphbaaDoor
