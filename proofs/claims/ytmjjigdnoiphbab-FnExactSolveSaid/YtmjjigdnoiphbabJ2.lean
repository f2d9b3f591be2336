import Derived.Test.YtmjjigdnoiphbabHp1
import Derived.Test.YtmjjigdnoiphbabHp2
import Derived.Deep.LoopGhost
import Derived.Deep.RegionHeld3
import Derived.Laws.EntriesVeiled
import Derived.Deep.RegionLaw
import Derived.Test.YtmjjigdnoiphbabW20
import Derived.Test.YtmjjigdnoiphbabBst
import Derived.Test.YtmjjigdnoiphbabSs
/-
  impl: waysToEnd.
-/
namespace Go.Proofs.Ytmjjigdnoiphbab
open Go.RowKit Go.Deep Go.Maps
set_option linter.unusedVariables false

theorem cnt_end {st : St} (s : Int) : ∀ k, k ≤ st.2.1.length → cntUp st.2.1 (endP st) s k = 0
  | 0, _ => rfl
  | k + 1, hk => by
    rw [cntUp_succ, cnt_end s k (by omega), onB_left (endP_left (by omega))]
    rfl
theorem fit_end {st : St} (h : RightSt st) : FitP st (endP st) := fun s hs => by
  rw [cnt_end _ _ (Nat.le_refl _)]
  have := (h.room s hs).1
  omega
theorem wsound_end {st : St} (h : RightSt st) : WSound st (endP st, 0, 0) := ⟨PV.endP st, fit_end h, Or.inl rfl⟩
theorem DInv.start {st : St} (hR : RightSt st) {has : Way → Prop} (hh : ∀ y, has y ↔ y = (endP st, 0, 0)) : DInv st (setW (fun _ => none) (endP st) (0, 0)) has (fun _ => False) := by
  have key : ∀ d y, PV st d → setW (fun _ => none) (endP st) (0, 0) d = some y → d = endP st ∧ y = (0, 0) := fun d y hd hk => by
    by_cases e : d = endP st
    · subst e
      rw [setW_same] at hk
      exact ⟨rfl, (Option.some.inj hk).symm⟩
    · rw [setW_other hR.so (PV.endP st) hd e] at hk
      cases hk
  refine ⟨fun d y hd hk => ?_, fun x hx => ?_, fun d y hd hk _ => ?_, setW_same _ _ _⟩
  · obtain ⟨rfl, rfl⟩ := key d y hd hk
    exact wsound_end hR
  · have := (hh x).1 hx
    subst this
    exact ⟨wsound_end hR, _, setW_same _ _ _⟩
  · obtain ⟨rfl, rfl⟩ := key d y hd hk
    exact Or.inr ((hh _).2 rfl)

theorem bump_unb {d : Pr} {i : Nat} (h : d i ≠ 0) : bump (unb d i) i = d := by
  funext k
  unfold bump unb
  by_cases hk : k = i
  · subst hk; simp; omega
  · simp [hk]
theorem unb_of_bump {e d : Pr} {i : Nat} (h : bump e i = d) : e = unb d i ∧ d i ≠ 0 := by
  subst h
  refine ⟨?_, by rw [bump_at]; omega⟩
  funext k
  unfold unb
  by_cases hk : k = i
  · subst hk; rw [if_pos rfl, bump_at]; omega
  · rw [if_neg hk]; unfold bump; rw [if_neg hk]
theorem PV.unb {st : St} {d : Pr} (h : PV st d) {i : Nat} (hi : i < st.2.1.length) (h0 : d i ≠ 0) : PV st (unb d i) ∧ leftB st.2.1 (unb d i) i = false := by
  refine ⟨⟨fun k hk => ?_, fun k hk => ?_⟩, ?_⟩
  · by_cases e : k = i
    · subst e; rw [unb_at]; have := h.ok k hk; omega
    · rw [unb_other e]; exact h.ok k hk
  · rw [unb_other (by omega)]; exact h.out k hk
  · unfold leftB
    rw [unb_at]
    have := h.ok i hi
    exact decide_eq_false (by omega)
theorem back_facts {st : St} (hR : RightSt st) {x : Way} (hw : WSound st x) (hb : x = bway st x.1) {i : Nat} (hi : i < st.2.1.length) (h0 : x.1 i ≠ 0) (hroom : RoomB st (unb x.1 i) i) :
    WSound st (unb x.1 i, x.2.1 + wtP st (unb x.1 i), i) ∧ x.2.1 = vP st x.1 := by
  obtain ⟨hpv, hl⟩ := hw.pv.unb hi h0
  have hbu := bump_unb h0
  have hf := fit_back hR hi hl (by rw [hbu]; exact hw.fit)
  have hfit : FitP st (unb x.1 i) := hf.1.2 hroom
  have hv : x.2.1 = vP st x.1 := by
    have h2 : x.2.1 = (bway st x.1).2.1 := congrArg (fun z : Way => z.2.1) hb
    rw [h2]
    unfold bway
    split
    · rename_i e; rw [vP_end e]
    · rfl
  exact ⟨⟨hpv, hfit, Or.inr ⟨hi, hf.2 hfit, by simp only; rw [hbu]; exact hw.nn hR.so, by simp only; rw [hbu, hv]⟩⟩, hv⟩
theorem back_none {st : St} (hR : RightSt st) {x : Way} (hw : WSound st x) {i : Nat} (hi : i < st.2.1.length) (h : x.1 i = 0 ∨ ¬ RoomB st (unb x.1 i) i) (e : Pr) (he : PV st e) (hf : FitP st e) (hc : canP st e i = true) (hb : bump e i = x.1) : False := by
  obtain ⟨e1, e2⟩ := unb_of_bump hb
  rcases h with h | h
  · exact e2 h
  · refine h ?_
    have := (fit_back hR hi (canP_left hc) (by rw [hb]; exact hw.fit)).1.1 hf
    rw [e1] at this
    exact this

set_option maxRecDepth 4000 in
set_option maxHeartbeats 4000000 in
theorem waysToEnd_any (v : Value) (st : St) (w : World) (h : StateAt w v st) (hcap : CapSt w v st.2.1.length) (hr : RightSt st) :
    Calls Try.prog 57 #[v] w fun e w' => ∃ mb K, e = .returned (.map (some mb)) ∧ w.heap.size ≤ mb ∧ WaysAt st w' mb K ∧ BestWays st K ∧ Below w.heap.size w w' := by
  have HS := hide h
  have HC := hide hcap
  have HR := hide hr
  obtain ⟨a1, q1, a2, q2, a3, q3, rfl⟩ := h.form
  obtain ⟨l1, l2, l3, l4⟩ := hr.lens
  clear h hcap hr l4
  have hmm := @run_makeMap Try.prog
  go_enter Try.func57, Try.ntmps57
  go_wp2_with fail
  refine (endOf_any _ st _ (HS.out.below (Joins.below_alloc1 _ _)) HR.out.so).mono ?_
  rintro e w1 ⟨rfl, hb1⟩
  have HX1 := hide (blockLater hb1 (heap_alloc_new w (.cells #[.slice a1 st.1.length q1, .slice a2 st.2.1.length q2, .slice a3 st.2.2.length q3] 30)))
  have HB1 := hide (below_tail (Joins.below_alloc1 w (.cells #[.slice a1 st.1.length q1, .slice a2 st.2.1.length q2, .slice a3 st.2.2.length q3] 30)) hb1)
  have hw1 : w.heap.size < w1.heap.size := (Array.getElem?_eq_some_iff.1 HX1.out).1
  clear hb1
  have hsz2 : (w1.alloc (.cells #[.int .i8 (endP st 0), .int .i8 (endP st 1), .int .i8 (endP st 2), .int .i8 (endP st 3), .int .i8 (endP st 4), .int .i64 0, .int .i64 0] 74)).heap.size = w1.heap.size + 1 := by simp
  have hmade := ways_made (st := st) (w1.alloc (.cells #[.int .i8 (endP st 0), .int .i8 (endP st 1), .int .i8 (endP st 2), .int .i8 (endP st 3), .int .i8 (endP st 4), .int .i64 0, .int .i64 0] 74))
  rw [hsz2] at hmade
  obtain ⟨w3, hput, hways, hg3⟩ := hmade.put HR.out.so (PV.endP st) (0, 0)
  have hput' : (Instr.mapUpdate 71 (.map (some (w1.heap.size + 1))) (.agg #[.int .i8 (endP st 0), .int .i8 (endP st 1), .int .i8 (endP st 2), .int .i8 (endP st 3), .int .i8 (endP st 4)]) (.agg #[.int .i8 (endP st 0), .int .i8 (endP st 1), .int .i8 (endP st 2), .int .i8 (endP st 3), .int .i8 (endP st 4), .int .i64 0, .int .i64 0])).run Try.prog ((w1.alloc (.cells #[.int .i8 (endP st 0), .int .i8 (endP st 1), .int .i8 (endP st 2), .int .i8 (endP st 3), .int .i8 (endP st 4), .int .i64 0, .int .i64 0] 74)).alloc (.map #[] 0)) = .ok () w3 := hput
  have HWY := hide hways
  have hL3 : w3.heap[w1.heap.size]? = some (.cells #[.int .i8 (endP st 0), .int .i8 (endP st 1), .int .i8 (endP st 2), .int .i8 (endP st 3), .int .i8 (endP st 4), .int .i64 0, .int .i64 0] 74 (0, 0)) := by
    rw [hg3.block w1.heap.size (by simp; omega) (fun e => by simp at e)]
    exact blockLater (Joins.below_alloc1 _ _) (heap_alloc_new _ _)
  have HB3 : Hid (Below w1.heap.size w1 w3) := (Joins.below_alloc2 w1 _ _).grown hg3 (by simp; omega) (fun q e => by cases e; omega)
  obtain ⟨x0, x1, x2, x3, x4, x5, x6⟩ := cells7 hL3
  have HL3 := hide hL3
  clear hput hways hg3 hmade hsz2 hL3
  obtain ⟨ob, hob⟩ : ∃ ob, ob = w3.heap.size := ⟨_, rfl⟩
  have hb4 := Joins.below_alloc1 w3 (.cells #[.slice none 0 0, .func (.func 81) #[] #[]] 104)
  replace x0 := cell_later hb4 x0
  replace x1 := cell_later hb4 x1
  replace x2 := cell_later hb4 x2
  replace x3 := cell_later hb4 x3
  replace x4 := cell_later hb4 x4
  replace x5 := cell_later hb4 x5
  replace x6 := cell_later hb4 x6
  have HB4 : Hid (Below w1.heap.size w1 (w3.alloc (.cells #[.slice none 0 0, .func (.func 81) #[] #[]] 104))) := below_tail HB3.out hb4
  have hs4 : (w3.alloc (.cells #[.slice none 0 0, .func (.func 81) #[] #[]] 104)).heap.size = w3.heap.size + 1 := by simp
  have hw3 : w1.heap.size + 1 < w3.heap.size := HWY.out.lt
  have HWY4 := hide (HWY.out.kept (hb4.block _ HWY.out.lt))
  have HHP : Hid (HeapAt (w3.heap.size + 1) (w3.alloc (.cells #[.slice none 0 0, .func (.func 81) #[] #[]] 104)) w3.heap.size (.slice none 0 0) 0 (fun _ => (pz, 0, 0))) := ⟨heap_alloc_new _ _, Or.inl ⟨rfl, rfl⟩, Nat.lt_succ_self _, fun i hi => absurd hi (Nat.not_lt_zero _)⟩
  clear hb4
  unfold pv pc5
  go_wp2_with fail
  generalize w3.alloc (.cells #[.slice none 0 0, .func (.func 81) #[] #[]] 104) = W4 at *
  rw [← hob] at *
  have HPU := hide (hpush_any HHP.out (fun i _ hi => absurd hi (Nat.not_lt_zero _)) (endP st, 0, 0) ⟨by simp, by simp, by simp⟩ (by omega) (Nat.zero_le _))
  unfold wv wc7 at HPU
  refine HPU.out.mono ?_
  rintro e w5 ⟨⟨u5, rfl⟩, tv5, f5, hh5, hk5, hhas5, hc5, ho5⟩
  have hobs : ob < w5.heap.size := (Array.getElem?_eq_some_iff.1 hh5.var).1
  have hNb : ∀ q, q < ob → w5.heap[q]? = W4.heap[q]? := fun q hq => hc5.block q (by omega) (fun e => by
    rcases e with e | e
    · omega
    · simp [Value.ownBlock] at e)
  have HWY5 := hide (HWY4.out.kept (hNb (w1.heap.size + 1) hw3))
  have HB5 : Hid (Below w1.heap.size w1 w5) := HB4.out.trans ⟨hc5.os, hc5.tape, hc5.output, hc5.size, fun q hq => hNb q (by omega)⟩
  have HD5 := hide (DInv.start HR.out (has := Has f5 1) (fun y => (hhas5 y).trans ⟨fun e => by
    rcases e with e | ⟨k, hk, _⟩
    · exact e
    · omega, fun e => Or.inl e⟩))
  have HH5 := hide hh5
  have HK5 := hide hk5
  have HO5 : Hid (∀ q, tv5.ownBlock = some q → ob + 1 ≤ q) := fun q e => by
    rcases ho5 q e with e | e
    · simp [Value.ownBlock] at e
    · omega
  have hrk := rank_le HR.out.so HD5.out.kn
  obtain ⟨mb, hmb⟩ : ∃ mb, w1.heap.size + 1 = mb := ⟨_, rfl⟩
  rw [hmb] at HWY5 hw3
  have hmbl : w1.heap.size < mb := by omega
  simp only [hmb]
  clear hh5 hk5 hhas5 hc5 ho5 hNb HPU HHP HWY4 HB4 HB3 HWY HL3 hmb x0 x1 x2 x3 x4 x5 x6 hput'
  go_wp2_with fail
  go_loopg [6] (2 * rankK st (setW (fun _ => none) (endP st) (0, 0)) + 1) (fun gk _ wr => ∃ tv n f K, 2 * rankK st K + n = gk ∧ gk ≤ 40000000001 ∧ HeapAt (ob + 1) wr ob tv n f ∧ HeapOk wkey f n ∧ WaysAt st wr mb K ∧ DInv st K (Has f n) (fun _ => False) ∧ (∀ q, tv.ownBlock = some q → ob + 1 ≤ q) ∧ Below w1.heap.size w1 wr ∧ ob < wr.heap.size)
  case atStart => exact ⟨tv5, 1, f5, _, rfl, by omega, HH5.out, HK5.out, HWY5.out, HD5.out, HO5.out, HB5.out, hobs⟩
  case round =>
    obtain ⟨tv, n, f, K, hgk, hg4, hh, hk, hwy, hdi, hto, hb, hobr⟩ := hrel
    have HK := hide hk
    have HWY := hide hwy
    have HDI := hide hdi
    have HTO := hide hto
    have HB := hide hb
    have HGK := hide hgk
    have HXr := hide ((hb.block w.heap.size hw1).trans HX1.out)
    have HBW : Hid (Below w.heap.size w wr) := HB1.out.trans (hb.mono (by omega))
    have HH := hide hh
    have hnb : n ≤ 40000000001 := by omega
    cases n with
    | zero =>
      obtain ⟨ta, tc, hta⟩ : ∃ ta tc, tv = .slice ta 0 tc := by
        rcases hh.row with ⟨e, _⟩ | ⟨g, cap, e, _⟩
        · exact ⟨none, 0, e⟩
        · exact ⟨_, cap, e⟩
      subst hta
      have b0 : wr.cell? ⟨ob, 0, none⟩ = some (.slice ta 0 tc) := by rw [cell_of_row wr ob 0 _ _ (0, 0) hh.var]; rfl
      have HBEST := hide (hdi.empty HR.out (fun x hx => by obtain ⟨k, hk, _⟩ := hx; omega))
      clear hgk hh hk hwy hdi hto hb
      go_wp2_with fail
      go_ret
      exact ⟨mb, K, rfl, by omega, HWY.out, HBEST.out, HBW.out⟩
    | succ n =>
      obtain ⟨g, cap, htv, hrow⟩ : ∃ g cap, tv = .slice (some ⟨g, 0, none⟩) (n + 1) cap ∧ HRow wr (ob + 1) g cap (n + 1) f := by
        rcases hh.row with ⟨_, e⟩ | r
        · omega
        · exact r
      subst htv
      have b0 : wr.cell? ⟨ob, 0, none⟩ = some (.slice (some ⟨g, 0, none⟩) (n + 1) cap) := by rw [cell_of_row wr ob 0 _ _ (0, 0) hh.var]; rfl
      have HHAS0 : Hid (Has f (n + 1) (f 0)) := ⟨0, by omega, rfl⟩
      have HMIN : Hid (∀ x, Has f (n + 1) x → wkey (f 0) ≤ wkey x) := fun x hx => hk.least hx
      have HW0 := hide (hdi.it (f 0) HHAS0.out).1
      obtain ⟨y, hy⟩ := (hdi.it (f 0) HHAS0.out).2
      have HY := hide hy
      have hgo : ob + 1 ≤ g := hrow.lo
      have HPOP := hide (hpop_any hh hrow hk (by omega))
      have hi1 : ((n + 1 : Nat) : Int) > 0 := by omega
      clear hgk hh hk hwy hdi hto hb hrow hy
      go_wp2_with fail
      refine HPOP.out.mono ?_
      rintro e w2 ⟨rfl, f', hh2, hr2, hk2, hhas2, hc2⟩
      have hs2 := hc2.size
      have HWY2 := hide (HWY.out.kept (hc2.block mb HWY.out.lt (by omega)))
      have HB2 : Hid (Below w1.heap.size w1 w2) := HB.out.trans (hc2.below (by have := HB.out.size; omega) (fun q hq e => by omega))
      have HX2 := hide ((hc2.block w.heap.size (by have := HB.out.size; omega) (by omega)).trans HXr.out)
      have HH2 := hide hh2
      have HK2 := hide hk2
      have HHAS2 := hide hhas2
      have HBW2 : Hid (Below w.heap.size w w2) := HB1.out.trans (HB2.out.mono (by omega))
      clear hh2 hr2 hk2 hhas2 hc2 HPOP b0
      obtain ⟨x, hx⟩ : ∃ x, f 0 = x := ⟨_, rfl⟩
      rw [hx] at HHAS0 HMIN HW0 HY HHAS2 ⊢
      clear hx
      have heqz : ∀ w, (Op.equalIn 10000 59 (.agg #[.int .i8 (x.1 0), .int .i8 (x.1 1), .int .i8 (x.1 2), .int .i8 (x.1 3), .int .i8 (x.1 4)]) (.agg #[.int .i8 0, .int .i8 0, .int .i8 0, .int .i8 0, .int .i8 0])).run Try.prog w = .ok (same5 x.1 pz) w := fun w => eqPr' x.1 pz w
      have HZ := hide (same5_iff HR.out.so HW0.out.pv (PV.pz st))
      unfold wv wc7
      by_cases hz : same5 x.1 pz = true
      · have HBEST := hide (HDI.out.broke HR.out HHAS0.out HMIN.out (HZ.out.1 hz).symm)
        rw [hz] at heqz
        clear hz
        go_wp2_with fail
        go_ret
        exact ⟨mb, K, rfl, by omega, HWY2.out.kept ((Joins.below_alloc1 w2 _).block _ HWY2.out.lt), HBEST.out, below_tail HBW2.out (Joins.below_alloc1 w2 _)⟩
      · have hzf : same5 x.1 pz = false := by simpa using hz
        rw [hzf] at heqz
        clear hz hzf
        have hb3 := Joins.below_alloc1 w2 (.cells #[.int .i8 (x.1 0), .int .i8 (x.1 1), .int .i8 (x.1 2), .int .i8 (x.1 3), .int .i8 (x.1 4), .int .i64 x.2.1, .int .i64 (x.2.2 : Int)] 74)
        have hlk : ∀ k, (Instr.lookup 71 (.map (some mb)) (.agg #[.int .i8 (x.1 0), .int .i8 (x.1 1), .int .i8 (x.1 2), .int .i8 (x.1 3), .int .i8 (x.1 4)]) false).run Try.prog ((w2.alloc (.cells #[.int .i8 (x.1 0), .int .i8 (x.1 1), .int .i8 (x.1 2), .int .i8 (x.1 3), .int .i8 (x.1 4), .int .i64 x.2.1, .int .i64 (x.2.2 : Int)] 74)).drewN k) = .ok (.agg #[.int .i8 (x.1 0), .int .i8 (x.1 1), .int .i8 (x.1 2), .int .i8 (x.1 3), .int .i8 (x.1 4), .int .i64 y.1, .int .i64 (y.2 : Int)]) ((w2.alloc (.cells #[.int .i8 (x.1 0), .int .i8 (x.1 1), .int .i8 (x.1 2), .int .i8 (x.1 3), .int .i8 (x.1 4), .int .i64 x.2.1, .int .i64 (x.2.2 : Int)] 74)).drewN k) := fun k => by
          have h1 := HWY2.out.kept (hb3.block _ HWY2.out.lt)
          have h2 := (h1.kept (w' := (w2.alloc (.cells #[.int .i8 (x.1 0), .int .i8 (x.1 1), .int .i8 (x.1 2), .int .i8 (x.1 3), .int .i8 (x.1 4), .int .i64 x.2.1, .int .i64 (x.2.2 : Int)] 74)).drewN k) ((Joins.below_draws _ _ k).block mb h1.lt)).look HR.out.so HW0.out.pv false
          rw [HY.out] at h2
          exact h2
        have heqw := eqWay' x (x.1, y)
        unfold wc7 at heqw
        have HSW := hide (sameW_iff HR.out.so (x := x) (y := (x.1, y)) HW0.out.pv HW0.out.pv)
        cases hsw : sameW x (x.1, y) with
        | false =>
          have hKne : K x.1 ≠ some x.2 := fun e => by
            rw [HY.out] at e
            have : sameW x (x.1, y) = true := HSW.out.2 (by rw [Option.some.inj e])
            rw [hsw] at this
            cases this
          have HDN := hide (HDI.out.stale (x0 := x) (has' := Has f' n) (fun z hz => (HHAS2.out z).1 hz) (fun z hz => (HHAS2.out z).2 (Or.inr hz)) hKne)
          rw [hsw] at heqw
          have HB3 := hide hb3
          clear hsw hKne hb3
          go_wp2_with fail
          go_quiet (fail)
          have hbV := below_tail HB3.out (Joins.below_draws (w2.alloc (.cells #[.int .i8 (x.1 0), .int .i8 (x.1 1), .int .i8 (x.1 2), .int .i8 (x.1 3), .int .i8 (x.1 4), .int .i64 x.2.1, .int .i64 (x.2.2 : Int)] 74)).heap.size (w2.alloc (.cells #[.int .i8 (x.1 0), .int .i8 (x.1 1), .int .i8 (x.1 2), .int .i8 (x.1 3), .int .i8 (x.1 4), .int .i64 x.2.1, .int .i64 (x.2.2 : Int)] 74)) nq)
          have HN : Hid (((w2.alloc (.cells #[.int .i8 (x.1 0), .int .i8 (x.1 1), .int .i8 (x.1 2), .int .i8 (x.1 3), .int .i8 (x.1 4), .int .i64 x.2.1, .int .i64 (x.2.2 : Int)] 74)).drewN nq).heap[w2.heap.size]? = some (.cells #[.int .i8 (x.1 0), .int .i8 (x.1 1), .int .i8 (x.1 2), .int .i8 (x.1 3), .int .i8 (x.1 4), .int .i64 x.2.1, .int .i64 (x.2.2 : Int)] 74 (0, 0))) := blockLater (Joins.below_draws _ _ nq) (heap_alloc_new w2 _)
          clear hlk heqw heqz
          generalize (w2.alloc (.cells #[.int .i8 (x.1 0), .int .i8 (x.1 1), .int .i8 (x.1 2), .int .i8 (x.1 3), .int .i8 (x.1 4), .int .i64 x.2.1, .int .i64 (x.2.2 : Int)] 74)).drewN nq = V at *
          have HHV := hide (HH2.out.below hbV)
          have HWYV := hide (HWY2.out.kept (hbV.block mb HWY2.out.lt))
          have HBV : Hid (Below w1.heap.size w1 V) := HB2.out.trans (hbV.mono HB2.out.size)
          have hVs := hbV.size
          have hobV : ob < V.heap.size := (Array.getElem?_eq_some_iff.1 HHV.out.var).1
          clear hbV
          go_wp2_with fail
          go_roundg (2 * rankK st K + n)
          case measure =>
            have := HGK.out
            omega
          case rel => exact ⟨.slice (some ⟨g, 0, none⟩) n cap, n, f', K, rfl, by have := HGK.out; omega, HHV.out, HK2.out, HWYV.out, HDN.out, fun q e => by
            have e' : g = q := by simpa [Value.ownBlock] using e
            omega, HBV.out, hobV⟩
        | true =>
          have hxy : (x.1, y) = x := HSW.out.1 hsw
          have HKX : Hid (K x.1 = some x.2) := by
            show K x.1 = some x.2
            rw [HY.out]
            exact congrArg some (congrArg Prod.snd hxy)
          have HBW0 := hide (HDI.out.best HR.out HHAS0.out HMIN.out HKX.out)
          have HEXP := hide (HDI.out.begin (x0 := x) (has' := Has f' n) (fun z hz => (HHAS2.out z).1 hz) (fun z hz => (HHAS2.out z).2 (Or.inr hz)) HKX.out HBW0.out)
          rw [hsw] at heqw
          have HB3 := hide hb3
          clear hsw hb3 hxy
          go_wp2_with fail
          go_quiet (fail)
          have hbV := below_tail HB3.out (Joins.below_draws (w2.alloc (.cells #[.int .i8 (x.1 0), .int .i8 (x.1 1), .int .i8 (x.1 2), .int .i8 (x.1 3), .int .i8 (x.1 4), .int .i64 x.2.1, .int .i64 (x.2.2 : Int)] 74)).heap.size (w2.alloc (.cells #[.int .i8 (x.1 0), .int .i8 (x.1 1), .int .i8 (x.1 2), .int .i8 (x.1 3), .int .i8 (x.1 4), .int .i64 x.2.1, .int .i64 (x.2.2 : Int)] 74)) nq)
          have HN : Hid (((w2.alloc (.cells #[.int .i8 (x.1 0), .int .i8 (x.1 1), .int .i8 (x.1 2), .int .i8 (x.1 3), .int .i8 (x.1 4), .int .i64 x.2.1, .int .i64 (x.2.2 : Int)] 74)).drewN nq).heap[w2.heap.size]? = some (.cells #[.int .i8 (x.1 0), .int .i8 (x.1 1), .int .i8 (x.1 2), .int .i8 (x.1 3), .int .i8 (x.1 4), .int .i64 x.2.1, .int .i64 (x.2.2 : Int)] 74 (0, 0))) := blockLater (Joins.below_draws _ _ nq) (heap_alloc_new w2 _)
          clear hlk heqw heqz
          generalize (w2.alloc (.cells #[.int .i8 (x.1 0), .int .i8 (x.1 1), .int .i8 (x.1 2), .int .i8 (x.1 3), .int .i8 (x.1 4), .int .i64 x.2.1, .int .i64 (x.2.2 : Int)] 74)).drewN nq = V at *
          have HHV := hide (HH2.out.below hbV)
          have HWYV := hide (HWY2.out.kept (hbV.block mb HWY2.out.lt))
          have HBV : Hid (Below w1.heap.size w1 V) := HB2.out.trans (hbV.mono HB2.out.size)
          have hVs := hbV.size
          have hobV : ob < V.heap.size := (Array.getElem?_eq_some_iff.1 HHV.out.var).1
          have HXV := hide (blockLater hbV HX2.out)
          obtain ⟨c0, c1, c2, _⟩ := block3 HXV.out
          have HVN : Hid (w2.heap.size < V.heap.size) := (Array.getElem?_eq_some_iff.1 HN.out).1
          clear hbV
          go_wp2_with fail
          clear c0 c1 c2
          obtain ⟨nb, hnb2⟩ : ∃ nb, w2.heap.size = nb := ⟨_, rfl⟩
          rw [hnb2] at HN HVN
          simp only [hnb2]
          have hnbo : ob < nb := by have := (Array.getElem?_eq_some_iff.1 HH2.out.var).1; omega
          go_loopw [41] (fun u wi => ∃ (i : Nat) (tv' : Value) (n' : Nat) (f'' : Nat → Way) (K' : KW), u = .int .i64 i ∧ i ≤ st.2.1.length ∧ rankK st K' + n' ≤ rankK st K + n ∧ rankK st K' ≤ rankK st K ∧ HeapAt (ob + 1) wi ob tv' n' f'' ∧ HeapOk wkey f'' n' ∧ WaysAt st wi mb K' ∧ Exp st K' (Has f'' n') x.1 i ∧ (∀ q, tv'.ownBlock = some q → ob + 1 ≤ q ∧ q ≠ nb) ∧ wi.heap[nb]? = some (.cells #[.int .i8 (x.1 0), .int .i8 (x.1 1), .int .i8 (x.1 2), .int .i8 (x.1 3), .int .i8 (x.1 4), .int .i64 x.2.1, .int .i64 (x.2.2 : Int)] 74 (0, 0)) ∧ Below w1.heap.size w1 wi) (fun u _ => st.2.1.length - (intOf u).toNat)
          case atStart =>
            refine ⟨0, .slice (some ⟨g, 0, none⟩) n cap, n, f', K, rfl, Nat.zero_le _, Nat.le_refl _, Nat.le_refl _, HHV.out, HK2.out, HWYV.out, HEXP.out, fun q e => ?_, HN.out, HBV.out⟩
            have e' : g = q := by simpa [Value.ownBlock] using e
            refine ⟨by omega, fun ee => ?_⟩
            rcases HH2.out.row with ⟨e2, _⟩ | ⟨g', cap', e2, hr2⟩
            · simp at e2
            · have e3 : g = g' := by simp only [Value.slice.injEq, Option.some.injEq, Addr.mk.injEq, and_true, true_and] at e2; exact e2.1
              have := hr2.lt
              omega
          case round =>
            obtain ⟨i, tv', n', f'', K', rfl, hi, hrn, hrk', hh3, hk3, hwy3, hex3, hto3, hN3, hb3⟩ := hrel
            have hsz3 := hb3.size
            have hnb3 : nb < wr.heap.size := (Array.getElem?_eq_some_iff.1 hN3).1
            have HX3 := hide ((hb3.block w.heap.size hw1).trans HX1.out)
            have HBW3 : Hid (Below w.heap.size w wr) := HB1.out.trans (hb3.mono (by omega))
            have hn3 : n' ≤ 40000000001 := by have := HGK.out; omega
            have HH3 := hide hh3
            have HK3 := hide hk3
            have HWY3 := hide hwy3
            have HEX3 := hide hex3
            have HTO3 := hide hto3
            have HN3 := hide hN3
            have HB3' := hide hb3
            clear hh3 hk3 hwy3 hex3 hto3 hN3 hb3
            by_cases hlt : i < st.2.1.length
            · obtain ⟨x0, x1, x2, x3, x4, x5, x6⟩ := cells7 HN3.out
              obtain ⟨c0, c1, c2, _⟩ := block3 HX3.out
              obtain ⟨xb1, xb2, _⟩ := HW0.out.bound HR.out.so
              have HLB := hide (longerBy_any (.agg #[.slice a1 st.1.length q1, .slice a2 st.2.1.length q2, .slice a3 st.2.2.length q3]) st x.1 x.2.1 x.2.2 i wr (HS.out.below HBW3.out) (CapSt.below HC.out HS.out HBW3.out) HR.out HW0.out.pv ⟨xb1, xb2⟩ hlt)
              go_wp2_with fail
              refine HLB.out.mono ?_
              rintro e w6 ⟨⟨y6, ok, rfl, hlr⟩, hb6⟩
              have HPY : Hid (PV st y6.1) := by
                rcases hlr with ⟨_, e, _⟩ | ⟨_, h0, e, _⟩
                · rw [e]; exact PV.pz st
                · rw [e]; exact (HW0.out.pv.unb hlt h0).1
              have HH6 := hide (HH3.out.below hb6)
              have HWY6 := hide (HWY3.out.kept (hb6.block mb HWY3.out.lt))
              have HN6 := hide (blockLater hb6 HN3.out)
              have HB6 : Hid (Below w1.heap.size w1 w6) := HB3'.out.trans (hb6.mono hsz3)
              have hs6 := hb6.size
              obtain ⟨old, met, hold, hlk⟩ : ∃ (old : Way) (met : Bool), ((K' y6.1 = none ∧ met = false ∧ old = (pz, 0, 0)) ∨ ∃ y0, K' y6.1 = some y0 ∧ met = true ∧ old = (y6.1, y0)) ∧ (Instr.lookup 71 (.map (some mb)) (.agg #[.int .i8 (y6.1 0), .int .i8 (y6.1 1), .int .i8 (y6.1 2), .int .i8 (y6.1 3), .int .i8 (y6.1 4)]) true).run Try.prog (w6.alloc (.cells #[.int .i8 (y6.1 0), .int .i8 (y6.1 1), .int .i8 (y6.1 2), .int .i8 (y6.1 3), .int .i8 (y6.1 4), .int .i64 y6.2.1, .int .i64 (y6.2.2 : Int)] 74)) = .ok (.tuple #[.agg #[.int .i8 (old.1 0), .int .i8 (old.1 1), .int .i8 (old.1 2), .int .i8 (old.1 3), .int .i8 (old.1 4), .int .i64 old.2.1, .int .i64 (old.2.2 : Int)], .bool met]) (w6.alloc (.cells #[.int .i8 (y6.1 0), .int .i8 (y6.1 1), .int .i8 (y6.1 2), .int .i8 (y6.1 3), .int .i8 (y6.1 4), .int .i64 y6.2.1, .int .i64 (y6.2.2 : Int)] 74)) := by
                have h1 := (HWY6.out.kept (w' := w6.alloc (.cells #[.int .i8 (y6.1 0), .int .i8 (y6.1 1), .int .i8 (y6.1 2), .int .i8 (y6.1 3), .int .i8 (y6.1 4), .int .i64 y6.2.1, .int .i64 (y6.2.2 : Int)] 74)) ((Joins.below_alloc1 w6 _).block mb HWY6.out.lt)).look HR.out.so HPY.out true
                cases hk : K' y6.1 with
                | none =>
                  rw [hk] at h1
                  exact ⟨(pz, 0, 0), false, Or.inl ⟨rfl, rfl, rfl⟩, h1⟩
                | some y0 =>
                  rw [hk] at h1
                  exact ⟨(y6.1, y0), true, Or.inr ⟨y0, rfl, rfl, rfl⟩, h1⟩
              have hb8 := Joins.below_alloc2 w6 (.cells #[.int .i8 (y6.1 0), .int .i8 (y6.1 1), .int .i8 (y6.1 2), .int .i8 (y6.1 3), .int .i8 (y6.1 4), .int .i64 y6.2.1, .int .i64 (y6.2.2 : Int)] 74) (.cells #[.int .i8 (old.1 0), .int .i8 (old.1 1), .int .i8 (old.1 2), .int .i8 (old.1 3), .int .i8 (old.1 4), .int .i64 old.2.1, .int .i64 (old.2.2 : Int)] 74)
              have HH8 := hide (HH6.out.below hb8)
              have HWY8 := hide (HWY6.out.kept (hb8.block mb HWY6.out.lt))
              have HN8 := hide (blockLater hb8 HN6.out)
              have HB8 : Hid (Below w1.heap.size w1 ((w6.alloc (.cells #[.int .i8 (y6.1 0), .int .i8 (y6.1 1), .int .i8 (y6.1 2), .int .i8 (y6.1 3), .int .i8 (y6.1 4), .int .i64 y6.2.1, .int .i64 (y6.2.2 : Int)] 74)).alloc (.cells #[.int .i8 (old.1 0), .int .i8 (old.1 1), .int .i8 (old.1 2), .int .i8 (old.1 3), .int .i8 (old.1 4), .int .i64 old.2.1, .int .i64 (old.2.2 : Int)] 74))) := HB6.out.trans (hb8.mono (by omega))
              have hs8 : ((w6.alloc (.cells #[.int .i8 (y6.1 0), .int .i8 (y6.1 1), .int .i8 (y6.1 2), .int .i8 (y6.1 3), .int .i8 (y6.1 4), .int .i64 y6.2.1, .int .i64 (y6.2.2 : Int)] 74)).alloc (.cells #[.int .i8 (old.1 0), .int .i8 (old.1 1), .int .i8 (old.1 2), .int .i8 (old.1 3), .int .i8 (old.1 4), .int .i64 old.2.1, .int .i64 (old.2.2 : Int)] 74)).heap.size = w6.heap.size + 1 + 1 := by simp
              have HHOLD := hide hold
              clear hb6 hb8 hold x0 x1 x2 x3 x4 x5 x6 c0 c1 c2 HLB
              unfold wv wc7
              rcases hlr with ⟨rfl, hy6, hno⟩ | ⟨rfl, h0, hy6, hroom⟩
              · have HSK := hide (HEX3.out.skip (fun e he hf hc hbb => (back_none HR.out HW0.out hlt hno e he hf hc hbb).elim))
                clear hno hy6
                go_wp2_with fail
                generalize (w6.alloc (.cells #[.int .i8 (y6.1 0), .int .i8 (y6.1 1), .int .i8 (y6.1 2), .int .i8 (y6.1 3), .int .i8 (y6.1 4), .int .i64 y6.2.1, .int .i64 (y6.2.2 : Int)] 74)).alloc (.cells #[.int .i8 (old.1 0), .int .i8 (old.1 1), .int .i8 (old.1 2), .int .i8 (old.1 3), .int .i8 (old.1 4), .int .i64 old.2.1, .int .i64 (old.2.2 : Int)] 74) = W8 at *
                go_roundw
                case rel => exact ⟨i + 1, tv', n', f'', K', by go_num, by omega, hrn, hrk', HH8.out, HK3.out, HWY8.out, HSK.out, HTO3.out, HN8.out, HB8.out⟩
                case measure => simp [intOf]; omega
              · obtain ⟨hws, hcv⟩ := back_facts HR.out HW0.out HBW0.out hlt h0 hroom
                rw [← hy6] at hws
                have HWS := hide hws
                have HBU : Hid (bump y6.1 i = x.1) := by rw [hy6]; exact bump_unb h0
                have HYE : Hid (y6 = (y6.1, vP st x.1 + wtP st y6.1, i)) := by
                  rw [hy6, hcv]
                  rfl
                have HBD := hide (hws.bound HR.out.so)
                clear hroom h0 hy6 hws hcv
                have hmbw : mb < w6.heap.size := HWY6.out.lt
                have hnbw : nb < w6.heap.size := (Array.getElem?_eq_some_iff.1 HN6.out).1
                have HLB8 : Hid (((w6.alloc (.cells #[.int .i8 (y6.1 0), .int .i8 (y6.1 1), .int .i8 (y6.1 2), .int .i8 (y6.1 3), .int .i8 (y6.1 4), .int .i64 y6.2.1, .int .i64 (y6.2.2 : Int)] 74)).alloc (.cells #[.int .i8 (old.1 0), .int .i8 (old.1 1), .int .i8 (old.1 2), .int .i8 (old.1 3), .int .i8 (old.1 4), .int .i64 old.2.1, .int .i64 (old.2.2 : Int)] 74)).heap[w6.heap.size]? = some (.cells #[.int .i8 (y6.1 0), .int .i8 (y6.1 1), .int .i8 (y6.1 2), .int .i8 (y6.1 3), .int .i8 (y6.1 4), .int .i64 y6.2.1, .int .i64 (y6.2.2 : Int)] 74 (0, 0))) := blockLater (Joins.below_alloc1 _ _) (heap_alloc_new w6 _)
                have HOB8 : Hid (((w6.alloc (.cells #[.int .i8 (y6.1 0), .int .i8 (y6.1 1), .int .i8 (y6.1 2), .int .i8 (y6.1 3), .int .i8 (y6.1 4), .int .i64 y6.2.1, .int .i64 (y6.2.2 : Int)] 74)).alloc (.cells #[.int .i8 (old.1 0), .int .i8 (old.1 1), .int .i8 (old.1 2), .int .i8 (old.1 3), .int .i8 (old.1 4), .int .i64 old.2.1, .int .i64 (old.2.2 : Int)] 74)).heap[w6.heap.size + 1]? = some (.cells #[.int .i8 (old.1 0), .int .i8 (old.1 1), .int .i8 (old.1 2), .int .i8 (old.1 3), .int .i8 (old.1 4), .int .i64 old.2.1, .int .i64 (old.2.2 : Int)] 74 (0, 0))) := heap_alloc2_new w6 _ _
                rcases HHOLD.out with ⟨hkn, rfl, hold⟩ | ⟨y0, hkn, rfl, hold⟩
                · have HLTK : Hid (∀ y, K' y6.1 = some y → wkey (y6.1, vP st x.1 + wtP st y6.1, i) < wkey (y6.1, y)) := fun y e => by rw [hkn] at e; cases e
                  clear hkn hold
                  obtain ⟨wp, hput, hwyp, hgp⟩ := HWY8.out.put HR.out.so HPY.out (vP st x.1 + wtP st y6.1, i)
                  have hput' : (Instr.mapUpdate 71 (.map (some mb)) (.agg #[.int .i8 (y6.1 0), .int .i8 (y6.1 1), .int .i8 (y6.1 2), .int .i8 (y6.1 3), .int .i8 (y6.1 4)]) (.agg #[.int .i8 (y6.1 0), .int .i8 (y6.1 1), .int .i8 (y6.1 2), .int .i8 (y6.1 3), .int .i8 (y6.1 4), .int .i64 y6.2.1, .int .i64 (y6.2.2 : Int)])).run Try.prog ((w6.alloc (.cells #[.int .i8 (y6.1 0), .int .i8 (y6.1 1), .int .i8 (y6.1 2), .int .i8 (y6.1 3), .int .i8 (y6.1 4), .int .i64 y6.2.1, .int .i64 (y6.2.2 : Int)] 74)).alloc (.cells #[.int .i8 (old.1 0), .int .i8 (old.1 1), .int .i8 (old.1 2), .int .i8 (old.1 3), .int .i8 (old.1 4), .int .i64 old.2.1, .int .i64 (old.2.2 : Int)] 74)) = .ok () wp := by
                    have h2 : wv (y6.1, vP st x.1 + wtP st y6.1, i) = .agg #[.int .i8 (y6.1 0), .int .i8 (y6.1 1), .int .i8 (y6.1 2), .int .i8 (y6.1 3), .int .i8 (y6.1 4), .int .i64 y6.2.1, .int .i64 (y6.2.2 : Int)] := by rw [← HYE.out]; rfl
                    rw [← h2]
                    exact hput
                  have hLP : wp.heap[w6.heap.size]? = some (.cells #[.int .i8 (y6.1 0), .int .i8 (y6.1 1), .int .i8 (y6.1 2), .int .i8 (y6.1 3), .int .i8 (y6.1 4), .int .i64 y6.2.1, .int .i64 (y6.2.2 : Int)] 74 (0, 0)) := by
                    rw [hgp.block w6.heap.size (by omega) (fun e => by have e' : w6.heap.size = mb := by simpa using e
                                                                       omega)]
                    exact HLB8.out
                  obtain ⟨p0, p1, p2, p3, p4, p5, p6⟩ := cells7 hLP
                  have hfarp : ∀ q, q < ((w6.alloc (.cells #[.int .i8 (y6.1 0), .int .i8 (y6.1 1), .int .i8 (y6.1 2), .int .i8 (y6.1 3), .int .i8 (y6.1 4), .int .i64 y6.2.1, .int .i64 (y6.2.2 : Int)] 74)).alloc (.cells #[.int .i8 (old.1 0), .int .i8 (old.1 1), .int .i8 (old.1 2), .int .i8 (old.1 3), .int .i8 (old.1 4), .int .i64 old.2.1, .int .i64 (old.2.2 : Int)] 74)).heap.size → q ≠ mb → wp.heap[q]? = ((w6.alloc (.cells #[.int .i8 (y6.1 0), .int .i8 (y6.1 1), .int .i8 (y6.1 2), .int .i8 (y6.1 3), .int .i8 (y6.1 4), .int .i64 y6.2.1, .int .i64 (y6.2.2 : Int)] 74)).alloc (.cells #[.int .i8 (old.1 0), .int .i8 (old.1 1), .int .i8 (old.1 2), .int .i8 (old.1 3), .int .i8 (old.1 4), .int .i64 old.2.1, .int .i64 (old.2.2 : Int)] 74)).heap[q]? := fun q hq hne => hgp.block q hq (fun e => hne (by simpa using e))
                  have HHP : Hid (HeapAt (ob + 1) wp ob tv' n' f'') := HH8.out.kept (fun q hq e => hfarp q hq (fun ee => by
                    subst ee
                    rcases e with e | e
                    · omega
                    · have := (HTO3.out _ e).1
                      omega))
                  have hszp := hgp.size
                  have HNP := hide ((hfarp nb (by omega) (by omega)).trans HN8.out)
                  have HBP : Hid (Below w1.heap.size w1 wp) := HB8.out.trans ⟨hgp.os, hgp.tape, hgp.output, hgp.size, fun q hq => hfarp q (by omega) (by omega)⟩
                  have HWYP := hide hwyp
                  have HPU := hide (hpush_any HHP.out HK3.out y6 HBD.out (by omega) (by omega))
                  unfold wv wc7 at HPU
                  clear hput hwyp hgp hLP hfarp
                  go_wp2_with fail
                  refine HPU.out.mono ?_
                  rintro e w10 ⟨⟨u10, rfl⟩, tv10, f10, hh10, hk10, hhas10, hc10, ho10⟩
                  have hs10 := hc10.size
                  have hfar10 : ∀ q, q < wp.heap.size → q ≠ ob → tv'.ownBlock ≠ some q → w10.heap[q]? = wp.heap[q]? := fun q hq h1 h2 => hc10.block q hq (fun e => by
                    rcases e with e | e
                    · exact h1 e
                    · exact h2 e)
                  have HEXN := hide (HEX3.out.set HR.out.so (e := y6.1) (c := vP st x.1 + wtP st y6.1) (has' := Has f10 (n' + 1)) hlt HW0.out.pv (by rw [← HYE.out]; exact HWS.out) rfl HBU.out HLTK.out (fun z hz => (hhas10 z).2 (Or.inr hz)) ((hhas10 _).2 (Or.inl HYE.out.symm)) (fun z hz => by
                    rcases (hhas10 z).1 hz with e | e
                    · exact Or.inl (e.trans HYE.out)
                    · exact Or.inr e))
                  have hrank := rank_set HR.out.so (K := K') (e := y6.1) (c := vP st x.1 + wtP st y6.1) (i := i) (by rw [← HYE.out]; exact HWS.out) HLTK.out
                  have HWY10 := hide (HWYP.out.kept (hfar10 mb HWYP.out.lt (by omega) (fun e => by have := (HTO3.out _ e).1; omega)))
                  have HN10 := hide ((hfar10 nb (by omega) (by omega) (fun e => (HTO3.out _ e).2 rfl)).trans HNP.out)
                  have HB10 : Hid (Below w1.heap.size w1 w10) := HBP.out.trans ⟨hc10.os, hc10.tape, hc10.output, hc10.size, fun q hq => hfar10 q (by omega) (by omega) (fun e => by have := (HTO3.out _ e).1; omega)⟩
                  have HTO10 : Hid (∀ q, tv10.ownBlock = some q → ob + 1 ≤ q ∧ q ≠ nb) := fun q e => by
                    rcases ho10 q e with e | e
                    · exact HTO3.out q e
                    · omega
                  have HH10 := hide hh10
                  have HK10 := hide hk10
                  clear hh10 hk10 hhas10 hc10 ho10 hfar10
                  go_wp2_with fail
                  go_roundw
                  case rel => exact ⟨i + 1, tv10, n' + 1, f10, _, by go_num, by omega, by omega, by omega, HH10.out, HK10.out, HWY10.out, HEXN.out, HTO10.out, HN10.out, HB10.out⟩
                  case measure => simp [intOf]; omega
                · have HWO : Hid (WSound st old) := by rw [hold]; exact HEX3.out.inv.kn _ _ HPY.out hkn
                  have HCK := hide (cheaper_any y6 old ((w6.alloc (.cells #[.int .i8 (y6.1 0), .int .i8 (y6.1 1), .int .i8 (y6.1 2), .int .i8 (y6.1 3), .int .i8 (y6.1 4), .int .i64 y6.2.1, .int .i64 (y6.2.2 : Int)] 74)).alloc (.cells #[.int .i8 (old.1 0), .int .i8 (old.1 1), .int .i8 (old.1 2), .int .i8 (old.1 3), .int .i8 (old.1 4), .int .i64 old.2.1, .int .i64 (old.2.2 : Int)] 74)) HBD.out (HWO.out.bound HR.out.so))
                  obtain ⟨fb0, fb1⟩ : ((w6.alloc (.cells #[.int .i8 (y6.1 0), .int .i8 (y6.1 1), .int .i8 (y6.1 2), .int .i8 (y6.1 3), .int .i8 (y6.1 4), .int .i64 y6.2.1, .int .i64 (y6.2.2 : Int)] 74)).alloc (.cells #[.int .i8 (old.1 0), .int .i8 (old.1 1), .int .i8 (old.1 2), .int .i8 (old.1 3), .int .i8 (old.1 4), .int .i64 old.2.1, .int .i64 (old.2.2 : Int)] 74)).cell? ⟨ob, 1, none⟩ = some (.func (.func 81) #[] #[]) ∧ True := ⟨by rw [cell_of_row _ ob 1 _ _ (0, 0) HH8.out.var]; rfl, trivial⟩
                  unfold wv wc7 at HCK
                  by_cases hlo : wkey y6 < wkey old
                  · have HLTK : Hid (∀ y, K' y6.1 = some y → wkey (y6.1, vP st x.1 + wtP st y6.1, i) < wkey (y6.1, y)) := fun y e => by
                      rw [hkn] at e
                      rw [← Option.some.inj e, ← hold, ← HYE.out]
                      exact hlo
                    rw [decide_eq_true hlo] at HCK
                    clear hkn hold hlo
                    go_wp2_with fail
                    refine HCK.out.mono ?_
                    rintro e w9 ⟨rfl, hb9⟩
                    have HH9 := hide (HH8.out.below hb9)
                    have HWY9 := hide (HWY8.out.kept (hb9.block mb HWY8.out.lt))
                    have HN9 := hide (blockLater hb9 HN8.out)
                    have HB9 : Hid (Below w1.heap.size w1 w9) := HB8.out.trans (hb9.mono HB8.out.size)
                    have hs9 := hb9.size
                    have HLB9 := hide (blockLater hb9 HLB8.out)
                    clear hb9 fb0
                    obtain ⟨lp0, lp1, lp2, lp3, lp4, lp5, lp6⟩ := cells7 HLB9.out
                    rw [hs8] at hs9
                    obtain ⟨wp, hput, hwyp, hgp⟩ := HWY9.out.put HR.out.so HPY.out (vP st x.1 + wtP st y6.1, i)
                    have hput' : (Instr.mapUpdate 71 (.map (some mb)) (.agg #[.int .i8 (y6.1 0), .int .i8 (y6.1 1), .int .i8 (y6.1 2), .int .i8 (y6.1 3), .int .i8 (y6.1 4)]) (.agg #[.int .i8 (y6.1 0), .int .i8 (y6.1 1), .int .i8 (y6.1 2), .int .i8 (y6.1 3), .int .i8 (y6.1 4), .int .i64 y6.2.1, .int .i64 (y6.2.2 : Int)])).run Try.prog (w9) = .ok () wp := by
                      have h2 : wv (y6.1, vP st x.1 + wtP st y6.1, i) = .agg #[.int .i8 (y6.1 0), .int .i8 (y6.1 1), .int .i8 (y6.1 2), .int .i8 (y6.1 3), .int .i8 (y6.1 4), .int .i64 y6.2.1, .int .i64 (y6.2.2 : Int)] := by rw [← HYE.out]; rfl
                      rw [← h2]
                      exact hput
                    have hLP : wp.heap[w6.heap.size]? = some (.cells #[.int .i8 (y6.1 0), .int .i8 (y6.1 1), .int .i8 (y6.1 2), .int .i8 (y6.1 3), .int .i8 (y6.1 4), .int .i64 y6.2.1, .int .i64 (y6.2.2 : Int)] 74 (0, 0)) := by
                      rw [hgp.block w6.heap.size (by omega) (fun e => by have e' : w6.heap.size = mb := by simpa using e
                                                                         omega)]
                      exact HLB9.out
                    obtain ⟨p0, p1, p2, p3, p4, p5, p6⟩ := cells7 hLP
                    have hfarp : ∀ q, q < (w9).heap.size → q ≠ mb → wp.heap[q]? = (w9).heap[q]? := fun q hq hne => hgp.block q hq (fun e => hne (by simpa using e))
                    have HHP : Hid (HeapAt (ob + 1) wp ob tv' n' f'') := HH9.out.kept (fun q hq e => hfarp q hq (fun ee => by
                      subst ee
                      rcases e with e | e
                      · omega
                      · have := (HTO3.out _ e).1
                        omega))
                    have hszp := hgp.size
                    have HNP := hide ((hfarp nb (by omega) (by omega)).trans HN9.out)
                    have HBP : Hid (Below w1.heap.size w1 wp) := HB9.out.trans ⟨hgp.os, hgp.tape, hgp.output, hgp.size, fun q hq => hfarp q (by omega) (by omega)⟩
                    have HWYP := hide hwyp
                    have HPU := hide (hpush_any HHP.out HK3.out y6 HBD.out (by omega) (by omega))
                    unfold wv wc7 at HPU
                    clear hput hwyp hgp hLP hfarp
                    go_wp2_with fail
                    refine HPU.out.mono ?_
                    rintro e w10 ⟨⟨u10, rfl⟩, tv10, f10, hh10, hk10, hhas10, hc10, ho10⟩
                    have hs10 := hc10.size
                    have hfar10 : ∀ q, q < wp.heap.size → q ≠ ob → tv'.ownBlock ≠ some q → w10.heap[q]? = wp.heap[q]? := fun q hq h1 h2 => hc10.block q hq (fun e => by
                      rcases e with e | e
                      · exact h1 e
                      · exact h2 e)
                    have HEXN := hide (HEX3.out.set HR.out.so (e := y6.1) (c := vP st x.1 + wtP st y6.1) (has' := Has f10 (n' + 1)) hlt HW0.out.pv (by rw [← HYE.out]; exact HWS.out) rfl HBU.out HLTK.out (fun z hz => (hhas10 z).2 (Or.inr hz)) ((hhas10 _).2 (Or.inl HYE.out.symm)) (fun z hz => by
                      rcases (hhas10 z).1 hz with e | e
                      · exact Or.inl (e.trans HYE.out)
                      · exact Or.inr e))
                    have hrank := rank_set HR.out.so (K := K') (e := y6.1) (c := vP st x.1 + wtP st y6.1) (i := i) (by rw [← HYE.out]; exact HWS.out) HLTK.out
                    have HWY10 := hide (HWYP.out.kept (hfar10 mb HWYP.out.lt (by omega) (fun e => by have := (HTO3.out _ e).1; omega)))
                    have HN10 := hide ((hfar10 nb (by omega) (by omega) (fun e => (HTO3.out _ e).2 rfl)).trans HNP.out)
                    have HB10 : Hid (Below w1.heap.size w1 w10) := HBP.out.trans ⟨hc10.os, hc10.tape, hc10.output, hc10.size, fun q hq => hfar10 q (by omega) (by omega) (fun e => by have := (HTO3.out _ e).1; omega)⟩
                    have HTO10 : Hid (∀ q, tv10.ownBlock = some q → ob + 1 ≤ q ∧ q ≠ nb) := fun q e => by
                      rcases ho10 q e with e | e
                      · exact HTO3.out q e
                      · omega
                    have HH10 := hide hh10
                    have HK10 := hide hk10
                    clear hh10 hk10 hhas10 hc10 ho10 hfar10
                    go_wp2_with fail
                    go_roundw
                    case rel => exact ⟨i + 1, tv10, n' + 1, f10, _, by go_num, by omega, by omega, by omega, HH10.out, HK10.out, HWY10.out, HEXN.out, HTO10.out, HN10.out, HB10.out⟩
                    case measure => simp [intOf]; omega
                  · have HSK := hide (HEX3.out.skip (fun e he hf hc hbb => by
                      have e1 : e = y6.1 := bump_inj (hbb.trans HBU.out.symm)
                      subst e1
                      refine ⟨y0, hkn, ?_⟩
                      rw [← hold]
                      have h1 : wkey y6 = (vP st x.1 + wtP st y6.1) * 8 + i := by rw [HYE.out]; rfl
                      omega))
                    rw [decide_eq_false hlo] at HCK
                    clear hkn hold hlo
                    go_wp2_with fail
                    refine HCK.out.mono ?_
                    rintro e w9 ⟨rfl, hb9⟩
                    have HH9 := hide (HH8.out.below hb9)
                    have HWY9 := hide (HWY8.out.kept (hb9.block mb HWY8.out.lt))
                    have HN9 := hide (blockLater hb9 HN8.out)
                    have HB9 : Hid (Below w1.heap.size w1 w9) := HB8.out.trans (hb9.mono HB8.out.size)
                    have hs9 := hb9.size
                    have HLB9 := hide (blockLater hb9 HLB8.out)
                    clear hb9 fb0
                    go_wp2_with fail
                    go_roundw
                    case rel => exact ⟨i + 1, tv', n', f'', K', by go_num, by omega, hrn, hrk', HH9.out, HK3.out, HWY9.out, HSK.out, HTO3.out, HN9.out, HB9.out⟩
                    case measure => simp [intOf]; omega
            · obtain rfl : i = st.2.1.length := by omega
              have HDN := hide HEX3.out.done
              have hlen : ¬ ((st.2.1.length : Int) < (st.2.1.length : Int)) := by omega
              go_wp2_with fail
              go_roundg (2 * rankK st K' + n')
              case measure =>
                have := HGK.out
                omega
              case rel => exact ⟨tv', n', f'', K', rfl, by have := HGK.out; omega, HH3.out, HK3.out, HWY3.out, HDN.out, fun q e => (HTO3.out q e).1, HB3'.out, by omega⟩
end Go.Proofs.Ytmjjigdnoiphbab

/-
  impl: Solve.
-/
namespace Go.Proofs.Ytmjjigdnoiphbab
open Go.RowKit Go.Deep Go.Maps
set_option linter.unusedVariables false

set_option maxRecDepth 4000 in
set_option maxHeartbeats 4000000 in
theorem implSolve_any (v : Value) (st : St) (w : World) (h : StateAt w v st) (hcap : CapSt w v st.2.1.length) (hp : ∀ i, i < st.2.1.length → (tPath st.2.1 i).length ≤ 4611686018427387904) :
    Calls Try.prog 28 #[v] w fun e w' => ∃ r, e = .returned (.agg #[.bool (solveF st).1, .int .i64 (solveF st).2.1, r]) ∧ OwnInts w.heap.size w' r (solveF st).2.2 ∧ Below w.heap.size w w' := by
  have HS := hide h
  have HP := hide hp
  have HC := hide hcap
  obtain ⟨a1, q1, a2, q2, a3, q3, rfl⟩ := h.form
  clear h hp hcap
  go_enter Try.func28, Try.ntmps28
  go_wp2_with fail
  obtain ⟨W0, hW0⟩ : ∃ W0, W0 = (w.alloc (.cells #[.slice a1 st.1.length q1, .slice a2 st.2.1.length q2, .slice a3 st.2.2.length q3] 30)).alloc (.cells #[.bool false, .int .i64 0, .slice none 0 0] 41) := ⟨_, rfl⟩
  rw [← hW0]
  have HB0 : Hid (Below w.heap.size w W0) := by rw [hW0]; exact Joins.below_alloc2 _ _ _
  have HX0 : Hid (W0.heap[w.heap.size]? = some (.cells #[.slice a1 st.1.length q1, .slice a2 st.2.1.length q2, .slice a3 st.2.2.length q3] 30 (0, 0))) := by rw [hW0]; exact blockLater (Joins.below_alloc1 _ _) (heap_alloc_new _ _)
  have HR0 : Hid (W0.heap[w.heap.size + 1]? = some (.cells #[.bool false, .int .i64 0, .slice none 0 0] 41 (0, 0))) := by rw [hW0]; exact heap_alloc2_new _ _ _
  clear hW0
  refine (implStateOk_any _ st _ (HS.out.below HB0.out) HP.out).mono ?_
  rintro e w1 ⟨rfl, hb1⟩
  have HX1 := hide (blockLater hb1 HX0.out)
  have HR1 := hide (blockLater hb1 HR0.out)
  have HB1 := hide (below_tail HB0.out hb1)
  obtain ⟨c0, c1, c2, _⟩ := block3 HX1.out
  obtain ⟨r0, r1, r2, rf⟩ := block3 HR1.out
  have rf0 := rf 0
  have rf1 := rf 1
  have rf2 := rf 2
  clear hb1 rf
  by_cases hok : stOk st = 0
  · have HR := hide (right_of_ok hok)
    have hokb : (stOk st != 0) = false := by simp [hok]
    have HOK := hide hok
    obtain ⟨l1, l2, l3, l4⟩ := HR.out.lens
    have HL4 := hide l4
    clear hok l4
    generalize stOk st = code at hokb c0 ⊢
    go_wp2_with fail
    refine (waysToEnd_any _ st _ (HS.out.below HB1.out) (CapSt.below HC.out HS.out HB1.out) HR.out).mono ?_
    rintro e w2 ⟨mb, K, rfl, hmb, hwy, hbest, hb2⟩
    have HX2 := hide (blockLater hb2 HX1.out)
    have HR2 := hide (blockLater hb2 HR1.out)
    have HB2 := hide (below_tail HB1.out hb2)
    have HWY := hide hwy
    have HBEST := hide hbest
    have hw1 : w.heap.size + 1 < w1.heap.size := (Array.getElem?_eq_some_iff.1 HR1.out).1
    have hw2 := hb2.size
    obtain ⟨d0, d1, d2, _⟩ := block3 HX2.out
    obtain ⟨r0, r1, r2, rf⟩ := block3 HR2.out
    have rf0 := rf 0
    have rf1 := rf 1
    have rf2 := rf 2
    have hlk := hwy.look HR.out.so (PV.pz st) true
    clear hb2 rf hwy hbest
    by_cases hneg : vP st pz < 0
    · have HF := hide (show solveF st = (false, 0, []) by unfold solveF; rw [if_neg (by omega)])
      rw [HBEST.out.none hneg] at hlk
      have hlk' : (Instr.lookup 71 (.map (some mb)) (.agg #[.int .i8 0, .int .i8 0, .int .i8 0, .int .i8 0, .int .i8 0]) true).run Try.prog w2 = .ok (.tuple #[.agg #[.int .i8 0, .int .i8 0, .int .i8 0, .int .i8 0, .int .i8 0, .int .i64 0, .int .i64 0], .bool false]) w2 := hlk
      have hbz := Joins.below_alloc1 w2 (.cells #[.int .i8 0, .int .i8 0, .int .i8 0, .int .i8 0, .int .i8 0, .int .i64 0, .int .i64 0] 74)
      replace r0 := cell_later hbz r0
      replace r1 := cell_later hbz r1
      replace r2 := cell_later hbz r2
      have rf : ∀ o, (w2.alloc (.cells #[.int .i8 0, .int .i8 0, .int .i8 0, .int .i8 0, .int .i8 0, .int .i64 0, .int .i64 0] 74)).frozen? ⟨w.heap.size + 1, o, none⟩ = false := fun o => frozen_of_row _ _ o _ _ (blockLater hbz HR2.out)
      replace rf0 := rf 0
      replace rf1 := rf 1
      replace rf2 := rf 2
      have HBZ := hide (below_tail HB2.out hbz)
      clear hlk hbz rf
      go_wp2_with fail
      refine bodyPost_ret ?_ rfl ⟨.slice none 0 0, rfl, ?_, ((HBZ.out.setCell (p := ⟨w.heap.size + 1, 0, none⟩) (by simp) _).setCell (p := ⟨w.heap.size + 1, 1, none⟩) (by simp) _).setCell (p := ⟨w.heap.size + 1, 2, none⟩) (by simp) _⟩
      · rw [HF.out]
        simp [results, Try.results28, go_sem, r0, r1, r2]
      · rw [HF.out]
        exact OwnInts.nil _ _
    · have HF := hide (show solveF st = (true, vP st pz, solveP st pz) by unfold solveF; rw [if_pos ⟨HOK.out, by omega⟩])
      have hall := HBEST.out.all (by omega)
      have hb0 := hall pz (PV.pz st) (fit_pz HR.out) (by omega) (Or.inl rfl)
      rw [hb0] at hlk
      have hvb := (vP_bounds HR.out.so (pz_ok st)).2
      have hbc : (bway st pz).2.1 = vP st pz := by
        unfold bway
        split
        · rename_i e; rw [vP_end e]
        · rfl
      obtain ⟨bm0, hbm0⟩ : ∃ b : Nat, (bway st pz).2.2 = b := ⟨_, rfl⟩
      obtain ⟨vv, hvv⟩ : ∃ vv, vP st pz = vv := ⟨_, rfl⟩
      have hlk' : (Instr.lookup 71 (.map (some mb)) (.agg #[.int .i8 0, .int .i8 0, .int .i8 0, .int .i8 0, .int .i8 0]) true).run Try.prog w2 = .ok (.tuple #[.agg #[.int .i8 0, .int .i8 0, .int .i8 0, .int .i8 0, .int .i8 0, .int .i64 vv, .int .i64 (bm0 : Int)], .bool true]) w2 := by
        have h2 : (bway st pz).2 = (vv, bm0) := by rw [← hvv, ← hbc, ← hbm0]
        rw [h2] at hlk
        exact hlk
      have HALL := hide hall
      have HVV := hide hvv
      rw [hvv] at HF hneg hvb
      clear hlk hb0 hbc hbm0 hvv hall
      have hb3 := Joins.below_alloc2 w2 (.cells #[.int .i8 0, .int .i8 0, .int .i8 0, .int .i8 0, .int .i8 0, .int .i64 vv, .int .i64 (bm0 : Int)] 74) (.cells #[.bool true, .int .i64 vv, .slice none 0 0] 41)
      replace d0 := cell_later hb3 d0
      replace d1 := cell_later hb3 d1
      replace d2 := cell_later hb3 d2
      have HB3 := hide (below_tail HB2.out hb3)
      have HX3 := hide (blockLater hb3 HX2.out)
      have HR3 := hide (blockLater hb3 HR2.out)
      have HWY3 := hide (HWY.out.kept (hb3.block mb HWY.out.lt))
      have HO3 : Hid (((w2.alloc (.cells #[.int .i8 0, .int .i8 0, .int .i8 0, .int .i8 0, .int .i8 0, .int .i64 vv, .int .i64 (bm0 : Int)] 74)).alloc (.cells #[.bool true, .int .i64 vv, .slice none 0 0] 41)).heap[w2.heap.size + 1]? = some (.cells #[.bool true, .int .i64 vv, .slice none 0 0] 41 (0, 0))) := heap_alloc2_new w2 _ _
      clear hb3 r0 r1 r2 rf0 rf1 rf2
      go_wp2_with fail
      generalize (w2.alloc (.cells #[.int .i8 0, .int .i8 0, .int .i8 0, .int .i8 0, .int .i8 0, .int .i64 vv, .int .i64 (bm0 : Int)] 74)).alloc (.cells #[.bool true, .int .i64 vv, .slice none 0 0] 41) = W3 at *
      refine (endOf_any _ st _ (HS.out.below HB3.out) HR.out.so).mono ?_
      rintro e w4 ⟨rfl, hb4⟩
      have HB4 := hide (below_tail HB3.out hb4)
      have HX4 := hide (blockLater hb4 HX3.out)
      have HR4 := hide (blockLater hb4 HR3.out)
      have HWY4 := hide (HWY3.out.kept (hb4.block mb HWY3.out.lt))
      have HO4 := hide (blockLater hb4 HO3.out)
      clear hb4 d0 d1 d2
      unfold pv pc5
      go_wp2_with fail
      obtain ⟨W5, hW5⟩ : ∃ W5, W5 = (w4.alloc (.cells (pc5 pz) 59)).alloc (.cells (pc5 (endP st)) 59) := ⟨_, rfl⟩
      change Code.wp _ _ _ _ ((w4.alloc (.cells (pc5 pz) 59)).alloc (.cells (pc5 (endP st)) 59))
      rw [← hW5]
      have hb5 : Below w4.heap.size w4 W5 := by rw [hW5]; exact Joins.below_alloc2 _ _ _
      have HPZ5 : Hid (W5.heap[w4.heap.size]? = some (.cells (pc5 pz) 59 (0, 0))) := by rw [hW5]; exact blockLater (Joins.below_alloc1 _ _) (heap_alloc_new _ _)
      have HPE5 : Hid (W5.heap[w4.heap.size + 1]? = some (.cells (pc5 (endP st)) 59 (0, 0))) := by rw [hW5]; exact heap_alloc2_new _ _ _
      have HB5 := hide (below_tail HB4.out hb5)
      have HX5 := hide (blockLater hb5 HX4.out)
      have HR5 := hide (blockLater hb5 HR4.out)
      have HWY5 := hide (HWY4.out.kept (hb5.block mb HWY4.out.lt))
      have HO5 := hide (blockLater hb5 HO4.out)
      have ho4 : w2.heap.size + 1 < w4.heap.size := (Array.getElem?_eq_some_iff.1 HO4.out).1
      have hmb2 : mb < w2.heap.size := HWY.out.lt
      obtain ⟨o, ho⟩ : ∃ o, w2.heap.size + 1 = o := ⟨_, rfl⟩
      rw [ho] at HO5 ho4
      simp only [ho]
      have hmo : mb < o := by omega
      have hwo : w.heap.size + 1 < o := by omega
      clear hW5 hb5 ho hmb2 HB3 HX3 HR3 HWY3 HO3 HB4 HX4 HR4 HWY4 HO4 HX2 HR2 HB2 hlk'
      go_loopg [7, 8] (restR st pz) (fun gk u7 u8 wr => ∃ (d : Pr) (M : List Int) (mv : Value) (pb eb : Nat), u7 = .pointer (some ⟨pb, 0, none⟩) ∧ u8 = .pointer (some ⟨eb, 0, none⟩) ∧ restR st d = gk ∧ PV st d ∧ FitP st d ∧ 0 ≤ vP st d ∧ (d = pz ∨ vP st d < vP st pz) ∧ M ++ solveP st d = solveP st pz ∧ OwnInts (o + 1) wr mv M ∧ wr.heap[o]? = some (.cells #[.bool true, .int .i64 vv, mv] 41 (0, 0)) ∧ wr.heap[pb]? = some (.cells (pc5 d) 59 (0, 0)) ∧ wr.heap[eb]? = some (.cells (pc5 (endP st)) 59 (0, 0)) ∧ o < pb ∧ o < eb ∧ pb ≠ eb ∧ (∀ q, mv.ownBlock = some q → q ≠ pb ∧ q ≠ eb) ∧ Below o W5 wr)
      case atStart => exact ⟨pz, [], .slice none 0 0, w4.heap.size, w4.heap.size + 1, rfl, rfl, rfl, PV.pz st, fit_pz HR.out, by have := HVV.out; omega, Or.inl rfl, rfl, OwnInts.nil _ _, HO5.out, HPZ5.out, HPE5.out, by omega, by omega, by omega, fun q e => by simp [Value.ownBlock] at e, Below.refl _ _⟩
      case round =>
        obtain ⟨d, M, mv, pb, eb, rfl, rfl, hgk, hpv, hfit, hnn, hor, hM, hown, hO, hP, hE, hop, hoe, hpe, hmv, hb⟩ := hrel
        obtain ⟨ma, mc, rfl⟩ := hown.form
        have hbW : Below w.heap.size w wr := HB5.out.trans (hb.mono (by omega))
        have hXr := (hb.block w.heap.size (by have := HB5.out.size; have := (Array.getElem?_eq_some_iff.1 HX5.out).1; omega)).trans HX5.out
        have hRr := (hb.block (w.heap.size + 1) (by omega)).trans HR5.out
        have HWYr := hide (HWY5.out.kept (hb.block mb hmo))
        have HSM : Hid (same5 d (endP st) = allLeft st d) := by
          have h1 := same5_iff HR.out.so hpv (PV.endP st)
          have h2 := allLeft_iff hpv
          show same5 d (endP st) = allLeft st d
          rw [Bool.eq_iff_iff, h1, h2]
          exact eq_comm
        have heq := eqPr' d (endP st)
        rw [HSM.out] at heq
        unfold pc5 at heq
        obtain ⟨p0, p1, p2, p3, p4⟩ := cells5 hP
        obtain ⟨e0, e1, e2, e3, e4⟩ := cells5 hE
        obtain ⟨c0, c1, c2, _⟩ := block3 hXr
        obtain ⟨o0, o1, o2, of⟩ := block3 hO
        have hpbs : pb < wr.heap.size := (Array.getElem?_eq_some_iff.1 hP).1
        have hebs : eb < wr.heap.size := (Array.getElem?_eq_some_iff.1 hE).1
        have hos : o < wr.heap.size := (Array.getElem?_eq_some_iff.1 hO).1
        have hmvlo : ∀ q, Value.ownBlock (.slice ma M.length mc) = some q → o + 1 ≤ q := fun q e => (ownBlock_lt hown e).1
        have HGK := hide hgk
        have HPV := hide hpv
        have HFIT := hide hfit
        have HMM := hide hM
        have HOWN := hide hown
        have HO := hide hO
        have HPP := hide hP
        have HEE := hide hE
        have HMV := hide hmv
        have HB := hide hb
        have HBW := hide hbW
        have HXR := hide hXr
        have HRR := hide hRr
        have HOR := hide hor
        clear hgk hpv hfit hM hown hO hP hE hmv hb hbW hXr hRr hor
        cases hall : allLeft st d with
        | true =>
          have HMF : Hid (M = solveP st pz) := by
            have := HMM.out
            rw [solveP_end hall, List.append_nil] at this
            exact this
          rw [hall] at heq
          obtain ⟨r0, r1, r2, rf⟩ := block3 HRR.out
          have rf0 := rf 0
          have rf1 := rf 1
          have rf2 := rf 2
          clear hall rf of
          generalize endP st = ep at heq e0 e1 e2 e3 e4
          go_wp2_with fail
          refine bodyPost_ret ?_ rfl ⟨.slice ma M.length mc, rfl, ?_, ((HBW.out.setCell (p := ⟨w.heap.size + 1, 0, none⟩) (by simp) _).setCell (p := ⟨w.heap.size + 1, 1, none⟩) (by simp) _).setCell (p := ⟨w.heap.size + 1, 2, none⟩) (by simp) _⟩
          · rw [HF.out]
            simp [results, Try.results28, go_sem, r0, r1, r2]
          · rw [HF.out]
            simp only
            rw [← HMF.out]
            refine OwnInts.le (base := o + 1) ?_ (by omega)
            exact ownsRow_keep HOWN.out (fun q hq => by
              have := hmvlo q hq
              rw [Below.heap_setCell _ _ _ _ (by simp; omega), Below.heap_setCell _ _ _ _ (by simp; omega), Below.heap_setCell _ _ _ _ (by simp; omega)])
        | false =>
          have hnl : ¬ allLeft st d = true := by rw [hall]; simp
          have hbm := bm_ok HR.out.so HPV.out.ok hnl hnn
          have hlf := canP_left hbm.can
          have hK := HALL.out d HPV.out HFIT.out hnn HOR.out
          have ebw : bway st d = (d, vP st d, bm st d) := by unfold bway; rw [if_neg hnl]
          rw [ebw] at hK
          have hlk := HWYr.out.look HR.out.so HPV.out false
          rw [hK] at hlk
          have HSOL : Hid (M ++ [el st.2.2 (bm st d)] ++ solveP st (bump d (bm st d)) = solveP st pz) := by
            have := solveP_step HPV.out.ok hbm
            rw [← HMM.out, this]
            simp [Hid]
          have HREST : Hid (restR st (bump d (bm st d)) + 1 = restR st d) := restR_bump HPV.out.ok hbm.lt hlf
          have HPV2 := hide (HPV.out.bump hbm.lt hlf)
          have HFIT2 := hide (fit_bump HR.out HFIT.out hbm.lt hbm.can)
          have HNN2 := hide hbm.nn
          have HOR2 : Hid (bump d (bm st d) = pz ∨ vP st (bump d (bm st d)) < vP st pz) := Or.inr (by
            have h1 := hbm.eq
            have h2 := wtP_pos HR.out.so d hbm.lt hlf
            rcases HOR.out with e | e
            · rw [e] at h1 h2 ⊢; omega
            · omega)
          have hML : M.length ≤ 45 := by
            have h1 := solveP_len HR.out.so (pz_ok st)
            rw [← HMM.out] at h1
            simp at h1
            omega
          have hbl := hbm.lt
          have hdb : d (bm st d) < 100 := HPV.out.lt HR.out.so _
          obtain ⟨b, hb⟩ : ∃ b, bm st d = b := ⟨_, rfl⟩
          obtain ⟨vd, hvd⟩ : ∃ vd, vP st d = vd := ⟨_, rfl⟩
          rw [hb] at hlk HSOL HREST HPV2 HFIT2 HNN2 HOR2 hbl hdb
          rw [hvd] at hlk
          have hlk' : (Instr.lookup 71 (.map (some mb)) (.agg #[.int .i8 (d 0), .int .i8 (d 1), .int .i8 (d 2), .int .i8 (d 3), .int .i8 (d 4)]) false).run Try.prog wr = .ok (.agg #[.int .i8 (d 0), .int .i8 (d 1), .int .i8 (d 2), .int .i8 (d 3), .int .i8 (d 4), .int .i64 vd, .int .i64 (b : Int)]) wr := hlk
          have hkn : b < st.2.2.length := by have := HL4.out; omega
          obtain ⟨nb, noff, rfl, nn⟩ := (HS.out.below HBW.out).parts.2.2.cellAt b hkn
          have hki : (b : Int) < (st.2.2.length : Int) := by omega
          rw [hall] at heq
          have of2 := of 2
          clear hall of hnl hbm hlf hK ebw hlk hb hvd
          have hfd : ∀ w, (Instr.field 74 (.agg #[.int .i8 (d 0), .int .i8 (d 1), .int .i8 (d 2), .int .i8 (d 3), .int .i8 (d 4), .int .i64 vd, .int .i64 (b : Int)]) 2).run Try.prog w = .ok (.int .i64 (b : Int)) w := fun w => by
            simp [Instr.field, run_underlying Try.underlying74, run_underlying Try.underlying3, part, isAgg, sizeOf, typeInfo, asAgg, go_sem]
          have hne : Value.ownBlock (.slice ma M.length mc) ≠ some o := fun e => by have := hmvlo o e; omega
          have hc3 : M.length + 1 ≤ maxLen := by unfold maxLen; omega
          have hc4 : (M.length + 1) * 8 ≤ 140737488355328 := by omega
          have hc5 : o + 1 ≤ (wr.alloc (.cells #[.int .i64 (el st.2.2 b)] 3)).drew.heap.size := by show _ ≤ (wr.alloc _).heap.size; simp; omega
          have HK6 : Hid (∀ w8, (wr.alloc (.cells #[.int .i64 (el st.2.2 b)] 3)).drew.grownBy w8 (Value.ownBlock (.slice ma M.length mc)) → (w8.cell? ⟨o, 2, none⟩ = some (.slice ma M.length mc) ∧ w8.frozen? ⟨o, 2, none⟩ = false)) := fun w8 hg8 => by
            have hbA : Below wr.heap.size wr (wr.alloc (.cells #[.int .i64 (el st.2.2 b)] 3)).drew := (Joins.below_alloc1 wr _).drew
            have hl : ∀ q, q < wr.heap.size → q < (wr.alloc (.cells #[.int .i64 (el st.2.2 b)] 3)).drew.heap.size := fun q hq => Nat.lt_of_lt_of_le hq hbA.size
            refine ⟨?_, ?_⟩
            · rw [hg8.cell_far ⟨o, 2, none⟩ (hl _ hos) (Ne.symm hne)]; exact cell_later hbA o2
            · rw [hg8.frozen_far ⟨o, 2, none⟩ (hl _ hos) (Ne.symm hne), hbA.frozen (p := ⟨o, 2, none⟩) hos]; exact of2
          obtain ⟨i0, hi0, hz0, hz1, hz2⟩ := info_parts Try.infoInt
          have HJ1 := hide hi0
          have HJ2 := hide hz0
          have HJ3 := hide hz1
          have HJ4 := hide hz2
          have o2' := cell_later (Joins.below_alloc1 wr (.cells #[.int .i64 (el st.2.2 b)] 3)) o2
          clear hi0 hz0 hz1 hz2
          go_wp2_with fail
          clear hlk' heq hfd
          go_region_law ((refine step_append_lies _ (by rfl) _ _ _ (by rfl) (o + 1) 3 i0 _ 1 8 Try.underlying22 HJ1.out HJ2.out HJ3.out HJ4.out rfl (by omega) (.slice ma M.length mc) _ _ (by rfl) ((HOWN.out.alloc _).drew) ⟨wr.heap.size, 0, none⟩ 1 1 [.int .i64 (el st.2.2 b)] (by rfl) (by rfl) (World.news_of_block (cs := #[.int .i64 (el st.2.2 b)]) (t := 3) (fr := (0, 0)) (heap_alloc_new wr _)) (by simp [Value.oneCell']) (by omega) hc3 hc4 hc5 (wr.heap.size + 1) (by simp) ?_; intro g2 cap2 w8 hown2 hgrow2 hat2 hlt2; obtain ⟨k61, k62⟩ := HK6.out _ hgrow2))
          all_goals
            have hbA : Below wr.heap.size wr (wr.alloc (.cells #[.int .i64 (el st.2.2 b)] 3)).drew := (Joins.below_alloc1 wr _).drew
            have hfar : ∀ q, q < wr.heap.size → Value.ownBlock (.slice ma M.length mc) ≠ some q → w8.heap[q]? = wr.heap[q]? := fun q hq hq2 => by
              rw [hgrow2.block q (Nat.lt_of_lt_of_le hq hbA.size) (Ne.symm hq2)]
              exact hbA.block q hq
            have hg2 : o + 1 ≤ g2 ∧ g2 ≠ pb ∧ g2 ≠ eb := by
              rcases hat2 with e | e
              · exact ⟨hmvlo g2 e, HMV.out g2 e⟩
              · omega
            have HCH9 : Hid (Chg (fun q => q = o ∨ Value.ownBlock (.slice ma M.length mc) = some q) wr (w8.setCell ⟨o, 2, none⟩ (.slice (some ⟨g2, 0, none⟩) (M.length + 1) cap2))) := by
              show Chg (fun q => q = o ∨ Value.ownBlock (.slice ma M.length mc) = some q) wr _
              exact Chg.setCell (F := fun q => q = o ∨ Value.ownBlock (.slice ma M.length mc) = some q) ⟨hgrow2.os.trans hbA.os, hgrow2.tape.trans hbA.tape, hgrow2.output.trans hbA.output, Nat.le_trans hbA.size hgrow2.size, fun q hq hq2 => hfar q hq (fun e => hq2 (Or.inr e))⟩ (p := ⟨o, 2, none⟩) (Or.inl rfl) _
            have HO9 : Hid ((w8.setCell ⟨o, 2, none⟩ (.slice (some ⟨g2, 0, none⟩) (M.length + 1) cap2)).heap[o]? = some (.cells #[.bool true, .int .i64 vv, .slice (some ⟨g2, 0, none⟩) (M.length + 1) cap2] 41 (0, 0))) := block3_set2 ((hfar o hos hne).trans HO.out) _
            have HW9 : Hid (OwnInts (o + 1) (w8.setCell ⟨o, 2, none⟩ (.slice (some ⟨g2, 0, none⟩) (M.length + 1) cap2)) (.slice (some ⟨g2, 0, none⟩) (M.length + 1) cap2) (M ++ [el st.2.2 b])) := ownsRow_keep (OwnInts.snoc hown2) (fun q hq => Below.heap_setCell _ _ _ _ (by
              have hq' : g2 = q := by simpa [Value.ownBlock] using hq
              show q ≠ o
              omega))
            clear hbA hfar hown2 hgrow2 hat2 hlt2 k61 k62 o0 o1 o2 o2' of2 nn p0 p1 p2 p3 p4 e0 e1 e2 e3 e4 c0 c1 c2
            generalize w8.setCell ⟨o, 2, none⟩ (.slice (some ⟨g2, 0, none⟩) (M.length + 1) cap2) = W9 at *
            have hs9 := HCH9.out.size
            have HP9 := hide ((HCH9.out.block pb hpbs (fun e => by
              rcases e with e | e
              · omega
              · exact (HMV.out _ e).1 rfl)).trans HPP.out)
            have HE9 := hide ((HCH9.out.block eb hebs (fun e => by
              rcases e with e | e
              · omega
              · exact (HMV.out _ e).2 rfl)).trans HEE.out)
            have HB9 : Hid (Below o W5 W9) := HB.out.trans (HCH9.out.below (by omega) (fun q hq e => by
              rcases e with e | e
              · omega
              · have := hmvlo _ e
                omega))
            obtain ⟨p0, p1, p2, p3, p4⟩ := cells5 HP9.out
            go_wp2_with fail
            refine (pmoved_any d b _ (by omega) hdb).mono ?_
            rintro e wA ⟨rfl, hbA⟩
            have hPA := blockLater hbA HP9.out
            have hEA := blockLater hbA HE9.out
            obtain ⟨t0, t1, t2, t3, t4⟩ := cells5 hPA
            obtain ⟨e0, e1, e2, e3, e4⟩ := cells5 hEA
            have tf : ∀ o, wA.frozen? ⟨pb, o, none⟩ = false := fun o => frozen_of_row wA pb o _ _ hPA
            have f0 := tf 0
            have f1 := tf 1
            have f2 := tf 2
            have f3 := tf 3
            have f4 := tf 4
            have HPA := hide hPA
            have HEA := hide hEA
            have HBA := hide hbA
            have hsA := hbA.size
            clear hbA hPA hEA tf p0 p1 p2 p3 p4
            unfold pv pc5
            generalize hbu : bump d b = de at *
            go_wp2_with fail
            have hxs : (((((wA.setCell ⟨pb, 0, none⟩ (.int .i8 (de 0))).setCell ⟨pb, 1, none⟩ (.int .i8 (de 1))).setCell ⟨pb, 2, none⟩ (.int .i8 (de 2))).setCell ⟨pb, 3, none⟩ (.int .i8 (de 3))).setCell ⟨pb, 4, none⟩ (.int .i8 (de 4))).heap.size = wA.heap.size := by simp [World.setCell]
            have hxf : ∀ q, q ≠ pb → (((((wA.setCell ⟨pb, 0, none⟩ (.int .i8 (de 0))).setCell ⟨pb, 1, none⟩ (.int .i8 (de 1))).setCell ⟨pb, 2, none⟩ (.int .i8 (de 2))).setCell ⟨pb, 3, none⟩ (.int .i8 (de 3))).setCell ⟨pb, 4, none⟩ (.int .i8 (de 4))).heap[q]? = wA.heap[q]? := fun q hq => by
              rw [Below.heap_setCell _ _ _ _ hq, Below.heap_setCell _ _ _ _ hq, Below.heap_setCell _ _ _ _ hq, Below.heap_setCell _ _ _ _ hq, Below.heap_setCell _ _ _ _ hq]
            have hg9 := ownBlock_lt HW9.out (k := g2) rfl
            have HXB : Hid (Below o W5 (((((wA.setCell ⟨pb, 0, none⟩ (.int .i8 (de 0))).setCell ⟨pb, 1, none⟩ (.int .i8 (de 1))).setCell ⟨pb, 2, none⟩ (.int .i8 (de 2))).setCell ⟨pb, 3, none⟩ (.int .i8 (de 3))).setCell ⟨pb, 4, none⟩ (.int .i8 (de 4)))) := (((((HB9.out.trans (HBA.out.mono (by omega))).setCell (p := ⟨pb, 0, none⟩) (by show o ≤ pb; omega) _).setCell (p := ⟨pb, 1, none⟩) (by show o ≤ pb; omega) _).setCell (p := ⟨pb, 2, none⟩) (by show o ≤ pb; omega) _).setCell (p := ⟨pb, 3, none⟩) (by show o ≤ pb; omega) _).setCell (p := ⟨pb, 4, none⟩) (by show o ≤ pb; omega) _
            have HXO : Hid ((((((wA.setCell ⟨pb, 0, none⟩ (.int .i8 (de 0))).setCell ⟨pb, 1, none⟩ (.int .i8 (de 1))).setCell ⟨pb, 2, none⟩ (.int .i8 (de 2))).setCell ⟨pb, 3, none⟩ (.int .i8 (de 3))).setCell ⟨pb, 4, none⟩ (.int .i8 (de 4))).heap[o]? = some (.cells #[.bool true, .int .i64 vv, .slice (some ⟨g2, 0, none⟩) (M.length + 1) cap2] 41 (0, 0))) := (hxf o (by omega)).trans (blockLater HBA.out HO9.out)
            have HXW : Hid (OwnInts (o + 1) (((((wA.setCell ⟨pb, 0, none⟩ (.int .i8 (de 0))).setCell ⟨pb, 1, none⟩ (.int .i8 (de 1))).setCell ⟨pb, 2, none⟩ (.int .i8 (de 2))).setCell ⟨pb, 3, none⟩ (.int .i8 (de 3))).setCell ⟨pb, 4, none⟩ (.int .i8 (de 4))) (.slice (some ⟨g2, 0, none⟩) (M.length + 1) cap2) (M ++ [el st.2.2 b])) := ownsRow_keep (HW9.out.below HBA.out) (fun q hq => hxf q (by
              have hq' : g2 = q := by simpa [Value.ownBlock] using hq
              omega))
            go_roundg (restR st de)
            case measure =>
              have := HREST.out
              have := HGK.out
              omega
            case rel =>
              change ∃ _ _ _ _ _, _ ∧ _ ∧ _ ∧ _ ∧ _ ∧ _ ∧ _ ∧ _ ∧ OwnInts _ ((((((wA.setCell ⟨pb, 0, none⟩ (.int .i8 (de 0))).setCell ⟨pb, 1, none⟩ (.int .i8 (de 1))).setCell ⟨pb, 2, none⟩ (.int .i8 (de 2))).setCell ⟨pb, 3, none⟩ (.int .i8 (de 3))).setCell ⟨pb, 4, none⟩ (.int .i8 (de 4))).alloc (.cells (pc5 de) 59) |>.alloc (.cells (pc5 (endP st)) 59)) _ _ ∧ _
              generalize ((((wA.setCell ⟨pb, 0, none⟩ (.int .i8 (de 0))).setCell ⟨pb, 1, none⟩ (.int .i8 (de 1))).setCell ⟨pb, 2, none⟩ (.int .i8 (de 2))).setCell ⟨pb, 3, none⟩ (.int .i8 (de 3))).setCell ⟨pb, 4, none⟩ (.int .i8 (de 4)) = X at *
              have hb1 := Joins.below_alloc2 X (.cells (pc5 de) 59) (.cells (pc5 (endP st)) 59)
              refine ⟨de, M ++ [el st.2.2 b], .slice (some ⟨g2, 0, none⟩) (M.length + 1) cap2, X.heap.size, X.heap.size + 1, by rw [hxs], by rw [hxs], rfl, HPV2.out, HFIT2.out, HNN2.out, HOR2.out, HSOL.out, HXW.out.below hb1, blockLater hb1 HXO.out, blockLater (Joins.below_alloc1 _ _) (heap_alloc_new X _), heap_alloc2_new X _ _, by omega, by omega, by omega, fun q e => ?_, HXB.out.trans (hb1.mono (by omega))⟩
              have hq' : g2 = q := by simpa [Value.ownBlock] using e
              omega
  · have hokb : (stOk st != 0) = true := by simp [hok]
    have HF := hide (show solveF st = (false, 0, []) by unfold solveF; rw [if_neg (fun e => hok e.1)])
    clear hok
    generalize stOk st = code at *
    go_wp2_with fail
    refine bodyPost_ret ?_ rfl ⟨.slice none 0 0, rfl, ?_, ((HB1.out.setCell (p := ⟨w.heap.size + 1, 0, none⟩) (by simp) _).setCell (p := ⟨w.heap.size + 1, 1, none⟩) (by simp) _).setCell (p := ⟨w.heap.size + 1, 2, none⟩) (by simp) _⟩
    · rw [HF.out]
      simp [results, Try.results28, go_sem, r0, r1, r2]
    · rw [HF.out]
      exact OwnInts.nil _ _
end Go.Proofs.Ytmjjigdnoiphbab

/-
  Law Solve.
-/
namespace Go.Proofs.Ytmjjigdnoiphbab
open Go.RowKit Go.Deep
set_option linter.unusedVariables false

set_option maxHeartbeats 8000000 in
theorem fnExactSolve_walk (v : Value) (st : St) (w : World) (h : ArgSt w v st) :
    Calls Try.prog 8 #[v] w fun e w' => e = .returned (.bool true) ∧ Below w.heap.size w w' := by
  have HA := hide h
  obtain ⟨a1, q1, a2, q2, a3, q3, rfl⟩ := h.at_.form
  clear h
  go_enter Try.func8, Try.ntmps8
  go_wp2_with fail
  obtain ⟨U, hU⟩ : ∃ U, U = w.alloc (.cells #[.slice a1 st.1.length q1, .slice a2 st.2.1.length q2, .slice a3 st.2.2.length q3] 25) := ⟨_, rfl⟩
  rw [← hU]
  have c0 : U.cell? ⟨w.heap.size, 0, none⟩ = some (.slice a1 st.1.length q1) := by rw [hU]; simp
  have c1 : U.cell? ⟨w.heap.size, 1, none⟩ = some (.slice a2 st.2.1.length q2) := by rw [hU]; simp
  have c2 : U.cell? ⟨w.heap.size, 2, none⟩ = some (.slice a3 st.2.2.length q3) := by rw [hU]; simp
  have hbU : Below w.heap.size w U := by rw [hU]; exact Joins.below_alloc1 _ _
  clear hU
  refine (szState_arg _ st _ (HA.out.at_.below hbU) HA.out).mono ?_
  rintro e w1 ⟨r, rfl, hr, hb1⟩
  have d0 := cell_later hb1 c0
  have d1 := cell_later hb1 c1
  have d2 := cell_later hb1 c2
  have HB1 := hide (below_tail hbU hb1)
  clear hb1 hbU c0 c1 c2
  by_cases hneg : r < 0
  · go_wp2_with fail
    go_ret
    exact ⟨rfl, HB1.out⟩
  · rcases hr with hr | ⟨hr0, hsm⟩
    · exact absurd hr hneg
    have HSM := hide hsm
    have hnegb : decide (r < 0) = false := by simpa using hneg
    clear hsm hneg
    go_wp2_with fail
    refine (toState_small _ st _ (HA.out.at_.below HB1.out) HSM.out).mono ?_
    rintro e w2 ⟨rfl, hm2, hz2, hb2⟩
    have e0 := cell_later hb2 d0
    have e1 := cell_later hb2 d1
    have e2 := cell_later hb2 d2
    have HB2 := hide (below_tail HB1.out hb2)
    have HM2 := hide hm2
    clear hz2 hb2 d0 d1 d2 hm2
    go_wp2_with fail
    have HWS2 : Hid (w.heap.size < w2.heap.size) := World.block_lt_of_cell? _ _ e0
    refine (specSolve_any _ st _ HM2.out.at).mono ?_
    rintro e w3 ⟨u, rfl, hu, hb3⟩
    have hgl : Hid ((solveF st).2.2.length ≤ 45) := by
      unfold solveF
      split
      · rename_i e
        exact solveP_len (right_of_ok e.1).so (pz_ok st)
      · exact Nat.zero_le _
    obtain ⟨bo, cc, xs, hxs⟩ : ∃ bo cc xs, solveF st = (bo, cc, xs) := ⟨_, _, _, rfl⟩
    rw [hxs] at hgl hu ⊢
    simp only at hgl hu ⊢
    have HXS := hide hxs
    obtain ⟨ua, uc, rfl⟩ := hu.form
    replace e0 := cell_later hb3 e0
    replace e1 := cell_later hb3 e1
    replace e2 := cell_later hb3 e2
    have HB3 := hide (below_tail HB2.out hb3)
    have HWS : Hid (w.heap.size < w3.heap.size) := Nat.lt_of_lt_of_le HWS2.out hb3.size
    have HU := hide hu
    clear hb3 HM2 hu hxs
    obtain ⟨V3, hV3⟩ : ∃ V3, V3 = w3.alloc (.cells #[.bool bo, .int .i64 cc, .slice ua xs.length uc] 41) := ⟨_, rfl⟩
    have hb3 : Below w3.heap.size w3 V3 := by rw [hV3]; exact Joins.below_alloc1 _ _
    have hy : V3.heap[w3.heap.size]? = some (.cells #[.bool bo, .int .i64 cc, .slice ua xs.length uc] 41 (0, 0)) := by rw [hV3]; exact heap_alloc_new _ _
    have hsV : V3.heap.size = w3.heap.size + 1 := by rw [hV3]; simp
    obtain ⟨y0, y1, y2, _⟩ := block3 hy
    replace e0 := cell_later hb3 e0
    replace e1 := cell_later hb3 e1
    replace e2 := cell_later hb3 e2
    have HV3 := hide hV3
    rw [hV3] at e0 e1 e2 y0 y1 y2
    have HSV := hide hsV
    have HW3 := hide HWS.out
    have HB3V := hide (below_tail HB3.out hb3)
    have HUV := hide (HU.out.below hb3)
    clear hb3 hy hsV hV3
    go_wp2_with fail
    rw [← HV3.out] at e0 e1 e2 y0 y1 y2 ⊢
    refine (toState_small _ st _ (HA.out.at_.below HB3V.out) HSM.out).mono ?_
    rintro e w4 ⟨rfl, hm4, hz4, hb4⟩
    replace e0 := cell_later hb4 e0
    replace e1 := cell_later hb4 e1
    replace e2 := cell_later hb4 e2
    replace y0 := cell_later hb4 y0
    replace y1 := cell_later hb4 y1
    replace y2 := cell_later hb4 y2
    have HZ4 := hide hz4
    have H34 := hide hb4
    have HM4 := hide hm4
    clear hb4 hm4 hz4
    unfold stVal
    go_wp2_with fail
    obtain ⟨V4, hV4⟩ : ∃ V4, V4 = w4.alloc (.cells #[.slice (some ⟨V3.heap.size + 3, 0, none⟩) st.1.length st.1.length, .slice (some ⟨V3.heap.size + 4, 0, none⟩) st.2.1.length st.2.1.length, .slice (some ⟨V3.heap.size + 5 + 4 * st.2.1.length, 0, none⟩) st.2.2.length st.2.2.length] 30) := ⟨_, rfl⟩
    rw [← hV4]
    have hbV : Below w4.heap.size w4 V4 := by rw [hV4]; exact Joins.below_alloc1 _ _
    have hxb : V4.heap[w4.heap.size]? = some (.cells #[.slice (some ⟨V3.heap.size + 3, 0, none⟩) st.1.length st.1.length, .slice (some ⟨V3.heap.size + 4, 0, none⟩) st.2.1.length st.2.1.length, .slice (some ⟨V3.heap.size + 5 + 4 * st.2.1.length, 0, none⟩) st.2.2.length st.2.2.length] 30 (0, 0)) := by rw [hV4]; exact heap_alloc_new _ _
    obtain ⟨x0, x1, x2, _⟩ := block3 hxb
    have HXB4 : Hid (w4.heap.size < V4.heap.size) := (Array.getElem?_eq_some_iff.1 hxb).1
    clear hV4 hxb
    replace e0 := cell_later hbV e0
    replace e1 := cell_later hbV e1
    replace e2 := cell_later hbV e2
    replace y0 := cell_later hbV y0
    replace y1 := cell_later hbV y1
    replace y2 := cell_later hbV y2
    have H3V := hide (below_tail H34.out hbV)
    have HMV := hide (HM4.out.below hbV)
    have HZV : Hid (V3.heap.size + 6 + 4 * st.2.1.length ≤ w4.heap.size) := show _ ≤ _ by rw [← HZ4.out]; exact Nat.le_refl _
    clear hbV HM4 H34
    refine (implSolve_any _ st _ HMV.out.at HMV.out.cap (fun i hi => by have := HSM.out.pl i hi; omega)).mono ?_
    rintro e w5 ⟨g, rfl, hg, hb5⟩
    rw [HXS.out] at hg ⊢
    simp only at hg ⊢
    obtain ⟨ga, gc, rfl, hgF, hgA⟩ := hg.ownF
    have HGA := hide hgA
    replace e0 := cell_later hb5 e0
    replace e1 := cell_later hb5 e1
    replace e2 := cell_later hb5 e2
    replace y0 := cell_later hb5 y0
    replace y1 := cell_later hb5 y1
    replace y2 := cell_later hb5 y2
    replace x0 := cell_later hb5 x0
    replace x1 := cell_later hb5 x1
    replace x2 := cell_later hb5 x2
    have H35 := hide (below_tail H3V.out hb5)
    have HM5 := hide (HMV.out.below hb5)
    have hs5 := hb5.size
    have HG5 := hide hgF
    clear hb5 HMV H3V hg hgF hgA
    have hbg := Joins.below_alloc1 w5 (.cells #[.bool bo, .int .i64 cc, .slice ga xs.length gc] 41)
    replace e0 := cell_later hbg e0
    replace e1 := cell_later hbg e1
    replace e2 := cell_later hbg e2
    replace y0 := cell_later hbg y0
    replace y1 := cell_later hbg y1
    replace y2 := cell_later hbg y2
    replace x0 := cell_later hbg x0
    replace x1 := cell_later hbg x1
    replace x2 := cell_later hbg x2
    have hzb : (w5.alloc (.cells #[.bool bo, .int .i64 cc, .slice ga xs.length gc] 41)).heap[w5.heap.size]? = some (.cells #[.bool bo, .int .i64 cc, .slice ga xs.length gc] 41 (0, 0)) := heap_alloc_new _ _
    obtain ⟨z0, z1, z2, _⟩ := block3 hzb
    have HEU := hide (OwnInts.at (HUV.out.below (below_tail H35.out hbg)))
    have HG5' := hide (HG5.out.below hbg)
    have H35' := hide (below_tail H35.out hbg)
    have HM5' := hide (HM5.out.below hbg)
    have HGS : Hid (w5.heap.size < (w5.alloc (.cells #[.bool bo, .int .i64 cc, .slice ga xs.length gc] 41)).heap.size) := (Array.getElem?_eq_some_iff.1 hzb).1
    clear hzb hbg
    go_wp2_with fail
    generalize w5.alloc (.cells #[.bool bo, .int .i64 cc, .slice ga xs.length gc] 41) = V5 at *
    refine (eqBest_true bo cc _ _ xs _ (HG5'.out.at (fun _ _ => rfl)) HEU.out (by have := hgl.out; omega)).mono ?_
    rintro e w6 ⟨rfl, hb6⟩
    replace e0 := cell_later hb6 e0
    replace e1 := cell_later hb6 e1
    replace e2 := cell_later hb6 e2
    replace y0 := cell_later hb6 y0
    replace y1 := cell_later hb6 y1
    replace y2 := cell_later hb6 y2
    replace x0 := cell_later hb6 x0
    replace x1 := cell_later hb6 x1
    replace x2 := cell_later hb6 x2
    replace z0 := cell_later hb6 z0
    replace z1 := cell_later hb6 z1
    replace z2 := cell_later hb6 z2
    have H36 := hide (below_tail H35'.out hb6)
    have HM6 := hide (HM5'.out.below hb6)
    have HG6 := hide (HG5'.out.below hb6)
    have HA6 := hide (below_tail HB3V.out H36.out)
    have HS6 : Hid (w5.heap.size < w6.heap.size) := Nat.lt_of_lt_of_le HGS.out hb6.size
    clear hb6 HM5 H35 HG5 HEU
    go_wp2_with fail
    go_region_held3 (fun w' => w'.cell? ⟨w.heap.size, 0, none⟩ = some (.slice a1 st.1.length q1) ∧ w'.cell? ⟨w.heap.size, 1, none⟩ = some (.slice a2 st.2.1.length q2) ∧ w'.cell? ⟨w.heap.size, 2, none⟩ = some (.slice a3 st.2.2.length q3) ∧ w'.cell? ⟨w4.heap.size, 0, none⟩ = some (.slice (some ⟨V3.heap.size + 3, 0, none⟩) st.1.length st.1.length) ∧ w'.cell? ⟨w4.heap.size, 1, none⟩ = some (.slice (some ⟨V3.heap.size + 4, 0, none⟩) st.2.1.length st.2.1.length) ∧ w'.cell? ⟨w4.heap.size, 2, none⟩ = some (.slice (some ⟨V3.heap.size + 5 + 4 * st.2.1.length, 0, none⟩) st.2.2.length st.2.2.length))
      (first | (exact ⟨cell_later hb8 (cell_later hb7 (by exact e0)), cell_later hb8 (cell_later hb7 (by exact e1)), cell_later hb8 (cell_later hb7 (by exact e2)), cell_later hb8 (cell_later hb7 (by exact x0)), cell_later hb8 (cell_later hb7 (by exact x1)), cell_later hb8 (cell_later hb7 (by exact x2))⟩) | (exact ⟨cell_later hb7 (by exact e0), cell_later hb7 (by exact e1), cell_later hb7 (by exact e2), cell_later hb7 (by exact x0), cell_later hb7 (by exact x1), cell_later hb7 (by exact x2)⟩) | go_keep)
      (first | (go_at_call 12; refine (toState_small _ st _ ?_ HSM.out).mono ?_; exact (HA.out.at_.below HA6.out.drew); rintro e w7 ⟨rfl, hm7, hz7, hb7⟩) | (go_at_call 14; refine (eqState_small _ _ st _ ?_ ?_ HSM.out).mono ?_; exact (HM6.out.below (below_tail (Joins.below_draws _ _ 1) hb7)).at; exact hm7.at; rintro e w8 ⟨rfl, hb8⟩))
    all_goals
      have hb68 := below_tail (below_tail (Joins.below_draws w6.heap.size w6 1) hb7) hb8
      clear hb7 hb8 hm7 hz7
      have H38 := hide (below_tail H36.out hb68)
      have HM8 := hide (HM6.out.below hb68)
      have HG8 := hide (HG6.out.below hb68)
      have HS8 : Hid (w5.heap.size < w8.heap.size) := Nat.lt_of_lt_of_le HS6.out hb68.size
      replace e0 := cell_later hb68 e0
      replace e1 := cell_later hb68 e1
      replace e2 := cell_later hb68 e2
      replace y0 := cell_later hb68 y0
      replace y1 := cell_later hb68 y1
      replace y2 := cell_later hb68 y2
      replace x0 := cell_later hb68 x0
      replace x1 := cell_later hb68 x1
      replace x2 := cell_later hb68 x2
      replace z0 := cell_later hb68 z0
      replace z1 := cell_later hb68 z1
      replace z2 := cell_later hb68 z2
      clear hb68
      go_wp2_with fail
      refine (markState_own (madeL V3.heap.size st) st _ HM8.out.own HSM.out).mono ?_
      rintro e w9 ⟨rfl, _, hC⟩
      have hFu : ∀ k, (madeL V3.heap.size st).F st.2.1.length k → V3.heap.size ≤ k ∧ k < w4.heap.size := fun k hf => by
        have u1 := madeL_F hf
        have u3 := HZV.out
        omega
      have hB89 : Below V3.heap.size w8 w9 := hC.below H38.out.size (fun k hk hf => by have := (hFu k hf).1; omega)
      have H39 := hide (H38.out.trans hB89)
      have HG9 := hide (HG8.out.chg hC (fun k hk hf => by
        have u1 := (hFu k hf).2
        have u2 := (HGA.out k hk).1
        have u3 := HXB4.out
        omega))
      have hzz : ∀ o, w9.cell? ⟨w5.heap.size, o, none⟩ = w8.cell? ⟨w5.heap.size, o, none⟩ := fun o => by
        have h1 := hC.block w5.heap.size HS8.out (fun hf => by
          have u1 := (hFu _ hf).2
          have u3 := HXB4.out
          omega)
        unfold World.cell?
        simp only
        rw [h1]
      replace z0 := (hzz 0).trans z0
      replace z1 := (hzz 1).trans z1
      replace z2 := (hzz 2).trans z2
      have hVw : w.heap.size < V3.heap.size := by have := HW3.out; have := HSV.out; omega
      have hVu : w3.heap.size < V3.heap.size := by have := HSV.out; omega
      replace e0 := (hB89.cell (p := ⟨w.heap.size, 0, none⟩) hVw).trans e0
      replace e1 := (hB89.cell (p := ⟨w.heap.size, 1, none⟩) hVw).trans e1
      replace e2 := (hB89.cell (p := ⟨w.heap.size, 2, none⟩) hVw).trans e2
      replace y0 := (hB89.cell (p := ⟨w3.heap.size, 0, none⟩) hVu).trans y0
      replace y1 := (hB89.cell (p := ⟨w3.heap.size, 1, none⟩) hVu).trans y1
      replace y2 := (hB89.cell (p := ⟨w3.heap.size, 2, none⟩) hVu).trans y2
      have ht := (total_le HSM.out).1
      generalize total 1 st = tt at *
      have htb : decide (tt < 0) = false := by simp; omega
      have HS9 : Hid (w5.heap.size < w9.heap.size) := Nat.lt_of_lt_of_le HS8.out hC.size
      have HEU := hide (OwnInts.at (HUV.out.below H39.out))
      have hl5 := hgl.out
      clear hC hB89 HG8 HM8 H38 HM6 HG6 H36 x0 x1 x2 hFu hzz
      go_wp2_with fail
      refine (eqBest_true bo cc _ _ xs _ (HG9.out.at (fun _ _ => rfl)) HEU.out (by omega)).mono ?_
      rintro e w10 ⟨rfl, hb10⟩
      have H310 := hide (below_tail H39.out hb10)
      have HG10 := hide (HG9.out.below hb10)
      have HS10 : Hid (w5.heap.size < w10.heap.size) := Nat.lt_of_lt_of_le HS9.out hb10.size
      replace e0 := cell_later hb10 e0
      replace e1 := cell_later hb10 e1
      replace e2 := cell_later hb10 e2
      replace y0 := cell_later hb10 y0
      replace y1 := cell_later hb10 y1
      replace y2 := cell_later hb10 y2
      replace z0 := cell_later hb10 z0
      replace z1 := cell_later hb10 z1
      replace z2 := cell_later hb10 z2
      clear hb10 HG9 H39 HEU
      go_wp2_with fail
      refine (markBest_own bo cc _ _ _ _ _ _ HG10.out (by omega) (by omega) (by omega) (fun k hk => by have := (HGA.out k hk).2; have := HS10.out; omega)).mono ?_
      rintro e w11 ⟨rfl, hF11, hC11⟩
      have hFg : ∀ k, FA ga k → V4.heap.size ≤ k ∧ k < w5.heap.size := fun k hk => HGA.out k hk
      have hB11 : Below V3.heap.size w10 w11 := hC11.below H310.out.size (fun k hk hf => by
        have u1 := (hFg k hf).1
        have u3 := HXB4.out
        have u4 := HZV.out
        omega)
      have H311 := hide (H310.out.trans hB11)
      have hzz : ∀ o, w11.cell? ⟨w5.heap.size, o, none⟩ = w10.cell? ⟨w5.heap.size, o, none⟩ := fun o => by
        have h1 := hC11.block w5.heap.size HS10.out (fun hf => by
          have u1 := (hFg _ hf).2
          omega)
        unfold World.cell?
        simp only
        rw [h1]
      replace z0 := (hzz 0).trans z0
      replace z1 := (hzz 1).trans z1
      replace z2 := (hzz 2).trans z2
      replace e0 := (hB11.cell (p := ⟨w.heap.size, 0, none⟩) hVw).trans e0
      replace e1 := (hB11.cell (p := ⟨w.heap.size, 1, none⟩) hVw).trans e1
      replace e2 := (hB11.cell (p := ⟨w.heap.size, 2, none⟩) hVw).trans e2
      replace y0 := (hB11.cell (p := ⟨w3.heap.size, 0, none⟩) hVu).trans y0
      replace y1 := (hB11.cell (p := ⟨w3.heap.size, 1, none⟩) hVu).trans y1
      replace y2 := (hB11.cell (p := ⟨w3.heap.size, 2, none⟩) hVu).trans y2
      have HF11 := hide hF11
      have HS11 : Hid (w5.heap.size < w11.heap.size) := Nat.lt_of_lt_of_le HS10.out hC11.size
      clear hF11 hC11 hB11 HG10 H310 hFg hzz
      go_wp2_with fail
      refine (heldBest_own bo cc _ _ _ _ _ HF11.out (by omega) (by omega) (by omega)).mono ?_
      rintro e wh ⟨rfl, hbh⟩
      have hcn : ((1 + (xs.length : Int)) != (1 + (xs.length : Int))) = false := by simp
      have hcd : decide ((1 + (xs.length : Int)) < 0) = false := by simp; omega
      have H3h := hide (below_tail H311.out hbh)
      have HFh := hide (HF11.out.below hbh)
      replace e0 := cell_later hbh e0
      replace e1 := cell_later hbh e1
      replace e2 := cell_later hbh e2
      replace y0 := cell_later hbh y0
      replace y1 := cell_later hbh y1
      replace y2 := cell_later hbh y2
      replace z0 := cell_later hbh z0
      replace z1 := cell_later hbh z1
      replace z2 := cell_later hbh z2
      have HAh := hide (below_tail HB3V.out H3h.out)
      clear hbh HF11 H311
      go_wp2_with fail
      refine (toState_small _ st _ (HA.out.at_.below HAh.out) HSM.out).mono ?_
      rintro e w12 ⟨rfl, hm12, hz12, hb12⟩
      have H312 := hide (below_tail H3h.out hb12)
      have HF12 := hide (HFh.out.below hb12)
      have HM12 := hide hm12
      replace y0 := cell_later hb12 y0
      replace y1 := cell_later hb12 y1
      replace y2 := cell_later hb12 y2
      replace z0 := cell_later hb12 z0
      replace z1 := cell_later hb12 z1
      replace z2 := cell_later hb12 z2
      clear hm12 hz12 hb12 e0 e1 e2
      go_wp2_with fail
      refine (implSolve_any _ st _ HM12.out.at HM12.out.cap (fun i hi => by have := HSM.out.pl i hi; omega)).mono ?_
      rintro e w13 ⟨hh, rfl, hh1, hb13⟩
      rw [HXS.out] at hh1 ⊢
      simp only at hh1 ⊢
      obtain ⟨ha', hc', rfl⟩ := hh1.form
      have hb14 := below_tail hb13 (Joins.below_alloc1 w13 (.cells #[.bool bo, .int .i64 cc, .slice ha' xs.length hc'] 41))
      have H313 := hide (below_tail H312.out hb14)
      have HF13 := hide (HF12.out.below hb14)
      have HH13 := hide (hh1.at.below (Joins.below_alloc1 w13 (.cells #[.bool bo, .int .i64 cc, .slice ha' xs.length hc'] 41)))
      have HEU := hide (OwnInts.at (HUV.out.below H313.out))
      replace y0 := cell_later hb14 y0
      replace y1 := cell_later hb14 y1
      replace y2 := cell_later hb14 y2
      replace z0 := cell_later hb14 z0
      replace z1 := cell_later hb14 z1
      replace z2 := cell_later hb14 z2
      clear hh1 hb13 hb14
      go_wp2_with fail
      refine (eqBest_true bo cc _ _ xs _ HH13.out HEU.out (by omega)).mono ?_
      rintro e w15 ⟨rfl, hb15⟩
      have H315 := hide (below_tail H313.out hb15)
      have HF15 := hide (HF13.out.below hb15)
      replace z0 := cell_later hb15 z0
      replace z1 := cell_later hb15 z1
      replace z2 := cell_later hb15 z2
      clear hb15 y0 y1 y2
      go_wp2_with fail
      refine (heldBest_own bo cc _ _ _ _ _ HF15.out (by omega) (by omega) (by omega)).mono ?_
      rintro e w16 ⟨rfl, hb16⟩
      have H316 := hide (below_tail H315.out hb16)
      clear hb16
      go_wp2_with fail
      go_ret
      exact ⟨rfl, below_tail HB3V.out H316.out⟩
end Go.Proofs.Ytmjjigdnoiphbab
