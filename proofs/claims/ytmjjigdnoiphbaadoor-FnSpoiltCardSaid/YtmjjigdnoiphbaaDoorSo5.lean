/-
  impl: waysToEnd.
-/
import Derived.Test.YtmjjigdnoiphbaaDoorL5
import Derived.Test.YtmjjigdnoiphbaaDoorL6
import Derived.Deep.LoopGhost
import Derived.Deep.RegionHeld3
import Derived.Laws.EntriesVeiled
namespace Go.Proofs.YtmjjigdnoiphbaaDoor
open Go.RowKit Go.Deep Go.Maps
set_option linter.unusedVariables false

theorem cnt_end {st : St} (s : Int) : ∀ k, k ≤ st.2.1.length → cntUp st.2.1 (endP st) s k = 0
  | 0, _ => rfl
  | k + 1, hk => by
    rw [cntUp_succ, cnt_end s k (by omega), onB_left (endP_left (by omega))]
    rfl
theorem fit_end {st : St} (h : RightSt st) : FitP st (endP st) := fun s hs => by
  rw [cnt_end _ _ (Nat.le_refl _)]
  have := (h.room s hs).1
  omega
theorem wsound_end {st : St} (h : RightSt st) : WSound st (endP st, 0, 0) := ⟨PV.endP st, fit_end h, Or.inl rfl⟩
theorem DInv.start {st : St} (hR : RightSt st) {has : Way → Prop} (hh : ∀ y, has y ↔ y = (endP st, 0, 0)) : DInv st (setW (fun _ => none) (endP st) (0, 0)) has (fun _ => False) := by
  have key : ∀ d y, PV st d → setW (fun _ => none) (endP st) (0, 0) d = some y → d = endP st ∧ y = (0, 0) := fun d y hd hk => by
    by_cases e : d = endP st
    · subst e
      rw [setW_same] at hk
      exact ⟨rfl, (Option.some.inj hk).symm⟩
    · rw [setW_other hR.so (PV.endP st) hd e] at hk
      cases hk
  refine ⟨fun d y hd hk => ?_, fun x hx => ?_, fun d y hd hk _ => ?_, setW_same _ _ _⟩
  · obtain ⟨rfl, rfl⟩ := key d y hd hk
    exact wsound_end hR
  · have := (hh x).1 hx
    subst this
    exact ⟨wsound_end hR, _, setW_same _ _ _⟩
  · obtain ⟨rfl, rfl⟩ := key d y hd hk
    exact Or.inr ((hh _).2 rfl)

theorem bump_unb {d : Pr} {i : Nat} (h : d i ≠ 0) : bump (unb d i) i = d := by
  funext k
  unfold bump unb
  by_cases hk : k = i
  · subst hk; simp; omega
  · simp [hk]
theorem unb_of_bump {e d : Pr} {i : Nat} (h : bump e i = d) : e = unb d i ∧ d i ≠ 0 := by
  subst h
  refine ⟨?_, by rw [bump_at]; omega⟩
  funext k
  unfold unb
  by_cases hk : k = i
  · subst hk; rw [if_pos rfl, bump_at]; omega
  · rw [if_neg hk]; unfold bump; rw [if_neg hk]
theorem PV.unb {st : St} {d : Pr} (h : PV st d) {i : Nat} (hi : i < st.2.1.length) (h0 : d i ≠ 0) : PV st (unb d i) ∧ leftB st.2.1 (unb d i) i = false := by
  refine ⟨⟨fun k hk => ?_, fun k hk => ?_⟩, ?_⟩
  · by_cases e : k = i
    · subst e; rw [unb_at]; have := h.ok k hk; omega
    · rw [unb_other e]; exact h.ok k hk
  · rw [unb_other (by omega)]; exact h.out k hk
  · unfold leftB
    rw [unb_at]
    have := h.ok i hi
    exact decide_eq_false (by omega)
theorem back_facts {st : St} (hR : RightSt st) {x : Way} (hw : WSound st x) (hb : x = bway st x.1) {i : Nat} (hi : i < st.2.1.length) (h0 : x.1 i ≠ 0) (hroom : RoomB st (unb x.1 i) i) :
    WSound st (unb x.1 i, x.2.1 + wtP st (unb x.1 i), i) ∧ x.2.1 = vP st x.1 := by
  obtain ⟨hpv, hl⟩ := hw.pv.unb hi h0
  have hbu := bump_unb h0
  have hf := fit_back hR hi hl (by rw [hbu]; exact hw.fit)
  have hfit : FitP st (unb x.1 i) := hf.1.2 hroom
  have hv : x.2.1 = vP st x.1 := by
    have h2 : x.2.1 = (bway st x.1).2.1 := congrArg (fun z : Way => z.2.1) hb
    rw [h2]
    unfold bway
    split
    · rename_i e; rw [vP_end e]
    · rfl
  exact ⟨⟨hpv, hfit, Or.inr ⟨hi, hf.2 hfit, by simp only; rw [hbu]; exact hw.nn hR.so, by simp only; rw [hbu, hv]⟩⟩, hv⟩
theorem back_none {st : St} (hR : RightSt st) {x : Way} (hw : WSound st x) {i : Nat} (hi : i < st.2.1.length) (h : x.1 i = 0 ∨ ¬ RoomB st (unb x.1 i) i) (e : Pr) (he : PV st e) (hf : FitP st e) (hc : canP st e i = true) (hb : bump e i = x.1) : False := by
  obtain ⟨e1, e2⟩ := unb_of_bump hb
  rcases h with h | h
  · exact e2 h
  · refine h ?_
    have := (fit_back hR hi (canP_left hc) (by rw [hb]; exact hw.fit)).1.1 hf
    rw [e1] at this
    exact this

set_option maxRecDepth 4000 in
set_option maxHeartbeats 4000000 in
theorem waysToEnd_any (v : Value) (st : St) (w : World) (h : StateAt w v st) (hcap : CapSt w v st.2.1.length) (hr : RightSt st) :
    Calls Tryd.prog 54 #[v] w fun e w' => ∃ mb K, e = .returned (.map (some mb)) ∧ w.heap.size ≤ mb ∧ WaysAt st w' mb K ∧ BestWays st K ∧ Below w.heap.size w w' := by
  have HS := hide h
  have HC := hide hcap
  have HR := hide hr
  obtain ⟨a1, q1, a2, q2, a3, q3, rfl⟩ := h.form
  obtain ⟨l1, l2, l3, l4⟩ := hr.lens
  clear h hcap hr l4
  have hmm := @run_makeMap Tryd.prog
  go_enter Tryd.func54, Tryd.ntmps54
  go_wp2_with fail
  refine (endOf_any _ st _ (HS.out.below (Joins.below_alloc1 _ _)) HR.out.so).mono ?_
  rintro e w1 ⟨rfl, hb1⟩
  have HX1 := hide (blockLater hb1 (heap_alloc_new w (.cells #[.slice a1 st.1.length q1, .slice a2 st.2.1.length q2, .slice a3 st.2.2.length q3] 26)))
  have HB1 := hide (below_tail (Joins.below_alloc1 w (.cells #[.slice a1 st.1.length q1, .slice a2 st.2.1.length q2, .slice a3 st.2.2.length q3] 26)) hb1)
  have hw1 : w.heap.size < w1.heap.size := (Array.getElem?_eq_some_iff.1 HX1.out).1
  clear hb1
  have hsz2 : (w1.alloc (.cells #[.int .i8 (endP st 0), .int .i8 (endP st 1), .int .i8 (endP st 2), .int .i8 (endP st 3), .int .i8 (endP st 4), .int .i64 0, .int .i64 0] 99)).heap.size = w1.heap.size + 1 := by simp
  have hmade := ways_made (st := st) (w1.alloc (.cells #[.int .i8 (endP st 0), .int .i8 (endP st 1), .int .i8 (endP st 2), .int .i8 (endP st 3), .int .i8 (endP st 4), .int .i64 0, .int .i64 0] 99))
  rw [hsz2] at hmade
  obtain ⟨w3, hput, hways, hg3⟩ := hmade.put HR.out.so (PV.endP st) (0, 0)
  have hput' : (Instr.mapUpdate 96 (.map (some (w1.heap.size + 1))) (.agg #[.int .i8 (endP st 0), .int .i8 (endP st 1), .int .i8 (endP st 2), .int .i8 (endP st 3), .int .i8 (endP st 4)]) (.agg #[.int .i8 (endP st 0), .int .i8 (endP st 1), .int .i8 (endP st 2), .int .i8 (endP st 3), .int .i8 (endP st 4), .int .i64 0, .int .i64 0])).run Tryd.prog ((w1.alloc (.cells #[.int .i8 (endP st 0), .int .i8 (endP st 1), .int .i8 (endP st 2), .int .i8 (endP st 3), .int .i8 (endP st 4), .int .i64 0, .int .i64 0] 99)).alloc (.map #[] 0)) = .ok () w3 := hput
  have HWY := hide hways
  have hL3 : w3.heap[w1.heap.size]? = some (.cells #[.int .i8 (endP st 0), .int .i8 (endP st 1), .int .i8 (endP st 2), .int .i8 (endP st 3), .int .i8 (endP st 4), .int .i64 0, .int .i64 0] 99 (0, 0)) := by
    rw [hg3.block w1.heap.size (by simp; omega) (fun e => by simp at e)]
    exact blockLater (Joins.below_alloc1 _ _) (heap_alloc_new _ _)
  have HB3 : Hid (Below w1.heap.size w1 w3) := (Joins.below_alloc2 w1 _ _).grown hg3 (by simp; omega) (fun q e => by cases e; omega)
  obtain ⟨x0, x1, x2, x3, x4, x5, x6⟩ := cells7 hL3
  have HL3 := hide hL3
  clear hput hways hg3 hmade hsz2 hL3
  obtain ⟨ob, hob⟩ : ∃ ob, ob = w3.heap.size := ⟨_, rfl⟩
  have hb4 := Joins.below_alloc1 w3 (.cells #[.slice none 0 0, .func (.func 96) #[] #[]] 150)
  replace x0 := cell_later hb4 x0
  replace x1 := cell_later hb4 x1
  replace x2 := cell_later hb4 x2
  replace x3 := cell_later hb4 x3
  replace x4 := cell_later hb4 x4
  replace x5 := cell_later hb4 x5
  replace x6 := cell_later hb4 x6
  have HB4 : Hid (Below w1.heap.size w1 (w3.alloc (.cells #[.slice none 0 0, .func (.func 96) #[] #[]] 150))) := below_tail HB3.out hb4
  have hs4 : (w3.alloc (.cells #[.slice none 0 0, .func (.func 96) #[] #[]] 150)).heap.size = w3.heap.size + 1 := by simp
  have hw3 : w1.heap.size + 1 < w3.heap.size := HWY.out.lt
  have HWY4 := hide (HWY.out.kept (hb4.block _ HWY.out.lt))
  have HHP : Hid (HeapAt (w3.heap.size + 1) (w3.alloc (.cells #[.slice none 0 0, .func (.func 96) #[] #[]] 150)) w3.heap.size (.slice none 0 0) 0 (fun _ => (pz, 0, 0))) := ⟨heap_alloc_new _ _, Or.inl ⟨rfl, rfl⟩, Nat.lt_succ_self _, fun i hi => absurd hi (Nat.not_lt_zero _)⟩
  clear hb4
  unfold pv pc5
  go_wp2_with fail
  generalize w3.alloc (.cells #[.slice none 0 0, .func (.func 96) #[] #[]] 150) = W4 at *
  rw [← hob] at *
  have HPU := hide (hpush_any HHP.out (fun i _ hi => absurd hi (Nat.not_lt_zero _)) (endP st, 0, 0) ⟨by simp, by simp, by simp⟩ (by omega) (Nat.zero_le _))
  unfold wv wc7 at HPU
  refine HPU.out.mono ?_
  rintro e w5 ⟨⟨u5, rfl⟩, tv5, f5, hh5, hk5, hhas5, hc5, ho5⟩
  have hobs : ob < w5.heap.size := (Array.getElem?_eq_some_iff.1 hh5.var).1
  have hNb : ∀ q, q < ob → w5.heap[q]? = W4.heap[q]? := fun q hq => hc5.block q (by omega) (fun e => by
    rcases e with e | e
    · omega
    · simp [Value.ownBlock] at e)
  have HWY5 := hide (HWY4.out.kept (hNb (w1.heap.size + 1) hw3))
  have HB5 : Hid (Below w1.heap.size w1 w5) := HB4.out.trans ⟨hc5.os, hc5.tape, hc5.output, hc5.size, fun q hq => hNb q (by omega)⟩
  have HD5 := hide (DInv.start HR.out (has := Has f5 1) (fun y => (hhas5 y).trans ⟨fun e => by
    rcases e with e | ⟨k, hk, _⟩
    · exact e
    · omega, fun e => Or.inl e⟩))
  have HH5 := hide hh5
  have HK5 := hide hk5
  have HO5 : Hid (∀ q, tv5.ownBlock = some q → ob + 1 ≤ q) := fun q e => by
    rcases ho5 q e with e | e
    · simp [Value.ownBlock] at e
    · omega
  have hrk := rank_le HR.out.so HD5.out.kn
  obtain ⟨mb, hmb⟩ : ∃ mb, w1.heap.size + 1 = mb := ⟨_, rfl⟩
  rw [hmb] at HWY5 hw3
  have hmbl : w1.heap.size < mb := by omega
  simp only [hmb]
  clear hh5 hk5 hhas5 hc5 ho5 hNb HPU HHP HWY4 HB4 HB3 HWY HL3 hmb x0 x1 x2 x3 x4 x5 x6 hput'
  go_wp2_with fail
  go_loopg [6] (2 * rankK st (setW (fun _ => none) (endP st) (0, 0)) + 1) (fun gk _ wr => ∃ tv n f K, 2 * rankK st K + n = gk ∧ gk ≤ 40000000001 ∧ HeapAt (ob + 1) wr ob tv n f ∧ HeapOk wkey f n ∧ WaysAt st wr mb K ∧ DInv st K (Has f n) (fun _ => False) ∧ (∀ q, tv.ownBlock = some q → ob + 1 ≤ q) ∧ Below w1.heap.size w1 wr ∧ ob < wr.heap.size)
  case atStart => exact ⟨tv5, 1, f5, _, rfl, by omega, HH5.out, HK5.out, HWY5.out, HD5.out, HO5.out, HB5.out, hobs⟩
  case round =>
    obtain ⟨tv, n, f, K, hgk, hg4, hh, hk, hwy, hdi, hto, hb, hobr⟩ := hrel
    have HK := hide hk
    have HWY := hide hwy
    have HDI := hide hdi
    have HTO := hide hto
    have HB := hide hb
    have HGK := hide hgk
    have HXr := hide ((hb.block w.heap.size hw1).trans HX1.out)
    have HBW : Hid (Below w.heap.size w wr) := HB1.out.trans (hb.mono (by omega))
    have HH := hide hh
    have hnb : n ≤ 40000000001 := by omega
    cases n with
    | zero =>
      obtain ⟨ta, tc, hta⟩ : ∃ ta tc, tv = .slice ta 0 tc := by
        rcases hh.row with ⟨e, _⟩ | ⟨g, cap, e, _⟩
        · exact ⟨none, 0, e⟩
        · exact ⟨_, cap, e⟩
      subst hta
      have b0 : wr.cell? ⟨ob, 0, none⟩ = some (.slice ta 0 tc) := by rw [cell_of_row wr ob 0 _ _ (0, 0) hh.var]; rfl
      have HBEST := hide (hdi.empty HR.out (fun x hx => by obtain ⟨k, hk, _⟩ := hx; omega))
      clear hgk hh hk hwy hdi hto hb
      go_wp2_with fail
      go_ret
      exact ⟨mb, K, rfl, by omega, HWY.out, HBEST.out, HBW.out⟩
    | succ n =>
      obtain ⟨g, cap, htv, hrow⟩ : ∃ g cap, tv = .slice (some ⟨g, 0, none⟩) (n + 1) cap ∧ HRow wr (ob + 1) g cap (n + 1) f := by
        rcases hh.row with ⟨_, e⟩ | r
        · omega
        · exact r
      subst htv
      have b0 : wr.cell? ⟨ob, 0, none⟩ = some (.slice (some ⟨g, 0, none⟩) (n + 1) cap) := by rw [cell_of_row wr ob 0 _ _ (0, 0) hh.var]; rfl
      have HHAS0 : Hid (Has f (n + 1) (f 0)) := ⟨0, by omega, rfl⟩
      have HMIN : Hid (∀ x, Has f (n + 1) x → wkey (f 0) ≤ wkey x) := fun x hx => hk.least hx
      have HW0 := hide (hdi.it (f 0) HHAS0.out).1
      obtain ⟨y, hy⟩ := (hdi.it (f 0) HHAS0.out).2
      have HY := hide hy
      have hgo : ob + 1 ≤ g := hrow.lo
      have HPOP := hide (hpop_any hh hrow hk (by omega))
      have hi1 : ((n + 1 : Nat) : Int) > 0 := by omega
      clear hgk hh hk hwy hdi hto hb hrow hy
      go_wp2_with fail
      refine HPOP.out.mono ?_
      rintro e w2 ⟨rfl, f', hh2, hr2, hk2, hhas2, hc2⟩
      have hs2 := hc2.size
      have HWY2 := hide (HWY.out.kept (hc2.block mb HWY.out.lt (by omega)))
      have HB2 : Hid (Below w1.heap.size w1 w2) := HB.out.trans (hc2.below (by have := HB.out.size; omega) (fun q hq e => by omega))
      have HX2 := hide ((hc2.block w.heap.size (by have := HB.out.size; omega) (by omega)).trans HXr.out)
      have HH2 := hide hh2
      have HK2 := hide hk2
      have HHAS2 := hide hhas2
      have HBW2 : Hid (Below w.heap.size w w2) := HB1.out.trans (HB2.out.mono (by omega))
      clear hh2 hr2 hk2 hhas2 hc2 HPOP b0
      obtain ⟨x, hx⟩ : ∃ x, f 0 = x := ⟨_, rfl⟩
      rw [hx] at HHAS0 HMIN HW0 HY HHAS2 ⊢
      clear hx
      have heqz : ∀ w, (Op.equalIn 10000 61 (.agg #[.int .i8 (x.1 0), .int .i8 (x.1 1), .int .i8 (x.1 2), .int .i8 (x.1 3), .int .i8 (x.1 4)]) (.agg #[.int .i8 0, .int .i8 0, .int .i8 0, .int .i8 0, .int .i8 0])).run Tryd.prog w = .ok (same5 x.1 pz) w := fun w => eqPr' x.1 pz w
      have HZ := hide (same5_iff HR.out.so HW0.out.pv (PV.pz st))
      unfold wv wc7
      by_cases hz : same5 x.1 pz = true
      · have HBEST := hide (HDI.out.broke HR.out HHAS0.out HMIN.out (HZ.out.1 hz).symm)
        rw [hz] at heqz
        clear hz
        go_wp2_with fail
        go_ret
        exact ⟨mb, K, rfl, by omega, HWY2.out.kept ((Joins.below_alloc1 w2 _).block _ HWY2.out.lt), HBEST.out, below_tail HBW2.out (Joins.below_alloc1 w2 _)⟩
      · have hzf : same5 x.1 pz = false := by simpa using hz
        rw [hzf] at heqz
        clear hz hzf
        have hb3 := Joins.below_alloc1 w2 (.cells #[.int .i8 (x.1 0), .int .i8 (x.1 1), .int .i8 (x.1 2), .int .i8 (x.1 3), .int .i8 (x.1 4), .int .i64 x.2.1, .int .i64 (x.2.2 : Int)] 99)
        have hlk : ∀ k, (Instr.lookup 96 (.map (some mb)) (.agg #[.int .i8 (x.1 0), .int .i8 (x.1 1), .int .i8 (x.1 2), .int .i8 (x.1 3), .int .i8 (x.1 4)]) false).run Tryd.prog ((w2.alloc (.cells #[.int .i8 (x.1 0), .int .i8 (x.1 1), .int .i8 (x.1 2), .int .i8 (x.1 3), .int .i8 (x.1 4), .int .i64 x.2.1, .int .i64 (x.2.2 : Int)] 99)).drewN k) = .ok (.agg #[.int .i8 (x.1 0), .int .i8 (x.1 1), .int .i8 (x.1 2), .int .i8 (x.1 3), .int .i8 (x.1 4), .int .i64 y.1, .int .i64 (y.2 : Int)]) ((w2.alloc (.cells #[.int .i8 (x.1 0), .int .i8 (x.1 1), .int .i8 (x.1 2), .int .i8 (x.1 3), .int .i8 (x.1 4), .int .i64 x.2.1, .int .i64 (x.2.2 : Int)] 99)).drewN k) := fun k => by
          have h1 := HWY2.out.kept (hb3.block _ HWY2.out.lt)
          have h2 := (h1.kept (w' := (w2.alloc (.cells #[.int .i8 (x.1 0), .int .i8 (x.1 1), .int .i8 (x.1 2), .int .i8 (x.1 3), .int .i8 (x.1 4), .int .i64 x.2.1, .int .i64 (x.2.2 : Int)] 99)).drewN k) ((Joins.below_draws _ _ k).block mb h1.lt)).look HR.out.so HW0.out.pv false
          rw [HY.out] at h2
          exact h2
        have heqw := eqWay' x (x.1, y)
        unfold wc7 at heqw
        have HSW := hide (sameW_iff HR.out.so (x := x) (y := (x.1, y)) HW0.out.pv HW0.out.pv)
        cases hsw : sameW x (x.1, y) with
        | false =>
          have hKne : K x.1 ≠ some x.2 := fun e => by
            rw [HY.out] at e
            have : sameW x (x.1, y) = true := HSW.out.2 (by rw [Option.some.inj e])
            rw [hsw] at this
            cases this
          have HDN := hide (HDI.out.stale (x0 := x) (has' := Has f' n) (fun z hz => (HHAS2.out z).1 hz) (fun z hz => (HHAS2.out z).2 (Or.inr hz)) hKne)
          rw [hsw] at heqw
          have HB3 := hide hb3
          clear hsw hKne hb3
          go_wp2_with fail
          go_quiet (fail)
          have hbV := below_tail HB3.out (Joins.below_draws (w2.alloc (.cells #[.int .i8 (x.1 0), .int .i8 (x.1 1), .int .i8 (x.1 2), .int .i8 (x.1 3), .int .i8 (x.1 4), .int .i64 x.2.1, .int .i64 (x.2.2 : Int)] 99)).heap.size (w2.alloc (.cells #[.int .i8 (x.1 0), .int .i8 (x.1 1), .int .i8 (x.1 2), .int .i8 (x.1 3), .int .i8 (x.1 4), .int .i64 x.2.1, .int .i64 (x.2.2 : Int)] 99)) nq)
          have HN : Hid (((w2.alloc (.cells #[.int .i8 (x.1 0), .int .i8 (x.1 1), .int .i8 (x.1 2), .int .i8 (x.1 3), .int .i8 (x.1 4), .int .i64 x.2.1, .int .i64 (x.2.2 : Int)] 99)).drewN nq).heap[w2.heap.size]? = some (.cells #[.int .i8 (x.1 0), .int .i8 (x.1 1), .int .i8 (x.1 2), .int .i8 (x.1 3), .int .i8 (x.1 4), .int .i64 x.2.1, .int .i64 (x.2.2 : Int)] 99 (0, 0))) := blockLater (Joins.below_draws _ _ nq) (heap_alloc_new w2 _)
          clear hlk heqw heqz
          generalize (w2.alloc (.cells #[.int .i8 (x.1 0), .int .i8 (x.1 1), .int .i8 (x.1 2), .int .i8 (x.1 3), .int .i8 (x.1 4), .int .i64 x.2.1, .int .i64 (x.2.2 : Int)] 99)).drewN nq = V at *
          have HHV := hide (HH2.out.below hbV)
          have HWYV := hide (HWY2.out.kept (hbV.block mb HWY2.out.lt))
          have HBV : Hid (Below w1.heap.size w1 V) := HB2.out.trans (hbV.mono HB2.out.size)
          have hVs := hbV.size
          have hobV : ob < V.heap.size := (Array.getElem?_eq_some_iff.1 HHV.out.var).1
          clear hbV
          go_wp2_with fail
          go_roundg (2 * rankK st K + n)
          case measure =>
            have := HGK.out
            omega
          case rel => exact ⟨.slice (some ⟨g, 0, none⟩) n cap, n, f', K, rfl, by have := HGK.out; omega, HHV.out, HK2.out, HWYV.out, HDN.out, fun q e => by
            have e' : g = q := by simpa [Value.ownBlock] using e
            omega, HBV.out, hobV⟩
        | true =>
          have hxy : (x.1, y) = x := HSW.out.1 hsw
          have HKX : Hid (K x.1 = some x.2) := by
            show K x.1 = some x.2
            rw [HY.out]
            exact congrArg some (congrArg Prod.snd hxy)
          have HBW0 := hide (HDI.out.best HR.out HHAS0.out HMIN.out HKX.out)
          have HEXP := hide (HDI.out.begin (x0 := x) (has' := Has f' n) (fun z hz => (HHAS2.out z).1 hz) (fun z hz => (HHAS2.out z).2 (Or.inr hz)) HKX.out HBW0.out)
          rw [hsw] at heqw
          have HB3 := hide hb3
          clear hsw hb3 hxy
          go_wp2_with fail
          go_quiet (fail)
          have hbV := below_tail HB3.out (Joins.below_draws (w2.alloc (.cells #[.int .i8 (x.1 0), .int .i8 (x.1 1), .int .i8 (x.1 2), .int .i8 (x.1 3), .int .i8 (x.1 4), .int .i64 x.2.1, .int .i64 (x.2.2 : Int)] 99)).heap.size (w2.alloc (.cells #[.int .i8 (x.1 0), .int .i8 (x.1 1), .int .i8 (x.1 2), .int .i8 (x.1 3), .int .i8 (x.1 4), .int .i64 x.2.1, .int .i64 (x.2.2 : Int)] 99)) nq)
          have HN : Hid (((w2.alloc (.cells #[.int .i8 (x.1 0), .int .i8 (x.1 1), .int .i8 (x.1 2), .int .i8 (x.1 3), .int .i8 (x.1 4), .int .i64 x.2.1, .int .i64 (x.2.2 : Int)] 99)).drewN nq).heap[w2.heap.size]? = some (.cells #[.int .i8 (x.1 0), .int .i8 (x.1 1), .int .i8 (x.1 2), .int .i8 (x.1 3), .int .i8 (x.1 4), .int .i64 x.2.1, .int .i64 (x.2.2 : Int)] 99 (0, 0))) := blockLater (Joins.below_draws _ _ nq) (heap_alloc_new w2 _)
          clear hlk heqw heqz
          generalize (w2.alloc (.cells #[.int .i8 (x.1 0), .int .i8 (x.1 1), .int .i8 (x.1 2), .int .i8 (x.1 3), .int .i8 (x.1 4), .int .i64 x.2.1, .int .i64 (x.2.2 : Int)] 99)).drewN nq = V at *
          have HHV := hide (HH2.out.below hbV)
          have HWYV := hide (HWY2.out.kept (hbV.block mb HWY2.out.lt))
          have HBV : Hid (Below w1.heap.size w1 V) := HB2.out.trans (hbV.mono HB2.out.size)
          have hVs := hbV.size
          have hobV : ob < V.heap.size := (Array.getElem?_eq_some_iff.1 HHV.out.var).1
          have HXV := hide (blockLater hbV HX2.out)
          obtain ⟨c0, c1, c2, _⟩ := block3 HXV.out
          have HVN : Hid (w2.heap.size < V.heap.size) := (Array.getElem?_eq_some_iff.1 HN.out).1
          clear hbV
          go_wp2_with fail
          clear c0 c1 c2
          obtain ⟨nb, hnb2⟩ : ∃ nb, w2.heap.size = nb := ⟨_, rfl⟩
          rw [hnb2] at HN HVN
          simp only [hnb2]
          have hnbo : ob < nb := by have := (Array.getElem?_eq_some_iff.1 HH2.out.var).1; omega
          go_loopw [41] (fun u wi => ∃ (i : Nat) (tv' : Value) (n' : Nat) (f'' : Nat → Way) (K' : KW), u = .int .i64 i ∧ i ≤ st.2.1.length ∧ rankK st K' + n' ≤ rankK st K + n ∧ rankK st K' ≤ rankK st K ∧ HeapAt (ob + 1) wi ob tv' n' f'' ∧ HeapOk wkey f'' n' ∧ WaysAt st wi mb K' ∧ Exp st K' (Has f'' n') x.1 i ∧ (∀ q, tv'.ownBlock = some q → ob + 1 ≤ q ∧ q ≠ nb) ∧ wi.heap[nb]? = some (.cells #[.int .i8 (x.1 0), .int .i8 (x.1 1), .int .i8 (x.1 2), .int .i8 (x.1 3), .int .i8 (x.1 4), .int .i64 x.2.1, .int .i64 (x.2.2 : Int)] 99 (0, 0)) ∧ Below w1.heap.size w1 wi) (fun u _ => st.2.1.length - (intOf u).toNat)
          case atStart =>
            refine ⟨0, .slice (some ⟨g, 0, none⟩) n cap, n, f', K, rfl, Nat.zero_le _, Nat.le_refl _, Nat.le_refl _, HHV.out, HK2.out, HWYV.out, HEXP.out, fun q e => ?_, HN.out, HBV.out⟩
            have e' : g = q := by simpa [Value.ownBlock] using e
            refine ⟨by omega, fun ee => ?_⟩
            rcases HH2.out.row with ⟨e2, _⟩ | ⟨g', cap', e2, hr2⟩
            · simp at e2
            · have e3 : g = g' := by simp only [Value.slice.injEq, Option.some.injEq, Addr.mk.injEq, and_true, true_and] at e2; exact e2.1
              have := hr2.lt
              omega
          case round =>
            obtain ⟨i, tv', n', f'', K', rfl, hi, hrn, hrk', hh3, hk3, hwy3, hex3, hto3, hN3, hb3⟩ := hrel
            have hsz3 := hb3.size
            have hnb3 : nb < wr.heap.size := (Array.getElem?_eq_some_iff.1 hN3).1
            have HX3 := hide ((hb3.block w.heap.size hw1).trans HX1.out)
            have HBW3 : Hid (Below w.heap.size w wr) := HB1.out.trans (hb3.mono (by omega))
            have hn3 : n' ≤ 40000000001 := by have := HGK.out; omega
            have HH3 := hide hh3
            have HK3 := hide hk3
            have HWY3 := hide hwy3
            have HEX3 := hide hex3
            have HTO3 := hide hto3
            have HN3 := hide hN3
            have HB3' := hide hb3
            clear hh3 hk3 hwy3 hex3 hto3 hN3 hb3
            by_cases hlt : i < st.2.1.length
            · obtain ⟨x0, x1, x2, x3, x4, x5, x6⟩ := cells7 HN3.out
              obtain ⟨c0, c1, c2, _⟩ := block3 HX3.out
              obtain ⟨xb1, xb2, _⟩ := HW0.out.bound HR.out.so
              have HLB := hide (longerBy_any (.agg #[.slice a1 st.1.length q1, .slice a2 st.2.1.length q2, .slice a3 st.2.2.length q3]) st x.1 x.2.1 x.2.2 i wr (HS.out.below HBW3.out) (CapSt.below HC.out HS.out HBW3.out) HR.out HW0.out.pv ⟨xb1, xb2⟩ hlt)
              go_wp2_with fail
              refine HLB.out.mono ?_
              rintro e w6 ⟨⟨y6, ok, rfl, hlr⟩, hb6⟩
              have HPY : Hid (PV st y6.1) := by
                rcases hlr with ⟨_, e, _⟩ | ⟨_, h0, e, _⟩
                · rw [e]; exact PV.pz st
                · rw [e]; exact (HW0.out.pv.unb hlt h0).1
              have HH6 := hide (HH3.out.below hb6)
              have HWY6 := hide (HWY3.out.kept (hb6.block mb HWY3.out.lt))
              have HN6 := hide (blockLater hb6 HN3.out)
              have HB6 : Hid (Below w1.heap.size w1 w6) := HB3'.out.trans (hb6.mono hsz3)
              have hs6 := hb6.size
              obtain ⟨old, met, hold, hlk⟩ : ∃ (old : Way) (met : Bool), ((K' y6.1 = none ∧ met = false ∧ old = (pz, 0, 0)) ∨ ∃ y0, K' y6.1 = some y0 ∧ met = true ∧ old = (y6.1, y0)) ∧ (Instr.lookup 96 (.map (some mb)) (.agg #[.int .i8 (y6.1 0), .int .i8 (y6.1 1), .int .i8 (y6.1 2), .int .i8 (y6.1 3), .int .i8 (y6.1 4)]) true).run Tryd.prog (w6.alloc (.cells #[.int .i8 (y6.1 0), .int .i8 (y6.1 1), .int .i8 (y6.1 2), .int .i8 (y6.1 3), .int .i8 (y6.1 4), .int .i64 y6.2.1, .int .i64 (y6.2.2 : Int)] 99)) = .ok (.tuple #[.agg #[.int .i8 (old.1 0), .int .i8 (old.1 1), .int .i8 (old.1 2), .int .i8 (old.1 3), .int .i8 (old.1 4), .int .i64 old.2.1, .int .i64 (old.2.2 : Int)], .bool met]) (w6.alloc (.cells #[.int .i8 (y6.1 0), .int .i8 (y6.1 1), .int .i8 (y6.1 2), .int .i8 (y6.1 3), .int .i8 (y6.1 4), .int .i64 y6.2.1, .int .i64 (y6.2.2 : Int)] 99)) := by
                have h1 := (HWY6.out.kept (w' := w6.alloc (.cells #[.int .i8 (y6.1 0), .int .i8 (y6.1 1), .int .i8 (y6.1 2), .int .i8 (y6.1 3), .int .i8 (y6.1 4), .int .i64 y6.2.1, .int .i64 (y6.2.2 : Int)] 99)) ((Joins.below_alloc1 w6 _).block mb HWY6.out.lt)).look HR.out.so HPY.out true
                cases hk : K' y6.1 with
                | none =>
                  rw [hk] at h1
                  exact ⟨(pz, 0, 0), false, Or.inl ⟨rfl, rfl, rfl⟩, h1⟩
                | some y0 =>
                  rw [hk] at h1
                  exact ⟨(y6.1, y0), true, Or.inr ⟨y0, rfl, rfl, rfl⟩, h1⟩
              have hb8 := Joins.below_alloc2 w6 (.cells #[.int .i8 (y6.1 0), .int .i8 (y6.1 1), .int .i8 (y6.1 2), .int .i8 (y6.1 3), .int .i8 (y6.1 4), .int .i64 y6.2.1, .int .i64 (y6.2.2 : Int)] 99) (.cells #[.int .i8 (old.1 0), .int .i8 (old.1 1), .int .i8 (old.1 2), .int .i8 (old.1 3), .int .i8 (old.1 4), .int .i64 old.2.1, .int .i64 (old.2.2 : Int)] 99)
              have HH8 := hide (HH6.out.below hb8)
              have HWY8 := hide (HWY6.out.kept (hb8.block mb HWY6.out.lt))
              have HN8 := hide (blockLater hb8 HN6.out)
              have HB8 : Hid (Below w1.heap.size w1 ((w6.alloc (.cells #[.int .i8 (y6.1 0), .int .i8 (y6.1 1), .int .i8 (y6.1 2), .int .i8 (y6.1 3), .int .i8 (y6.1 4), .int .i64 y6.2.1, .int .i64 (y6.2.2 : Int)] 99)).alloc (.cells #[.int .i8 (old.1 0), .int .i8 (old.1 1), .int .i8 (old.1 2), .int .i8 (old.1 3), .int .i8 (old.1 4), .int .i64 old.2.1, .int .i64 (old.2.2 : Int)] 99))) := HB6.out.trans (hb8.mono (by omega))
              have hs8 : ((w6.alloc (.cells #[.int .i8 (y6.1 0), .int .i8 (y6.1 1), .int .i8 (y6.1 2), .int .i8 (y6.1 3), .int .i8 (y6.1 4), .int .i64 y6.2.1, .int .i64 (y6.2.2 : Int)] 99)).alloc (.cells #[.int .i8 (old.1 0), .int .i8 (old.1 1), .int .i8 (old.1 2), .int .i8 (old.1 3), .int .i8 (old.1 4), .int .i64 old.2.1, .int .i64 (old.2.2 : Int)] 99)).heap.size = w6.heap.size + 1 + 1 := by simp
              have HHOLD := hide hold
              clear hb6 hb8 hold x0 x1 x2 x3 x4 x5 x6 c0 c1 c2 HLB
              unfold wv wc7
              rcases hlr with ⟨rfl, hy6, hno⟩ | ⟨rfl, h0, hy6, hroom⟩
              · have HSK := hide (HEX3.out.skip (fun e he hf hc hbb => (back_none HR.out HW0.out hlt hno e he hf hc hbb).elim))
                clear hno hy6
                go_wp2_with fail
                generalize (w6.alloc (.cells #[.int .i8 (y6.1 0), .int .i8 (y6.1 1), .int .i8 (y6.1 2), .int .i8 (y6.1 3), .int .i8 (y6.1 4), .int .i64 y6.2.1, .int .i64 (y6.2.2 : Int)] 99)).alloc (.cells #[.int .i8 (old.1 0), .int .i8 (old.1 1), .int .i8 (old.1 2), .int .i8 (old.1 3), .int .i8 (old.1 4), .int .i64 old.2.1, .int .i64 (old.2.2 : Int)] 99) = W8 at *
                go_roundw
                case rel => exact ⟨i + 1, tv', n', f'', K', by go_num, by omega, hrn, hrk', HH8.out, HK3.out, HWY8.out, HSK.out, HTO3.out, HN8.out, HB8.out⟩
                case measure => simp [intOf]; omega
              · obtain ⟨hws, hcv⟩ := back_facts HR.out HW0.out HBW0.out hlt h0 hroom
                rw [← hy6] at hws
                have HWS := hide hws
                have HBU : Hid (bump y6.1 i = x.1) := by rw [hy6]; exact bump_unb h0
                have HYE : Hid (y6 = (y6.1, vP st x.1 + wtP st y6.1, i)) := by
                  rw [hy6, hcv]
                  rfl
                have HBD := hide (hws.bound HR.out.so)
                clear hroom h0 hy6 hws hcv
                have hmbw : mb < w6.heap.size := HWY6.out.lt
                have hnbw : nb < w6.heap.size := (Array.getElem?_eq_some_iff.1 HN6.out).1
                have HLB8 : Hid (((w6.alloc (.cells #[.int .i8 (y6.1 0), .int .i8 (y6.1 1), .int .i8 (y6.1 2), .int .i8 (y6.1 3), .int .i8 (y6.1 4), .int .i64 y6.2.1, .int .i64 (y6.2.2 : Int)] 99)).alloc (.cells #[.int .i8 (old.1 0), .int .i8 (old.1 1), .int .i8 (old.1 2), .int .i8 (old.1 3), .int .i8 (old.1 4), .int .i64 old.2.1, .int .i64 (old.2.2 : Int)] 99)).heap[w6.heap.size]? = some (.cells #[.int .i8 (y6.1 0), .int .i8 (y6.1 1), .int .i8 (y6.1 2), .int .i8 (y6.1 3), .int .i8 (y6.1 4), .int .i64 y6.2.1, .int .i64 (y6.2.2 : Int)] 99 (0, 0))) := blockLater (Joins.below_alloc1 _ _) (heap_alloc_new w6 _)
                have HOB8 : Hid (((w6.alloc (.cells #[.int .i8 (y6.1 0), .int .i8 (y6.1 1), .int .i8 (y6.1 2), .int .i8 (y6.1 3), .int .i8 (y6.1 4), .int .i64 y6.2.1, .int .i64 (y6.2.2 : Int)] 99)).alloc (.cells #[.int .i8 (old.1 0), .int .i8 (old.1 1), .int .i8 (old.1 2), .int .i8 (old.1 3), .int .i8 (old.1 4), .int .i64 old.2.1, .int .i64 (old.2.2 : Int)] 99)).heap[w6.heap.size + 1]? = some (.cells #[.int .i8 (old.1 0), .int .i8 (old.1 1), .int .i8 (old.1 2), .int .i8 (old.1 3), .int .i8 (old.1 4), .int .i64 old.2.1, .int .i64 (old.2.2 : Int)] 99 (0, 0))) := heap_alloc2_new w6 _ _
                rcases HHOLD.out with ⟨hkn, rfl, hold⟩ | ⟨y0, hkn, rfl, hold⟩
                · have HLTK : Hid (∀ y, K' y6.1 = some y → wkey (y6.1, vP st x.1 + wtP st y6.1, i) < wkey (y6.1, y)) := fun y e => by rw [hkn] at e; cases e
                  clear hkn hold
                  obtain ⟨wp, hput, hwyp, hgp⟩ := HWY8.out.put HR.out.so HPY.out (vP st x.1 + wtP st y6.1, i)
                  have hput' : (Instr.mapUpdate 96 (.map (some mb)) (.agg #[.int .i8 (y6.1 0), .int .i8 (y6.1 1), .int .i8 (y6.1 2), .int .i8 (y6.1 3), .int .i8 (y6.1 4)]) (.agg #[.int .i8 (y6.1 0), .int .i8 (y6.1 1), .int .i8 (y6.1 2), .int .i8 (y6.1 3), .int .i8 (y6.1 4), .int .i64 y6.2.1, .int .i64 (y6.2.2 : Int)])).run Tryd.prog ((w6.alloc (.cells #[.int .i8 (y6.1 0), .int .i8 (y6.1 1), .int .i8 (y6.1 2), .int .i8 (y6.1 3), .int .i8 (y6.1 4), .int .i64 y6.2.1, .int .i64 (y6.2.2 : Int)] 99)).alloc (.cells #[.int .i8 (old.1 0), .int .i8 (old.1 1), .int .i8 (old.1 2), .int .i8 (old.1 3), .int .i8 (old.1 4), .int .i64 old.2.1, .int .i64 (old.2.2 : Int)] 99)) = .ok () wp := by
                    have h2 : wv (y6.1, vP st x.1 + wtP st y6.1, i) = .agg #[.int .i8 (y6.1 0), .int .i8 (y6.1 1), .int .i8 (y6.1 2), .int .i8 (y6.1 3), .int .i8 (y6.1 4), .int .i64 y6.2.1, .int .i64 (y6.2.2 : Int)] := by rw [← HYE.out]; rfl
                    rw [← h2]
                    exact hput
                  have hLP : wp.heap[w6.heap.size]? = some (.cells #[.int .i8 (y6.1 0), .int .i8 (y6.1 1), .int .i8 (y6.1 2), .int .i8 (y6.1 3), .int .i8 (y6.1 4), .int .i64 y6.2.1, .int .i64 (y6.2.2 : Int)] 99 (0, 0)) := by
                    rw [hgp.block w6.heap.size (by omega) (fun e => by have e' : w6.heap.size = mb := by simpa using e
                                                                       omega)]
                    exact HLB8.out
                  obtain ⟨p0, p1, p2, p3, p4, p5, p6⟩ := cells7 hLP
                  have hfarp : ∀ q, q < ((w6.alloc (.cells #[.int .i8 (y6.1 0), .int .i8 (y6.1 1), .int .i8 (y6.1 2), .int .i8 (y6.1 3), .int .i8 (y6.1 4), .int .i64 y6.2.1, .int .i64 (y6.2.2 : Int)] 99)).alloc (.cells #[.int .i8 (old.1 0), .int .i8 (old.1 1), .int .i8 (old.1 2), .int .i8 (old.1 3), .int .i8 (old.1 4), .int .i64 old.2.1, .int .i64 (old.2.2 : Int)] 99)).heap.size → q ≠ mb → wp.heap[q]? = ((w6.alloc (.cells #[.int .i8 (y6.1 0), .int .i8 (y6.1 1), .int .i8 (y6.1 2), .int .i8 (y6.1 3), .int .i8 (y6.1 4), .int .i64 y6.2.1, .int .i64 (y6.2.2 : Int)] 99)).alloc (.cells #[.int .i8 (old.1 0), .int .i8 (old.1 1), .int .i8 (old.1 2), .int .i8 (old.1 3), .int .i8 (old.1 4), .int .i64 old.2.1, .int .i64 (old.2.2 : Int)] 99)).heap[q]? := fun q hq hne => hgp.block q hq (fun e => hne (by simpa using e))
                  have HHP : Hid (HeapAt (ob + 1) wp ob tv' n' f'') := HH8.out.kept (fun q hq e => hfarp q hq (fun ee => by
                    subst ee
                    rcases e with e | e
                    · omega
                    · have := (HTO3.out _ e).1
                      omega))
                  have hszp := hgp.size
                  have HNP := hide ((hfarp nb (by omega) (by omega)).trans HN8.out)
                  have HBP : Hid (Below w1.heap.size w1 wp) := HB8.out.trans ⟨hgp.os, hgp.tape, hgp.output, hgp.size, fun q hq => hfarp q (by omega) (by omega)⟩
                  have HWYP := hide hwyp
                  have HPU := hide (hpush_any HHP.out HK3.out y6 HBD.out (by omega) (by omega))
                  unfold wv wc7 at HPU
                  clear hput hwyp hgp hLP hfarp
                  go_wp2_with fail
                  refine HPU.out.mono ?_
                  rintro e w10 ⟨⟨u10, rfl⟩, tv10, f10, hh10, hk10, hhas10, hc10, ho10⟩
                  have hs10 := hc10.size
                  have hfar10 : ∀ q, q < wp.heap.size → q ≠ ob → tv'.ownBlock ≠ some q → w10.heap[q]? = wp.heap[q]? := fun q hq h1 h2 => hc10.block q hq (fun e => by
                    rcases e with e | e
                    · exact h1 e
                    · exact h2 e)
                  have HEXN := hide (HEX3.out.set HR.out.so (e := y6.1) (c := vP st x.1 + wtP st y6.1) (has' := Has f10 (n' + 1)) hlt HW0.out.pv (by rw [← HYE.out]; exact HWS.out) rfl HBU.out HLTK.out (fun z hz => (hhas10 z).2 (Or.inr hz)) ((hhas10 _).2 (Or.inl HYE.out.symm)) (fun z hz => by
                    rcases (hhas10 z).1 hz with e | e
                    · exact Or.inl (e.trans HYE.out)
                    · exact Or.inr e))
                  have hrank := rank_set HR.out.so (K := K') (e := y6.1) (c := vP st x.1 + wtP st y6.1) (i := i) (by rw [← HYE.out]; exact HWS.out) HLTK.out
                  have HWY10 := hide (HWYP.out.kept (hfar10 mb HWYP.out.lt (by omega) (fun e => by have := (HTO3.out _ e).1; omega)))
                  have HN10 := hide ((hfar10 nb (by omega) (by omega) (fun e => (HTO3.out _ e).2 rfl)).trans HNP.out)
                  have HB10 : Hid (Below w1.heap.size w1 w10) := HBP.out.trans ⟨hc10.os, hc10.tape, hc10.output, hc10.size, fun q hq => hfar10 q (by omega) (by omega) (fun e => by have := (HTO3.out _ e).1; omega)⟩
                  have HTO10 : Hid (∀ q, tv10.ownBlock = some q → ob + 1 ≤ q ∧ q ≠ nb) := fun q e => by
                    rcases ho10 q e with e | e
                    · exact HTO3.out q e
                    · omega
                  have HH10 := hide hh10
                  have HK10 := hide hk10
                  clear hh10 hk10 hhas10 hc10 ho10 hfar10
                  go_wp2_with fail
                  go_roundw
                  case rel => exact ⟨i + 1, tv10, n' + 1, f10, _, by go_num, by omega, by omega, by omega, HH10.out, HK10.out, HWY10.out, HEXN.out, HTO10.out, HN10.out, HB10.out⟩
                  case measure => simp [intOf]; omega
                · have HWO : Hid (WSound st old) := by rw [hold]; exact HEX3.out.inv.kn _ _ HPY.out hkn
                  have HCK := hide (cheaper_any y6 old ((w6.alloc (.cells #[.int .i8 (y6.1 0), .int .i8 (y6.1 1), .int .i8 (y6.1 2), .int .i8 (y6.1 3), .int .i8 (y6.1 4), .int .i64 y6.2.1, .int .i64 (y6.2.2 : Int)] 99)).alloc (.cells #[.int .i8 (old.1 0), .int .i8 (old.1 1), .int .i8 (old.1 2), .int .i8 (old.1 3), .int .i8 (old.1 4), .int .i64 old.2.1, .int .i64 (old.2.2 : Int)] 99)) HBD.out (HWO.out.bound HR.out.so))
                  obtain ⟨fb0, fb1⟩ : ((w6.alloc (.cells #[.int .i8 (y6.1 0), .int .i8 (y6.1 1), .int .i8 (y6.1 2), .int .i8 (y6.1 3), .int .i8 (y6.1 4), .int .i64 y6.2.1, .int .i64 (y6.2.2 : Int)] 99)).alloc (.cells #[.int .i8 (old.1 0), .int .i8 (old.1 1), .int .i8 (old.1 2), .int .i8 (old.1 3), .int .i8 (old.1 4), .int .i64 old.2.1, .int .i64 (old.2.2 : Int)] 99)).cell? ⟨ob, 1, none⟩ = some (.func (.func 96) #[] #[]) ∧ True := ⟨by rw [cell_of_row _ ob 1 _ _ (0, 0) HH8.out.var]; rfl, trivial⟩
                  unfold wv wc7 at HCK
                  by_cases hlo : wkey y6 < wkey old
                  · have HLTK : Hid (∀ y, K' y6.1 = some y → wkey (y6.1, vP st x.1 + wtP st y6.1, i) < wkey (y6.1, y)) := fun y e => by
                      rw [hkn] at e
                      rw [← Option.some.inj e, ← hold, ← HYE.out]
                      exact hlo
                    rw [decide_eq_true hlo] at HCK
                    clear hkn hold hlo
                    go_wp2_with fail
                    refine HCK.out.mono ?_
                    rintro e w9 ⟨rfl, hb9⟩
                    have HH9 := hide (HH8.out.below hb9)
                    have HWY9 := hide (HWY8.out.kept (hb9.block mb HWY8.out.lt))
                    have HN9 := hide (blockLater hb9 HN8.out)
                    have HB9 : Hid (Below w1.heap.size w1 w9) := HB8.out.trans (hb9.mono HB8.out.size)
                    have hs9 := hb9.size
                    have HLB9 := hide (blockLater hb9 HLB8.out)
                    clear hb9 fb0
                    obtain ⟨lp0, lp1, lp2, lp3, lp4, lp5, lp6⟩ := cells7 HLB9.out
                    rw [hs8] at hs9
                    obtain ⟨wp, hput, hwyp, hgp⟩ := HWY9.out.put HR.out.so HPY.out (vP st x.1 + wtP st y6.1, i)
                    have hput' : (Instr.mapUpdate 96 (.map (some mb)) (.agg #[.int .i8 (y6.1 0), .int .i8 (y6.1 1), .int .i8 (y6.1 2), .int .i8 (y6.1 3), .int .i8 (y6.1 4)]) (.agg #[.int .i8 (y6.1 0), .int .i8 (y6.1 1), .int .i8 (y6.1 2), .int .i8 (y6.1 3), .int .i8 (y6.1 4), .int .i64 y6.2.1, .int .i64 (y6.2.2 : Int)])).run Tryd.prog (w9) = .ok () wp := by
                      have h2 : wv (y6.1, vP st x.1 + wtP st y6.1, i) = .agg #[.int .i8 (y6.1 0), .int .i8 (y6.1 1), .int .i8 (y6.1 2), .int .i8 (y6.1 3), .int .i8 (y6.1 4), .int .i64 y6.2.1, .int .i64 (y6.2.2 : Int)] := by rw [← HYE.out]; rfl
                      rw [← h2]
                      exact hput
                    have hLP : wp.heap[w6.heap.size]? = some (.cells #[.int .i8 (y6.1 0), .int .i8 (y6.1 1), .int .i8 (y6.1 2), .int .i8 (y6.1 3), .int .i8 (y6.1 4), .int .i64 y6.2.1, .int .i64 (y6.2.2 : Int)] 99 (0, 0)) := by
                      rw [hgp.block w6.heap.size (by omega) (fun e => by have e' : w6.heap.size = mb := by simpa using e
                                                                         omega)]
                      exact HLB9.out
                    obtain ⟨p0, p1, p2, p3, p4, p5, p6⟩ := cells7 hLP
                    have hfarp : ∀ q, q < (w9).heap.size → q ≠ mb → wp.heap[q]? = (w9).heap[q]? := fun q hq hne => hgp.block q hq (fun e => hne (by simpa using e))
                    have HHP : Hid (HeapAt (ob + 1) wp ob tv' n' f'') := HH9.out.kept (fun q hq e => hfarp q hq (fun ee => by
                      subst ee
                      rcases e with e | e
                      · omega
                      · have := (HTO3.out _ e).1
                        omega))
                    have hszp := hgp.size
                    have HNP := hide ((hfarp nb (by omega) (by omega)).trans HN9.out)
                    have HBP : Hid (Below w1.heap.size w1 wp) := HB9.out.trans ⟨hgp.os, hgp.tape, hgp.output, hgp.size, fun q hq => hfarp q (by omega) (by omega)⟩
                    have HWYP := hide hwyp
                    have HPU := hide (hpush_any HHP.out HK3.out y6 HBD.out (by omega) (by omega))
                    unfold wv wc7 at HPU
                    clear hput hwyp hgp hLP hfarp
                    go_wp2_with fail
                    refine HPU.out.mono ?_
                    rintro e w10 ⟨⟨u10, rfl⟩, tv10, f10, hh10, hk10, hhas10, hc10, ho10⟩
                    have hs10 := hc10.size
                    have hfar10 : ∀ q, q < wp.heap.size → q ≠ ob → tv'.ownBlock ≠ some q → w10.heap[q]? = wp.heap[q]? := fun q hq h1 h2 => hc10.block q hq (fun e => by
                      rcases e with e | e
                      · exact h1 e
                      · exact h2 e)
                    have HEXN := hide (HEX3.out.set HR.out.so (e := y6.1) (c := vP st x.1 + wtP st y6.1) (has' := Has f10 (n' + 1)) hlt HW0.out.pv (by rw [← HYE.out]; exact HWS.out) rfl HBU.out HLTK.out (fun z hz => (hhas10 z).2 (Or.inr hz)) ((hhas10 _).2 (Or.inl HYE.out.symm)) (fun z hz => by
                      rcases (hhas10 z).1 hz with e | e
                      · exact Or.inl (e.trans HYE.out)
                      · exact Or.inr e))
                    have hrank := rank_set HR.out.so (K := K') (e := y6.1) (c := vP st x.1 + wtP st y6.1) (i := i) (by rw [← HYE.out]; exact HWS.out) HLTK.out
                    have HWY10 := hide (HWYP.out.kept (hfar10 mb HWYP.out.lt (by omega) (fun e => by have := (HTO3.out _ e).1; omega)))
                    have HN10 := hide ((hfar10 nb (by omega) (by omega) (fun e => (HTO3.out _ e).2 rfl)).trans HNP.out)
                    have HB10 : Hid (Below w1.heap.size w1 w10) := HBP.out.trans ⟨hc10.os, hc10.tape, hc10.output, hc10.size, fun q hq => hfar10 q (by omega) (by omega) (fun e => by have := (HTO3.out _ e).1; omega)⟩
                    have HTO10 : Hid (∀ q, tv10.ownBlock = some q → ob + 1 ≤ q ∧ q ≠ nb) := fun q e => by
                      rcases ho10 q e with e | e
                      · exact HTO3.out q e
                      · omega
                    have HH10 := hide hh10
                    have HK10 := hide hk10
                    clear hh10 hk10 hhas10 hc10 ho10 hfar10
                    go_wp2_with fail
                    go_roundw
                    case rel => exact ⟨i + 1, tv10, n' + 1, f10, _, by go_num, by omega, by omega, by omega, HH10.out, HK10.out, HWY10.out, HEXN.out, HTO10.out, HN10.out, HB10.out⟩
                    case measure => simp [intOf]; omega
                  · have HSK := hide (HEX3.out.skip (fun e he hf hc hbb => by
                      have e1 : e = y6.1 := bump_inj (hbb.trans HBU.out.symm)
                      subst e1
                      refine ⟨y0, hkn, ?_⟩
                      rw [← hold]
                      have h1 : wkey y6 = (vP st x.1 + wtP st y6.1) * 8 + i := by rw [HYE.out]; rfl
                      omega))
                    rw [decide_eq_false hlo] at HCK
                    clear hkn hold hlo
                    go_wp2_with fail
                    refine HCK.out.mono ?_
                    rintro e w9 ⟨rfl, hb9⟩
                    have HH9 := hide (HH8.out.below hb9)
                    have HWY9 := hide (HWY8.out.kept (hb9.block mb HWY8.out.lt))
                    have HN9 := hide (blockLater hb9 HN8.out)
                    have HB9 : Hid (Below w1.heap.size w1 w9) := HB8.out.trans (hb9.mono HB8.out.size)
                    have hs9 := hb9.size
                    have HLB9 := hide (blockLater hb9 HLB8.out)
                    clear hb9 fb0
                    go_wp2_with fail
                    go_roundw
                    case rel => exact ⟨i + 1, tv', n', f'', K', by go_num, by omega, hrn, hrk', HH9.out, HK3.out, HWY9.out, HSK.out, HTO3.out, HN9.out, HB9.out⟩
                    case measure => simp [intOf]; omega
            · obtain rfl : i = st.2.1.length := by omega
              have HDN := hide HEX3.out.done
              have hlen : ¬ ((st.2.1.length : Int) < (st.2.1.length : Int)) := by omega
              go_wp2_with fail
              go_roundg (2 * rankK st K' + n')
              case measure =>
                have := HGK.out
                omega
              case rel => exact ⟨tv', n', f'', K', rfl, by have := HGK.out; omega, HH3.out, HK3.out, HWY3.out, HDN.out, fun q e => (HTO3.out q e).1, HB3'.out, by omega⟩
end Go.Proofs.YtmjjigdnoiphbaaDoor
