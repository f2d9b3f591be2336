import Derived.Test.YtmjjigdnoiphbaaK1
import Derived.RangeFuncNested
import Derived.RangeFuncBound
import Derived.RangeFuncCalls
import Derived.RangeFuncLeaves
import Derived.Shelf.Abstract
import Derived.OwnWalkIn
import Derived.TacticsInMore
import Derived.LoopNIn
import Derived.LoopIn
/-
  impl.rings and its iterator.
-/
namespace Go.Proofs.Ytmjjigdnoiphbaa
open Go.RowKit Go.Deep Go.Shelf
set_option linter.unusedVariables false
attribute [local go_sem] Oper.semAt_some

set_option maxHeartbeats 1000000 in
theorem rings_any (a1 a2 a3 : Option Addr) (l1 l2 l3 q1 q2 q3 : Nat) (w : World) :
    Calls Try.prog 59 #[.agg #[.slice a1 l1 q1, .slice a2 l2 q2, .slice a3 l3 q3]] w fun e w' => e = .returned (.func (.func 93) #[] #[.pointer (some ⟨w.heap.size, 0, none⟩)]) ∧ w' = w.alloc (.cells #[.slice a1 l1 q1, .slice a2 l2 q2, .slice a3 l3 q3] 26) := by
  have hmf : ∀ (fn : Fn) (first cap : Array Value) (w : World), (Instr.makeFunc fn first cap).run Try.prog w = .ok (.func fn first cap) w := fun _ _ _ _ => rfl
  go_enter Try.func59, Try.ntmps59
  go_wp2_with fail
  go_ret
  exact ⟨rfl, rfl⟩

set_option maxRecDepth 4000 in
set_option maxHeartbeats 4000000 in
theorem rings1_in (m l zb : Nat) (a1 a2 a3 : Option Addr) (q1 q2 q3 : Nat) (st : St) (J : Nat → World → Prop) (W : World) (hm : 2 ≤ m) (hr : RightSt st)
    (hold : ∀ k W', J k W' → StateAt W' (.agg #[.slice a1 st.1.length q1, .slice a2 st.2.1.length q2, .slice a3 st.2.2.length q3]) st ∧ CapSt W' (.agg #[.slice a1 st.1.length q1, .slice a2 st.2.1.length q2, .slice a3 st.2.2.length q3]) st.2.1.length ∧ W'.heap[zb]? = some (.cells #[.slice a1 st.1.length q1, .slice a2 st.2.1.length q2, .slice a3 st.2.2.length q3] 26 (0, 0)))
    (hJ : ∀ k W1 W2, J k W1 → Below W1.heap.size W1 W2 → J k W2)
    (hN : ∀ k W1, k < st.2.2.length → J k W1 → ringFromF st (el st.2.2 k) = [] → J (k + 1) W1)
    (hY : ∀ k a c W1 n0, k < st.2.2.length → J k W1 → (∃ W0, J k W0 ∧ W0.heap.size = n0) → OwnInts n0 W1 (.slice (some a) (ringFromF st (el st.2.2 k)).length c) (ringFromF st (el st.2.2 k)) → 0 < (ringFromF st (el st.2.2 k)).length →
      YieldAt Fence.wide (m - 1) Try.prog l #[.slice (some a) (ringFromF st (el st.2.2 k)).length c] W1 fun e W' => e = .returned (.bool true) ∧ J (k + 1) W')
    (h0 : J 0 W) :
    CallsIn Fence.wide m Try.prog 93 #[.func (.yield l) #[] #[], .pointer (some ⟨zb, 0, none⟩)] W fun e W' => (∃ v, e = .returned v) ∧ J st.2.2.length W' := by
  have HR := hide hr
  have HOLD := hide hold
  have HJ := hide hJ
  have HN := hide hN
  have HY := hide hY
  have H0 := hide h0
  obtain ⟨l1, l2, l3, l4⟩ := hr.lens
  have hn5 : st.2.2.length ≤ 5 := by omega
  obtain ⟨c0, c1, c2, cf⟩ := block3 (hold _ _ h0).2.2
  clear hr hold hJ hN hY h0 l4 cf
  have hnil : ∀ (a : Option Addr) (n c : Nat) (w : World), (binOp .neq 23 (.slice a n c) (.slice none 0 0)).run Try.prog w = .ok (.bool (!a.isNone)) w := fun a n c w => run_neq_slice_nil_any w 23 3 a n c 0 0 Try.underlying23
  refine callsIn_of_wp Try.func93 rfl trivial ?_ rfl
  simp only [Try.ntmps93, List.size_toArray, List.length_cons, List.length_nil, Nat.reduceAdd, Nat.reduceSub, Array.replicate_succ, Array.replicate_zero, List.push_toArray, List.append_toArray, List.nil_append, List.cons_append]
  gi_wp2
  gi_loopw [9] (fun i wr => ∃ k : Nat, k ≤ st.2.2.length ∧ i = .int .i64 k ∧ J k wr) (fun i _ => st.2.2.length - (intOf i).toNat)
  case atStart => exact ⟨0, Nat.zero_le _, rfl, H0.out⟩
  case round =>
    obtain ⟨k, hk, rfl, hj⟩ := hrel
    by_cases hlt : k < st.2.2.length
    · clear c0 c1 c2
      obtain ⟨hs1, hc1, hz1⟩ := HOLD.out _ _ hj
      obtain ⟨e0, e1, e2, ef⟩ := block3 hz1
      obtain ⟨nb, noff, rfl, hx⟩ := hs1.parts.2.2.cellAt k hlt
      have HS1 := hide hs1
      have HC1 := hide hc1
      have HJ1 := hide hj
      clear hs1 hc1 hj hz1 ef
      gi_wp2_with fail
      refine ⟨trivial, fun _ => by omega, ?_⟩
      refine (callsIn_wide.2 (ringFrom_any _ st (el st.2.2 k) _ HS1.out HC1.out HR.out)).mono ?_
      rintro e w2 ⟨r, rfl, hr, hrn, hb2⟩
      have HJ2 := hide (HJ.out k _ _ HJ1.out hb2)
      by_cases hz : ringFromF st (el st.2.2 k) = []
      · have hrr := hrn hz
        subst hrr
        have HJ3 := hide (HN.out k _ hlt HJ2.out hz)
        clear hr hrn hb2 hz
        gi_wp2_with fail
        refine ⟨fun _ h => (by cases h), ?_⟩
        gi_wp2_with fail
        go_roundw
        case rel => exact ⟨k + 1, by omega, by go_num, HJ3.out⟩
        case measure => simp [intOf]; omega
      · have hpos : 0 < (ringFromF st (el st.2.2 k)).length := List.length_pos_iff.2 hz
        obtain ⟨ra, rc, rfl⟩ := hr.form
        obtain ⟨rb, ro, rfl, _⟩ := IntsAt.cellAt hr.at 0 hpos
        have HRR := hide hr
        have HP := hide hpos
        obtain ⟨fn, tmps, assign, body, hy, hR⟩ := HY.out k ⟨rb, ro, none⟩ rc w2 wr.heap.size hlt HJ2.out ⟨wr, HJ1.out, rfl⟩ hr hpos
        clear hr hrn hb2 hz hpos
        gi_wp2_with fail
        refine ⟨fun _ => by omega, hR.mono ?_⟩
        rintro e W3 ⟨rfl, hJ3⟩
        have HJ3 := hide hJ3
        clear hJ3 hR hy
        gi_wp2_with fail
        go_roundw
        case rel => exact ⟨k + 1, by omega, by go_num, HJ3.out⟩
        case measure => simp [intOf]; omega
    · obtain rfl : k = st.2.2.length := by omega
      gi_wp2_with fail
      go_end0
      exact ⟨⟨_, rfl⟩, hj⟩
end Go.Proofs.Ytmjjigdnoiphbaa

/-
  impl.Ring.
-/
namespace Go.Proofs.Ytmjjigdnoiphbaa
open Go.RowKit Go.Deep Go.Shelf
set_option linter.unusedVariables false
attribute [local go_sem] Oper.semAt_some

/-- what a world must keep: all blocks but the loop's own record -/
def SameBut (l : Nat) (A B : World) : Prop := B.os = A.os ∧ B.tape = A.tape ∧ B.output = A.output ∧ A.heap.size ≤ B.heap.size ∧ ∀ q, q < A.heap.size → q ≠ l → B.heap[q]? = A.heap[q]?
theorem SameBut.of_below {l : Nat} {A B : World} (h : Below A.heap.size A B) : SameBut l A B := ⟨h.os, h.tape, h.output, h.size, fun q hq _ => h.block q hq⟩
theorem SameBut.put (l : Nat) (A : World) (o : Obj) : SameBut l A (A.putObj l o) :=
  have h := grownBy_putObj' A l o
  ⟨h.os, h.tape, h.output, h.size, fun q hq hne => h.block q hq (fun e => hne (by cases e; rfl))⟩
theorem SameBut.below {l : Nat} {A B : World} (h : SameBut l A B) {n : Nat} (hn : n ≤ l) (hs : n ≤ A.heap.size) : Below n A B := ⟨h.1, h.2.1, h.2.2.1, h.2.2.2.1, fun q hq => h.2.2.2.2 q (by omega) (by omega)⟩

/-- 'for r := range g { .. }', r one value, a body that always goes on: N rounds at most, I k between two of them -/
theorem range_count {g : Operand} {t : Tmp} {assign body : Code} {Q : Exit → Act → World → Prop} {a : Act} {w : World} {n gf N : Nat} {lb : Array Value} (h1 : 1 ≤ n)
    (hg : a.eval g = .func (.func gf) #[] lb) (eg : ∀ args w, (callFunc gf args).run Try.prog w = .ok (.enter gf args) w)
    (I : Nat → World → Prop) (Ok : Nat → Value → World → Prop) (a₁ : Value → Act) (hI : ∀ k A B, I k A → SameBut (w.heap.size + 1) A B → I k B) (h0 : I 0 w)
    (iter : ∀ (J : Nat → World → Prop) (W : World), (∀ k W, J k W → I k W ∧ w.heap.size + 1 < W.heap.size) → (∀ k A B, J k A → Below A.heap.size A B → J k B) → (∀ k W, J k W → I (k + 1) W → J (k + 1) W) →
      (∀ k r W1, k < N → J k W1 → Ok k r W1 → YieldAt Fence.wide (n - 1 - 1) Try.prog (w.heap.size + 1) #[r] W1 fun e W' => e = .returned (.bool true) ∧ J (k + 1) W') → J 0 W →
      CallsIn Fence.wide (n - 1) Try.prog gf (#[.func (.yield (w.heap.size + 1)) #[] #[]] ++ lb) W fun e W' => (∃ v, e = .returned v) ∧ J N W')
    (hassign : ∀ (l : Nat) (r : Value) (W : World) (K : Act → World → Prop), K (a₁ r) W →
      assign.wpIn (Fence.wide.inRound l) (n - 1 - 1) Try.prog (Exit.then K (fun _ _ _ => False)) { tmps := (#[t].zip #[r]).foldl (fun t (p, v) => t.setIfInBounds p v) a.tmps, defers := [] } W)
    (hbody : ∀ (l k : Nat) (r : Value) (W : World), I k W → Ok k r W → k < N → body.wpIn (Fence.wide.inRound l) (n - 1 - 1) Try.prog (fun e _ W' => e = .normal ∧ I (k + 1) W' ∧ W'.heap[w.heap.size]? = W.heap[w.heap.size]? ∧ W'.heap[w.heap.size + 1]? = W.heap[w.heap.size + 1]?) (a₁ r) W)
    (hOk : ∀ k r A B, Ok k r A → SameBut (w.heap.size + 1) A B → Ok k r B)
    (hdone : ∀ W, I N W → W.heap[w.heap.size]? = some (.deferred (some [])) → Q .normal { a with defers := { target := .collected w.heap.size, args := #[] } :: a.defers } W) :
    (Code.rangeFunc g #[t] assign body).wpIn Fence.wide n Try.prog Q a w := by
  refine wpIn_rangeFunc ?_
  intro fn hfn
  obtain ⟨rec, hrec⟩ : ∃ rec : LoopState → Loop, rec = fun st => { state := st, pending := none, fn, tmps := a.tmps, params := #[t], assign, body, defers := w.heap.size } := ⟨_, rfl⟩
  obtain ⟨W1, hW1⟩ : ∃ W1, (w.alloc (.deferred (some []))).alloc (.loop (rec .ready)) = W1 := ⟨_, rfl⟩
  have hL1 : W1.heap[w.heap.size + 1]? = some (.loop (rec .ready)) := by
    rw [← hW1]
    have := heap_alloc_new (w.alloc (.deferred (some []))) (.loop (rec .ready))
    simpa using this
  have hK1 : W1.heap[w.heap.size]? = some (.deferred (some [])) := by
    rw [← hW1]
    exact (Below.heap_alloc _ _ _ (by simp)).trans (heap_alloc_new w _)
  have hI1 : I 0 W1 := hI 0 w W1 h0 (SameBut.of_below (by rw [← hW1]; exact Joins.below_alloc2 _ _ _))
  refine ⟨w.heap.size + 1, [{ target := .collected w.heap.size, args := #[] }], W1, { target := .fn (.func gf) lb, args := #[.func (.yield (w.heap.size + 1)) #[] #[]] }, W1, gf,
    #[.func (.yield (w.heap.size + 1)) #[] #[]] ++ lb, W1, ?_, ?_, ?_, ?_, fun _ => h1, ?_⟩
  · rw [← hW1, hrec]
    exact run_enterLoop_outer _ _ _ _ _
  · simp only [resolve, hg]
    simp [go_sem]
  · intro f' hf'
    trivial
  · simp [invoke, go_sem, eg]
  · refine (iter (fun k W => I k W ∧ W.heap[w.heap.size + 1]? = some (.loop (rec .ready)) ∧ W.heap[w.heap.size]? = some (.deferred (some []))) W1 (fun k W h => ⟨h.1, (Array.getElem?_eq_some_iff.1 h.2.1).1⟩) (fun k A B h hb => ⟨hI k A B h.1 (SameBut.of_below hb), blockLater hb h.2.1, blockLater hb h.2.2⟩) (fun k W h h' => ⟨h', h.2⟩) ?_ ⟨hI1, hL1, hK1⟩).mono ?_
    · rintro k r W hkN ⟨hi, hl, hd⟩ hok
      have hlt : w.heap.size + 1 < W.heap.size := (Array.getElem?_eq_some_iff.1 hl).1
      have hy := run_yield (P := Try.prog) (args := #[r]) hl (by rw [hrec]; rfl)
      rw [hrec] at hy
      have hl2 : (W.putObj (w.heap.size + 1) (.loop (rec .busy))).heap[w.heap.size + 1]? = some (.loop (rec .busy)) := World.putObj_heap_same hlt
      have hd2 : (W.putObj (w.heap.size + 1) (.loop (rec .busy))).heap[w.heap.size]? = some (.deferred (some [])) := (World.putObj_heap_other (by omega)).trans hd
      refine ⟨fn, _, assign, body, hy, roundIn_of_wpIn hfn (hassign _ r W _ ⟨W.putObj (w.heap.size + 1) (.loop (rec .busy)), ?_, ?_⟩)⟩
      · have := run_beginRound (P := Try.prog) hl (by rw [hrec])
        rw [hrec] at this ⊢
        exact this
      · refine wpIn_mono (hbody _ k r _ (hI k _ _ hi (SameBut.put _ _ _)) (hOk k r _ _ hok (SameBut.put _ _ _)) hkN) ?_
        rintro e a3 W3 ⟨rfl, hi3, hd3, hl3⟩
        rw [hl2] at hl3
        rw [hd2] at hd3
        have he := run_endRound (P := Try.prog) none hl3
        refine ⟨_, _, he, rfl, hI (k + 1) _ _ hi3 (SameBut.put _ _ _), ?_, (World.putObj_heap_other (by omega)).trans hd3⟩
        rw [World.putObj_heap_same (Array.getElem?_eq_some_iff.1 hl3).1, hrec]
        rfl
    · rintro e W2 ⟨⟨v, rfl⟩, hi, hl, hd⟩
      have he := run_endLoop (P := Try.prog) hl (by rw [hrec]; simp)
      refine ⟨none, _, by rw [hrec] at he; exact he, hdone _ (hI N _ _ hi (SameBut.put _ _ _)) ((World.putObj_heap_other (by omega)).trans hd)⟩

theorem better_keep {b r : Wy} (h : 0 < b.length) (h2 : ¬ r.length < b.length) : better b r = b := by
  have h3 : ¬ b.length = 0 := by omega
  unfold better
  simp [h3, h2]
/-- what the variable 'shortest' holds when k trains are through -/
structure BestAt (st : St) (sb : Nat) (w1 : World) (a1 a2 a3 : Option Addr) (q1 q2 q3 k : Nat) (W : World) : Prop where
  ex : ∃ v, W.heap[sb]? = some (.cells #[v] 23 (0, 0)) ∧ OwnInts (sb + 4) W v (bestUp st k) ∧ ((v = .slice none 0 0 ∧ bestUp st k = []) ∨ ∃ a c, v = .slice (some a) (bestUp st k).length c ∧ 0 < (bestUp st k).length) ∧ W.heap[sb + 1]? = some (.cells #[.slice a1 st.1.length q1, .slice a2 st.2.1.length q2, .slice a3 st.2.2.length q3] 26 (0, 0)) ∧ Below sb w1 W

set_option maxRecDepth 4000 in
set_option maxHeartbeats 4000000 in
theorem implRing_any (v : Value) (st : St) (w : World) (h : StateAt w v st) (hcap : CapSt w v st.2.1.length) (hp : ∀ i, i < st.2.1.length → (tPath st.2.1 i).length ≤ 4611686018427387904) :
    Calls Try.prog 25 #[v] w fun e w' => ∃ r, e = .returned r ∧ OwnInts w.heap.size w' r (ringF st) ∧ Below w.heap.size w w' := by
  have HS := hide h
  have HP := hide hp
  have HC := hide hcap
  obtain ⟨a1, q1, a2, q2, a3, q3, rfl⟩ := h.form
  clear h hp hcap
  refine (callsIn_wide (n := 5)).1 ?_
  refine callsIn_of_wp_marks Try.func25 rfl trivial ?_ rfl
  simp only [Try.ntmps25, List.size_toArray, List.length_cons, List.length_nil, Nat.reduceAdd, Nat.reduceSub, Array.replicate_succ, Array.replicate_zero, List.push_toArray, List.append_toArray, List.nil_append, List.cons_append]
  gi_wp2_with fail
  refine ⟨trivial, ?_⟩
  refine (callsIn_wide.2 (implStateOk_any _ st _ (HS.out.below (Joins.below_alloc1 _ _)) HP.out)).mono ?_
  rintro e w1 ⟨rfl, hb1⟩
  have c0 : w1.cell? ⟨w.heap.size, 0, none⟩ = some (.slice a1 st.1.length q1) := cell_later hb1 (by simp)
  have c1 : w1.cell? ⟨w.heap.size, 1, none⟩ = some (.slice a2 st.2.1.length q2) := cell_later hb1 (by simp)
  have c2 : w1.cell? ⟨w.heap.size, 2, none⟩ = some (.slice a3 st.2.2.length q3) := cell_later hb1 (by simp)
  have hszw : w.heap.size < w1.heap.size := World.block_lt_of_cell? _ _ c0
  have HB1 := hide (below_tail (Joins.below_alloc1 w (.cells #[.slice a1 st.1.length q1, .slice a2 st.2.1.length q2, .slice a3 st.2.2.length q3] 26)) hb1)
  clear hb1
  by_cases hok : stOk st = 0
  · have HR := hide (right_of_ok hok)
    have hokb : (stOk st != 0) = false := by simp [hok]
    have HF := hide (show ringF st = bestUp st st.2.2.length by simp [ringF, hok])
    clear hok
    generalize stOk st = code at *
    gi_wp2_with fail
    refine ⟨trivial, ?_⟩
    refine (callsIn_wide.2 (rings_any a1 a2 a3 st.1.length st.2.1.length st.2.2.length q1 q2 q3 _)).mono ?_
    rintro e w2 ⟨rfl, rfl⟩
    gi_wp2_with fail
    obtain ⟨V, hV⟩ : ∃ V, V = (w1.alloc (.cells #[.slice none 0 0] 23)).alloc (.cells #[.slice a1 st.1.length q1, .slice a2 st.2.1.length q2, .slice a3 st.2.2.length q3] 26) := ⟨_, rfl⟩
    rw [← hV]
    obtain ⟨sb, hsb⟩ : ∃ sb, sb = w1.heap.size := ⟨_, rfl⟩
    have hzV : V.heap.size = sb + 2 := by rw [hV, hsb]; simp
    have vS : V.heap[sb]? = some (.cells #[.slice none 0 0] 23 (0, 0)) := by rw [hV, hsb]; exact blockLater (Joins.below_alloc1 _ _) (heap_alloc_new _ _)
    have vZ : V.heap[sb + 1]? = some (.cells #[.slice a1 st.1.length q1, .slice a2 st.2.1.length q2, .slice a3 st.2.2.length q3] 26 (0, 0)) := by rw [hV, hsb]; exact heap_alloc2_new _ _ _
    have hbV : Below sb w1 V := by rw [hV, hsb]; exact Joins.below_alloc2 _ _ _
    rw [← hsb] at hszw ⊢
    have HSB := hide hsb
    have HZV := hide hzV
    have heql : ∀ (a : Option Addr) (n c : Nat) (w : World), (binOp .eql 23 (.slice a n c) (.slice none 0 0)).run Try.prog w = .ok (.bool a.isNone) w := fun a n c w => Lib.run_eql_slice_nil w 23 3 a n c 0 0 Try.underlying23
    clear hV hsb hzV c0 c1 c2
    refine range_count (N := st.2.2.length) (gf := 93) (lb := #[.pointer (some ⟨sb + 1, 0, none⟩)]) (by omega) rfl (enters_of Try.func93 (by kernel_rfl) rfl)
      (BestAt st sb w1 a1 a2 a3 q1 q2 q3)
      (fun k r W => ∃ a c, r = .slice (some a) (ringFromF st (el st.2.2 k)).length c ∧ OwnInts (sb + 4) W r (ringFromF st (el st.2.2 k)) ∧ 0 < (ringFromF st (el st.2.2 k)).length)
      (fun r => { tmps := #[.agg #[.slice a1 st.1.length q1, .slice a2 st.2.1.length q2, .slice a3 st.2.2.length q3], .pointer (some ⟨w.heap.size, 0, none⟩), .slice none 0 0, .pointer (some ⟨sb, 0, none⟩), r, .agg #[.slice a1 st.1.length q1, .slice a2 st.2.1.length q2, .slice a3 st.2.2.length q3], .int .i64 code, .bool false, .agg #[.slice a1 st.1.length q1, .slice a2 st.2.1.length q2, .slice a3 st.2.2.length q3], .func (.func 93) #[] #[.pointer (some ⟨sb + 1, 0, none⟩)], r, undef, undef, undef, undef, undef, undef, undef, undef, undef, undef, undef], defers := [] })
      ?hI ⟨⟨_, vS, OwnInts.nil _ _, Or.inl ⟨rfl, rfl⟩, vZ, hbV⟩⟩ ?iter ?assign ?body ?hOk ?done
    case hI =>
      rintro k A B ⟨v, h1, h2, h3, h4, h5⟩ hsame
      have hl := HZV.out
      have k1 := (Array.getElem?_eq_some_iff.1 h1).1
      have k4 := (Array.getElem?_eq_some_iff.1 h4).1
      exact ⟨⟨v, (hsame.2.2.2.2 sb k1 (by omega)).trans h1, ownsRow_keep h2 (fun q hq => hsame.2.2.2.2 q (ownBlock_lt h2 hq).2 (by have := (ownBlock_lt h2 hq).1; omega)), h3, (hsame.2.2.2.2 (sb + 1) k4 (by omega)).trans h4, h5.trans (hsame.below (by omega) (by omega))⟩⟩
    case hOk =>
      rintro k r A B ⟨a, c, h1, h2, h3⟩ hsame
      have hl := HZV.out
      exact ⟨a, c, h1, ownsRow_keep h2 (fun q hq => hsame.2.2.2.2 q (ownBlock_lt h2 hq).2 (by have := (ownBlock_lt h2 hq).1; omega)), h3⟩
    case iter =>
      intro J W hJI hJb hJs hY h0
      refine rings1_in (5 - 1) (V.heap.size + 1) (sb + 1) a1 a2 a3 q1 q2 q3 st J W (by omega) HR.out ?_ hJb ?_ ?_ h0
      · intro k W' hj
        obtain ⟨⟨v, _, _, _, h4, h5⟩, _⟩ := hJI k W' hj
        have hb : Below w.heap.size w W' := HB1.out.trans (h5.mono (by omega))
        exact ⟨HS.out.below hb, CapSt.below HC.out HS.out hb, h4⟩
      · intro k W' hk hj hz
        obtain ⟨⟨v, h1, h2, h3, h4, h5⟩, _⟩ := hJI k W' hj
        have e : bestUp st (k + 1) = bestUp st k := by
          show better (bestUp st k) (ringFromF st (el st.2.2 k)) = _
          rw [hz]
          simp [better]
        exact hJs k W' hj ⟨⟨v, h1, by rw [e]; exact h2, by rw [e]; exact h3, h4, h5⟩⟩
      · intro k a c W' n0 hk hj hW0 hown hpos
        obtain ⟨W0, hj0, rfl⟩ := hW0
        have hl := (hJI k W0 hj0).2
        have hl2 := HZV.out
        exact hY k _ W' hk hj ⟨a, c, rfl, hown.le (by omega), hpos⟩
    case assign =>
      intro l r W K hK
      gi_wp2_with fail
      exact hK
    case body =>
      rintro l k r W ⟨v, h1, h2, h3, h4, h5⟩ ⟨a, c, rfl, h6, h7⟩ hk
      have hbl := bestUp_le HR.out k
      have hrl := ringFromF_len HR.out (el st.2.2 k)
      have HU := hide (show bestUp st (k + 1) = better (bestUp st k) (ringFromF st (el st.2.2 k)) from rfl)
      have c0 : W.cell? ⟨sb, 0, none⟩ = some v := by rw [cell_of_row W sb 0 _ 23 (0, 0) h1]; rfl
      have f0 : W.frozen? ⟨sb, 0, none⟩ = false := frozen_of_row W sb 0 _ 23 h1
      have hsl := (Array.getElem?_eq_some_iff.1 h4).1
      have H1 := hide h1
      have H2 := hide h2
      have H4 := hide h4
      have H5 := hide h5
      have H6 := hide h6
      have H7 := hide h7
      have hzz : V.heap.size = sb + 2 := HZV.out
      rw [hzz]
      have HSET : Hid (∀ u : Value, (W.setCell ⟨sb, 0, none⟩ u).heap[sb]? = some (.cells #[u] 23 (0, 0)) ∧ (∀ q, q ≠ sb → (W.setCell ⟨sb, 0, none⟩ u).heap[q]? = W.heap[q]?) ∧ Below sb w1 (W.setCell ⟨sb, 0, none⟩ u)) := fun u => ⟨by
        have := Joins.block_setCell (i := 0) H1.out u
        simpa using this, fun q hq => Below.heap_setCell _ _ _ _ hq, H5.out.setCell (p := ⟨sb, 0, none⟩) (Nat.le_refl _) u⟩
      clear h1 h2 h4 h5 h6 h7 hzz vS vZ hbV
      generalize ringFromF st (el st.2.2 k) = rg at *
      generalize bestUp st k = bu at *
      rcases h3 with ⟨rfl, hbe⟩ | ⟨va, vc, rfl, hbp⟩
      · subst hbe
        have HM := hide (show better [] rg = rg by have h := H7.out; unfold better; simp [h])
        gi_wp2_with fail
        exact ⟨⟨⟨_, (HSET.out _).1, by rw [HU.out, HM.out]; exact ownsRow_keep H6.out (fun q hq => (HSET.out _).2.1 q (by have := (ownBlock_lt H6.out hq).1; omega)), Or.inr ⟨a, c, by rw [HU.out, HM.out], by rw [HU.out, HM.out]; exact H7.out⟩, ((HSET.out _).2.1 (sb + 1) (by omega)).trans H4.out, (HSET.out _).2.2⟩⟩, (HSET.out _).2.1 (sb + 2) (by omega), (HSET.out _).2.1 (sb + 2 + 1) (by omega)⟩
      · by_cases h8 : rg.length < bu.length
        · have HM := hide (show better bu rg = rg by have h := H7.out; unfold better; simp [h, h8])
          have h7' := H7.out
          generalize hbn : bu.length = bn at *
          generalize hrn : rg.length = rn at *
          have HBN := hide hbn
          have HRN := hide hrn
          clear hbn hrn
          gi_wp2_with fail
          exact ⟨⟨⟨_, (HSET.out _).1, by rw [HU.out, HM.out]; exact ownsRow_keep H6.out (fun q hq => (HSET.out _).2.1 q (by have := (ownBlock_lt H6.out hq).1; omega)), Or.inr ⟨a, c, by rw [HU.out, HM.out, HRN.out], by rw [HU.out, HM.out, HRN.out]; exact H7.out⟩, ((HSET.out _).2.1 (sb + 1) (by omega)).trans H4.out, (HSET.out _).2.2⟩⟩, (HSET.out _).2.1 (sb + 2) (by omega), (HSET.out _).2.1 (sb + 2 + 1) (by omega)⟩
        · have HM := hide (show better bu rg = bu from better_keep hbp h8)
          have h7' := H7.out
          generalize hbn : bu.length = bn at *
          generalize hrn : rg.length = rn at *
          have HBN := hide hbn
          have HRN := hide hrn
          clear hbn hrn
          gi_wp2_with fail
          exact ⟨⟨_, H1.out, by rw [HU.out, HM.out]; exact H2.out, Or.inr ⟨va, vc, by rw [HU.out, HM.out, HBN.out], by rw [HU.out, HM.out, HBN.out]; exact hbp⟩, H4.out, H5.out⟩⟩
    case done =>
      rintro W ⟨v, h1, h2, h3, h4, h5⟩ hD
      have c0 : W.cell? ⟨sb, 0, none⟩ = some v := by rw [cell_of_row W sb 0 _ 23 (0, 0) h1]; rfl
      obtain ⟨va, vc, rfl⟩ := h2.form
      have hzz := HZV.out
      rw [hzz] at hD
      have H2 := hide h2
      have H5 := hide h5
      clear h2 h3 h4 h5 h1
      gi_wp2_with fail
      rw [hzz]
      refine ⟨by simp, .inl ⟨_, _, rfl, run_takeDeferred hD, ?_⟩⟩
      have hpb := grownBy_putObj' W (sb + 2) (.deferred none)
      refine ⟨_, results_tmp rfl _ _ _, ⟨_, rfl, ?_, ?_⟩⟩
      · rw [HF.out]
        refine OwnInts.le (base := sb + 4) ?_ (by omega)
        exact ownsRow_keep H2.out (fun q hq => hpb.block q (ownBlock_lt H2.out hq).2 (fun e => by have := (ownBlock_lt H2.out hq).1; cases e; omega))
      · have hDl := (Array.getElem?_eq_some_iff.1 hD).1
        exact (HB1.out.trans (H5.out.mono (by omega))).grown hpb (by omega) (fun q e => by cases e; omega)
  · have hokb : (stOk st != 0) = true := by simp [hok]
    have HF := hide (show ringF st = [] by simp [ringF, hok])
    clear hok
    generalize stOk st = code at *
    gi_wp2_with fail
    exact ⟨_, results_tmp rfl _ _ _, ⟨_, rfl, by rw [HF.out]; exact OwnInts.nil _ _, HB1.out⟩⟩
end Go.Proofs.Ytmjjigdnoiphbaa
