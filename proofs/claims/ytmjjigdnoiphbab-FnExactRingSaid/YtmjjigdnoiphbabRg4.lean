/-
  impl.rings and its iterator.
-/
import Derived.Test.YtmjjigdnoiphbabRg3
import Derived.RangeFuncNested
import Derived.RangeFuncBound
import Derived.RangeFuncCalls
import Derived.RangeFuncLeaves
import Derived.Shelf.Abstract
import Derived.OwnWalkIn
import Derived.TacticsInMore
import Derived.LoopNIn
import Derived.LoopIn
namespace Go.Proofs.Ytmjjigdnoiphbab
open Go.RowKit Go.Deep Go.Shelf
set_option linter.unusedVariables false
attribute [local go_sem] Oper.semAt_some

set_option maxHeartbeats 1000000 in
theorem rings_any (a1 a2 a3 : Option Addr) (l1 l2 l3 q1 q2 q3 : Nat) (w : World) :
    Calls Try.prog 53 #[.agg #[.slice a1 l1 q1, .slice a2 l2 q2, .slice a3 l3 q3]] w fun e w' => e = .returned (.func (.func 78) #[] #[.pointer (some ⟨w.heap.size, 0, none⟩)]) ∧ w' = w.alloc (.cells #[.slice a1 l1 q1, .slice a2 l2 q2, .slice a3 l3 q3] 30) := by
  have hmf : ∀ (fn : Fn) (first cap : Array Value) (w : World), (Instr.makeFunc fn first cap).run Try.prog w = .ok (.func fn first cap) w := fun _ _ _ _ => rfl
  go_enter Try.func53, Try.ntmps53
  go_wp2_with fail
  go_ret
  exact ⟨rfl, rfl⟩

set_option maxRecDepth 4000 in
set_option maxHeartbeats 4000000 in
theorem rings1_in (m l zb : Nat) (a1 a2 a3 : Option Addr) (q1 q2 q3 : Nat) (st : St) (J : Nat → World → Prop) (W : World) (hm : 2 ≤ m) (hr : RightSt st)
    (hold : ∀ k W', J k W' → StateAt W' (.agg #[.slice a1 st.1.length q1, .slice a2 st.2.1.length q2, .slice a3 st.2.2.length q3]) st ∧ CapSt W' (.agg #[.slice a1 st.1.length q1, .slice a2 st.2.1.length q2, .slice a3 st.2.2.length q3]) st.2.1.length ∧ W'.heap[zb]? = some (.cells #[.slice a1 st.1.length q1, .slice a2 st.2.1.length q2, .slice a3 st.2.2.length q3] 30 (0, 0)))
    (hJ : ∀ k W1 W2, J k W1 → Below W1.heap.size W1 W2 → J k W2)
    (hN : ∀ k W1, k < st.2.2.length → J k W1 → ringFromF st (el st.2.2 k) = [] → J (k + 1) W1)
    (hY : ∀ k a c W1 n0, k < st.2.2.length → J k W1 → (∃ W0, J k W0 ∧ W0.heap.size = n0) → OwnInts n0 W1 (.slice (some a) (ringFromF st (el st.2.2 k)).length c) (ringFromF st (el st.2.2 k)) → 0 < (ringFromF st (el st.2.2 k)).length →
      YieldAt Fence.wide (m - 1) Try.prog l #[.slice (some a) (ringFromF st (el st.2.2 k)).length c] W1 fun e W' => e = .returned (.bool true) ∧ J (k + 1) W')
    (h0 : J 0 W) :
    CallsIn Fence.wide m Try.prog 78 #[.func (.yield l) #[] #[], .pointer (some ⟨zb, 0, none⟩)] W fun e W' => (∃ v, e = .returned v) ∧ J st.2.2.length W' := by
  have HR := hide hr
  have HOLD := hide hold
  have HJ := hide hJ
  have HN := hide hN
  have HY := hide hY
  have H0 := hide h0
  obtain ⟨l1, l2, l3, l4⟩ := hr.lens
  have hn5 : st.2.2.length ≤ 5 := by omega
  obtain ⟨c0, c1, c2, cf⟩ := block3 (hold _ _ h0).2.2
  clear hr hold hJ hN hY h0 l4 cf
  have hnil : ∀ (a : Option Addr) (n c : Nat) (w : World), (binOp .neq 22 (.slice a n c) (.slice none 0 0)).run Try.prog w = .ok (.bool (!a.isNone)) w := fun a n c w => run_neq_slice_nil_any w 22 3 a n c 0 0 Try.underlying22
  refine callsIn_of_wp Try.func78 rfl trivial ?_ rfl
  simp only [Try.ntmps78, List.size_toArray, List.length_cons, List.length_nil, Nat.reduceAdd, Nat.reduceSub, Array.replicate_succ, Array.replicate_zero, List.push_toArray, List.append_toArray, List.nil_append, List.cons_append]
  gi_wp2
  gi_loopw [9] (fun i wr => ∃ k : Nat, k ≤ st.2.2.length ∧ i = .int .i64 k ∧ J k wr) (fun i _ => st.2.2.length - (intOf i).toNat)
  case atStart => exact ⟨0, Nat.zero_le _, rfl, H0.out⟩
  case round =>
    obtain ⟨k, hk, rfl, hj⟩ := hrel
    by_cases hlt : k < st.2.2.length
    · clear c0 c1 c2
      obtain ⟨hs1, hc1, hz1⟩ := HOLD.out _ _ hj
      obtain ⟨e0, e1, e2, ef⟩ := block3 hz1
      obtain ⟨nb, noff, rfl, hx⟩ := hs1.parts.2.2.cellAt k hlt
      have HS1 := hide hs1
      have HC1 := hide hc1
      have HJ1 := hide hj
      clear hs1 hc1 hj hz1 ef
      gi_wp2_with fail
      refine ⟨trivial, fun _ => by omega, ?_⟩
      refine (callsIn_wide.2 (ringFrom_any _ st (el st.2.2 k) _ HS1.out HC1.out HR.out)).mono ?_
      rintro e w2 ⟨r, rfl, hr, hrn, hb2⟩
      have HJ2 := hide (HJ.out k _ _ HJ1.out hb2)
      by_cases hz : ringFromF st (el st.2.2 k) = []
      · have hrr := hrn hz
        subst hrr
        have HJ3 := hide (HN.out k _ hlt HJ2.out hz)
        clear hr hrn hb2 hz
        gi_wp2_with fail
        refine ⟨fun _ h => (by cases h), ?_⟩
        gi_wp2_with fail
        go_roundw
        case rel => exact ⟨k + 1, by omega, by go_num, HJ3.out⟩
        case measure => simp [intOf]; omega
      · have hpos : 0 < (ringFromF st (el st.2.2 k)).length := List.length_pos_iff.2 hz
        obtain ⟨ra, rc, rfl⟩ := hr.form
        obtain ⟨rb, ro, rfl, _⟩ := IntsAt.cellAt hr.at 0 hpos
        have HRR := hide hr
        have HP := hide hpos
        obtain ⟨fn, tmps, assign, body, hy, hR⟩ := HY.out k ⟨rb, ro, none⟩ rc w2 wr.heap.size hlt HJ2.out ⟨wr, HJ1.out, rfl⟩ hr hpos
        clear hr hrn hb2 hz hpos
        gi_wp2_with fail
        refine ⟨fun _ => by omega, hR.mono ?_⟩
        rintro e W3 ⟨rfl, hJ3⟩
        have HJ3 := hide hJ3
        clear hJ3 hR hy
        gi_wp2_with fail
        go_roundw
        case rel => exact ⟨k + 1, by omega, by go_num, HJ3.out⟩
        case measure => simp [intOf]; omega
    · obtain rfl : k = st.2.2.length := by omega
      gi_wp2_with fail
      go_end0
      exact ⟨⟨_, rfl⟩, hj⟩
end Go.Proofs.Ytmjjigdnoiphbab
