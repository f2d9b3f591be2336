/-
  impl.progress: how far each train has come.
-/
import Derived.Test.YtmjjigdnoiphbaaW17
namespace Go.Proofs.Ytmjjigdnoiphbaa
open Go.RowKit Go.Deep
set_option linter.unusedVariables false

/-- no path of these trains is longer than its room -/
def CapT (w : World) (a : Option Addr) (n : Nat) : Prop := ∀ i b off p q c, i < n → a = some ⟨b, off, none⟩ → w.cell? ⟨b, off + i * 3 + 1, none⟩ = some (.slice p q c) → q ≤ c

/-- no path of this state is longer than its room -/
def CapSt (w : World) (v : Value) (n : Nat) : Prop := ∀ a1 l1 q1 a2 l2 q2 a3 l3 q3, v = .agg #[.slice a1 l1 q1, .slice a2 l2 q2, .slice a3 l3 q3] → CapT w a2 n

theorem CapSt.below {w w' : World} {v : Value} {st : St} (h : CapSt w v st.2.1.length) (hs : StateAt w v st) (hb : Below w.heap.size w w') : CapSt w' v st.2.1.length := fun a1 l1 q1 a2 l2 q2 a3 l3 q3 hv i b off p q c hi ha hc => by
  subst hv
  obtain ⟨b', off', e, u, _, hc1, ⟨a', c', hu, _⟩, _⟩ := hs.parts.2.1.trainAt i hi
  rw [ha] at e
  simp only [Option.some.injEq, Addr.mk.injEq, and_true] at e
  obtain ⟨rfl, rfl⟩ := e
  have := cell_later hb hc1
  rw [hc] at this
  have h2 := Option.some.inj this
  exact h a1 l1 q1 a2 l2 q2 a3 l3 q3 rfl i b off p q c hi ha (by rw [hc1, h2])

/-- the cells of a progress, and its value -/
def pc5 (d : Nat → Nat) : Array Value := #[.int .i8 (d 0), .int .i8 (d 1), .int .i8 (d 2), .int .i8 (d 3), .int .i8 (d 4)]
def pv (d : Nat → Nat) : Value := .agg (pc5 d)
theorem pc5_at (d : Nat → Nat) (i : Nat) (hi : i < 5) : (pc5 d)[i]? = some (.int .i8 (d i)) := by
  match i, hi with
  | 0, _ => rfl
  | 1, _ => rfl
  | 2, _ => rfl
  | 3, _ => rfl
  | 4, _ => rfl

set_option maxHeartbeats 1000000 in
theorem hasLeft_any (d : Nat → Nat) (x y : Int) (a : Option Addr) (l c i : Nat) (w : World) (hi : i < 5) (hd : d i < 100) (hl : l ≤ 4611686018427387904) :
    Calls Try.prog 80 #[pv d, .agg #[.int .i64 x, .slice a l c, .int .i64 y], .int .i64 i] w fun e w' => e = .returned (.bool (decide (l < d i))) ∧ Below w.heap.size w w' := by
  have hV : ∀ w : World, ((w.alloc (.cells (pc5 d) 63)).alloc (.cells #[.int .i64 x, .slice a l c, .int .i64 y] 39)).cell? ⟨w.heap.size, i, none⟩ = some (.int .i8 (d i)) := fun w => by
    rw [World.cell?_alloc_old _ _ _ (by simp)]
    rw [cell_of_row _ _ _ (pc5 d) 63 (0, 0) (heap_alloc_new _ _)]
    exact pc5_at d i hi
  unfold pv
  unfold pc5 at hV ⊢
  go_enter Try.func80, Try.ntmps80
  go_wp2_with fail
  go_quiet (fail)
  go_wp2_with fail
  go_ret
  exact ⟨rfl, (Joins.below_alloc2 _ _ _).trans (Joins.below_draws _ _ _)⟩

/-- what is left of a path behind k moves, and where the train is then -/
def farAt (x : Int) (p : List Int) (k : Nat) : Int := if k = 0 then x else el p (k - 1)
theorem farAt_zero (x : Int) (p : List Int) : farAt x p 0 = x := rfl

set_option maxHeartbeats 2000000 in
theorem trainBehind_any (d : Nat → Nat) (x y : Int) (p : List Int) (a : Option Addr) (c i : Nat) (w : World) (hi : i < 5) (hd : d i ≤ p.length) (hl : p.length ≤ 8) (hc : p.length ≤ c) (hI : IntsAt w (.slice a p.length c) p) :
    Calls Try.prog 81 #[pv d, .agg #[.int .i64 x, .slice a p.length c, .int .i64 y], .int .i64 i] w fun e w' => ∃ a' c', e = .returned (.agg #[.int .i64 (farAt x p (d i)), .slice a' (p.drop (d i)).length c', .int .i64 y]) ∧ (∀ w0, IntsAt w0 (.slice a p.length c) p → IntsAt w0 (.slice a' (p.drop (d i)).length c') (p.drop (d i))) ∧ (p.drop (d i)).length ≤ c' ∧ Below w.heap.size w w' := by
  have hV : ∀ w : World, ∀ o : Obj, ∀ o', (((w.alloc (.cells (pc5 d) 63)).alloc o).alloc o').cell? ⟨w.heap.size, i, none⟩ = some (.int .i8 (d i)) := fun w o o' => by
    rw [World.cell?_alloc_some _ _ _ (by rw [World.cell?_alloc_some _ _ _ (by rw [cell_of_row _ _ _ (pc5 d) 63 (0, 0) (heap_alloc_new _ _), pc5_at d i hi]; rfl), cell_of_row _ _ _ (pc5 d) 63 (0, 0) (heap_alloc_new _ _), pc5_at d i hi]; rfl), World.cell?_alloc_some _ _ _ (by rw [cell_of_row _ _ _ (pc5 d) 63 (0, 0) (heap_alloc_new _ _), pc5_at d i hi]; rfl)]
    rw [cell_of_row _ _ _ (pc5 d) 63 (0, 0) (heap_alloc_new _ _)]
    exact pc5_at d i hi
  have HI := hide hI
  clear hI
  unfold pv
  unfold pc5 at hV ⊢
  rcases Nat.eq_zero_or_pos (d i) with hk | hk
  · rw [hk] at hV hd ⊢
    clear hk
    go_enter Try.func81, Try.ntmps81
    go_wp2_with fail
    refine bodyPost_ret (v := .agg #[.int .i64 x, .slice a p.length c, .int .i64 y]) (by simp [results, Try.results81, go_sem]) rfl ⟨a, c, rfl, ?_, hc, ?_⟩
    · exact fun w0 h0 => h0
    · exact Joins.below_alloc3 _ _ _ _
  · obtain ⟨j, hj⟩ : ∃ j, d i = j + 1 := ⟨d i - 1, by omega⟩
    have hF : farAt x p (d i) = el p j := by rw [hj]; simp [farAt]
    rw [hF]
    obtain ⟨b, off, rfl, hx⟩ := HI.out.cellAt j (by omega)
    have hxx : ∀ o1 o2 o3, (((w.alloc o1).alloc o2).alloc o3).cell? ⟨b, off + j, none⟩ = some (.int .i64 (el p j)) := fun o1 o2 o3 => cell_later (Joins.below_alloc3 w o1 o2 o3) hx
    clear hx
    have hwr : IntKind.i8.wrap ((d i : Int) - 1) = (j : Int) := by rw [hj, show (((j + 1 : Nat) : Int) - 1) = (j : Int) by omega]; simp [IntKind.wrap, IntKind.bits]; omega
    have hjl : (j : Int) < (p.length : Int) := by omega
    have hkl : (d i : Int) ≤ (p.length : Int) := by omega
    have hkc : d i ≤ c := by omega
    have HJ := hide hj
    clear hj hF
    generalize d i = k at *
    go_enter Try.func81, Try.ntmps81
    go_wp2_with fail
    go_region
    obtain ⟨A, hA⟩ : ∃ A, (if c = k then some (⟨b, off, none⟩ : Addr) else some ⟨b, off + k, none⟩) = A := ⟨_, rfl⟩
    rw [hA]
    have HA := hide hA
    clear hA
    go_wp2_with fail
    refine bodyPost_ret (v := .agg #[.int .i64 (el p j), .slice A (p.length - k) (c - k), .int .i64 y]) (by simp [results, Try.results81, go_sem]) rfl ⟨A, c - k, by rw [List.length_drop], ?_, by rw [List.length_drop]; omega, (Joins.below_alloc3 _ _ _ _).drew⟩
    refine fun w0 h0 => ⟨A, c - k, rfl, fun q hq => ?_⟩
    rw [List.length_drop] at hq
    obtain ⟨b', o', e', hc'⟩ := IntsAt.cellAt h0 (q + k) (by omega)
    simp only [Option.some.injEq, Addr.mk.injEq, and_true] at e'
    obtain ⟨rfl, rfl⟩ := e'
    refine ⟨b, off + k, by rw [← HA.out, if_neg (by omega)], ?_⟩
    rw [show off + k + q = off + (q + k) by omega, hc']
    simp [el, List.getElem?_drop, Nat.add_comm]

/-- one move more of train m -/
def bump (d : Nat → Nat) (m : Nat) : Nat → Nat := fun i => if i = m then d i + 1 else d i

set_option maxHeartbeats 1000000 in
theorem pmoved_any (d : Nat → Nat) (m : Nat) (w : World) (hm : m < 5) (hd : d m < 100) :
    Calls Try.prog 48 #[pv d, .int .i64 m] w fun e w' => e = .returned (pv (bump d m)) ∧ Below w.heap.size w w' := by
  have hwr : IntKind.i8.wrap ((d m : Int) + 1) = (d m : Int) + 1 := by simp [IntKind.wrap, IntKind.bits]; omega
  unfold pv pc5
  rcases (show m = 0 ∨ m = 1 ∨ m = 2 ∨ m = 3 ∨ m = 4 by omega) with rfl | rfl | rfl | rfl | rfl
  all_goals
    go_enter Try.func48, Try.ntmps48
    go_wp2_with fail
  all_goals
    refine bodyPost_ret ?_ rfl ⟨rfl, Joins.below_alloc2 _ _ _⟩
    simp [results, Try.results48, go_sem, bump]
end Go.Proofs.Ytmjjigdnoiphbaa
