/-
  heldTrainS, heldState, l1name, slices.Index, copied.
-/
import Derived.Test.YtmjjigdnoiphbaaGreatDoorW20
namespace Go.Proofs.YtmjjigdnoiphbaaGreatDoor
open Go.RowKit Go.Deep
set_option linter.unusedVariables false

/-- the place of a name, or how many there are -/
def nameIx (ns : List Int) (x : Int) : Nat := ns.findIdx (fun y => decide (y = x))
def nameRes (ns : List Int) (x : Int) : Int := if nameIx ns x < ns.length then nameIx ns x else -1

theorem nameIx_at {ns : List Int} {x : Int} {k : Nat} (hk : k < ns.length) (h : el ns k = x) (ha : ∀ j, j < k → el ns j ≠ x) : nameIx ns x = k := by
  unfold nameIx
  rw [List.findIdx_eq hk]
  refine ⟨?_, fun j hj => ?_⟩
  · simpa [el, hk] using h
  · have := ha j hj
    have hj' : j < ns.length := by omega
    simpa [el, hj'] using this
theorem nameIx_none {ns : List Int} {x : Int} (ha : ∀ j, j < ns.length → el ns j ≠ x) : ¬ nameIx ns x < ns.length := by
  unfold nameIx
  rw [List.findIdx_lt_length]
  rintro ⟨y, hy, e⟩
  obtain ⟨j, hj, rfl⟩ := List.mem_iff_getElem.1 hy
  have := ha j hj
  simp [el, hj] at this e
  exact this e

set_option maxHeartbeats 800000 in
theorem l1name_any (v : Value) (st : St) (x : Int) (w : World) (h : StateAt w v st) (hl : st.2.2.length ≤ 4611686018427387904) :
    Calls Tryz.prog 82 #[v, .int .i64 x] w fun e w' => e = .returned (.int .i64 (nameRes st.2.2 x)) ∧ Below w.heap.size w w' := by
  obtain ⟨a1, q1, a2, q2, a3, q3, rfl⟩ := h.form
  have HN := hide h.parts.2.2
  have HY : Hid (∀ k, k < st.2.2.length → el st.2.2 k = x → (∀ j, j < k → el st.2.2 j ≠ x) → nameRes st.2.2 x = k) := fun k hk he ha => by
    unfold nameRes
    rw [nameIx_at hk he ha, if_pos hk]
  have HZ : Hid ((∀ j, j < st.2.2.length → el st.2.2 j ≠ x) → nameRes st.2.2 x = -1) := fun ha => by
    unfold nameRes
    rw [if_neg (nameIx_none ha)]
  generalize nameRes st.2.2 x = r at *
  clear h
  go_enter Tryz.func82, Tryz.ntmps82
  go_wp2
  go_loop [10] (fun i => ∃ k : Nat, k ≤ st.2.2.length ∧ i = .int .i64 k ∧ Hid (∀ j, j < k → el st.2.2 j ≠ x)) (fun i => st.2.2.length - (intOf i).toNat)
  case atStart => exact ⟨0, Nat.zero_le _, rfl, fun j hj => absurd hj (Nat.not_lt_zero _)⟩
  case round =>
    obtain ⟨k, hk, rfl, hall⟩ := hrel
    by_cases hlt : k < st.2.2.length
    · obtain ⟨b, off, rfl, hc⟩ := HN.out.cellAt k hlt
      have hbl := World.block_lt_of_cell? _ _ hc
      simp only at hbl
      by_cases he : el st.2.2 k = x
      · have HQ := hide (HY.out k hlt he hall.out)
        have heb : (el st.2.2 k == x) = true := by simp [he]
        clear he
        go_wp2
        go_ret
        exact ⟨by rw [HQ.out]; rfl, Joins.below_alloc1 _ _⟩
      · have heb : (el st.2.2 k == x) = false := by simp [he]
        have HE := hide he
        clear he
        go_wp2
        go_round
        case rel => exact ⟨k + 1, by omega, by go_num, fun j hj => by
          by_cases e : j = k
          · subst e; exact HE.out
          · exact hall.out j (by omega)⟩
        case measure => simp [intOf]; omega
    · have HQ := hide (HZ.out (fun j hj => hall.out j (by omega)))
      go_wp2
      go_ret
      exact ⟨by rw [HQ.out]; rfl, Joins.below_alloc1 _ _⟩

set_option maxHeartbeats 800000 in
theorem index_any (a : Option Addr) (l q : Nat) (ns : List Int) (x : Int) (w : World) (h : IntsAt w (.slice a l q) ns) (hl : ns.length ≤ 4611686018427387904) :
    Calls Tryz.prog 34 #[.slice a l q, .int .i64 x] w fun e w' => e = .returned (.int .i64 (nameRes ns x)) ∧ w = w' := by
  have HN := hide h
  obtain ⟨a', c', hv, _⟩ := h
  simp only [Value.slice.injEq] at hv
  obtain ⟨rfl, rfl, rfl⟩ := hv
  have HY : Hid (∀ k, k < ns.length → el ns k = x → (∀ j, j < k → el ns j ≠ x) → nameRes ns x = k) := fun k hk he ha => by
    unfold nameRes
    rw [nameIx_at hk he ha, if_pos hk]
  have HZ : Hid ((∀ j, j < ns.length → el ns j ≠ x) → nameRes ns x = -1) := fun ha => by
    unfold nameRes
    rw [if_neg (nameIx_none ha)]
  generalize nameRes ns x = r at *
  go_enter Tryz.func34, Tryz.ntmps34
  go_wp2
  go_loop [8] (fun i => ∃ k : Nat, k ≤ ns.length ∧ i = .int .i64 k ∧ Hid (∀ j, j < k → el ns j ≠ x)) (fun i => ns.length - (intOf i).toNat)
  case atStart => exact ⟨0, Nat.zero_le _, rfl, fun j hj => absurd hj (Nat.not_lt_zero _)⟩
  case round =>
    obtain ⟨k, hk, rfl, hall⟩ := hrel
    by_cases hlt : k < ns.length
    · obtain ⟨b, off, rfl, hc⟩ := HN.out.cellAt k hlt
      by_cases he : el ns k = x
      · have HQ := hide (HY.out k hlt he hall.out)
        have heb : (x == el ns k) = true := by simp [he]
        clear he
        go_wp2
        go_ret
        exact ⟨by rw [HQ.out]; rfl, rfl⟩
      · have heb : (x == el ns k) = false := by simp; exact fun e => he e.symm
        have HE := hide he
        clear he
        go_wp2
        go_round
        case rel => exact ⟨k + 1, by omega, by go_num, fun j hj => by
          by_cases e : j = k
          · subst e; exact HE.out
          · exact hall.out j (by omega)⟩
        case measure => simp [intOf]; omega
    · have HQ := hide (HZ.out (fun j hj => hall.out j (by omega)))
      go_wp2
      go_ret
      exact ⟨by rw [HQ.out]; rfl, rfl⟩

theorem ints_news {w : World} {a : Addr} {l q : Nat} {xs : List Int} (h : IntsAt w (.slice (some a) l q) xs) : ∀ j u, (xs.map (Value.int .i64))[j]? = some u → w.cell? (a.add j) = some u := fun j u hu => by
  have hj : j < xs.length := by simpa using (List.getElem?_eq_some_iff.1 hu).1
  obtain ⟨b, off, e, hc⟩ := h.cellAt j hj
  simp only [Option.some.injEq] at e
  subst e
  rw [WideShapes.add_plain]
  rw [hc]
  rw [← hu]
  simp [el, hj]

set_option maxHeartbeats 800000 in
theorem copied_any (v : Value) (xs : List Int) (w : World) (h : IntsAt w v xs) (hl : xs.length ≤ 1048576) :
    Calls Tryz.prog 75 #[v] w fun e w' => ∃ r, e = .returned r ∧ OwnInts w.heap.size w' r xs ∧ Below w.heap.size w w' := by
  have H := hide h
  obtain ⟨a, cap, rfl, _⟩ := h
  obtain ⟨i0, hi, hz0, hz1, hz2⟩ := info_parts Tryz.infoInt
  cases a with
  | none =>
    have hx : xs = [] := by
      cases xs with
      | nil => rfl
      | cons x r => obtain ⟨b, off, e, _⟩ := H.out.cellAt 0 (by simp); cases e
    subst hx
    go_enter Tryz.func75, Tryz.ntmps75
    go_wp2
    go_ret
    exact ⟨_, rfl, OwnInts.nil _ _, Below.refl _ _⟩
  | some ad =>
    go_enter Tryz.func75, Tryz.ntmps75
    go_wp2_with (first | (at_builtin; refine wpList_append_own _ rfl _ _ 23 rfl w.heap.size 3 i0 (.int .i64 0) 1 8 Tryz.underlying23 hi hz0 hz1 hz2 rfl (by decide) _ 0 [] rfl (World.ownsRow_nil _ _ _ _) ad xs.length cap (xs.map (Value.int .i64)) rfl ?c0 (ints_news H.out) ?c2 ?c3 ?c4 (Nat.le_refl _) ?_))
    case c0 => simp
    case c2 => intro u hu; simp at hu; obtain ⟨y, _, rfl⟩ := hu; rfl
    case c3 => unfold maxLen; omega
    case c4 => omega
    · intro v' w1 hown hgrow _
      go_wp2
      go_ret
      refine ⟨_, rfl, ?_, below_grown (Below.refl _ _) (World.ownsRow_nil w w.heap.size 3 1) hgrow (Nat.le_refl _) (Nat.le_refl _)⟩
      unfold OwnInts
      simpa using hown
end Go.Proofs.YtmjjigdnoiphbaaGreatDoor
