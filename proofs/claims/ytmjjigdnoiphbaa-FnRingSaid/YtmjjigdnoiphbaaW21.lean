/-
  heldTrainS, heldState, l1name, slices.Index, copied.
-/
import Derived.Test.YtmjjigdnoiphbaaW20
namespace Go.Proofs.Ytmjjigdnoiphbaa
open Go.RowKit Go.Deep
set_option linter.unusedVariables false

set_option maxHeartbeats 1600000 in
theorem heldTrainS_own (a : Option Addr) (n cap : Nat) (pa : Nat → Option Addr) (pl pc : Nat → Nat) (X Y : Nat → Int) (Z : Nat → Nat → Int) (m : Int) (w : World) (h : OwnT w a n pa pl pc (mX m pl X n) (mY m pl Y n) (mZ m pl Z n)) (hn : n ≤ 1048576) (hp : ∀ i, i < n → pl i ≤ 1048576) (h0 : 0 ≤ m) (h1 : m ≤ 4503599627370496) :
    Calls Try.prog 78 #[.slice a n cap, .int .i64 m] w fun e w' => e = .returned (.int .i64 (cnt m pl n)) ∧ w = w' := by
  have HT := hide h
  have HP := hide hp
  clear h hp
  go_enter Try.func78, Try.ntmps78
  go_wp2
  go_loop [1, 5] (fun c i => ∃ k : Nat, k ≤ n ∧ i = .int .i64 k ∧ c = .int .i64 (cnt m pl k)) (fun _ i => n - (intOf i).toNat)
  case atStart => exact ⟨0, Nat.zero_le _, rfl, rfl⟩
  case round =>
    obtain ⟨k, hk, rfl, rfl⟩ := hrel
    obtain ⟨u1, u2⟩ := cnt_le (m := m) HP.out k hk
    have u3 : (k : Int) * 1048578 ≤ 1048576 * 1048578 := Int.mul_le_mul_of_nonneg_right (by omega) (by omega)
    have u4 : cnt m pl k ≤ 4600000000000000000 := by omega
    have u5 : 0 ≤ cnt m pl k := by omega
    by_cases hlt : k < n
    · obtain ⟨b, off, rfl, x0, x1, x2, _⟩ := HT.out.row k hlt
      have hpk := HP.out k hlt
      have hP := HT.out.path k hlt
      have e1 : mX m pl X n k = cnt m pl k := if_pos hlt
      have e2 : mY m pl Y n k = cnt m pl k + 1 + pl k := if_pos hlt
      have e3 : mZ m pl Z n k = fun j : Nat => cnt m pl k + 1 + (j : Int) := if_pos hlt
      rw [e1] at x0
      rw [e2] at x2
      rw [e3] at hP
      have HP' := hide hP
      have HCS := hide (show cnt m pl (k + 1) = cnt m pl k + 1 + pl k + 1 by simp only [cnt]; omega)
      clear e1 e2 e3 hP u1 u2 u3
      generalize cnt m pl k = c at *
      have hb1 : (c != c) = false := by simp
      have hb2 : ((c + 1 + (pl k : Int)) != (c + 1 + (pl k : Int))) = false := by simp
      have hb3 : decide (c + 1 + (pl k : Int) < 0) = false := by simp; omega
      go_wp2_with fail
      refine (heldIntS_own _ _ _ _ _ HP'.out hpk (by omega) (by omega)).mono ?_
      rintro e w' ⟨rfl, rfl⟩
      go_wp2_with fail
      go_round
      case rel => exact ⟨k + 1, by omega, by go_num, by rw [HCS.out]⟩
      case measure => simp [intOf]; omega
    · go_wp2
      go_ret
      obtain rfl : k = n := by omega
      exact ⟨rfl, rfl⟩

set_option maxHeartbeats 1600000 in
theorem heldState_own (L : Lies) (st : St) (w : World) (h : MarkedS w L st 1) (hs : SmallSt st) :
    Calls Try.prog 43 #[L.val st, .int .i64 1] w fun e w' => e = .returned (.int .i64 (total 1 st)) ∧ Below w.heap.size w w' := by
  have HT := hide (total_le hs)
  have HS := hide hs
  have b1 := hs.rl
  have b2 := hs.tl
  have b3 := hs.nl
  have KV := hide (h.below (Joins.below_alloc1 w (.cells #[.slice L.ra st.1.length L.rc, .slice L.ta st.2.1.length L.tc, .slice L.na st.2.2.length L.nc] 26)))
  clear h hs
  unfold Lies.val
  go_enter Try.func43, Try.ntmps43
  go_wp2_with fail
  refine (heldIntS_own _ _ _ _ _ KV.out.r b1 (by omega) (by omega)).mono ?_
  rintro e w' ⟨rfl, rfl⟩
  have hd1 : decide ((1 : Int) + (st.1.length : Int) < 0) = false := by simp; omega
  go_wp2_with fail
  refine (heldTrainS_own _ _ _ _ _ _ _ _ _ _ _ KV.out.t b2 HS.out.pl (by omega) (by omega)).mono ?_
  rintro e w' ⟨rfl, rfl⟩
  obtain ⟨t1, t2, t3⟩ := HT.out
  have hd2 : decide (cnt (1 + (st.1.length : Int)) (fun i => (tPath st.2.1 i).length) st.2.1.length < 0) = false := by simp; omega
  have hd3 : decide (cnt (1 + (st.1.length : Int)) (fun i => (tPath st.2.1 i).length) st.2.1.length + (st.2.2.length : Int) < 0) = false := by simp; omega
  go_wp2_with fail
  refine (heldIntS_own _ _ _ _ _ KV.out.n b3 (by omega) (by omega)).mono ?_
  rintro e w' ⟨rfl, rfl⟩
  go_wp2_with fail
  go_ret
  exact ⟨rfl, Joins.below_alloc1 _ _⟩

/-- the place of a name, or how many there are -/
def nameIx (ns : List Int) (x : Int) : Nat := ns.findIdx (fun y => decide (y = x))
def nameRes (ns : List Int) (x : Int) : Int := if nameIx ns x < ns.length then nameIx ns x else -1

theorem nameIx_at {ns : List Int} {x : Int} {k : Nat} (hk : k < ns.length) (h : el ns k = x) (ha : ∀ j, j < k → el ns j ≠ x) : nameIx ns x = k := by
  unfold nameIx
  rw [List.findIdx_eq hk]
  refine ⟨?_, fun j hj => ?_⟩
  · simpa [el, hk] using h
  · have := ha j hj
    have hj' : j < ns.length := by omega
    simpa [el, hj'] using this
theorem nameIx_none {ns : List Int} {x : Int} (ha : ∀ j, j < ns.length → el ns j ≠ x) : ¬ nameIx ns x < ns.length := by
  unfold nameIx
  rw [List.findIdx_lt_length]
  rintro ⟨y, hy, e⟩
  obtain ⟨j, hj, rfl⟩ := List.mem_iff_getElem.1 hy
  have := ha j hj
  simp [el, hj] at this e
  exact this e

set_option maxHeartbeats 800000 in
theorem l1name_any (v : Value) (st : St) (x : Int) (w : World) (h : StateAt w v st) (hl : st.2.2.length ≤ 4611686018427387904) :
    Calls Try.prog 50 #[v, .int .i64 x] w fun e w' => e = .returned (.int .i64 (nameRes st.2.2 x)) ∧ Below w.heap.size w w' := by
  obtain ⟨a1, q1, a2, q2, a3, q3, rfl⟩ := h.form
  have HN := hide h.parts.2.2
  have HY : Hid (∀ k, k < st.2.2.length → el st.2.2 k = x → (∀ j, j < k → el st.2.2 j ≠ x) → nameRes st.2.2 x = k) := fun k hk he ha => by
    unfold nameRes
    rw [nameIx_at hk he ha, if_pos hk]
  have HZ : Hid ((∀ j, j < st.2.2.length → el st.2.2 j ≠ x) → nameRes st.2.2 x = -1) := fun ha => by
    unfold nameRes
    rw [if_neg (nameIx_none ha)]
  generalize nameRes st.2.2 x = r at *
  clear h
  go_enter Try.func50, Try.ntmps50
  go_wp2
  go_loop [10] (fun i => ∃ k : Nat, k ≤ st.2.2.length ∧ i = .int .i64 k ∧ Hid (∀ j, j < k → el st.2.2 j ≠ x)) (fun i => st.2.2.length - (intOf i).toNat)
  case atStart => exact ⟨0, Nat.zero_le _, rfl, fun j hj => absurd hj (Nat.not_lt_zero _)⟩
  case round =>
    obtain ⟨k, hk, rfl, hall⟩ := hrel
    by_cases hlt : k < st.2.2.length
    · obtain ⟨b, off, rfl, hc⟩ := HN.out.cellAt k hlt
      have hbl := World.block_lt_of_cell? _ _ hc
      simp only at hbl
      by_cases he : el st.2.2 k = x
      · have HQ := hide (HY.out k hlt he hall.out)
        have heb : (el st.2.2 k == x) = true := by simp [he]
        clear he
        go_wp2
        go_ret
        exact ⟨by rw [HQ.out]; rfl, Joins.below_alloc1 _ _⟩
      · have heb : (el st.2.2 k == x) = false := by simp [he]
        have HE := hide he
        clear he
        go_wp2
        go_round
        case rel => exact ⟨k + 1, by omega, by go_num, fun j hj => by
          by_cases e : j = k
          · subst e; exact HE.out
          · exact hall.out j (by omega)⟩
        case measure => simp [intOf]; omega
    · have HQ := hide (HZ.out (fun j hj => hall.out j (by omega)))
      go_wp2
      go_ret
      exact ⟨by rw [HQ.out]; rfl, Joins.below_alloc1 _ _⟩

set_option maxHeartbeats 800000 in
theorem index_any (a : Option Addr) (l q : Nat) (ns : List Int) (x : Int) (w : World) (h : IntsAt w (.slice a l q) ns) (hl : ns.length ≤ 4611686018427387904) :
    Calls Try.prog 57 #[.slice a l q, .int .i64 x] w fun e w' => e = .returned (.int .i64 (nameRes ns x)) ∧ w = w' := by
  have HN := hide h
  obtain ⟨a', c', hv, _⟩ := h
  simp only [Value.slice.injEq] at hv
  obtain ⟨rfl, rfl, rfl⟩ := hv
  have HY : Hid (∀ k, k < ns.length → el ns k = x → (∀ j, j < k → el ns j ≠ x) → nameRes ns x = k) := fun k hk he ha => by
    unfold nameRes
    rw [nameIx_at hk he ha, if_pos hk]
  have HZ : Hid ((∀ j, j < ns.length → el ns j ≠ x) → nameRes ns x = -1) := fun ha => by
    unfold nameRes
    rw [if_neg (nameIx_none ha)]
  generalize nameRes ns x = r at *
  go_enter Try.func57, Try.ntmps57
  go_wp2
  go_loop [8] (fun i => ∃ k : Nat, k ≤ ns.length ∧ i = .int .i64 k ∧ Hid (∀ j, j < k → el ns j ≠ x)) (fun i => ns.length - (intOf i).toNat)
  case atStart => exact ⟨0, Nat.zero_le _, rfl, fun j hj => absurd hj (Nat.not_lt_zero _)⟩
  case round =>
    obtain ⟨k, hk, rfl, hall⟩ := hrel
    by_cases hlt : k < ns.length
    · obtain ⟨b, off, rfl, hc⟩ := HN.out.cellAt k hlt
      by_cases he : el ns k = x
      · have HQ := hide (HY.out k hlt he hall.out)
        have heb : (x == el ns k) = true := by simp [he]
        clear he
        go_wp2
        go_ret
        exact ⟨by rw [HQ.out]; rfl, rfl⟩
      · have heb : (x == el ns k) = false := by simp; exact fun e => he e.symm
        have HE := hide he
        clear he
        go_wp2
        go_round
        case rel => exact ⟨k + 1, by omega, by go_num, fun j hj => by
          by_cases e : j = k
          · subst e; exact HE.out
          · exact hall.out j (by omega)⟩
        case measure => simp [intOf]; omega
    · have HQ := hide (HZ.out (fun j hj => hall.out j (by omega)))
      go_wp2
      go_ret
      exact ⟨by rw [HQ.out]; rfl, rfl⟩

theorem ints_news {w : World} {a : Addr} {l q : Nat} {xs : List Int} (h : IntsAt w (.slice (some a) l q) xs) : ∀ j u, (xs.map (Value.int .i64))[j]? = some u → w.cell? (a.add j) = some u := fun j u hu => by
  have hj : j < xs.length := by simpa using (List.getElem?_eq_some_iff.1 hu).1
  obtain ⟨b, off, e, hc⟩ := h.cellAt j hj
  simp only [Option.some.injEq] at e
  subst e
  rw [WideShapes.add_plain]
  rw [hc]
  rw [← hu]
  simp [el, hj]

set_option maxHeartbeats 800000 in
theorem copied_any (v : Value) (xs : List Int) (w : World) (h : IntsAt w v xs) (hl : xs.length ≤ 1048576) :
    Calls Try.prog 97 #[v] w fun e w' => ∃ r, e = .returned r ∧ OwnInts w.heap.size w' r xs ∧ Below w.heap.size w w' := by
  have H := hide h
  obtain ⟨a, cap, rfl, _⟩ := h
  obtain ⟨i0, hi, hz0, hz1, hz2⟩ := info_parts Try.infoInt
  cases a with
  | none =>
    have hx : xs = [] := by
      cases xs with
      | nil => rfl
      | cons x r => obtain ⟨b, off, e, _⟩ := H.out.cellAt 0 (by simp); cases e
    subst hx
    go_enter Try.func97, Try.ntmps97
    go_wp2
    go_ret
    exact ⟨_, rfl, OwnInts.nil _ _, Below.refl _ _⟩
  | some ad =>
    go_enter Try.func97, Try.ntmps97
    go_wp2_with (first | (at_builtin; refine wpList_append_own _ rfl _ _ 23 rfl w.heap.size 3 i0 (.int .i64 0) 1 8 Try.underlying23 hi hz0 hz1 hz2 rfl (by decide) _ 0 [] rfl (World.ownsRow_nil _ _ _ _) ad xs.length cap (xs.map (Value.int .i64)) rfl ?c0 (ints_news H.out) ?c2 ?c3 ?c4 (Nat.le_refl _) ?_))
    case c0 => simp
    case c2 => intro u hu; simp at hu; obtain ⟨y, _, rfl⟩ := hu; rfl
    case c3 => unfold maxLen; omega
    case c4 => omega
    · intro v' w1 hown hgrow _
      go_wp2
      go_ret
      refine ⟨_, rfl, ?_, below_grown (Below.refl _ _) (World.ownsRow_nil w w.heap.size 3 1) hgrow (Nat.le_refl _) (Nat.le_refl _)⟩
      unfold OwnInts
      simpa using hown
end Go.Proofs.Ytmjjigdnoiphbaa
