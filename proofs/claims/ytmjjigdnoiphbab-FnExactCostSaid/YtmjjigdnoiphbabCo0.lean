/-
  THE COST OF MOVES, as mathematics; impl: weightThere.
-/
import Derived.Test.YtmjjigdnoiphbabSf6
import Derived.Test.YtmjjigdnoiphbabEn
namespace Go.Proofs.Ytmjjigdnoiphbab
open Go.RowKit Go.Deep Go.Maps
set_option linter.unusedVariables false

/-- the weights of those of the first k trains that are there yet -/
def wtR (ts : List Tr) (d : Pr) : Nat → Int
  | 0 => 0
  | k + 1 => wtR ts d k + if leftB ts d k = true then 0 else tWt ts k
def wtP (st : St) (d : Pr) : Int := wtR st.2.1 d st.2.1.length
theorem wt_up {st : St} {d : Pr} : ∀ k, k ≤ st.2.1.length → wtUp (behindSt st d).2.1 (posUp st.2.1 d k) = wtR st.2.1 d k
  | 0, _ => rfl
  | k + 1, hk => by
    have ih := wt_up (st := st) (d := d) k (by omega)
    cases hl : leftB st.2.1 d k
    · simp only [posUp, wtR, hl, Bool.false_eq_true, if_false]
      simp only [wtUp]
      rw [ih, (behind_at (by omega) hl).2.2]
    · simp only [posUp, wtR, hl, if_true, Nat.add_zero]
      rw [ih]
      simp
theorem wt_behind {st : St} {d : Pr} : wtOf (behindSt st d) = wtP st d := by
  unfold wtOf wtP
  rw [behind_len]
  exact wt_up _ (Nat.le_refl _)
theorem wtR_le {st : St} (h : SoSt st) (d : Pr) : ∀ k, k ≤ st.2.1.length → 0 ≤ wtR st.2.1 d k ∧ wtR st.2.1 d k ≤ 100 * k
  | 0, _ => by simp [wtR]
  | k + 1, hk => by
    have ih := wtR_le h d k (by omega)
    have := h.train k (by omega)
    simp only [wtR]
    split <;> omega
theorem wtP_le {st : St} (h : SoSt st) (d : Pr) : 0 ≤ wtP st d ∧ wtP st d ≤ 500 := by
  have := wtR_le h d st.2.1.length (Nat.le_refl _)
  have := h.lens.2.2.1
  unfold wtP
  omega
theorem wtR_pos {st : St} (h : SoSt st) (d : Pr) {i : Nat} (hl : leftB st.2.1 d i = false) : ∀ k, k ≤ st.2.1.length → i < k → 1 ≤ wtR st.2.1 d k
  | 0, _, hi => absurd hi (Nat.not_lt_zero _)
  | k + 1, hk, hi => by
    have h1 := wtR_le h d k (by omega)
    have h2 := h.train k (by omega)
    simp only [wtR]
    by_cases e : i = k
    · subst e
      rw [hl]
      simp
      omega
    · have := wtR_pos h d hl k (by omega) (by omega)
      split <;> omega
theorem wtP_pos {st : St} (h : SoSt st) (d : Pr) {i : Nat} (hi : i < st.2.1.length) (hl : leftB st.2.1 d i = false) : 1 ≤ wtP st d := wtR_pos h d hl _ (Nat.le_refl _) hi
theorem posUp_zero {ts : List Tr} {d : Pr} : ∀ k, posUp ts d k = 0 ↔ ∀ j, j < k → leftB ts d j = true
  | 0 => by simp [posUp]
  | k + 1 => by
    have ih := posUp_zero (ts := ts) (d := d) k
    simp only [posUp]
    constructor
    · intro h j hj
      by_cases e : j = k
      · subst e
        cases hl : leftB ts d j
        · rw [hl] at h; simp at h
        · rfl
      · exact ih.1 (by omega) j (by omega)
    · intro h
      rw [ih.2 (fun j hj => h j (by omega)), h k (by omega)]
      simp
theorem behind_none {st : St} {d : Pr} : (behindSt st d).2.1.length = 0 ↔ allLeft st d = true := by
  rw [behind_len, posUp_zero]
  constructor
  · exact fun h => allUp_true h
  · intro h j hj
    cases e : leftB st.2.1 d j
    · have := allUp_false (f := leftB st.2.1 d) j hj e
      unfold allLeft at h
      rw [this] at h
      exact absurd h (by decide)
    · rfl

/-- what moves cost from a progress on, n being paid -/
def costD (st : St) : List Int → Pr → Int → Int
  | [], d, n => bif allLeft st d then n else -1
  | m :: ms, d, n => if nameIx st.2.2 m < st.2.2.length ∧ canP st d (nameIx st.2.2 m) = true then costD st ms (bump d (nameIx st.2.2 m)) (n + wtP st d) else -1
def costF (st : St) (ms : List Int) : Int := if stOk st = 0 ∧ ms.length ≤ 45 then costD st ms pz 0 else -1
theorem drop_el {ms : List Int} {k : Nat} (hk : k < ms.length) : ms.drop k = el ms k :: ms.drop (k + 1) := by
  rw [List.drop_eq_getElem_cons hk]
  congr 1
  simp [el, hk]

/-- the place of a number among those that are there yet -/
theorem nameRes_behind {st : St} (h : RightSt st) {d : Pr} (hd : PrOk st d) (m : Int) :
    (nameIx st.2.2 m < st.2.2.length ∧ leftB st.2.1 d (nameIx st.2.2 m) = false ∧ nameRes (behindSt st d).2.2 m = (posUp st.2.1 d (nameIx st.2.2 m) : Nat)) ∨ ((¬ nameIx st.2.2 m < st.2.2.length ∨ leftB st.2.1 d (nameIx st.2.2 m) = true) ∧ nameRes (behindSt st d).2.2 m = -1) := by
  have hn := h.lens.2.2.2
  have hlen : (behindSt st d).2.2.length = posUp st.2.1 d st.2.1.length := bhN_len _ _ _ _
  by_cases hi : nameIx st.2.2 m < st.2.2.length
  · have e : el st.2.2 (nameIx st.2.2 m) = m := by
      have := List.findIdx_getElem (w := hi) (p := fun y => decide (y = m))
      simp only [decide_eq_true_eq] at this
      unfold el
      rw [List.getElem?_eq_getElem hi]
      exact this
    obtain ⟨b1, b2⟩ := nameIx_behind h (d := d) (i := nameIx st.2.2 m) (by omega)
    rw [e] at b1 b2
    cases hl : leftB st.2.1 d (nameIx st.2.2 m)
    · refine Or.inl ⟨hi, rfl, ?_⟩
      unfold nameRes
      rw [b1 hl, if_pos]
      rw [hlen]
      exact posUp_lt (by omega) hl
    · refine Or.inr ⟨Or.inr rfl, ?_⟩
      unfold nameRes
      rw [if_neg (b2 hl)]
  · refine Or.inr ⟨Or.inl hi, ?_⟩
    unfold nameRes
    rw [if_neg]
    refine nameIx_none (fun j hj e => ?_)
    rw [hlen] at hj
    obtain ⟨q, h1, h2, h3⟩ := pos_inv _ hj
    subst h3
    rw [behind_name h1 h2] at e
    exact hi (by
      by_cases hx : nameIx st.2.2 m < st.2.2.length
      · exact hx
      · exfalso
        have : ∀ j, j < st.2.2.length → ¬ (el st.2.2 j = m) := fun j hj e2 => by
          refine hx ?_
          unfold nameIx
          rw [List.findIdx_lt_length]
          refine ⟨st.2.2[j], List.getElem_mem hj, ?_⟩
          simp only [decide_eq_true_eq]
          rw [← e2]
          simp [el, hj]
        exact this q (by omega) e)

set_option maxRecDepth 4000 in
set_option maxHeartbeats 4000000 in
theorem weightThere_any (v : Value) (st : St) (w : World) (h : StateAt w v st) (hs : SoSt st) {d : Pr} (hd : ∀ i, d i < 100) :
    Calls Try.prog 59 #[v, pv d] w fun e w' => e = .returned (.int .i64 (wtP st d)) ∧ Below w.heap.size w w' := by
  have HST := hide h
  have HSO := hide hs
  have HD := hide hd
  obtain ⟨a1, q1, a2, q2, a3, q3, rfl⟩ := h.form
  obtain ⟨l1, l2, l3, l4⟩ := hs.lens
  clear h hs hd l4
  unfold pv pc5
  go_enter Try.func59, Try.ntmps59
  go_wp2_with fail
  obtain ⟨V, hV⟩ : ∃ V, V = (w.alloc (.cells #[.slice a1 st.1.length q1, .slice a2 st.2.1.length q2, .slice a3 st.2.2.length q3] 30)).alloc (.cells #[.int .i8 (d 0), .int .i8 (d 1), .int .i8 (d 2), .int .i8 (d 3), .int .i8 (d 4)] 59) := ⟨_, rfl⟩
  rw [← hV]
  have HBV : Hid (Below w.heap.size w V) := by rw [hV]; exact Joins.below_alloc2 _ _ _
  have HP : Hid (V.heap[w.heap.size + 1]? = some (.cells #[.int .i8 (d 0), .int .i8 (d 1), .int .i8 (d 2), .int .i8 (d 3), .int .i8 (d 4)] 59 (0, 0))) := by rw [hV]; exact heap_alloc2_new _ _ _
  clear hV
  go_loopw [5, 11] (fun u i wr => ∃ k : Nat, k ≤ st.2.1.length ∧ i = .int .i64 k ∧ u = .int .i64 (wtR st.2.1 d k) ∧ Below V.heap.size V wr) (fun _ i _ => st.2.1.length - (intOf i).toNat)
  case atStart => exact ⟨0, Nat.zero_le _, rfl, rfl, Below.refl _ _⟩
  case round =>
    obtain ⟨k, hk, rfl, rfl, hb⟩ := hrel
    by_cases hlt : k < st.2.1.length
    · have hbw := below_tail HBV.out hb
      obtain ⟨b, off, rfl, vp, t0, t1, hI, t2⟩ := HST.out.parts.2.1.trainAt k hlt
      obtain ⟨ap, cp, rfl, -⟩ := hI
      have g0 := cell_later hbw t0
      have g1 := cell_later hbw t1
      have g2 := cell_later hbw t2
      obtain ⟨p0, p1, p2, p3, p4⟩ := cells5 (blockLater hb HP.out)
      have h8 := (HSO.out.train k hlt).2.2.1
      have hy := (HSO.out.train k hlt).2.2.2
      have hplt : w.heap.size + 1 < wr.heap.size := (Array.getElem?_eq_some_iff.1 (blockLater hb HP.out)).1
      have hdk := HD.out k
      obtain ⟨s0, s1⟩ := wtR_le HSO.out d k hk
      have HB := hide hb
      have HLB : Hid (leftB st.2.1 d k = decide ((tPath st.2.1 k).length < d k)) := rfl
      have HW := hide (show wtR st.2.1 d (k + 1) = wtR st.2.1 d k + if leftB st.2.1 d k = true then 0 else tWt st.2.1 k from rfl)
      have hy1 := hy.1
      have hy2 := hy.2.1
      clear t0 t1 t2 hb hbw hy
      generalize (tPath st.2.1 k).length = ln at *
      generalize tAt st.2.1 k = xa at *
      generalize tWt st.2.1 k = ya at *
      generalize wtR st.2.1 d k = sm at *
      go_wp2_with fail
      refine (hasLeft_any d _ _ _ _ _ k _ (by omega) hdk (by omega)).mono ?_
      rintro e w2 ⟨rfl, hb2⟩
      have hnew := blockLater hb2 (heap_alloc_new wr (.cells #[.int .i64 xa, .slice ap ln cp, .int .i64 ya] 63))
      obtain ⟨y0, y1, y2, _⟩ := block3 hnew
      have HB2 := hide (below_tail HB.out (below_tail (Joins.below_alloc1 wr (.cells #[.int .i64 xa, .slice ap ln cp, .int .i64 ya] 63)) hb2))
      clear hb2 p0 p1 p2 p3 p4 g0 g1 g2 hnew
      cases hle : decide (ln < d k) with
      | true =>
        rw [hle] at HLB
        rw [HLB.out] at HW
        clear hle
        go_wp2_with fail
        go_roundw
        case rel => exact ⟨k + 1, by omega, by go_num, by rw [HW.out]; simp, HB2.out⟩
        case measure => simp [intOf]; omega
      | false =>
        rw [hle] at HLB
        rw [HLB.out] at HW
        clear hle
        go_wp2_with fail
        go_roundw
        case rel => exact ⟨k + 1, by omega, by go_num, by rw [HW.out]; simp, HB2.out⟩
        case measure => simp [intOf]; omega
    · obtain rfl : k = st.2.1.length := by omega
      go_wp2_with fail
      go_ret
      exact ⟨rfl, below_tail HBV.out hb⟩
end Go.Proofs.Ytmjjigdnoiphbab
