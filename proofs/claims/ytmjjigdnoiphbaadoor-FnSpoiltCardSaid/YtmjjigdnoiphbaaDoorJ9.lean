import Derived.Test.YtmjjigdnoiphbaaDoorSf6
import Derived.Test.YtmjjigdnoiphbaaDoorJ8
import Derived.Test.YtmjjigdnoiphbaaDoorJ1
/-
  THE COST OF MOVES, as mathematics; impl: weightThere.
-/
namespace Go.Proofs.YtmjjigdnoiphbaaDoor
open Go.RowKit Go.Deep Go.Maps
set_option linter.unusedVariables false

/-- the weights of those of the first k trains that are there yet -/
def wtR (ts : List Tr) (d : Pr) : Nat → Int
  | 0 => 0
  | k + 1 => wtR ts d k + if leftB ts d k = true then 0 else tWt ts k
def wtP (st : St) (d : Pr) : Int := wtR st.2.1 d st.2.1.length
theorem wt_up {st : St} {d : Pr} : ∀ k, k ≤ st.2.1.length → wtUp (behindSt st d).2.1 (posUp st.2.1 d k) = wtR st.2.1 d k
  | 0, _ => rfl
  | k + 1, hk => by
    have ih := wt_up (st := st) (d := d) k (by omega)
    cases hl : leftB st.2.1 d k
    · simp only [posUp, wtR, hl, Bool.false_eq_true, if_false]
      simp only [wtUp]
      rw [ih, (behind_at (by omega) hl).2.2]
    · simp only [posUp, wtR, hl, if_true, Nat.add_zero]
      rw [ih]
      simp
theorem wt_behind {st : St} {d : Pr} : wtOf (behindSt st d) = wtP st d := by
  unfold wtOf wtP
  rw [behind_len]
  exact wt_up _ (Nat.le_refl _)
theorem wtR_le {st : St} (h : SoSt st) (d : Pr) : ∀ k, k ≤ st.2.1.length → 0 ≤ wtR st.2.1 d k ∧ wtR st.2.1 d k ≤ 100 * k
  | 0, _ => by simp [wtR]
  | k + 1, hk => by
    have ih := wtR_le h d k (by omega)
    have := h.train k (by omega)
    simp only [wtR]
    split <;> omega
theorem wtP_le {st : St} (h : SoSt st) (d : Pr) : 0 ≤ wtP st d ∧ wtP st d ≤ 500 := by
  have := wtR_le h d st.2.1.length (Nat.le_refl _)
  have := h.lens.2.2.1
  unfold wtP
  omega
theorem wtR_pos {st : St} (h : SoSt st) (d : Pr) {i : Nat} (hl : leftB st.2.1 d i = false) : ∀ k, k ≤ st.2.1.length → i < k → 1 ≤ wtR st.2.1 d k
  | 0, _, hi => absurd hi (Nat.not_lt_zero _)
  | k + 1, hk, hi => by
    have h1 := wtR_le h d k (by omega)
    have h2 := h.train k (by omega)
    simp only [wtR]
    by_cases e : i = k
    · subst e
      rw [hl]
      simp
      omega
    · have := wtR_pos h d hl k (by omega) (by omega)
      split <;> omega
theorem wtP_pos {st : St} (h : SoSt st) (d : Pr) {i : Nat} (hi : i < st.2.1.length) (hl : leftB st.2.1 d i = false) : 1 ≤ wtP st d := wtR_pos h d hl _ (Nat.le_refl _) hi
theorem posUp_zero {ts : List Tr} {d : Pr} : ∀ k, posUp ts d k = 0 ↔ ∀ j, j < k → leftB ts d j = true
  | 0 => by simp [posUp]
  | k + 1 => by
    have ih := posUp_zero (ts := ts) (d := d) k
    simp only [posUp]
    constructor
    · intro h j hj
      by_cases e : j = k
      · subst e
        cases hl : leftB ts d j
        · rw [hl] at h; simp at h
        · rfl
      · exact ih.1 (by omega) j (by omega)
    · intro h
      rw [ih.2 (fun j hj => h j (by omega)), h k (by omega)]
      simp
theorem behind_none {st : St} {d : Pr} : (behindSt st d).2.1.length = 0 ↔ allLeft st d = true := by
  rw [behind_len, posUp_zero]
  constructor
  · exact fun h => allUp_true h
  · intro h j hj
    cases e : leftB st.2.1 d j
    · have := allUp_false (f := leftB st.2.1 d) j hj e
      unfold allLeft at h
      rw [this] at h
      exact absurd h (by decide)
    · rfl

/-- what moves cost from a progress on, n being paid -/
def costD (st : St) : List Int → Pr → Int → Int
  | [], d, n => bif allLeft st d then n else -1
  | m :: ms, d, n => if nameIx st.2.2 m < st.2.2.length ∧ canP st d (nameIx st.2.2 m) = true then costD st ms (bump d (nameIx st.2.2 m)) (n + wtP st d) else -1
def costF (st : St) (ms : List Int) : Int := if stOk st = 0 ∧ ms.length ≤ 45 then costD st ms pz 0 else -1
theorem drop_el {ms : List Int} {k : Nat} (hk : k < ms.length) : ms.drop k = el ms k :: ms.drop (k + 1) := by
  rw [List.drop_eq_getElem_cons hk]
  congr 1
  simp [el, hk]

/-- the place of a number among those that are there yet -/
theorem nameRes_behind {st : St} (h : RightSt st) {d : Pr} (hd : PrOk st d) (m : Int) :
    (nameIx st.2.2 m < st.2.2.length ∧ leftB st.2.1 d (nameIx st.2.2 m) = false ∧ nameRes (behindSt st d).2.2 m = (posUp st.2.1 d (nameIx st.2.2 m) : Nat)) ∨ ((¬ nameIx st.2.2 m < st.2.2.length ∨ leftB st.2.1 d (nameIx st.2.2 m) = true) ∧ nameRes (behindSt st d).2.2 m = -1) := by
  have hn := h.lens.2.2.2
  have hlen : (behindSt st d).2.2.length = posUp st.2.1 d st.2.1.length := bhN_len _ _ _ _
  by_cases hi : nameIx st.2.2 m < st.2.2.length
  · have e : el st.2.2 (nameIx st.2.2 m) = m := by
      have := List.findIdx_getElem (w := hi) (p := fun y => decide (y = m))
      simp only [decide_eq_true_eq] at this
      unfold el
      rw [List.getElem?_eq_getElem hi]
      exact this
    obtain ⟨b1, b2⟩ := nameIx_behind h (d := d) (i := nameIx st.2.2 m) (by omega)
    rw [e] at b1 b2
    cases hl : leftB st.2.1 d (nameIx st.2.2 m)
    · refine Or.inl ⟨hi, rfl, ?_⟩
      unfold nameRes
      rw [b1 hl, if_pos]
      rw [hlen]
      exact posUp_lt (by omega) hl
    · refine Or.inr ⟨Or.inr rfl, ?_⟩
      unfold nameRes
      rw [if_neg (b2 hl)]
  · refine Or.inr ⟨Or.inl hi, ?_⟩
    unfold nameRes
    rw [if_neg]
    refine nameIx_none (fun j hj e => ?_)
    rw [hlen] at hj
    obtain ⟨q, h1, h2, h3⟩ := pos_inv _ hj
    subst h3
    rw [behind_name h1 h2] at e
    exact hi (by
      by_cases hx : nameIx st.2.2 m < st.2.2.length
      · exact hx
      · exfalso
        have : ∀ j, j < st.2.2.length → ¬ (el st.2.2 j = m) := fun j hj e2 => by
          refine hx ?_
          unfold nameIx
          rw [List.findIdx_lt_length]
          refine ⟨st.2.2[j], List.getElem_mem hj, ?_⟩
          simp only [decide_eq_true_eq]
          rw [← e2]
          simp [el, hj]
        exact this q (by omega) e)

set_option maxRecDepth 4000 in
set_option maxHeartbeats 4000000 in
theorem weightThere_any (v : Value) (st : St) (w : World) (h : StateAt w v st) (hs : SoSt st) {d : Pr} (hd : ∀ i, d i < 100) :
    Calls Tryd.prog 58 #[v, pv d] w fun e w' => e = .returned (.int .i64 (wtP st d)) ∧ Below w.heap.size w w' := by
  have HST := hide h
  have HSO := hide hs
  have HD := hide hd
  obtain ⟨a1, q1, a2, q2, a3, q3, rfl⟩ := h.form
  obtain ⟨l1, l2, l3, l4⟩ := hs.lens
  clear h hs hd l4
  unfold pv pc5
  go_enter Tryd.func58, Tryd.ntmps58
  go_wp2_with fail
  obtain ⟨V, hV⟩ : ∃ V, V = (w.alloc (.cells #[.slice a1 st.1.length q1, .slice a2 st.2.1.length q2, .slice a3 st.2.2.length q3] 26)).alloc (.cells #[.int .i8 (d 0), .int .i8 (d 1), .int .i8 (d 2), .int .i8 (d 3), .int .i8 (d 4)] 61) := ⟨_, rfl⟩
  rw [← hV]
  have HBV : Hid (Below w.heap.size w V) := by rw [hV]; exact Joins.below_alloc2 _ _ _
  have HP : Hid (V.heap[w.heap.size + 1]? = some (.cells #[.int .i8 (d 0), .int .i8 (d 1), .int .i8 (d 2), .int .i8 (d 3), .int .i8 (d 4)] 61 (0, 0))) := by rw [hV]; exact heap_alloc2_new _ _ _
  clear hV
  go_loopw [5, 11] (fun u i wr => ∃ k : Nat, k ≤ st.2.1.length ∧ i = .int .i64 k ∧ u = .int .i64 (wtR st.2.1 d k) ∧ Below V.heap.size V wr) (fun _ i _ => st.2.1.length - (intOf i).toNat)
  case atStart => exact ⟨0, Nat.zero_le _, rfl, rfl, Below.refl _ _⟩
  case round =>
    obtain ⟨k, hk, rfl, rfl, hb⟩ := hrel
    by_cases hlt : k < st.2.1.length
    · have hbw := below_tail HBV.out hb
      obtain ⟨b, off, rfl, vp, t0, t1, hI, t2⟩ := HST.out.parts.2.1.trainAt k hlt
      obtain ⟨ap, cp, rfl, -⟩ := hI
      have g0 := cell_later hbw t0
      have g1 := cell_later hbw t1
      have g2 := cell_later hbw t2
      obtain ⟨p0, p1, p2, p3, p4⟩ := cells5 (blockLater hb HP.out)
      have h8 := (HSO.out.train k hlt).2.2.1
      have hy := (HSO.out.train k hlt).2.2.2
      have hplt : w.heap.size + 1 < wr.heap.size := (Array.getElem?_eq_some_iff.1 (blockLater hb HP.out)).1
      have hdk := HD.out k
      obtain ⟨s0, s1⟩ := wtR_le HSO.out d k hk
      have HB := hide hb
      have HLB : Hid (leftB st.2.1 d k = decide ((tPath st.2.1 k).length < d k)) := rfl
      have HW := hide (show wtR st.2.1 d (k + 1) = wtR st.2.1 d k + if leftB st.2.1 d k = true then 0 else tWt st.2.1 k from rfl)
      have hy1 := hy.1
      have hy2 := hy.2.1
      clear t0 t1 t2 hb hbw hy
      generalize (tPath st.2.1 k).length = ln at *
      generalize tAt st.2.1 k = xa at *
      generalize tWt st.2.1 k = ya at *
      generalize wtR st.2.1 d k = sm at *
      go_wp2_with fail
      refine (hasLeft_any d _ _ _ _ _ k _ (by omega) hdk (by omega)).mono ?_
      rintro e w2 ⟨rfl, hb2⟩
      have hnew := blockLater hb2 (heap_alloc_new wr (.cells #[.int .i64 xa, .slice ap ln cp, .int .i64 ya] 35))
      obtain ⟨y0, y1, y2, _⟩ := block3 hnew
      have HB2 := hide (below_tail HB.out (below_tail (Joins.below_alloc1 wr (.cells #[.int .i64 xa, .slice ap ln cp, .int .i64 ya] 35)) hb2))
      clear hb2 p0 p1 p2 p3 p4 g0 g1 g2 hnew
      cases hle : decide (ln < d k) with
      | true =>
        rw [hle] at HLB
        rw [HLB.out] at HW
        clear hle
        go_wp2_with fail
        go_roundw
        case rel => exact ⟨k + 1, by omega, by go_num, by rw [HW.out]; simp, HB2.out⟩
        case measure => simp [intOf]; omega
      | false =>
        rw [hle] at HLB
        rw [HLB.out] at HW
        clear hle
        go_wp2_with fail
        go_roundw
        case rel => exact ⟨k + 1, by omega, by go_num, by rw [HW.out]; simp, HB2.out⟩
        case measure => simp [intOf]; omega
    · obtain rfl : k = st.2.1.length := by omega
      go_wp2_with fail
      go_ret
      exact ⟨rfl, below_tail HBV.out hb⟩
end Go.Proofs.YtmjjigdnoiphbaaDoor

/-
  A HEAP, as mathematics: a row of so many, each with its key.
-/
namespace Go.Proofs.YtmjjigdnoiphbaaDoor
set_option linter.unusedVariables false

section heap
variable {α : Type} {key : α → Int} {f : Nat → α} {n : Nat}
def swp (f : Nat → α) (i j : Nat) : Nat → α := fun k => if k = i then f j else if k = j then f i else f k
def updA (f : Nat → α) (i : Nat) (x : α) : Nat → α := fun k => if k = i then x else f k
def Has (f : Nat → α) (n : Nat) (x : α) : Prop := ∃ k, k < n ∧ f k = x
theorem has_swp_of {i j : Nat} {x : α} (hi : i < n) (hj : j < n) (h : Has f n x) : Has (swp f i j) n x := by
  obtain ⟨k, hk, e⟩ := h
  by_cases h1 : k = i
  · subst h1
    by_cases h2 : j = k
    · subst h2; exact ⟨j, hj, by simp [swp, e]⟩
    · exact ⟨j, hj, by unfold swp; rw [if_neg h2, if_pos rfl]; exact e⟩
  · by_cases h2 : k = j
    · subst h2; exact ⟨i, hi, by unfold swp; rw [if_pos rfl]; exact e⟩
    · exact ⟨k, hk, by unfold swp; rw [if_neg h1, if_neg h2]; exact e⟩
theorem swp_swp (i j : Nat) : swp (swp f i j) i j = f := by
  funext k
  unfold swp
  by_cases h1 : k = i
  · subst h1
    rw [if_pos rfl]
    by_cases h2 : j = k
    · rw [if_pos h2, h2]
    · rw [if_neg h2, if_pos rfl]
  · rw [if_neg h1]
    by_cases h2 : k = j
    · subst h2; rw [if_pos rfl, if_pos rfl]
    · rw [if_neg h2, if_neg h1, if_neg h2]
theorem has_swp {i j : Nat} {x : α} (hi : i < n) (hj : j < n) : Has (swp f i j) n x ↔ Has f n x :=
  ⟨fun h => by have := has_swp_of hi hj h; rw [swp_swp] at this; exact this, has_swp_of hi hj⟩

def HeapOk (key : α → Int) (f : Nat → α) (n : Nat) : Prop := ∀ i, 0 < i → i < n → key (f ((i - 1) / 2)) ≤ key (f i)
theorem HeapOk.top (h : HeapOk key f n) : ∀ i, i < n → key (f 0) ≤ key (f i) := fun i => by
  induction i using Nat.strongRecOn with
  | _ i ih =>
    intro hi
    by_cases h0 : i = 0
    · subst h0; exact Int.le_refl _
    · exact Int.le_trans (ih ((i - 1) / 2) (by omega) (by omega)) (h i (by omega) hi)
theorem HeapOk.least (h : HeapOk key f n) {x : α} (hx : Has f n x) : key (f 0) ≤ key x := by
  obtain ⟨k, hk, rfl⟩ := hx
  exact h.top k hk

/-- a heap but for one that may have to go up -/
structure UpInv (key : α → Int) (f : Nat → α) (n c : Nat) : Prop where
  lt : c < n
  ord : ∀ i, 0 < i → i < n → i ≠ c → key (f ((i - 1) / 2)) ≤ key (f i)
  kids : ∀ i, 0 < i → i < n → (i - 1) / 2 = c → 0 < c → key (f ((c - 1) / 2)) ≤ key (f i)
theorem HeapOk.pushed (h : HeapOk key f n) (x : α) : UpInv key (updA f n x) (n + 1) n :=
  ⟨by omega, fun i h0 hi hne => by
    unfold updA
    rw [if_neg (by omega), if_neg hne]
    exact h i h0 (by omega), fun i h0 hi hp _ => by omega⟩
theorem UpInv.done {c : Nat} (h : UpInv key f n c) (hc : c = 0 ∨ key (f ((c - 1) / 2)) ≤ key (f c)) : HeapOk key f n := fun i h0 hi => by
  by_cases e : i = c
  · subst e
    rcases hc with hc | hc
    · omega
    · exact hc
  · exact h.ord i h0 hi e
theorem UpInv.up {c : Nat} (h : UpInv key f n c) (h0 : 0 < c) (hlt : key (f c) < key (f ((c - 1) / 2))) : UpInv key (swp f c ((c - 1) / 2)) n ((c - 1) / 2) := by
  have hcn := h.lt
  obtain ⟨p, hp⟩ : ∃ p, p = (c - 1) / 2 := ⟨_, rfl⟩
  rw [← hp] at hlt ⊢
  have hpc : p < c := by omega
  refine ⟨by omega, fun i hi0 hi hne => ?_, fun i hi0 hi hpar hp0 => ?_⟩
  · by_cases e : i = c
    · subst e
      unfold swp
      rw [← hp, if_neg (by omega), if_pos rfl, if_pos rfl]
      exact Int.le_of_lt hlt
    · have hi2 : swp f c p i = f i := by unfold swp; rw [if_neg e, if_neg hne]
      rw [hi2]
      by_cases e2 : (i - 1) / 2 = c
      · rw [e2]
        have : swp f c p c = f p := by unfold swp; rw [if_pos rfl]
        rw [this, hp]
        exact h.kids i hi0 hi e2 h0
      · by_cases e3 : (i - 1) / 2 = p
        · have h1 := h.ord i hi0 hi e
          rw [e3] at h1 ⊢
          have : swp f c p p = f c := by unfold swp; rw [if_neg (by omega), if_pos rfl]
          rw [this]
          omega
        · have : swp f c p ((i - 1) / 2) = f ((i - 1) / 2) := by unfold swp; rw [if_neg e2, if_neg e3]
          rw [this]
          exact h.ord i hi0 hi e
  · have hq : swp f c p ((p - 1) / 2) = f ((p - 1) / 2) := by unfold swp; rw [if_neg (by omega), if_neg (by omega)]
    rw [hq]
    have h1 := h.ord p hp0 (by omega) (by omega)
    by_cases e : i = c
    · subst e
      have : swp f i p i = f p := by unfold swp; rw [if_pos rfl]
      rw [this]
      exact h1
    · have : swp f c p i = f i := by unfold swp; rw [if_neg e, if_neg (by omega)]
      rw [this]
      have h2 := h.ord i hi0 hi e
      rw [hpar] at h2
      omega

/-- a heap but for one that may have to go down -/
structure DownInv (key : α → Int) (f : Nat → α) (n p : Nat) : Prop where
  ord : ∀ i, 0 < i → i < n → (i - 1) / 2 ≠ p → key (f ((i - 1) / 2)) ≤ key (f i)
  kids : ∀ i, 0 < i → i < n → (i - 1) / 2 = p → 0 < p → key (f ((p - 1) / 2)) ≤ key (f i)
theorem HeapOk.popped (h : HeapOk key f (n + 1)) : DownInv key (updA f 0 (f n)) n 0 :=
  ⟨fun i h0 hi hne => by
    unfold updA
    rw [if_neg hne, if_neg (by omega)]
    exact h i h0 (by omega), fun i _ _ _ hp => absurd hp (Nat.lt_irrefl _)⟩
/-- the least of a place and its children -/
structure LeastOf (key : α → Int) (f : Nat → α) (n p l : Nat) : Prop where
  at_ : l = p ∨ (l < n ∧ 0 < l ∧ (l - 1) / 2 = p ∧ key (f l) < key (f p))
  le : ∀ i, 0 < i → i < n → (i - 1) / 2 = p → key (f l) ≤ key (f i)
theorem DownInv.done {p : Nat} (h : DownInv key f n p) (hl : LeastOf key f n p p) : HeapOk key f n := fun i h0 hi => by
  by_cases e : (i - 1) / 2 = p
  · rw [e]; exact hl.le i h0 hi e
  · exact h.ord i h0 hi e
theorem DownInv.down {p l : Nat} (h : DownInv key f n p) (hl : LeastOf key f n p l) (hne : l ≠ p) : DownInv key (swp f p l) n l := by
  obtain ⟨h1, h2, h3, h4⟩ : l < n ∧ 0 < l ∧ (l - 1) / 2 = p ∧ key (f l) < key (f p) := by
    rcases hl.at_ with e | e
    · exact absurd e hne
    · exact e
  have sp : swp f p l p = f l := by unfold swp; rw [if_pos rfl]
  have sl : swp f p l l = f p := by unfold swp; rw [if_neg hne, if_pos rfl]
  have so : ∀ k, k ≠ p → k ≠ l → swp f p l k = f k := fun k e1 e2 => by unfold swp; rw [if_neg e1, if_neg e2]
  refine ⟨fun i hi0 hi hp => ?_, fun i hi0 hi hp _ => ?_⟩
  · by_cases e : i = l
    · subst e
      rw [h3, sp, sl]
      exact Int.le_of_lt h4
    · by_cases e2 : (i - 1) / 2 = p
      · rw [e2, sp, so i (by omega) e]
        exact hl.le i hi0 hi e2
      · by_cases e3 : i = p
        · subst e3
          rw [sp, so _ e2 hp]
          exact h.kids l h2 h1 h3 hi0
        · rw [so _ e2 hp, so _ e3 e]
          exact h.ord i hi0 hi e2
  · rw [h3, sp, so i (by omega) (by omega)]
    have := h.ord i hi0 hi (by omega)
    rw [hp] at this
    exact this
theorem has_popped {x : α} : Has f (n + 1) x ↔ x = f 0 ∨ Has (updA f 0 (f n)) n x := by
  constructor
  · rintro ⟨k, hk, rfl⟩
    by_cases h0 : k = 0
    · subst h0; exact Or.inl rfl
    · by_cases h1 : k = n
      · subst h1
        exact Or.inr ⟨0, by omega, by simp [updA]⟩
      · exact Or.inr ⟨k, by omega, by unfold updA; rw [if_neg h0]⟩
  · rintro (rfl | ⟨k, hk, e⟩)
    · exact ⟨0, by omega, rfl⟩
    · unfold updA at e
      by_cases h0 : k = 0
      · rw [if_pos h0] at e; exact ⟨n, by omega, e⟩
      · rw [if_neg h0] at e; exact ⟨k, by omega, e⟩
theorem has_pushed {x y : α} : Has (updA f n y) (n + 1) x ↔ x = y ∨ Has f n x := by
  constructor
  · rintro ⟨k, hk, e⟩
    unfold updA at e
    by_cases h0 : k = n
    · rw [if_pos h0] at e; exact Or.inl e.symm
    · rw [if_neg h0] at e; exact Or.inr ⟨k, by omega, e⟩
  · rintro (rfl | ⟨k, hk, e⟩)
    · exact ⟨n, by omega, by simp [updA]⟩
    · exact ⟨k, by omega, by unfold updA; rw [if_neg (by omega)]; exact e⟩
end heap
end Go.Proofs.YtmjjigdnoiphbaaDoor

/-
  THE BEST ORDER, as mathematics: what is left to pay, the best move, the search from the end on.
-/
namespace Go.Proofs.YtmjjigdnoiphbaaDoor
open Go.RowKit Go.Deep Go.Maps
set_option linter.unusedVariables false

/-- every section has room for those that are on it -/
def FitP (st : St) (d : Pr) : Prop := ∀ s : Nat, s < st.1.length → (cntUp st.2.1 d (s : Int) st.2.1.length : Int) ≤ el st.1 s
theorem fit_pz {st : St} (h : RightSt st) : FitP st pz := fun s hs => by
  have := allUp_at h.fits s hs
  rw [cntUp_pz]
  exact of_decide_eq_true this
def one (b : Bool) : Nat := if b = true then 1 else 0
theorem onB_bump {ts : List Tr} {d : Pr} {m i : Nat} {s : Int} (h : i ≠ m) : onB ts (bump d m) s i = onB ts d s i := by
  have : bump d m i = d i := by unfold bump; rw [if_neg h]
  unfold onB leftB
  rw [this]
theorem cntUp_succ (ts : List Tr) (d : Pr) (s : Int) (k : Nat) : cntUp ts d s (k + 1) = cntUp ts d s k + one (onB ts d s k) := by
  simp [cntUp, one]
theorem cnt_bump0 {ts : List Tr} {d : Pr} {m : Nat} {s : Int} : ∀ k, k ≤ m → cntUp ts (bump d m) s k = cntUp ts d s k
  | 0, _ => rfl
  | k + 1, hk => by rw [cntUp_succ, cntUp_succ, cnt_bump0 k (by omega), onB_bump (by omega)]
theorem cnt_bump {ts : List Tr} {d : Pr} {m : Nat} {s : Int} : ∀ k, m < k → cntUp ts (bump d m) s k + one (onB ts d s m) = cntUp ts d s k + one (onB ts (bump d m) s m)
  | 0, h => absurd h (Nat.not_lt_zero _)
  | k + 1, h => by
    rw [cntUp_succ, cntUp_succ]
    by_cases e : m = k
    · subst e
      rw [cnt_bump0 m (Nat.le_refl _)]
      omega
    · have := cnt_bump (ts := ts) (d := d) (s := s) k (show m < k by omega)
      rw [onB_bump (i := k) (by omega)]
      omega
theorem bump_at (d : Pr) (m : Nat) : bump d m m = d m + 1 := by unfold bump; rw [if_pos rfl]
/-- where a train stands, and where it goes next, are two sections -/
theorem RightSt.apart {st : St} (h : RightSt st) {m : Nat} (hm : m < st.2.1.length) {k : Nat} (hk : k < (tPath st.2.1 m).length) : el (tPath st.2.1 m) k ≠ farAt (tAt st.2.1 m) (tPath st.2.1 m) k := by
  have h1 := allUp_at h.trains m hm
  simp only [trainB, Bool.and_eq_true] at h1
  have h2 := allUp_at h1.2.2.2 k hk
  simp only [stepB, Bool.and_eq_true, Bool.not_eq_true', beq_eq_false_iff_ne] at h2
  have e : prev (tAt st.2.1 m) (tPath st.2.1 m) k = farAt (tAt st.2.1 m) (tPath st.2.1 m) k := by
    cases k with
    | zero => rfl
    | succ j => simp [prev, farAt]
  rw [← e]
  exact h2.2
theorem far_ok {st : St} (h : SoSt st) {m : Nat} (hm : m < st.2.1.length) {k : Nat} (hk : k ≤ (tPath st.2.1 m).length) : 0 ≤ farAt (tAt st.2.1 m) (tPath st.2.1 m) k ∧ farAt (tAt st.2.1 m) (tPath st.2.1 m) k < st.1.length := by
  obtain ⟨h1, h2, h3, h4, h5, h6⟩ := h.train m hm
  unfold farAt
  split
  · exact ⟨h1, h2⟩
  · exact h6 _ (by omega)
theorem onB_eq {ts : List Tr} {d : Pr} {m : Nat} {s : Int} (hl : leftB ts d m = false) : onB ts d s m = decide (farAt (tAt ts m) (tPath ts m) (d m) = s) := by
  unfold onB
  rw [hl]
  simp only [Bool.not_false, Bool.true_and]
  by_cases h : farAt (tAt ts m) (tPath ts m) (d m) = s <;> simp [h]
theorem onB_left {ts : List Tr} {d : Pr} {m : Nat} {s : Int} (hl : leftB ts d m = true) : onB ts d s m = false := by
  unfold onB
  rw [hl]
  rfl
theorem one_le (b : Bool) : one b ≤ 1 := by unfold one; split <;> omega

/-- a move that can be done leads where all have room -/
theorem fit_bump {st : St} (h : RightSt st) {d : Pr} (hf : FitP st d) {m : Nat} (hm : m < st.2.1.length) (hc : canP st d m = true) : FitP st (bump d m) := fun s hs => by
  have e := cnt_bump (ts := st.2.1) (d := d) (s := (s : Int)) st.2.1.length hm
  have hfs := hf s hs
  cases hl2 : leftB st.2.1 (bump d m) m
  · have e2 := onB_eq (s := (s : Int)) hl2
    rw [bump_at] at e2
    have hfar : farAt (tAt st.2.1 m) (tPath st.2.1 m) (d m + 1) = el (tPath st.2.1 m) (d m) := by simp [farAt]
    rw [hfar] at e2
    by_cases hy : el (tPath st.2.1 m) (d m) = (s : Int)
    · have hlt : ¬ (tPath st.2.1 m).length < d m + 1 := by
        have := hl2
        unfold leftB at this
        rw [bump_at] at this
        exact of_decide_eq_false this
      have hcan : (cntUp st.2.1 d (s : Int) st.2.1.length : Int) < el st.1 s := by
        unfold canP at hc
        simp only [Bool.and_eq_true, Bool.or_eq_true, decide_eq_true_eq] at hc
        rcases hc.2 with h1 | h1
        · omega
        · rw [hy] at h1
          simpa using h1
      have h1 := one_le (onB st.2.1 (bump d m) (s : Int) m)
      omega
    · rw [e2] at e
      have : one (decide (el (tPath st.2.1 m) (d m) = (s : Int))) = 0 := by simp [one, hy]
      rw [this] at e
      omega
  · rw [onB_left hl2] at e
    have : one false = 0 := rfl
    rw [this] at e
    omega
/-- against a move: only the section that the train came from can have been too full -/
theorem fit_back {st : St} (h : RightSt st) {d : Pr} {m : Nat} (hm : m < st.2.1.length) (hl : leftB st.2.1 d m = false) (hf : FitP st (bump d m)) :
    (FitP st d ↔ (cntUp st.2.1 d (farAt (tAt st.2.1 m) (tPath st.2.1 m) (d m)) st.2.1.length : Int) ≤ el st.1 (farAt (tAt st.2.1 m) (tPath st.2.1 m) (d m)).toNat) ∧ (FitP st d → canP st d m = true) := by
  have hdm : d m ≤ (tPath st.2.1 m).length := by
    unfold leftB at hl
    have := of_decide_eq_false hl
    omega
  obtain ⟨x0, x1⟩ := far_ok h.so hm hdm
  have hX : ((farAt (tAt st.2.1 m) (tPath st.2.1 m) (d m)).toNat : Int) = farAt (tAt st.2.1 m) (tPath st.2.1 m) (d m) := by omega
  refine ⟨⟨fun hfd => ?_, fun hx s hs => ?_⟩, fun hfd => ?_⟩
  · have := hfd (farAt (tAt st.2.1 m) (tPath st.2.1 m) (d m)).toNat (by omega)
    rw [hX] at this
    exact this
  · by_cases e : (s : Int) = farAt (tAt st.2.1 m) (tPath st.2.1 m) (d m)
    · rw [← e] at hx
      simpa using hx
    · have e1 := cnt_bump (ts := st.2.1) (d := d) (s := (s : Int)) st.2.1.length hm
      have : one (onB st.2.1 d (s : Int) m) = 0 := by
        rw [onB_eq hl]
        simp [one, Ne.symm e]
      have h2 := hf s hs
      omega
  · unfold canP
    rw [hl]
    simp only [Bool.not_false, Bool.true_and, Bool.or_eq_true, decide_eq_true_eq]
    by_cases e : (tPath st.2.1 m).length = d m
    · exact Or.inl e
    · refine Or.inr ?_
      obtain ⟨y0, y1⟩ := (h.so.train m hm).2.2.2.2.2 (d m) (by omega)
      have hap := h.apart hm (k := d m) (by omega)
      generalize hY : el (tPath st.2.1 m) (d m) = Y at *
      have hYn : ((Y.toNat : Nat) : Int) = Y := by omega
      have e1 := cnt_bump (ts := st.2.1) (d := d) (s := Y) st.2.1.length hm
      have h0 : one (onB st.2.1 d Y m) = 0 := by
        rw [onB_eq hl]
        simp [one, Ne.symm hap]
      have hl2 : leftB st.2.1 (bump d m) m = false := by
        unfold leftB
        rw [bump_at]
        exact decide_eq_false (by omega)
      have h1 : one (onB st.2.1 (bump d m) Y m) = 1 := by
        rw [onB_eq hl2, bump_at]
        simp [one, farAt, hY]
      have h2 := hf Y.toNat (by omega)
      rw [hYn] at h2
      omega

theorem overUp_min {st : St} {g : Nat → Int} {wt : Int} (hw : 0 ≤ wt) : ∀ k, (0 ≤ overUp st g wt k → ∃ i, i < k ∧ canB st i = true ∧ 0 ≤ g i ∧ overUp st g wt k = g i + wt) ∧ ∀ i, i < k → canB st i = true → 0 ≤ g i → 0 ≤ overUp st g wt k ∧ overUp st g wt k ≤ g i + wt
  | 0 => ⟨fun h => by simp [overUp] at h, fun i hi => absurd hi (Nat.not_lt_zero _)⟩
  | k + 1 => by
    obtain ⟨h1, h2⟩ := overUp_min (st := st) (g := g) hw k
    have e : overUp st g wt (k + 1) = lesser (canB st k) (overUp st g wt k) (g k) wt := rfl
    rw [e]
    generalize overUp st g wt k = b at *
    by_cases hc : canB st k = true ∧ 0 ≤ g k ∧ (b < 0 ∨ g k + wt < b)
    · obtain ⟨c1, c2, c3⟩ := hc
      have el : lesser (canB st k) b (g k) wt = g k + wt := by
        unfold lesser
        have c4 : (decide (b < 0) || decide (g k + wt < b)) = true := by simp only [Bool.or_eq_true, decide_eq_true_eq]; exact c3
        rw [c1, c4]
        simp [c2]
      rw [el]
      refine ⟨fun _ => ⟨k, by omega, c1, c2, rfl⟩, fun i hi hci hgi => ?_⟩
      by_cases ei : i = k
      · subst ei; omega
      · obtain ⟨a1, a2⟩ := h2 i (by omega) hci hgi
        omega
    · have el : lesser (canB st k) b (g k) wt = b := by
        unfold lesser
        cases hck : canB st k
        · simp
        · simp only [Bool.true_and]
          by_cases c2 : 0 ≤ g k
          · have c3 : ¬ (b < 0 ∨ g k + wt < b) := fun c3 => hc ⟨hck, c2, c3⟩
            have : (decide (0 ≤ g k) && (decide (b < 0) || decide (g k + wt < b))) = false := by
              simp only [Bool.and_eq_false_iff, decide_eq_false_iff_not, Bool.or_eq_false_iff]
              omega
            rw [this]
            rfl
          · simp [c2]
      rw [el]
      refine ⟨fun h => ?_, fun i hi hci hgi => ?_⟩
      · obtain ⟨i, a1, a2⟩ := h1 h
        exact ⟨i, by omega, a2⟩
      · by_cases ei : i = k
        · subst ei
          have c3 : ¬ (b < 0 ∨ g i + wt < b) := fun c3 => hc ⟨hci, hgi, c3⟩
          omega
        · exact h2 i (by omega) hci hgi

/-- what is left to pay behind a progress, -1 where not all can leave -/
def vP (st : St) (d : Pr) : Int := val (behindSt st d)
theorem vP_end {st : St} {d : Pr} (h : allLeft st d = true) : vP st d = 0 := val_zero (behind_none.2 h)
theorem vP_some {st : St} (hs : SoSt st) {d : Pr} (hd : PrOk st d) (hl : ¬ allLeft st d = true) (h : 0 ≤ vP st d) : ∃ i, i < st.2.1.length ∧ canP st d i = true ∧ 0 ≤ vP st (bump d i) ∧ vP st d = vP st (bump d i) + wtP st d := by
  have hn : ¬ (behindSt st d).2.1.length = 0 := fun e => hl (behind_none.1 e)
  have hw := (wtP_le hs d).1
  unfold vP at h ⊢
  rw [val_pos hn, wt_behind] at h ⊢
  obtain ⟨j, h1, h2, h3, h4⟩ := (overUp_min hw _).1 h
  rw [behind_len] at h1
  obtain ⟨i, a1, a2, rfl⟩ := pos_inv _ h1
  rw [canB_behind hd a1 a2] at h2
  simp only [step_behind hd a1 a2] at h3 h4
  exact ⟨i, a1, h2, h3, h4⟩
theorem vP_le {st : St} (hs : SoSt st) {d : Pr} (hd : PrOk st d) {i : Nat} (hi : i < st.2.1.length) (hc : canP st d i = true) (h : 0 ≤ vP st (bump d i)) : 0 ≤ vP st d ∧ vP st d ≤ vP st (bump d i) + wtP st d := by
  have hl := canP_left hc
  have hn : ¬ (behindSt st d).2.1.length = 0 := fun e => by
    have := (posUp_zero st.2.1.length).1 (by rw [← behind_len (st := st) (d := d)]; exact e) i hi
    rw [hl] at this
    cases this
  have hw := (wtP_le hs d).1
  unfold vP at h ⊢
  rw [val_pos hn, wt_behind]
  have h2 := (overUp_min (st := behindSt st d) (g := fun j => val (stepSt (behindSt st d) j)) hw (behindSt st d).2.1.length).2 (posUp st.2.1 d i) (behind_lt hi hl) (by rw [canB_behind hd hi hl]; exact hc)
  simp only [step_behind hd hi hl] at h2
  exact h2 h
theorem vP_bounds {st : St} (h : SoSt st) {d : Pr} (hd : PrOk st d) : -1 ≤ vP st d ∧ vP st d ≤ 22500 := val_bounds h hd

def firstUp (p : Nat → Bool) : Nat → Nat
  | 0 => 0
  | k + 1 => if firstUp p k < k then firstUp p k else if p k = true then k else k + 1
theorem firstUp_spec (p : Nat → Bool) : ∀ k, firstUp p k ≤ k ∧ (firstUp p k < k → p (firstUp p k) = true) ∧ (∀ j, j < firstUp p k → p j = false)
  | 0 => ⟨Nat.le_refl _, fun h => absurd h (Nat.lt_irrefl _), fun j h => absurd h (Nat.not_lt_zero _)⟩
  | k + 1 => by
    obtain ⟨h1, h2, h3⟩ := firstUp_spec p k
    simp only [firstUp]
    by_cases h : firstUp p k < k
    · rw [if_pos h]
      exact ⟨by omega, fun _ => h2 h, h3⟩
    · rw [if_neg h]
      have e : firstUp p k = k := by omega
      rw [e] at h3
      cases hp : p k
      · rw [if_neg (by simp)]
        refine ⟨Nat.le_refl _, fun h => absurd h (Nat.lt_irrefl _), fun j hj => ?_⟩
        by_cases ej : j = k
        · subst ej; exact hp
        · exact h3 j (by omega)
      · rw [if_pos rfl]
        exact ⟨by omega, fun _ => hp, h3⟩
theorem firstUp_le {p : Nat → Bool} {k i : Nat} (hi : i < k) (hp : p i = true) : firstUp p k ≤ i := by
  obtain ⟨_, _, h3⟩ := firstUp_spec p k
  by_cases h : firstUp p k ≤ i
  · exact h
  · have := h3 i (by omega)
    rw [hp] at this
    cases this
def goodB (st : St) (d : Pr) (i : Nat) : Bool := canP st d i && decide (vP st (bump d i) = vP st d - wtP st d)
/-- the best move -/
def bm (st : St) (d : Pr) : Nat := firstUp (goodB st d) st.2.1.length
structure BmOk (st : St) (d : Pr) : Prop where
  lt : bm st d < st.2.1.length
  can : canP st d (bm st d) = true
  eq : vP st (bump d (bm st d)) = vP st d - wtP st d
  nn : 0 ≤ vP st (bump d (bm st d))
  least : ∀ i, i < st.2.1.length → canP st d i = true → vP st (bump d i) = vP st d - wtP st d → bm st d ≤ i
theorem bm_ok {st : St} (hs : SoSt st) {d : Pr} (hd : PrOk st d) (hl : ¬ allLeft st d = true) (h : 0 ≤ vP st d) : BmOk st d := by
  obtain ⟨i, h1, h2, h3, h4⟩ := vP_some hs hd hl h
  have hgood : goodB st d i = true := by simp [goodB, h2]; omega
  have hle := firstUp_le h1 hgood
  have hlt : bm st d < st.2.1.length := Nat.lt_of_le_of_lt hle h1
  have hg := (firstUp_spec (goodB st d) st.2.1.length).2.1 hlt
  have hg2 : goodB st d (bm st d) = true := hg
  simp only [goodB, Bool.and_eq_true, decide_eq_true_eq] at hg2
  exact ⟨hlt, hg2.1, hg2.2, by rw [hg2.2]; omega, fun j a1 a2 a3 => firstUp_le a1 (by simp [goodB, a2, a3])⟩
end Go.Proofs.YtmjjigdnoiphbaaDoor

/-
  WHICH WAYS ARE KNOWN, IN A MAP.
-/
namespace Go.Proofs.YtmjjigdnoiphbaaDoor
open Go.RowKit Go.Deep Go.Maps
set_option linter.unusedVariables false

abbrev DV : Type := DataW Value
def heldElem (v : Value) : Option (DV × List MemPlace) := some (.held v, [])
/-- what is known of a progress: what it costs from there on, and who moves first -/
abbrev KW : Type := Pr → Option (Int × Nat)
def heldOf (d : Pr) : Option (Int × Nat) → DV
  | none => .nil
  | some y => .held (wv (d, y))
structure WData (st : St) (K : KW) (D : DV) : Prop where
  keys : ∃ L, D = .map L ∧ L.Pairwise (fun p q => p.1 ≠ q.1) ∧ ∀ p, p ∈ L → ∃ d, PV st d ∧ keyOf Tryd.prog 61 (pv d) = some p.1
  vals : ∀ d, PV st d → ∀ kl, keyOf Tryd.prog 61 (pv d) = some kl → D.atKey kl .nil = heldOf d (K d)
def WaysAt (st : St) (w : World) (mb : Nat) (K : KW) : Prop := ∃ D : DV, w.ownsMap Tryd.prog 61 heldElem mb 100000 D ∧ WData st K D
def setW (K : KW) (d : Pr) (y : Int × Nat) : KW := fun e => bif same5 d e then some y else K e
theorem setW_same (K : KW) (d : Pr) (y : Int × Nat) : setW K d y d = some y := by simp [setW, same5]
theorem setW_other {st : St} (hs : SoSt st) {K : KW} {d e : Pr} {y : Int × Nat} (hd : PV st d) (he : PV st e) (hne : e ≠ d) : setW K d y e = K e := by
  have : same5 d e = false := by
    cases h : same5 d e
    · rfl
    · exact absurd ((same5_iff hs hd he).1 h) hne
  simp [setW, this]

theorem keys_fewB {β : Type} {st : St} (hs : SoSt st) : ∀ (L : List (Lit × β)), L.Pairwise (fun p q => p.1 ≠ q.1) → (∀ p, p ∈ L → ∃ d, PV st d ∧ keyOf Tryd.prog 61 (pv d) = some p.1) →
    ∃ l : List Nat, l.length = L.length ∧ l.Nodup ∧ (∀ x, x ∈ l → ∃ p, p ∈ L ∧ ∃ d, PV st d ∧ keyOf Tryd.prog 61 (pv d) = some p.1 ∧ x = idxUp st.2.1 d st.2.1.length)
  | [], _, _ => ⟨[], rfl, List.nodup_nil, fun x hx => by simp at hx⟩
  | p :: L, hp, hk => by
    obtain ⟨h1, h2⟩ := List.pairwise_cons.1 hp
    obtain ⟨l, e1, e2, e3⟩ := keys_fewB hs L h2 (fun q hq => hk q (by simp [hq]))
    obtain ⟨d, hd, hkd⟩ := hk p (by simp)
    refine ⟨idxUp st.2.1 d st.2.1.length :: l, by simp [e1], List.nodup_cons.2 ⟨fun hm => ?_, e2⟩, fun x hx => ?_⟩
    · obtain ⟨q, hq, e, he, hke, hix⟩ := e3 _ hm
      have hde : ∀ i, d i = e i := fun i => by
        by_cases hi : i < st.2.1.length
        · exact idx_inj hd.ok he.ok _ (Nat.le_refl _) hix i hi
        · rw [hd.out i (by omega), he.out i (by omega)]
      have : d = e := funext hde
      subst this
      rw [hkd] at hke
      exact h1 q hq (Option.some.inj hke)
    · rcases List.mem_cons.1 hx with rfl | hx
      · exact ⟨p, by simp, d, hd, hkd, rfl⟩
      · obtain ⟨q, hq, r⟩ := e3 x hx
        exact ⟨q, by simp [hq], r⟩
theorem WData.few {st : St} (hs : SoSt st) {K : KW} {L : List (Lit × DV)} (h : WData st K (.map L)) : L.length ≤ 100000 := by
  obtain ⟨L', e, h1, h2⟩ := h.keys
  cases e
  obtain ⟨l, e1, e2, e3⟩ := keys_fewB hs L h1 h2
  have := nodup_nat (m := List.range (prodUp st.2.1 st.2.1.length)) e2 (fun x hx => by
    obtain ⟨p, _, d, hd, _, rfl⟩ := e3 x hx
    exact List.mem_range.2 (idx_lt hd.ok _ (Nat.le_refl _)))
  rw [List.length_range] at this
  have := prod_small hs (Nat.le_refl st.2.1.length)
  omega
theorem zeroWay (w : World) : (zeroValue 99).run Tryd.prog w = .ok (wv (pz, 0, 0)) w := by kernel_rfl
/-- look-up, with 'ok' and without -/
theorem WaysAt.look {st : St} (hs : SoSt st) {w : World} {mb : Nat} {K : KW} (h : WaysAt st w mb K) {d : Pr} (hd : PV st d) (c : Bool) :
    (Instr.lookup 96 (.map (some mb)) (pv d) c).run Tryd.prog w = .ok (match K d with | none => (if c then .tuple #[wv (pz, 0, 0), .bool false] else wv (pz, 0, 0)) | some y => (if c then .tuple #[wv (d, y), .bool true] else wv (d, y))) w := by
  obtain ⟨D, ⟨es, clock, hb, F, _, rfl⟩, hD⟩ := h
  obtain ⟨kl, hk⟩ := hd.key hs
  have hv := hD.vals d hd kl hk
  rcases Maps.fit_look c prKeyed Tryd.underlying96 (zeroWay w) hb F hk with ⟨hrun, _, hat⟩ | ⟨e0, y, _, _, hrun, hRv, hat, _⟩
  · rw [hat .nil] at hv
    cases hK : K d with
    | none => exact hrun
    | some y => rw [hK] at hv; simp [heldOf] at hv
  · rw [hat .nil] at hv
    simp only [heldElem, Option.some.injEq] at hRv
    subst hRv
    cases hK : K d with
    | none => rw [hK] at hv; simp [heldOf] at hv
    | some y =>
      rw [hK] at hv
      simp only [heldOf, DataW.held.injEq] at hv
      rw [hrun, hv]
theorem WaysAt.put {st : St} (hs : SoSt st) {w : World} {mb : Nat} {K : KW} (h : WaysAt st w mb K) {d : Pr} (hd : PV st d) (y : Int × Nat) :
    ∃ w', (Instr.mapUpdate 96 (.map (some mb)) (pv d) (wv (d, y))).run Tryd.prog w = .ok () w' ∧ WaysAt st w' mb (setW K d y) ∧ w.grownBy w' (some mb) := by
  obtain ⟨D, ho, hD⟩ := h
  obtain ⟨kl, hk⟩ := hd.key hs
  obtain ⟨w', h1, h2, h3⟩ := ho.update prKeyed Tryd.underlying96 (by unfold maxLen; omega) hk (val := wv (d, y)) rfl
  have hD' : WData st (setW K d y) (D.put kl (.held (wv (d, y)))) := by
    obtain ⟨L, rfl, hp, hL⟩ := hD.keys
    obtain ⟨L', e, hp'⟩ := Tidy.put (k := kl) ⟨L, rfl, hp⟩ (prKeyed.key hk) (.held (wv (d, y)))
    refine ⟨⟨L', e, hp', fun p hp => ?_⟩, fun e' he' kl' hkl' => ?_⟩
    · have e2 : L' = DataW.insert (kl, .held (wv (d, y))) (L.filter fun p => !p.1.sameKey kl) := by
        have : DataW.map L' = DataW.map (DataW.insert (kl, .held (wv (d, y))) (L.filter fun p => !p.1.sameKey kl)) := e.symm
        exact DataW.map.inj this
      rw [e2] at hp
      rcases ChangeMaps.mem_insert_iff.1 hp with rfl | hp
      · exact ⟨d, hd, hk⟩
      · exact hL p (List.mem_filter.1 hp).1
    · by_cases hed : e' = d
      · subst hed
        rw [hk] at hkl'
        cases hkl'
        rw [atKey_put_same ⟨L, rfl⟩ (prKeyed.key hk), setW_same]
        rfl
      · have hne : kl' ≠ kl := fun ee => by
          subst ee
          exact hed (pv_inj hs hd he' (prKeyed.inj hk hkl'))
        rw [atKey_put_other hne, setW_other hs hd he' hed]
        exact hD.vals e' he' kl' hkl'
  refine ⟨w', h1, ⟨_, ?_, hD'⟩, h3⟩
  obtain ⟨es, clock, g1, g2, g3, g4⟩ := h2
  refine ⟨es, clock, g1, g2, ?_, g4⟩
  rw [g4] at hD'
  have := hD'.few hs
  rw [length_sorted] at this
  simpa using this
theorem WaysAt.kept {st : St} {w w' : World} {mb : Nat} {K : KW} (h : WaysAt st w mb K) (hb : w'.heap[mb]? = w.heap[mb]?) : WaysAt st w' mb K := by
  obtain ⟨D, ⟨es, clock, g1, r⟩, hD⟩ := h
  exact ⟨D, ⟨es, clock, hb.trans g1, r⟩, hD⟩
theorem WaysAt.lt {st : St} {w : World} {mb : Nat} {K : KW} (h : WaysAt st w mb K) : mb < w.heap.size := by
  obtain ⟨D, ho, _⟩ := h
  exact ho.lt
theorem ways_made {st : St} (w : World) : WaysAt st (w.alloc (.map #[] 0)) w.heap.size (fun _ => none) :=
  ⟨.map [], (World.ownsMap_made w Tryd.prog 61 heldElem).mono (by omega), ⟨⟨[], rfl, List.Pairwise.nil, fun p hp => by simp at hp⟩, fun d _ kl _ => rfl⟩⟩
end Go.Proofs.YtmjjigdnoiphbaaDoor

/-
  THE SEARCH FROM THE END ON, as mathematics.
-/
namespace Go.Proofs.YtmjjigdnoiphbaaDoor
open Go.RowKit Go.Deep Go.Maps
set_option linter.unusedVariables false

def wkey (x : Way) : Int := x.2.1 * 8 + x.2.2
/-- the best way from a progress on -/
def bway (st : St) (d : Pr) : Way := if allLeft st d = true then (d, 0, 0) else (d, vP st d, bm st d)
theorem bway_fst (st : St) (d : Pr) : (bway st d).1 = d := by unfold bway; split <;> rfl
theorem bway_eq (st : St) (d : Pr) : (d, (bway st d).2) = bway st d := by
  have := bway_fst st d
  generalize bway st d = x at *
  subst this
  rfl
theorem allLeft_end (st : St) : allLeft st (endP st) = true := (allLeft_iff (PV.endP st)).2 rfl
theorem not_left {st : St} {d : Pr} {m : Nat} (hm : m < st.2.1.length) (hc : canP st d m = true) : ¬ allLeft st d = true := fun h => by
  have h1 := canP_left hc
  have h2 := allUp_at (f := leftB st.2.1 d) h m hm
  rw [h1] at h2
  cases h2
structure WSound (st : St) (x : Way) : Prop where
  pv : PV st x.1
  fit : FitP st x.1
  at_ : x = (endP st, 0, 0) ∨ (x.2.2 < st.2.1.length ∧ canP st x.1 x.2.2 = true ∧ 0 ≤ vP st (bump x.1 x.2.2) ∧ x.2.1 = vP st (bump x.1 x.2.2) + wtP st x.1)
theorem WSound.nn {st : St} (hs : SoSt st) {x : Way} (h : WSound st x) : 0 ≤ vP st x.1 := by
  rcases h.at_ with e | ⟨h1, h2, h3, _⟩
  · rw [e]
    rw [vP_end (allLeft_end st)]
    exact Int.le_refl _
  · exact (vP_le hs h.pv.ok h1 h2 h3).1
theorem WSound.bound {st : St} (hs : SoSt st) {x : Way} (h : WSound st x) : 0 ≤ x.2.1 ∧ x.2.1 ≤ 23000 ∧ x.2.2 < 5 := by
  have hn := hs.lens.2.2.1
  rcases h.at_ with e | ⟨h1, h2, h3, h4⟩
  · rw [e]; simp
  · have h5 := (vP_bounds hs (h.pv.bump h1 (canP_left h2)).ok).2
    have h6 := wtP_le hs x.1
    omega
theorem WSound.ge {st : St} (hs : SoSt st) {x : Way} (h : WSound st x) : wkey (bway st x.1) ≤ wkey x ∧ (wkey x ≤ wkey (bway st x.1) → x = bway st x.1) := by
  have hn := hs.lens.2.2.1
  rcases h.at_ with e | ⟨h1, h2, h3, h4⟩
  · have : bway st x.1 = x := by
      rw [e]
      unfold bway
      rw [if_pos (allLeft_end st)]
    rw [this]
    exact ⟨Int.le_refl _, fun _ => rfl⟩
  · have hnl := not_left h1 h2
    obtain ⟨v0, v1⟩ := vP_le hs h.pv.ok h1 h2 h3
    have hb := bm_ok hs h.pv.ok hnl v0
    have hl := hb.lt
    have hle : vP st x.1 = x.2.1 → bm st x.1 ≤ x.2.2 := fun e => hb.least _ h1 h2 (by omega)
    have ebw : bway st x.1 = (x.1, vP st x.1, bm st x.1) := by unfold bway; rw [if_neg hnl]
    rw [ebw]
    obtain ⟨d, c, m⟩ := x
    simp only [wkey] at *
    constructor
    · by_cases e : vP st d = c
      · have := hle e
        omega
      · omega
    · intro hk
      have e1 : vP st d = c := by omega
      have e2 := hle e1
      have e3 : m = bm st d := by omega
      rw [e3, e1]
theorem bway_key {st : St} (hs : SoSt st) {d : Pr} (hd : PV st d) (h : 0 ≤ vP st d) : vP st d * 8 ≤ wkey (bway st d) ∧ wkey (bway st d) < vP st d * 8 + 8 := by
  unfold bway
  split
  · rename_i e
    rw [vP_end e]
    simp [wkey]
  · rename_i e
    have := (bm_ok hs hd.ok e h).lt
    have := hs.lens.2.2.1
    simp only [wkey]
    omega

/-- from here on all that leads here has been looked at -/
def Done (st : St) (K : KW) (d : Pr) : Prop := ∀ e i, PV st e → FitP st e → i < st.2.1.length → canP st e i = true → bump e i = d → ∃ y, K e = some y ∧ wkey (e, y) ≤ (vP st d + wtP st e) * 8 + i
structure DInv (st : St) (K : KW) (has : Way → Prop) (ex : Pr → Prop) : Prop where
  kn : ∀ d y, PV st d → K d = some y → WSound st (d, y)
  it : ∀ x, has x → WSound st x ∧ ∃ y, K x.1 = some y
  pend : ∀ d y, PV st d → K d = some y → ¬ ex d → (y = (bway st d).2 ∧ Done st K d) ∨ has (d, y)
  fin : K (endP st) = some (0, 0)
theorem bway_end (st : St) : (bway st (endP st)).2 = (0, 0) := by unfold bway; rw [if_pos (allLeft_end st)]

theorem DInv.claim {st : St} (hR : RightSt st) {K : KW} {has : Way → Prop} (h : DInv st K has (fun _ => False)) : ∀ r d, restR st d = r → PV st d → FitP st d → 0 ≤ vP st d →
    (K d = some (bway st d).2 ∧ (Done st K d ∨ has (bway st d))) ∨ ∃ x, has x ∧ wkey x < vP st d * 8
  | r, d, hr, hd, hf, hv => by
    have hs := hR.so
    by_cases hl : allLeft st d = true
    · have e := (allLeft_iff hd).1 hl
      subst e
      have hk := h.fin
      rw [← bway_end st] at hk
      rcases h.pend _ _ hd hk (fun e => e) with ⟨_, hp⟩ | hp
      · exact Or.inl ⟨hk, Or.inl hp⟩
      · rw [bway_eq] at hp
        exact Or.inl ⟨hk, Or.inr hp⟩
    · have hb := bm_ok hs hd.ok hl hv
      have hlm := canP_left hb.can
      have hrb := restR_bump hd.ok hb.lt hlm
      have hwp := wtP_pos hs d hb.lt hlm
      have hdq := hd.bump hb.lt hlm
      have hfq := fit_bump hR hf hb.lt hb.can
      match r, hr with
      | 0, hr => omega
      | r + 1, hr =>
        have kq := bway_key hs hdq hb.nn
        have hq := hb.eq
        rcases DInv.claim hR h r (bump d (bm st d)) (by omega) hdq hfq hb.nn with ⟨_, hp | hp⟩ | ⟨x, hx, hk⟩
        · obtain ⟨y, h1, h2⟩ := hp d (bm st d) hd hf hb.lt hb.can rfl
          have hws := h.kn d y hd h1
          have ebw : bway st d = (d, vP st d, bm st d) := by unfold bway; rw [if_neg hl]
          have hke : wkey (d, y) ≤ wkey (bway st d) := by
            rw [ebw]
            have : wkey (d, vP st d, bm st d) = vP st d * 8 + bm st d := rfl
            rw [this]
            omega
          have he := (hws.ge hs).2 hke
          have hy : y = (bway st d).2 := congrArg Prod.snd he
          rw [hy] at h1
          rcases h.pend d _ hd h1 (fun e => e) with ⟨_, hp⟩ | hp
          · exact Or.inl ⟨h1, Or.inl hp⟩
          · rw [bway_eq] at hp
            exact Or.inl ⟨h1, Or.inr hp⟩
        · exact Or.inr ⟨_, hp, by omega⟩
        · exact Or.inr ⟨x, hx, by omega⟩

/-- the cheapest of those that are waiting, if it is what is known of its progress, is best -/
theorem DInv.best {st : St} (hR : RightSt st) {K : KW} {has : Way → Prop} (h : DInv st K has (fun _ => False)) {x0 : Way} (hx : has x0) (hmin : ∀ x, has x → wkey x0 ≤ wkey x) (hK : K x0.1 = some x0.2) : x0 = bway st x0.1 := by
  have hs := hR.so
  have hw := (h.it x0 hx).1
  have hnn := hw.nn hs
  rcases h.claim hR _ x0.1 rfl hw.pv hw.fit hnn with ⟨h1, _⟩ | ⟨x, h1, h2⟩
  · rw [hK] at h1
    have e : x0.2 = (bway st x0.1).2 := Option.some.inj h1
    have := bway_eq st x0.1
    rw [← e] at this
    exact this
  · have h3 := hmin x h1
    have h4 := (hw.ge hs).1
    have h5 := (bway_key hs hw.pv hnn).1
    omega

structure BestWays (st : St) (K : KW) : Prop where
  none : vP st pz < 0 → K pz = none
  all : 0 ≤ vP st pz → ∀ d, PV st d → FitP st d → 0 ≤ vP st d → (d = pz ∨ vP st d < vP st pz) → K d = some (bway st d).2
theorem DInv.none_pz {st : St} (hR : RightSt st) {K : KW} {has : Way → Prop} (h : DInv st K has (fun _ => False)) (hv : vP st pz < 0) : K pz = none := by
  cases e : K pz with
  | none => rfl
  | some y =>
    have := (h.kn pz y (PV.pz st) e).nn hR.so
    simp only at this
    omega
theorem DInv.broke {st : St} (hR : RightSt st) {K : KW} {has : Way → Prop} (h : DInv st K has (fun _ => False)) {x0 : Way} (hx : has x0) (hmin : ∀ x, has x → wkey x0 ≤ wkey x) (hz : x0.1 = pz) : BestWays st K := by
  have hs := hR.so
  refine ⟨h.none_pz hR, fun hv d hd hf hvd hdz => ?_⟩
  rcases h.claim hR _ d rfl hd hf hvd with ⟨h1, _⟩ | ⟨x, h1, h2⟩
  · exact h1
  · exfalso
    have hw := (h.it x0 hx).1
    have h3 := hmin x h1
    have h4 := (hw.ge hs).1
    rw [hz] at h4
    have h5 := (bway_key hs (PV.pz st) hv).1
    have h6 : vP st d ≤ vP st pz := by
      rcases hdz with e | e
      · rw [e]; exact Int.le_refl _
      · omega
    omega
theorem DInv.empty {st : St} (hR : RightSt st) {K : KW} {has : Way → Prop} (h : DInv st K has (fun _ => False)) (he : ∀ x, ¬ has x) : BestWays st K := by
  refine ⟨h.none_pz hR, fun hv d hd hf hvd hdz => ?_⟩
  rcases h.claim hR _ d rfl hd hf hvd with ⟨h1, _⟩ | ⟨x, h1, h2⟩
  · exact h1
  · exact absurd h1 (he x)

theorem DInv.stale {st : St} {K : KW} {has has' : Way → Prop} (h : DInv st K has (fun _ => False)) {x0 : Way} (h1 : ∀ x, has x → x = x0 ∨ has' x) (h2 : ∀ x, has' x → has x) (hK : K x0.1 ≠ some x0.2) : DInv st K has' (fun _ => False) :=
  ⟨h.kn, fun x hx => h.it x (h2 x hx), fun d y hd hk hx => by
    rcases h.pend d y hd hk hx with hp | hp
    · exact Or.inl hp
    · rcases h1 _ hp with e | e
      · rw [← e] at hK
        exact absurd hk hK
      · exact Or.inr e, h.fin⟩
/-- while what leads to d0 is looked at, of the trains below i already -/
structure Exp (st : St) (K : KW) (has : Way → Prop) (d0 : Pr) (i : Nat) : Prop where
  inv : DInv st K has (fun d => d = d0)
  at0 : K d0 = some (bway st d0).2
  upto : ∀ e j, PV st e → FitP st e → j < i → canP st e j = true → bump e j = d0 → ∃ y, K e = some y ∧ wkey (e, y) ≤ (vP st d0 + wtP st e) * 8 + j
theorem DInv.begin {st : St} {K : KW} {has has' : Way → Prop} (h : DInv st K has (fun _ => False)) {x0 : Way} (h1 : ∀ x, has x → x = x0 ∨ has' x) (h2 : ∀ x, has' x → has x) (hK : K x0.1 = some x0.2) (hb : x0 = bway st x0.1) : Exp st K has' x0.1 0 := by
  refine ⟨⟨h.kn, fun x hx => h.it x (h2 x hx), fun d y hd hk hx => ?_, h.fin⟩, ?_, fun e j _ _ hj => absurd hj (Nat.not_lt_zero _)⟩
  · rcases h.pend d y hd hk (fun e => e) with hp | hp
    · exact Or.inl hp
    · rcases h1 _ hp with e | e
      · exact absurd (congrArg Prod.fst e) hx
      · exact Or.inr e
  · rw [hK]
    exact congrArg some (congrArg Prod.snd hb)
theorem Exp.done {st : St} {K : KW} {has : Way → Prop} {d0 : Pr} (h : Exp st K has d0 st.2.1.length) : DInv st K has (fun _ => False) :=
  ⟨h.inv.kn, h.inv.it, fun d y hd hk _ => by
    by_cases e : d = d0
    · subst e
      rw [h.at0] at hk
      exact Or.inl ⟨(Option.some.inj hk).symm, h.upto⟩
    · exact h.inv.pend d y hd hk e, h.inv.fin⟩
theorem Exp.skip {st : St} {K : KW} {has : Way → Prop} {d0 : Pr} {i : Nat} (h : Exp st K has d0 i) (hi : ∀ e, PV st e → FitP st e → canP st e i = true → bump e i = d0 → ∃ y, K e = some y ∧ wkey (e, y) ≤ (vP st d0 + wtP st e) * 8 + i) : Exp st K has d0 (i + 1) :=
  ⟨h.inv, h.at0, fun e j he hf hj hc hb => by
    by_cases e2 : j = i
    · subst e2; exact hi e he hf hc hb
    · exact h.upto e j he hf (by omega) hc hb⟩
theorem bump_inj {d e : Pr} {i : Nat} (h : bump d i = bump e i) : d = e := by
  funext k
  have := congrFun h k
  unfold bump at this
  by_cases hk : k = i
  · rw [if_pos hk, if_pos hk] at this; omega
  · rw [if_neg hk, if_neg hk] at this; exact this
theorem bump_ne {d : Pr} {i : Nat} : bump d i ≠ d := fun h => by
  have := congrFun h i
  rw [bump_at] at this
  omega
theorem Exp.set {st : St} (hs : SoSt st) {K : KW} {has has' : Way → Prop} {d0 e : Pr} {c : Int} {i : Nat} (h : Exp st K has d0 i) (hi : i < st.2.1.length) (hd0 : PV st d0) (hw : WSound st (e, c, i)) (hc : c = vP st d0 + wtP st e) (hb : bump e i = d0)
    (hlt : ∀ y, K e = some y → wkey (e, c, i) < wkey (e, y)) (h1 : ∀ x, has x → has' x) (h2 : has' (e, c, i)) (h3 : ∀ x, has' x → x = (e, c, i) ∨ has x) : Exp st (setW K e (c, i)) has' d0 (i + 1) := by
  have hne0 : d0 ≠ e := fun ee => by subst ee; exact bump_ne hb
  have hends : endP st ≠ e := fun ee => by
    have h4 := hd0.ok i hi
    rw [← hb, bump_at, ← ee] at h4
    have h5 := endP_left hi
    unfold leftB at h5
    have := of_decide_eq_true h5
    omega
  have less : ∀ d y, PV st d → K d = some y → ∃ y', setW K e (c, i) d = some y' ∧ wkey (d, y') ≤ wkey (d, y) := fun d y hd hk => by
    by_cases hde : d = e
    · subst hde
      exact ⟨_, setW_same _ _ _, Int.le_of_lt (hlt y hk)⟩
    · exact ⟨y, by rw [setW_other hs hw.pv hd hde]; exact hk, Int.le_refl _⟩
  refine ⟨⟨fun d y hd hk => ?_, fun x hx => ?_, fun d y hd hk hx => ?_, ?_⟩, ?_, fun e' j he' hf' hj hc' hb' => ?_⟩
  · by_cases hde : d = e
    · subst hde
      rw [setW_same] at hk
      cases hk
      exact hw
    · rw [setW_other hs hw.pv hd hde] at hk
      exact h.inv.kn d y hd hk
  · rcases h3 x hx with rfl | hx
    · exact ⟨hw, _, setW_same _ _ _⟩
    · obtain ⟨g1, y, g2⟩ := h.inv.it x hx
      obtain ⟨y', g3, _⟩ := less x.1 y g1.pv g2
      exact ⟨g1, y', g3⟩
  · by_cases hde : d = e
    · subst hde
      rw [setW_same] at hk
      cases hk
      exact Or.inr h2
    · rw [setW_other hs hw.pv hd hde] at hk
      rcases h.inv.pend d y hd hk hx with ⟨g1, g2⟩ | g
      · refine Or.inl ⟨g1, fun e' j he' hf' hj hc' hb' => ?_⟩
        obtain ⟨y', g3, g4⟩ := g2 e' j he' hf' hj hc' hb'
        obtain ⟨y'', g5, g6⟩ := less e' y' he' g3
        exact ⟨y'', g5, Int.le_trans g6 g4⟩
      · exact Or.inr (h1 _ g)
  · rw [setW_other hs hw.pv (PV.endP st) hends]
    exact h.inv.fin
  · rw [setW_other hs hw.pv hd0 hne0]
    exact h.at0
  · by_cases e2 : j = i
    · subst e2
      have : e' = e := bump_inj (hb'.trans hb.symm)
      subst this
      refine ⟨_, setW_same _ _ _, ?_⟩
      simp only [wkey]
      omega
    · obtain ⟨y, g1, g2⟩ := h.upto e' j he' hf' (by omega) hc' hb'
      obtain ⟨y', g3, g4⟩ := less e' y he' g1
      exact ⟨y', g3, Int.le_trans g4 g2⟩
end Go.Proofs.YtmjjigdnoiphbaaDoor

/-
  HOW LONG THE SEARCH FROM THE END ON GOES ON; WHAT Solve ANSWERS.
-/
namespace Go.Proofs.YtmjjigdnoiphbaaDoor
open Go.RowKit Go.Deep Go.Maps
set_option linter.unusedVariables false

/-- all progresses of the first k trains -/
def prUp (ts : List Tr) : Nat → List Pr
  | 0 => [pz]
  | k + 1 => (prUp ts k).flatMap (fun d => (List.range ((tPath ts k).length + 2)).map (fun x => fun i => if i = k then x else d i))
theorem mem_prUp (ts : List Tr) : ∀ k (d : Pr), d ∈ prUp ts k ↔ (∀ i, i < k → d i ≤ (tPath ts i).length + 1) ∧ ∀ i, k ≤ i → d i = 0
  | 0, d => by
    simp only [prUp, List.mem_singleton]
    constructor
    · rintro rfl
      exact ⟨fun i hi => absurd hi (Nat.not_lt_zero _), fun i _ => rfl⟩
    · rintro ⟨_, h⟩
      funext i
      exact h i (Nat.zero_le _)
  | k + 1, d => by
    have ih := mem_prUp ts k
    simp only [prUp, List.mem_flatMap, List.mem_map, List.mem_range]
    constructor
    · rintro ⟨e, he, x, hx, rfl⟩
      obtain ⟨h1, h2⟩ := (ih e).1 he
      refine ⟨fun i hi => ?_, fun i hi => ?_⟩
      · simp only
        by_cases hik : i = k
        · subst hik; rw [if_pos rfl]; omega
        · rw [if_neg hik]; exact h1 i (by omega)
      · simp only
        rw [if_neg (by omega)]
        exact h2 i (by omega)
    · rintro ⟨h1, h2⟩
      refine ⟨fun i => if i = k then 0 else d i, (ih _).2 ⟨fun i hi => ?_, fun i hi => ?_⟩, d k, by have := h1 k (by omega); omega, ?_⟩
      · rw [if_neg (by omega)]
        exact h1 i (by omega)
      · by_cases hik : i = k
        · rw [if_pos hik]
        · rw [if_neg hik]; exact h2 i (by omega)
      · funext i
        by_cases hik : i = k
        · subst hik; simp
        · simp [hik]
def prAll (st : St) : List Pr := prUp st.2.1 st.2.1.length
theorem mem_prAll {st : St} {d : Pr} : d ∈ prAll st ↔ PV st d := by
  unfold prAll
  rw [mem_prUp]
  exact ⟨fun h => ⟨h.1, h.2⟩, fun h => ⟨h.ok, h.out⟩⟩
theorem prUp_len (ts : List Tr) : ∀ k, (prUp ts k).length = prodUp ts k
  | 0 => rfl
  | k + 1 => by
    have ih := prUp_len ts k
    simp only [prUp, prodUp, List.length_flatMap, List.length_map, List.length_range]
    rw [← ih]
    induction prUp ts k with
    | nil => simp
    | cons a l ihl => simp only [List.map_cons, List.sum_cons, List.length_cons]; rw [ihl, Nat.succ_mul]; omega
def rankY : Option (Int × Nat) → Nat
  | none => 200000
  | some y => (y.1 * 8 + y.2).toNat
def rankK (st : St) (K : KW) : Nat := ((prAll st).map (fun d => rankY (K d))).sum
theorem sum_le {α : Type} {f g : α → Nat} : ∀ (l : List α), (∀ d, d ∈ l → f d ≤ g d) → (l.map f).sum ≤ (l.map g).sum
  | [], _ => Nat.le_refl _
  | a :: l, h => by
    have h1 := h a (by simp)
    have h2 := sum_le l (fun d hd => h d (by simp [hd]))
    simp only [List.map_cons, List.sum_cons]
    omega
theorem sum_lt {α : Type} {f g : α → Nat} {e : α} : ∀ (l : List α), (∀ d, d ∈ l → f d ≤ g d) → e ∈ l → f e < g e → (l.map f).sum < (l.map g).sum
  | [], _, he, _ => by simp at he
  | a :: l, h, he, hlt => by
    have h1 := h a (by simp)
    have h2 := sum_le l (fun d hd => h d (by simp [hd]))
    simp only [List.map_cons, List.sum_cons]
    rcases List.mem_cons.1 he with rfl | he
    · omega
    · have := sum_lt l (fun d hd => h d (by simp [hd])) he hlt
      omega
theorem rank_set {st : St} (hs : SoSt st) {K : KW} {e : Pr} {c : Int} {i : Nat} (hw : WSound st (e, c, i)) (hlt : ∀ y, K e = some y → wkey (e, c, i) < wkey (e, y)) : rankK st (setW K e (c, i)) < rankK st K := by
  obtain ⟨b1, b2, b3⟩ := hw.bound hs
  simp only at b1 b2 b3
  have hr : rankY (setW K e (c, i) e) < rankY (K e) := by
    rw [setW_same]
    cases hk : K e with
    | none => simp only [rankY]; omega
    | some y =>
      have := hlt y hk
      simp only [wkey] at this
      simp only [rankY]
      omega
  refine sum_lt _ (fun d hd => ?_) (mem_prAll.2 hw.pv) hr
  by_cases hde : d = e
  · subst hde; exact Nat.le_of_lt hr
  · rw [setW_other hs hw.pv (mem_prAll.1 hd) hde]
    exact Nat.le_refl _
theorem rank_le {st : St} (hs : SoSt st) {K : KW} (h : ∀ d y, PV st d → K d = some y → WSound st (d, y)) : rankK st K ≤ 20000000000 := by
  have h1 : rankK st K ≤ ((prAll st).map (fun _ => 200000)).sum := sum_le _ (fun d hd => by
    cases hk : K d with
    | none => exact Nat.le_refl _
    | some y =>
      have := (h d y (mem_prAll.1 hd) hk).bound hs
      simp only at this
      simp only [rankY]
      omega)
  have h2 : ∀ l : List Pr, (l.map (fun _ => 200000)).sum = l.length * 200000 := fun l => by
    induction l with
    | nil => rfl
    | cons a l ih => simp only [List.map_cons, List.sum_cons, List.length_cons]; rw [ih]; omega
  rw [h2, prAll, prUp_len] at h1
  have := prod_small hs (Nat.le_refl st.2.1.length)
  omega

/-- the best order, from a progress on -/
def solveL (st : St) : Nat → Pr → List Int
  | 0, _ => []
  | f + 1, d => if allLeft st d = true then [] else el st.2.2 (bm st d) :: solveL st f (bump d (bm st d))
def solveP (st : St) (d : Pr) : List Int := solveL st (restR st d) d
def solveF (st : St) : Bool × Int × List Int := if stOk st = 0 ∧ 0 ≤ vP st pz then (true, vP st pz, solveP st pz) else (false, 0, [])
theorem restR_end {st : St} {d : Pr} (h : allLeft st d = true) : restR st d = 0 := by
  unfold restR remOf
  rw [behind_none.2 h]
  rfl
theorem solveP_end {st : St} {d : Pr} (h : allLeft st d = true) : solveP st d = [] := by
  unfold solveP
  rw [restR_end h]
  rfl
theorem solveP_step {st : St} {d : Pr} (hd : PrOk st d) (hb : BmOk st d) : solveP st d = el st.2.2 (bm st d) :: solveP st (bump d (bm st d)) := by
  have hl := canP_left hb.can
  have hr := restR_bump hd hb.lt hl
  unfold solveP
  rw [← hr]
  show (if allLeft st d = true then [] else el st.2.2 (bm st d) :: solveL st (restR st (bump d (bm st d))) (bump d (bm st d))) = _
  rw [if_neg (not_left hb.lt hb.can)]
theorem solveL_len (st : St) : ∀ f d, (solveL st f d).length ≤ f
  | 0, _ => Nat.le_refl _
  | f + 1, d => by
    have := solveL_len st f (bump d (bm st d))
    simp only [solveL]
    split
    · simp
    · simp only [List.length_cons]; omega
theorem solveP_len {st : St} (hs : SoSt st) {d : Pr} (hd : PrOk st d) : (solveP st d).length ≤ 45 := by
  have h1 := solveL_len st (restR st d) d
  have h2 : restR st d ≤ 45 := rem_le (hs.behind hd)
  unfold solveP
  omega
theorem rest_le {st : St} (hs : SoSt st) {d : Pr} (hd : PrOk st d) : restR st d ≤ 45 := rem_le (hs.behind hd)
theorem vP_pz {st : St} (hn : st.2.2.length = st.2.1.length) : vP st pz = val st := by unfold vP; rw [behind_pz hn]
end Go.Proofs.YtmjjigdnoiphbaaDoor
