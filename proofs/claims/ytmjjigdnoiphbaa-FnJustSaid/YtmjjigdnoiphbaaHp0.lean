/-
  A HEAP OF WAYS IN MEMORY.
-/
import Derived.Test.YtmjjigdnoiphbaaSo4
namespace Go.Proofs.Ytmjjigdnoiphbaa
open Go.RowKit Go.Deep Go.Maps
set_option linter.unusedVariables false

theorem Try.infoWay : (Try.prog.info? 72).map (fun i => (i.zero, i.size, i.bytes)) = some (some (wv (pz, 0, 0)), 7, 24) := by kernel_rfl
def beforeV : Value := .func (.func 88) #[] #[]
/-- n ways, the i-th of them f i, in a block g that has room for cap -/
structure HRow (w : World) (B g cap n : Nat) (f : Nat → Way) : Prop where
  lo : B ≤ g
  le : n ≤ cap
  max : cap ≤ maxLen
  ex : ∃ cur, w.heap[g]? = some (.cells cur 72 (0, 0)) ∧ cur.size = cap * 7 ∧ ∀ i, i < n → ∀ j, j < 7 → cur[i * 7 + j]? = (wc7 (f i))[j]?
theorem HRow.lt {w : World} {B g cap n : Nat} {f : Nat → Way} (h : HRow w B g cap n f) : g < w.heap.size := by
  obtain ⟨cur, h1, _⟩ := h.ex
  exact (Array.getElem?_eq_some_iff.1 h1).1
theorem HRow.kept {w w' : World} {B g cap n : Nat} {f : Nat → Way} (h : HRow w B g cap n f) (hb : w'.heap[g]? = w.heap[g]?) : HRow w' B g cap n f := by
  obtain ⟨cur, h1, r⟩ := h.ex
  exact ⟨h.lo, h.le, h.max, cur, hb.trans h1, r⟩
theorem HRow.below {w w' : World} {B g cap n : Nat} {f : Nat → Way} (h : HRow w B g cap n f) (hb : Below w.heap.size w w') : HRow w' B g cap n f := h.kept (hb.block g h.lt)
theorem HRow.cells {w : World} {B g cap n : Nat} {f : Nat → Way} (h : HRow w B g cap n f) {i : Nat} (hi : i < n) :
    w.cell? ⟨g, i * 7, none⟩ = some (.int .i8 ((f i).1 0)) ∧ w.cell? ⟨g, i * 7 + 1, none⟩ = some (.int .i8 ((f i).1 1)) ∧ w.cell? ⟨g, i * 7 + 2, none⟩ = some (.int .i8 ((f i).1 2)) ∧ w.cell? ⟨g, i * 7 + 3, none⟩ = some (.int .i8 ((f i).1 3)) ∧ w.cell? ⟨g, i * 7 + 4, none⟩ = some (.int .i8 ((f i).1 4)) ∧ w.cell? ⟨g, i * 7 + 5, none⟩ = some (.int .i64 (f i).2.1) ∧ w.cell? ⟨g, i * 7 + 6, none⟩ = some (.int .i64 ((f i).2.2 : Int)) ∧ ∀ o, w.frozen? ⟨g, o, none⟩ = false := by
  obtain ⟨cur, h1, h2, h3⟩ := h.ex
  have k : ∀ j, j < 7 → w.cell? ⟨g, i * 7 + j, none⟩ = (wc7 (f i))[j]? := fun j hj => by rw [cell_of_row w g (i * 7 + j) cur _ (0, 0) h1]; exact h3 i hi j hj
  exact ⟨k 0 (by omega), k 1 (by omega), k 2 (by omega), k 3 (by omega), k 4 (by omega), k 5 (by omega), k 6 (by omega), fun o => frozen_of_row w g o _ _ h1⟩
theorem w64 (n : Int) (h : -9223372036854775808 ≤ n ∧ n ≤ 9223372036854775807) : wrap64 n = n := by unfold wrap64; omega
/-- bounds that all ways of a heap keep -/
def WaysOk (f : Nat → Way) (n : Nat) : Prop := ∀ i, i < n → 0 ≤ (f i).2.1 ∧ (f i).2.1 ≤ 23000 ∧ (f i).2.2 < 5

set_option maxRecDepth 4000 in
set_option maxHeartbeats 4000000 in
theorem leastOf_any (ob p B g cap n : Nat) (f : Nat → Way) (w : World) (hv : w.heap[ob]? = some (.cells #[.slice (some ⟨g, 0, none⟩) n cap, beforeV] 111 (0, 0))) (h : HRow w B g cap n f) (hok : WaysOk f n) (hn : n ≤ 100000000000) (hp : p ≤ 100000000000) :
    Calls Try.prog 105 #[.pointer (some ⟨ob, 0, none⟩), .int .i64 p] w fun e w' => ∃ l : Nat, e = .returned (.int .i64 l) ∧ LeastOf wkey f n p l ∧ Below w.heap.size w w' := by
  have HV := hide hv
  have HH := hide h
  have HOK := hide hok
  have hob : ob < w.heap.size := (Array.getElem?_eq_some_iff.1 hv).1
  clear hv h hok
  go_enter Try.func105, Try.ntmps105
  have hw1 : wrap64 (2 * (p : Int)) = 2 * (p : Int) := w64 _ (by omega)
  have hw2 : wrap64 (2 * (p : Int) + 1) = 2 * (p : Int) + 1 := w64 _ (by omega)
  have hw3 : wrap64 (2 * (p : Int) + 2) = 2 * (p : Int) + 2 := w64 _ (by omega)
  go_wp2_with fail
  go_loopw [5, 6] (fun u i wr => ∃ l ch : Nat, u = .int .i64 l ∧ i = .int .i64 ch ∧ 2 * p + 1 ≤ ch ∧ ch ≤ 2 * p + 3 ∧ (l = p ∨ (2 * p + 1 ≤ l ∧ l < ch ∧ l < n ∧ wkey (f l) < wkey (f p))) ∧ (∀ i, 2 * p + 1 ≤ i → i < ch → i < n → wkey (f l) ≤ wkey (f i)) ∧ Below w.heap.size w wr) (fun _ i _ => 2 * p + 3 - (intOf i).toNat)
  case atStart => exact ⟨p, 2 * p + 1, rfl, by go_num, by omega, by omega, Or.inl rfl, fun i h1 h2 => by omega, Below.refl _ _⟩
  case round =>
    obtain ⟨l, ch, rfl, rfl, h1, h2, h3, h4, hb⟩ := hrel
    have HVr := hide (blockLater hb HV.out)
    have HHr := hide (HH.out.below hb)
    have HB := hide hb
    have H3 := hide h3
    have H4 := hide h4
    have b0 : wr.cell? ⟨ob, 0, none⟩ = some (.slice (some ⟨g, 0, none⟩) n cap) := by rw [cell_of_row wr ob 0 _ _ (0, 0) HVr.out]; rfl
    have b1 : wr.cell? ⟨ob, 1, none⟩ = some (.func (.func 88) #[] #[]) := by rw [cell_of_row wr ob 1 _ _ (0, 0) HVr.out]; rfl
    have hl3 : l < ch := by rcases h3 with e | e <;> omega
    have hln : ch < n → l < n := fun hh => by omega
    have hle : ch ≤ 200000000003 := by omega
    clear hb h3 h4
    by_cases hc1 : ch ≤ 2 * p + 2
    · by_cases hc2 : ch < n
      · have hc1i : (ch : Int) ≤ 2 * (p : Int) + 2 := by omega
        have hc2i : (ch : Int) < (n : Int) := by omega
        have hln2 := hln hc2
        have hlni : (l : Int) < (n : Int) := by omega
        obtain ⟨x0, x1, x2, x3, x4, x5, x6, xf⟩ := HHr.out.cells hc2
        obtain ⟨y0, y1, y2, y3, y4, y5, y6, yf⟩ := HHr.out.cells hln2
        have HCK := hide (cheaper_any (f ch) (f l))
        have HO1 := hide (HOK.out ch hc2)
        have HO2 := hide (HOK.out l hln2)
        clear xf yf
        unfold wv wc7 at HCK
        by_cases hlt : wkey (f ch) < wkey (f l)
        all_goals
          first
          | (have hbb : decide (wkey (f ch) < wkey (f l)) = true := decide_eq_true hlt
             rw [hbb] at HCK
             have HLT := hide hlt)
          | (have hbb : decide (wkey (f ch) < wkey (f l)) = false := decide_eq_false hlt
             rw [hbb] at HCK
             have HLT := hide hlt)
          clear hbb hlt
          go_wp2_with fail
          go_region_held3 (fun w' => w'.cell? ⟨ob, 0, none⟩ = some (.slice (some ⟨g, 0, none⟩) n cap) ∧ w'.cell? ⟨ob, 1, none⟩ = some (.func (.func 88) #[] #[]) ∧ w'.cell? ⟨g, ch * 7, none⟩ = some (.int .i8 ((f ch).1 0)) ∧ w'.cell? ⟨g, ch * 7 + 1, none⟩ = some (.int .i8 ((f ch).1 1)) ∧ w'.cell? ⟨g, ch * 7 + 2, none⟩ = some (.int .i8 ((f ch).1 2)) ∧ w'.cell? ⟨g, ch * 7 + 3, none⟩ = some (.int .i8 ((f ch).1 3)) ∧ w'.cell? ⟨g, ch * 7 + 4, none⟩ = some (.int .i8 ((f ch).1 4)) ∧ w'.cell? ⟨g, ch * 7 + 5, none⟩ = some (.int .i64 (f ch).2.1) ∧ w'.cell? ⟨g, ch * 7 + 6, none⟩ = some (.int .i64 ((f ch).2.2 : Int)) ∧ w'.cell? ⟨g, l * 7, none⟩ = some (.int .i8 ((f l).1 0)) ∧ w'.cell? ⟨g, l * 7 + 1, none⟩ = some (.int .i8 ((f l).1 1)) ∧ w'.cell? ⟨g, l * 7 + 2, none⟩ = some (.int .i8 ((f l).1 2)) ∧ w'.cell? ⟨g, l * 7 + 3, none⟩ = some (.int .i8 ((f l).1 3)) ∧ w'.cell? ⟨g, l * 7 + 4, none⟩ = some (.int .i8 ((f l).1 4)) ∧ w'.cell? ⟨g, l * 7 + 5, none⟩ = some (.int .i64 (f l).2.1) ∧ w'.cell? ⟨g, l * 7 + 6, none⟩ = some (.int .i64 ((f l).2.2 : Int)))
            (first | (exact ⟨cell_later hb2 (by exact b0), cell_later hb2 (by exact b1), cell_later hb2 (by exact x0), cell_later hb2 (by exact x1), cell_later hb2 (by exact x2), cell_later hb2 (by exact x3), cell_later hb2 (by exact x4), cell_later hb2 (by exact x5), cell_later hb2 (by exact x6), cell_later hb2 (by exact y0), cell_later hb2 (by exact y1), cell_later hb2 (by exact y2), cell_later hb2 (by exact y3), cell_later hb2 (by exact y4), cell_later hb2 (by exact y5), cell_later hb2 (by exact y6)⟩) | go_keep)
            (first | (go_at_call 88; refine (HCK.out _ HO1.out HO2.out).mono ?_; rintro e w2 ⟨rfl, hb2⟩))
          have HB2 := hide (HB.out.trans ((below_tail (Joins.below_draws wr.heap.size wr 1) hb2).mono HB.out.size))
          clear hb2
          go_wp2_with fail
          go_roundw
          case rel =>
            have hlt := HLT.out
            have h3' := H3.out
            have h4' := H4.out
            first
            | (have hkp : wkey (f ch) < wkey (f p) := by
                 rcases h3' with e | e
                 · rw [← e]; exact hlt
                 · exact Int.lt_trans hlt e.2.2.2
               exact ⟨ch, ch + 1, rfl, by go_num, by omega, by omega, Or.inr ⟨h1, by omega, hc2, hkp⟩, fun i g1 g2 g3 => by
                by_cases e : i = ch
                · subst e; exact Int.le_refl _
                · exact Int.le_trans (Int.le_of_lt hlt) (h4' i g1 (by omega) g3), HB2.out⟩)
            | exact ⟨l, ch + 1, rfl, by go_num, by omega, by omega, h3'.imp id (fun e => ⟨e.1, by omega, e.2.2⟩), fun i g1 g2 g3 => by
                by_cases e : i = ch
                · subst e; omega
                · exact h4' i g1 (by omega) g3, HB2.out⟩
          case measure => simp [intOf]; omega
      · have hc1i : (ch : Int) ≤ 2 * (p : Int) + 2 := by omega
        have hc2i : ¬ ((ch : Int) < (n : Int)) := by omega
        go_wp2_with fail
        go_ret
        refine ⟨l, rfl, ⟨?_, fun i g1 g2 g3 => H4.out i (by omega) (by omega) g2⟩, HB.out⟩
        rcases H3.out with e | ⟨e1, e2, e3, e4⟩
        · exact Or.inl e
        · exact Or.inr ⟨e3, by omega, by omega, e4⟩
    · have hc1i : ¬ ((ch : Int) ≤ 2 * (p : Int) + 2) := by omega
      go_wp2_with fail
      go_ret
      refine ⟨l, rfl, ⟨?_, fun i g1 g2 g3 => H4.out i (by omega) (by omega) g2⟩, HB.out⟩
      rcases H3.out with e | ⟨e1, e2, e3, e4⟩
      · exact Or.inl e
      · exact Or.inr ⟨e3, by omega, by omega, e4⟩

def set7 (w : World) (g o : Nat) (x : Way) : World := ((((((w.setCell ⟨g, o, none⟩ (.int .i8 (x.1 0))).setCell ⟨g, o + 1, none⟩ (.int .i8 (x.1 1))).setCell ⟨g, o + 2, none⟩ (.int .i8 (x.1 2))).setCell ⟨g, o + 3, none⟩ (.int .i8 (x.1 3))).setCell ⟨g, o + 4, none⟩ (.int .i8 (x.1 4))).setCell ⟨g, o + 5, none⟩ (.int .i64 x.2.1)).setCell ⟨g, o + 6, none⟩ (.int .i64 (x.2.2 : Int))
theorem set7_far (w : World) (g o : Nat) (x : Way) {q : Nat} (h : q ≠ g) : (set7 w g o x).heap[q]? = w.heap[q]? := by
  unfold set7
  rw [Below.heap_setCell _ _ _ _ h, Below.heap_setCell _ _ _ _ h, Below.heap_setCell _ _ _ _ h, Below.heap_setCell _ _ _ _ h, Below.heap_setCell _ _ _ _ h, Below.heap_setCell _ _ _ _ h, Below.heap_setCell _ _ _ _ h]
theorem set7_chg {F : Nat → Prop} {a w : World} (h : Chg F a w) {g : Nat} (hg : F g) (o : Nat) (x : Way) : Chg F a (set7 w g o x) := by
  unfold set7
  exact ((((((h.setCell (p := ⟨g, o, none⟩) hg _).setCell (p := ⟨g, o + 1, none⟩) hg _).setCell (p := ⟨g, o + 2, none⟩) hg _).setCell (p := ⟨g, o + 3, none⟩) hg _).setCell (p := ⟨g, o + 4, none⟩) hg _).setCell (p := ⟨g, o + 5, none⟩) hg _).setCell (p := ⟨g, o + 6, none⟩) hg _
theorem HRow.set {w : World} {B g cap n : Nat} {f : Nat → Way} (h : HRow w B g cap n f) {i : Nat} (hi : i < n) (x : Way) : HRow (set7 w g (i * 7) x) B g cap n (updA f i x) := by
  obtain ⟨cur, h1, h2, h3⟩ := h.ex
  have b0 := Joins.block_setCell (i := i * 7) h1 (.int .i8 (x.1 0))
  have b1 := Joins.block_setCell (i := i * 7 + 1) b0 (.int .i8 (x.1 1))
  have b2 := Joins.block_setCell (i := i * 7 + 2) b1 (.int .i8 (x.1 2))
  have b3 := Joins.block_setCell (i := i * 7 + 3) b2 (.int .i8 (x.1 3))
  have b4 := Joins.block_setCell (i := i * 7 + 4) b3 (.int .i8 (x.1 4))
  have b5 := Joins.block_setCell (i := i * 7 + 5) b4 (.int .i64 x.2.1)
  have b6 := Joins.block_setCell (i := i * 7 + 6) b5 (.int .i64 (x.2.2 : Int))
  have hcap := h.le
  refine ⟨h.lo, h.le, h.max, _, b6, by simp [h2], fun k hk j hj => ?_⟩
  by_cases e : k = i
  · subst e
    have : updA f k x k = x := by unfold updA; rw [if_pos rfl]
    rw [this]
    unfold wc7
    rcases (show j = 0 ∨ j = 1 ∨ j = 2 ∨ j = 3 ∨ j = 4 ∨ j = 5 ∨ j = 6 by omega) with rfl | rfl | rfl | rfl | rfl | rfl | rfl
    all_goals
      simp only [Array.getElem?_setIfInBounds, Array.size_setIfInBounds, h2]
      simp
      try omega
  · have : updA f i x k = f k := by unfold updA; rw [if_neg e]
    rw [this, ← h3 k hk j hj]
    simp only [Array.getElem?_setIfInBounds]
    rw [if_neg (by omega), if_neg (by omega), if_neg (by omega), if_neg (by omega), if_neg (by omega), if_neg (by omega), if_neg (by omega)]
theorem updA_swp {f : Nat → Way} {c p : Nat} (h : c ≠ p) : updA (updA f c (f p)) p (f c) = swp f c p := by
  funext k
  unfold updA swp
  by_cases h1 : k = p
  · rw [if_pos h1, if_neg (by omega), if_pos h1]
  · rw [if_neg h1]
    by_cases h2 : k = c
    · rw [if_pos h2, if_pos h2]
    · rw [if_neg h2, if_neg h2, if_neg h1]
theorem HRow.swap {w : World} {B g cap n : Nat} {f : Nat → Way} (h : HRow w B g cap n f) {c p : Nat} (hc : c < n) (hp : p < n) (hne : c ≠ p) : HRow (set7 (set7 w g (c * 7) (f p)) g (p * 7) (f c)) B g cap n (swp f c p) := by
  rw [← updA_swp hne]
  exact (h.set hc (f p)).set hp (f c)
theorem WaysOk.swp {f : Nat → Way} {n i j : Nat} (h : WaysOk f n) (hi : i < n) (hj : j < n) : WaysOk (swp f i j) n := fun k hk => by
  unfold Go.Proofs.Ytmjjigdnoiphbaa.swp
  split
  · exact h j hj
  · split
    · exact h i hi
    · exact h k hk

/-- a heap of ways: its struct is block ob, its row lies at B or above -/
structure HeapAt (B : Nat) (w : World) (ob : Nat) (tv : Value) (n : Nat) (f : Nat → Way) : Prop where
  var : w.heap[ob]? = some (.cells #[tv, beforeV] 111 (0, 0))
  row : (tv = .slice none 0 0 ∧ n = 0) ∨ ∃ g cap, tv = .slice (some ⟨g, 0, none⟩) n cap ∧ HRow w B g cap n f
  lo : ob < B
  ok : WaysOk f n
theorem HeapAt.kept {B : Nat} {w w' : World} {ob : Nat} {tv : Value} {n : Nat} {f : Nat → Way} (h : HeapAt B w ob tv n f) (hb : ∀ q, q < w.heap.size → (q = ob ∨ tv.ownBlock = some q) → w'.heap[q]? = w.heap[q]?) : HeapAt B w' ob tv n f := by
  refine ⟨(hb ob (Array.getElem?_eq_some_iff.1 h.var).1 (Or.inl rfl)).trans h.var, ?_, h.lo, h.ok⟩
  rcases h.row with e | ⟨g, cap, e, hr⟩
  · exact Or.inl e
  · exact Or.inr ⟨g, cap, e, hr.kept (hb g hr.lt (Or.inr (by rw [e]; rfl)))⟩
theorem HeapAt.below {B : Nat} {w w' : World} {ob : Nat} {tv : Value} {n : Nat} {f : Nat → Way} (h : HeapAt B w ob tv n f) (hb : Below w.heap.size w w') : HeapAt B w' ob tv n f := h.kept (fun q hq _ => hb.block q hq)
/-- the row, as what is appended to wants it -/
theorem HeapAt.owns {B : Nat} {w : World} {ob : Nat} {tv : Value} {n : Nat} {f : Nat → Way} (h : HeapAt B w ob tv n f) : ∃ xs : List Value, w.ownsRow B 72 7 tv n xs ∧ ∀ i, i < n → ∀ j, j < 7 → xs[i * 7 + j]? = (wc7 (f i))[j]? := by
  rcases h.row with ⟨e1, e2⟩ | ⟨g, cap, e, hr⟩
  · subst e1 e2
    exact ⟨[], World.ownsRow_nil _ _ _ _, fun i hi => absurd hi (Nat.not_lt_zero _)⟩
  · subst e
    obtain ⟨cur, h1, h2, h3⟩ := hr.ex
    have hle := hr.le
    refine ⟨cur.toList.take (n * 7), ⟨?_, Or.inr ⟨g, cap, cur, rfl, hr.lo, h1, hr.le, hr.max, h2, rfl⟩⟩, fun i hi j hj => ?_⟩
    · simp [h2]
      omega
    · rw [List.getElem?_take, if_pos (by omega), Array.getElem?_toList]
      exact h3 i hi j hj
theorem HRow.of_owns {B : Nat} {w : World} {g cap n : Nat} {f : Nat → Way} {x : Way} {xs : List Value} (h : w.ownsRow B 72 7 (.slice (some ⟨g, 0, none⟩) (n + 1) cap) (n + 1) (xs ++ (wc7 x).toList)) (hl : xs.length = n * 7) (hx : ∀ i, i < n → ∀ j, j < 7 → xs[i * 7 + j]? = (wc7 (f i))[j]?) : HRow w B g cap (n + 1) (updA f n x) := by
  rcases h.2 with ⟨e, _⟩ | ⟨g', cap', cur, e, r1, r2, r3, r4, r5, r6⟩
  · omega
  · simp only [Value.slice.injEq, Option.some.injEq, Addr.mk.injEq, and_true, true_and] at e
    obtain ⟨rfl, rfl⟩ := e
    refine ⟨r1, r3, r4, cur, r2, r5, fun i hi j hj => ?_⟩
    have hk : cur[i * 7 + j]? = (xs ++ (wc7 x).toList)[i * 7 + j]? := by
      rw [← r6, List.getElem?_take, if_pos (by omega), Array.getElem?_toList]
    rw [hk]
    by_cases ei : i = n
    · subst ei
      have : updA f i x i = x := by unfold updA; rw [if_pos rfl]
      rw [this, List.getElem?_append_right (by omega), hl]
      rw [show i * 7 + j - i * 7 = j by omega, Array.getElem?_toList]
    · have : updA f n x i = f i := by unfold updA; rw [if_neg ei]
      rw [this, List.getElem?_append_left (by omega)]
      exact hx i (by omega) j hj

end Go.Proofs.Ytmjjigdnoiphbaa
