import Derived.Test.YtmjjigdnoiphbaaDoorK9
/-
  markIntS, heldIntS, markTrainS, markState.
-/
namespace Go.Proofs.YtmjjigdnoiphbaaDoor
open Go.RowKit Go.Deep
set_option linter.unusedVariables false

/-- the marks of the first k trains -/
def mX (m : Int) (pl : Nat → Nat) (X : Nat → Int) (k : Nat) : Nat → Int := fun i => if i < k then cnt m pl i else X i
def mY (m : Int) (pl : Nat → Nat) (Y : Nat → Int) (k : Nat) : Nat → Int := fun i => if i < k then cnt m pl i + 1 + pl i else Y i
def mZ (m : Int) (pl : Nat → Nat) (Z : Nat → Nat → Int) (k : Nat) : Nat → Nat → Int := fun i => if i < k then (fun j => cnt m pl i + 1 + j) else Z i

/-- where a state of the call's own lies -/
structure Lies where
  ra : Option Addr
  rc : Nat
  ta : Option Addr
  tc : Nat
  na : Option Addr
  nc : Nat
  pa : Nat → Option Addr
  pc : Nat → Nat

def Lies.val (L : Lies) (st : St) : Value := .agg #[.slice L.ra st.1.length L.rc, .slice L.ta st.2.1.length L.tc, .slice L.na st.2.2.length L.nc]
/-- its blocks -/
def Lies.F (L : Lies) (n : Nat) : Nat → Prop := fun k => FA L.ra k ∨ FA L.na k ∨ FT L.ta L.pa n k

/-- its lists lie apart, in blocks that are there -/
structure Lies.Apart (L : Lies) (n : Nat) (w : World) : Prop where
  rt : ∀ k, FA L.ra k → ¬ FT L.ta L.pa n k
  nt : ∀ k, FA L.na k → ¬ FT L.ta L.pa n k
  rn : ∀ k, FA L.ra k → ¬ FA L.na k
  lt : ∀ k, L.F n k → k < w.heap.size

structure OwnS (w : World) (L : Lies) (st : St) : Prop where
  r : OwnF w L.ra st.1.length (el st.1)
  t : OwnT w L.ta st.2.1.length L.pa (fun i => (tPath st.2.1 i).length) L.pc (tAt st.2.1) (tWt st.2.1) (fun i j => el (tPath st.2.1 i) j)
  n : OwnF w L.na st.2.2.length (el st.2.2)
  apart : L.Apart st.2.1.length w

theorem OwnS.at {w : World} {L : Lies} {st : St} (h : OwnS w L st) : StateAt w (L.val st) st :=
  ⟨_, _, _, rfl, h.r.at (fun _ _ => rfl), h.t.at (fun _ _ => rfl) (fun _ _ => rfl) (fun _ _ => rfl) (fun _ _ _ _ => rfl), h.n.at (fun _ _ => rfl)⟩

theorem OwnS.keep {w w' : World} {L : Lies} {st : St} (h : OwnS w L st) (hz : w.heap.size ≤ w'.heap.size) (hb : ∀ k, k < w.heap.size → L.F st.2.1.length k → w'.heap[k]? = w.heap[k]?) : OwnS w' L st :=
  ⟨h.r.keep (fun k hk e => hb k hk (Or.inl e)), h.t.keep (fun k hk e => hb k hk (Or.inr (Or.inr e))), h.n.keep (fun k hk e => hb k hk (Or.inr (Or.inl e))), ⟨h.apart.rt, h.apart.nt, h.apart.rn, fun k hk => Nat.lt_of_lt_of_le (h.apart.lt k hk) hz⟩⟩
theorem OwnS.below {w w' : World} {L : Lies} {st : St} (h : OwnS w L st) (hb : Below w.heap.size w w') : OwnS w' L st := h.keep hb.size (fun k hk _ => hb.block k hk)

/-- the same state, marked -/
structure MarkedS (w : World) (L : Lies) (st : St) (m : Int) : Prop where
  r : OwnF w L.ra st.1.length (fun i => m + i)
  t : OwnT w L.ta st.2.1.length L.pa (fun i => (tPath st.2.1 i).length) L.pc (mX (m + st.1.length) (fun i => (tPath st.2.1 i).length) (tAt st.2.1) st.2.1.length) (mY (m + st.1.length) (fun i => (tPath st.2.1 i).length) (tWt st.2.1) st.2.1.length) (mZ (m + st.1.length) (fun i => (tPath st.2.1 i).length) (fun i j => el (tPath st.2.1 i) j) st.2.1.length)
  n : OwnF w L.na st.2.2.length (fun i => cnt (m + st.1.length) (fun i => (tPath st.2.1 i).length) st.2.1.length + i)
theorem MarkedS.keep {w w' : World} {L : Lies} {st : St} {m : Int} (h : MarkedS w L st m) (hb : ∀ k, k < w.heap.size → L.F st.2.1.length k → w'.heap[k]? = w.heap[k]?) : MarkedS w' L st m :=
  ⟨h.r.keep (fun k hk e => hb k hk (Or.inl e)), h.t.keep (fun k hk e => hb k hk (Or.inr (Or.inr e))), h.n.keep (fun k hk e => hb k hk (Or.inr (Or.inl e)))⟩
theorem MarkedS.below {w w' : World} {L : Lies} {st : St} {m : Int} (h : MarkedS w L st m) (hb : Below w.heap.size w w') : MarkedS w' L st m := h.keep (fun k hk _ => hb.block k hk)

/-- what marking a state comes to -/
def total (m : Int) (st : St) : Int := cnt (m + st.1.length) (fun i => (tPath st.2.1 i).length) st.2.1.length + st.2.2.length

theorem total_le {st : St} (h : SmallSt st) : 1 ≤ total 1 st ∧ cnt (1 + st.1.length) (fun i => (tPath st.2.1 i).length) st.2.1.length ≤ 4503599627370496 ∧ 1 ≤ cnt (1 + st.1.length) (fun i => (tPath st.2.1 i).length) st.2.1.length := by
  obtain ⟨u1, u2⟩ := cnt_le (m := 1 + st.1.length) (pl := fun i => (tPath st.2.1 i).length) h.pl st.2.1.length (Nat.le_refl _)
  have u3 : (st.2.1.length : Int) * 1048578 ≤ 1048576 * 1048578 := Int.mul_le_mul_of_nonneg_right (by have := h.tl; omega) (by omega)
  have := h.rl
  unfold total
  omega

end Go.Proofs.YtmjjigdnoiphbaaDoor

/-
  laws.FnExactMoves: the walk.
-/
namespace Go.Proofs.YtmjjigdnoiphbaaDoor
open Go.RowKit Go.Deep
set_option linter.unusedVariables false

/-- where toState lays a state -/
def madeL (s : Nat) (st : St) : Lies where
  ra := some ⟨s + 3, 0, none⟩
  rc := st.1.length
  ta := some ⟨s + 4, 0, none⟩
  tc := st.2.1.length
  na := some ⟨s + 5 + 4 * st.2.1.length, 0, none⟩
  nc := st.2.2.length
  pa := fun i => some ⟨s + 4 + 4 * (i + 1), 0, none⟩
  pc := fun i => (tPath st.2.1 i).length

theorem madeL_val (s : Nat) (st : St) : (madeL s st).val st = stVal s st := rfl

theorem madeL_F {s : Nat} {st : St} {k : Nat} (h : (madeL s st).F st.2.1.length k) : s + 3 ≤ k ∧ k < s + 6 + 4 * st.2.1.length := by
  rcases h with h | h | h | ⟨i, hi, h⟩
  · have := FA_some h; omega
  · have := FA_some h; omega
  · have := FA_some h; omega
  · have := FA_some h; omega

theorem StMade.own {s : Nat} {st : St} {w : World} (h : StMade s st w) : OwnS w (madeL s st) st := by
  refine ⟨rowIs_ownF h.1, ⟨fun i hi => ?_, fun i hi => rowIs_ownF (h.2.1.2 i hi), fun i k hi e e' => ?_, fun i j k hi hj hij e e' => ?_⟩, rowIs_ownF h.2.2, ⟨fun k e e' => ?_, fun k e e' => ?_, fun k e e' => ?_, fun k hk => ?_⟩⟩
  · have c0 := h.2.1.1.cell (i := i * 3) (by omega)
    have c1 := h.2.1.1.cell (i := i * 3 + 1) (by omega)
    have c2 := h.2.1.1.cell (i := i * 3 + 2) (by omega)
    rw [trCell0] at c0
    rw [trCell1] at c1
    rw [trCell2] at c2
    refine ⟨s + 4, 0, rfl, by rw [Nat.zero_add]; exact c0, by rw [Nat.zero_add]; exact c1, by rw [Nat.zero_add]; exact c2, fun o _ => h.2.1.1.frozen _⟩
  · have a1 := FA_some e
    have a2 := FA_some e'
    omega
  · have a1 := FA_some e
    have a2 := FA_some e'
    omega
  · have a1 := FA_some e
    rcases e' with e' | ⟨i, hi, e'⟩
    · have a2 := FA_some e'; omega
    · have a2 := FA_some e'; omega
  · have a1 := FA_some e
    rcases e' with e' | ⟨i, hi, e'⟩
    · have a2 := FA_some e'; omega
    · have a2 := FA_some e'; omega
  · have a1 := FA_some e
    have a2 := FA_some e'
    omega
  · have a1 := madeL_F hk
    have a2 := h.2.2.lt
    omega

theorem OwnInts.keepOn {base : Nat} {w w' : World} {v : Value} {xs : List Int} (h : OwnInts base w v xs) (hb : ∀ k, k < w.heap.size → base ≤ k → w'.heap[k]? = w.heap[k]?) : OwnInts base w' v xs := by
  obtain ⟨h1, h2⟩ := h
  refine ⟨h1, ?_⟩
  rcases h2 with h2 | ⟨g, cap, cur, hv, hg, hh, r⟩
  · exact Or.inl h2
  · exact Or.inr ⟨g, cap, cur, hv, hg, by rw [hb g (Array.getElem?_eq_some_iff.1 hh).1 hg]; exact hh, r⟩

theorem StMade.cap {s : Nat} {st : St} {w : World} (h : StMade s st w) : CapSt w (stVal s st) st.2.1.length := fun a1 l1 q1 a2 l2 q2 a3 l3 q3 hv i b off p q c hi ha hc => by
  simp only [stVal, Value.agg.injEq, Array.mk.injEq, List.cons.injEq, Value.slice.injEq, and_true] at hv
  obtain ⟨_, ⟨rfl, _, _⟩, _⟩ := hv
  simp only [Option.some.injEq, Addr.mk.injEq, and_true] at ha
  obtain ⟨rfl, rfl⟩ := ha
  have c1 := h.2.1.1.cell (i := i * 3 + 1) (by omega)
  rw [trCell1] at c1
  rw [Nat.zero_add] at hc
  rw [hc] at c1
  simp only [Option.some.injEq, Value.slice.injEq] at c1
  omega


end Go.Proofs.YtmjjigdnoiphbaaDoor

/-
  heldTrainS, heldState, l1name, slices.Index, copied.
-/
namespace Go.Proofs.YtmjjigdnoiphbaaDoor
open Go.RowKit Go.Deep
set_option linter.unusedVariables false

/-- the place of a name, or how many there are -/
def nameIx (ns : List Int) (x : Int) : Nat := ns.findIdx (fun y => decide (y = x))
def nameRes (ns : List Int) (x : Int) : Int := if nameIx ns x < ns.length then nameIx ns x else -1

theorem nameIx_at {ns : List Int} {x : Int} {k : Nat} (hk : k < ns.length) (h : el ns k = x) (ha : ∀ j, j < k → el ns j ≠ x) : nameIx ns x = k := by
  unfold nameIx
  rw [List.findIdx_eq hk]
  refine ⟨?_, fun j hj => ?_⟩
  · simpa [el, hk] using h
  · have := ha j hj
    have hj' : j < ns.length := by omega
    simpa [el, hj'] using this
theorem nameIx_none {ns : List Int} {x : Int} (ha : ∀ j, j < ns.length → el ns j ≠ x) : ¬ nameIx ns x < ns.length := by
  unfold nameIx
  rw [List.findIdx_lt_length]
  rintro ⟨y, hy, e⟩
  obtain ⟨j, hj, rfl⟩ := List.mem_iff_getElem.1 hy
  have := ha j hj
  simp [el, hj] at this e
  exact this e

set_option maxHeartbeats 800000 in
theorem l1name_any (v : Value) (st : St) (x : Int) (w : World) (h : StateAt w v st) (hl : st.2.2.length ≤ 4611686018427387904) :
    Calls Tryd.prog 25 #[v, .int .i64 x] w fun e w' => e = .returned (.int .i64 (nameRes st.2.2 x)) ∧ Below w.heap.size w w' := by
  obtain ⟨a1, q1, a2, q2, a3, q3, rfl⟩ := h.form
  have HN := hide h.parts.2.2
  have HY : Hid (∀ k, k < st.2.2.length → el st.2.2 k = x → (∀ j, j < k → el st.2.2 j ≠ x) → nameRes st.2.2 x = k) := fun k hk he ha => by
    unfold nameRes
    rw [nameIx_at hk he ha, if_pos hk]
  have HZ : Hid ((∀ j, j < st.2.2.length → el st.2.2 j ≠ x) → nameRes st.2.2 x = -1) := fun ha => by
    unfold nameRes
    rw [if_neg (nameIx_none ha)]
  generalize nameRes st.2.2 x = r at *
  clear h
  go_enter Tryd.func25, Tryd.ntmps25
  go_wp2
  go_loop [10] (fun i => ∃ k : Nat, k ≤ st.2.2.length ∧ i = .int .i64 k ∧ Hid (∀ j, j < k → el st.2.2 j ≠ x)) (fun i => st.2.2.length - (intOf i).toNat)
  case atStart => exact ⟨0, Nat.zero_le _, rfl, fun j hj => absurd hj (Nat.not_lt_zero _)⟩
  case round =>
    obtain ⟨k, hk, rfl, hall⟩ := hrel
    by_cases hlt : k < st.2.2.length
    · obtain ⟨b, off, rfl, hc⟩ := HN.out.cellAt k hlt
      have hbl := World.block_lt_of_cell? _ _ hc
      simp only at hbl
      by_cases he : el st.2.2 k = x
      · have HQ := hide (HY.out k hlt he hall.out)
        have heb : (el st.2.2 k == x) = true := by simp [he]
        clear he
        go_wp2
        go_ret
        exact ⟨by rw [HQ.out]; rfl, Joins.below_alloc1 _ _⟩
      · have heb : (el st.2.2 k == x) = false := by simp [he]
        have HE := hide he
        clear he
        go_wp2
        go_round
        case rel => exact ⟨k + 1, by omega, by go_num, fun j hj => by
          by_cases e : j = k
          · subst e; exact HE.out
          · exact hall.out j (by omega)⟩
        case measure => simp [intOf]; omega
    · have HQ := hide (HZ.out (fun j hj => hall.out j (by omega)))
      go_wp2
      go_ret
      exact ⟨by rw [HQ.out]; rfl, Joins.below_alloc1 _ _⟩

set_option maxHeartbeats 800000 in
theorem index_any (a : Option Addr) (l q : Nat) (ns : List Int) (x : Int) (w : World) (h : IntsAt w (.slice a l q) ns) (hl : ns.length ≤ 4611686018427387904) :
    Calls Tryd.prog 57 #[.slice a l q, .int .i64 x] w fun e w' => e = .returned (.int .i64 (nameRes ns x)) ∧ w = w' := by
  have HN := hide h
  obtain ⟨a', c', hv, _⟩ := h
  simp only [Value.slice.injEq] at hv
  obtain ⟨rfl, rfl, rfl⟩ := hv
  have HY : Hid (∀ k, k < ns.length → el ns k = x → (∀ j, j < k → el ns j ≠ x) → nameRes ns x = k) := fun k hk he ha => by
    unfold nameRes
    rw [nameIx_at hk he ha, if_pos hk]
  have HZ : Hid ((∀ j, j < ns.length → el ns j ≠ x) → nameRes ns x = -1) := fun ha => by
    unfold nameRes
    rw [if_neg (nameIx_none ha)]
  generalize nameRes ns x = r at *
  go_enter Tryd.func57, Tryd.ntmps57
  go_wp2
  go_loop [8] (fun i => ∃ k : Nat, k ≤ ns.length ∧ i = .int .i64 k ∧ Hid (∀ j, j < k → el ns j ≠ x)) (fun i => ns.length - (intOf i).toNat)
  case atStart => exact ⟨0, Nat.zero_le _, rfl, fun j hj => absurd hj (Nat.not_lt_zero _)⟩
  case round =>
    obtain ⟨k, hk, rfl, hall⟩ := hrel
    by_cases hlt : k < ns.length
    · obtain ⟨b, off, rfl, hc⟩ := HN.out.cellAt k hlt
      by_cases he : el ns k = x
      · have HQ := hide (HY.out k hlt he hall.out)
        have heb : (x == el ns k) = true := by simp [he]
        clear he
        go_wp2
        go_ret
        exact ⟨by rw [HQ.out]; rfl, rfl⟩
      · have heb : (x == el ns k) = false := by simp; exact fun e => he e.symm
        have HE := hide he
        clear he
        go_wp2
        go_round
        case rel => exact ⟨k + 1, by omega, by go_num, fun j hj => by
          by_cases e : j = k
          · subst e; exact HE.out
          · exact hall.out j (by omega)⟩
        case measure => simp [intOf]; omega
    · have HQ := hide (HZ.out (fun j hj => hall.out j (by omega)))
      go_wp2
      go_ret
      exact ⟨by rw [HQ.out]; rfl, rfl⟩

theorem ints_news {w : World} {a : Addr} {l q : Nat} {xs : List Int} (h : IntsAt w (.slice (some a) l q) xs) : ∀ j u, (xs.map (Value.int .i64))[j]? = some u → w.cell? (a.add j) = some u := fun j u hu => by
  have hj : j < xs.length := by simpa using (List.getElem?_eq_some_iff.1 hu).1
  obtain ⟨b, off, e, hc⟩ := h.cellAt j hj
  simp only [Option.some.injEq] at e
  subst e
  rw [WideShapes.add_plain]
  rw [hc]
  rw [← hu]
  simp [el, hj]

set_option maxHeartbeats 800000 in
theorem copied_any (v : Value) (xs : List Int) (w : World) (h : IntsAt w v xs) (hl : xs.length ≤ 1048576) :
    Calls Tryd.prog 107 #[v] w fun e w' => ∃ r, e = .returned r ∧ OwnInts w.heap.size w' r xs ∧ Below w.heap.size w w' := by
  have H := hide h
  obtain ⟨a, cap, rfl, _⟩ := h
  obtain ⟨i0, hi, hz0, hz1, hz2⟩ := info_parts Tryd.infoInt
  cases a with
  | none =>
    have hx : xs = [] := by
      cases xs with
      | nil => rfl
      | cons x r => obtain ⟨b, off, e, _⟩ := H.out.cellAt 0 (by simp); cases e
    subst hx
    go_enter Tryd.func107, Tryd.ntmps107
    go_wp2
    go_ret
    exact ⟨_, rfl, OwnInts.nil _ _, Below.refl _ _⟩
  | some ad =>
    go_enter Tryd.func107, Tryd.ntmps107
    go_wp2_with (first | (at_builtin; refine wpList_append_own _ rfl _ _ 23 rfl w.heap.size 3 i0 (.int .i64 0) 1 8 Tryd.underlying23 hi hz0 hz1 hz2 rfl (by decide) _ 0 [] rfl (World.ownsRow_nil _ _ _ _) ad xs.length cap (xs.map (Value.int .i64)) rfl ?c0 (ints_news H.out) ?c2 ?c3 ?c4 (Nat.le_refl _) ?_))
    case c0 => simp
    case c2 => intro u hu; simp at hu; obtain ⟨y, _, rfl⟩ := hu; rfl
    case c3 => unfold maxLen; omega
    case c4 => omega
    · intro v' w1 hown hgrow _
      go_wp2
      go_ret
      refine ⟨_, rfl, ?_, below_grown (Below.refl _ _) (World.ownsRow_nil w w.heap.size 3 1) hgrow (Nat.le_refl _) (Nat.le_refl _)⟩
      unfold OwnInts
      simpa using hown
end Go.Proofs.YtmjjigdnoiphbaaDoor
