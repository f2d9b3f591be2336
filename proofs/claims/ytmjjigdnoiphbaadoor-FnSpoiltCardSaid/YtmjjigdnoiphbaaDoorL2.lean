import Derived.Test.YtmjjigdnoiphbaaDoorL1
import Derived.Deep.AppendSrc
import Derived.Deep.AppendLies
/-
  append([]int{}, xs...).
-/
namespace Go.Proofs.YtmjjigdnoiphbaaDoor
open Go.RowKit Go.Deep
set_option linter.unusedVariables false

theorem wpList_append_run {P : Program} {ops : Array Oper} {rest : List Oper} {o : Oper} {a : Act} {w : World} {Q : Exit → Act → World → Prop} (hgd : o.guard = none) (s x : Operand) (t : TypeId)
    (ho : o.op = .call { callee := .builtin .append, args := #[s, x], argTypes := #[t, t] }) (vs vx v' : Value) (w' : World) (hs : a.eval s = vs) (hx : a.eval x = vx)
    (hrun : (Builtin.append_ #[t, t] o.type #[vs, vx]).run P w = .ok v' w') (h : wpList P ops Q rest (a.put o.dst v') w') : wpList P ops Q (o :: rest) a w :=
  wpList_plain hgd fun _ hK => by
    unfold Oper.wp execOp
    simp only [ho, resolve, invoke, builtin, Sem.run_bind, Sem.run_pure, Result.andThen_ok, List.map_toArray, List.map_cons, List.map_nil, hs, hx, hrun]
    exact hK _ _ h

theorem run_append_nil_nil (ty : TypeId) (c : Nat) (w : World) : (Builtin.append_ #[23, 23] ty #[.slice none 0 0, .slice none 0 c]).run Tryd.prog w = .ok (.slice none 0 0) w := by
  obtain ⟨i0, hi, hz0, hz1, hz2⟩ := info_parts Tryd.infoInt
  have hs := Src.ofNil (P := Tryd.prog) (size := 1) (tx := 23) (e' := 3) w Tryd.underlying23 c
  have h1 := hs.len
  have h2 := hs.cells
  simp [Builtin.append_, run_underlying Tryd.underlying23, sizeOf, typeInfo, hi, hz1, h1, h2]

theorem run_append_some_nil (ty : TypeId) (b off n cap c : Nat) (hn : n ≤ cap) (w : World) : (Builtin.append_ #[23, 23] ty #[.slice (some ⟨b, off, none⟩) n cap, .slice none 0 c]).run Tryd.prog w = .ok (.slice (some ⟨b, off, none⟩) n cap) w := by
  obtain ⟨i0, hi, hz0, hz1, hz2⟩ := info_parts Tryd.infoInt
  exact run_append_room_src (P := Tryd.prog) w 23 23 ty 3 i0 Tryd.underlying23 hi b off n cap (.slice none 0 c) 0 [] (by rw [hz1]; exact Src.ofNil w Tryd.underlying23 c) (by omega) (fun j hj => absurd hj (Nat.not_lt_zero _)) (fun j hj => absurd hj (Nat.not_lt_zero _))

/-- 'append(v0, xs...)', v0 empty and of the call's own -/
theorem wpList_append_ints {ops : Array Oper} {rest : List Oper} {o : Oper} {a : Act} {w : World} {Q : Exit → Act → World → Prop} (hgd : o.guard = none) (s x : Operand)
    (ho : o.op = .call { callee := .builtin .append, args := #[s, x], argTypes := #[23, 23] }) (base : Nat) (v0 v : Value) (xs : List Int) (hs : a.eval s = v0) (hx : a.eval x = v)
    (h0 : OwnInts base w v0 []) (h : IntsAt w v xs) (hl : xs.length ≤ 1048576) (hbase : base ≤ w.heap.size)
    (hK : ∀ v' w', OwnInts base w' v' xs → w.grownBy w' v0.ownBlock → wpList Tryd.prog ops Q rest (a.put o.dst v') w') : wpList Tryd.prog ops Q (o :: rest) a w := by
  obtain ⟨i0, hi, hz0, hz1, hz2⟩ := info_parts Tryd.infoInt
  obtain ⟨ad, cap, rfl, _⟩ := id h
  cases ad with
  | some ad =>
    refine wpList_append_own w hgd s x 23 ho base 3 i0 (.int .i64 0) 1 8 Tryd.underlying23 hi hz0 hz1 hz2 rfl (by decide) v0 0 [] hs (by simpa [OwnInts] using h0) ad xs.length cap (xs.map (Value.int .i64)) hx (by simp) (ints_news h) ?_ ?_ ?_ hbase (fun v' w' hown hgrow _ => hK v' w' (by simpa [OwnInts] using hown) hgrow)
    · intro u hu
      simp at hu
      obtain ⟨y, _, rfl⟩ := hu
      rfl
    · unfold maxLen; omega
    · omega
  | none =>
    have hxs : xs = [] := by
      cases xs with
      | nil => rfl
      | cons y r => obtain ⟨b, off, e, _⟩ := h.cellAt 0 (by simp); cases e
    subst hxs
    have hg : ∀ row, w.grownBy w row := fun row => ⟨rfl, rfl, rfl, Nat.le_refl _, fun _ _ _ => rfl⟩
    rcases h0.lies with ⟨rfl, _⟩ | ⟨g, cp, cur, rfl, _⟩
    · exact wpList_append_run hgd s x 23 ho _ _ _ _ hs hx (run_append_nil_nil o.type cap w) (hK _ _ h0 (hg _))
    · exact wpList_append_run hgd s x 23 ho _ _ _ _ hs hx (run_append_some_nil o.type g 0 0 cp cap (Nat.zero_le _) w) (hK _ _ h0 (hg _))

theorem ownInts_made (w : World) (base : Nat) (hb : base ≤ w.heap.size) : OwnInts base (w.alloc (.cells #[] 3)) (.slice (some ⟨w.heap.size, 0, none⟩) 0 0) [] := by
  unfold OwnInts
  exact World.ownsRow_made w #[] 0 hb (Nat.zero_le _) rfl

theorem Tryd.infoBool : (Tryd.prog.info? 4).map (fun i => (i.zero, i.size, i.bytes)) = some (some (.bool false), 1, 1) := by kernel_rfl
theorem Tryd.infoInts : (Tryd.prog.info? 23).map (fun i => (i.zero, i.size, i.bytes)) = some (some (.slice none 0 0), 1, 24) := by kernel_rfl

theorem rowIs_keep {w w' : World} {b : Nat} {t : TypeId} {n : Nat} {f : Nat → Value} (h : w.rowIs b t n f) (hb : w'.heap[b]? = w.heap[b]?) : w'.rowIs b t n f := by
  obtain ⟨A, hA, r⟩ := h
  exact ⟨A, hb.trans hA, r⟩
end Go.Proofs.YtmjjigdnoiphbaaDoor

/-
  A number appended to a row of the call's own.
-/
namespace Go.Proofs.YtmjjigdnoiphbaaDoor
open Go.RowKit Go.Deep
set_option linter.unusedVariables false

theorem wpList_push {ops : Array Oper} {rest : List Oper} {o : Oper} {a : Act} {w : World} {Q : Exit → Act → World → Prop} (hgd : o.guard = none) (s x : Operand)
    (ho : o.op = .call { callee := .builtin .append, args := #[s, x], argTypes := #[23, 23] }) (base : Nat) (v0 : Value) (xs : List Int) (y : Int) (g0 : Nat) (hs : a.eval s = v0) (hx : a.eval x = .slice (some ⟨g0, 0, none⟩) 1 1)
    (h0 : OwnInts base w v0 xs) (hg : w.heap[g0]? = some (.cells #[.int .i64 y] 3 (0, 0))) (hl : xs.length ≤ 1048576) (hbase : base ≤ w.heap.size)
    (hK : ∀ g cap w', OwnInts base w' (.slice (some ⟨g, 0, none⟩) (xs.length + 1) cap) (xs ++ [y]) → w.grownBy w' v0.ownBlock → (v0.ownBlock = some g ∨ g = w.heap.size) → g < w'.heap.size → wpList Tryd.prog ops Q rest (a.put o.dst (.slice (some ⟨g, 0, none⟩) (xs.length + 1) cap)) w') : wpList Tryd.prog ops Q (o :: rest) a w := by
  obtain ⟨i0, hi, hz0, hz1, hz2⟩ := info_parts Tryd.infoInt
  refine wpList_append_lies w hgd s x 23 ho base 3 i0 (.int .i64 0) 1 8 Tryd.underlying23 hi hz0 hz1 hz2 rfl (by decide) v0 xs.length (xs.map (Value.int .i64)) hs h0 ⟨g0, 0, none⟩ 1 1 [.int .i64 y] hx rfl (World.news_of_block (cs := #[.int .i64 y]) hg) (by simp [Value.oneCell']) (by omega) (by unfold maxLen; omega) (by omega) hbase w.heap.size rfl ?_
  intro g cap w' hown hgrow hat hlt
  exact hK g cap w' (OwnInts.snoc hown) hgrow hat hlt
/-- a row that another one's growth leaves alone -/
theorem OwnInts.grown {base base' : Nat} {w w' : World} {v v0 : Value} {xs : List Int} (h : OwnInts base w v xs) (hg : w.grownBy w' v0.ownBlock) (hne : ∀ q, v.ownBlock = some q → v0.ownBlock ≠ some q) : OwnInts base w' v xs := by
  obtain ⟨h1, h2⟩ := h
  refine ⟨h1, ?_⟩
  rcases h2 with e | ⟨g, cap, cur, hv, k1, k2, k3⟩
  · exact Or.inl e
  · subst hv
    exact Or.inr ⟨g, cap, cur, rfl, k1, (hg.block g (Array.getElem?_eq_some_iff.1 k2).1 (fun e => hne g rfl e.symm)).trans k2, k3⟩
theorem OwnInts.far {base : Nat} {w w' : World} {v : Value} {xs : List Int} (h : OwnInts base w v xs) (hb : ∀ q, v.ownBlock = some q → w'.heap[q]? = w.heap[q]?) : OwnInts base w' v xs := by
  obtain ⟨h1, h2⟩ := h
  refine ⟨h1, ?_⟩
  rcases h2 with e | ⟨g, cap, cur, hv, k1, k2, k3⟩
  · exact Or.inl e
  · subst hv
    exact Or.inr ⟨g, cap, cur, rfl, k1, (hb g rfl).trans k2, k3⟩
theorem OwnInts.own {base : Nat} {w : World} {v : Value} {xs : List Int} (h : OwnInts base w v xs) {q : Nat} (hq : v.ownBlock = some q) : base ≤ q ∧ q < w.heap.size := by
  rcases h.2 with ⟨e, _⟩ | ⟨g, cap, cur, hv, k1, k2, k3⟩
  · rw [e] at hq; simp [Value.ownBlock] at hq
  · subst hv
    simp [Value.ownBlock] at hq
    subst hq
    exact ⟨k1, (Array.getElem?_eq_some_iff.1 k2).1⟩
/-- what a push leaves of a block ahead of the store -/
theorem pushed_row {wr w' : World} {bs base : Nat} {rv : Value} {cs : Array Value} {T : TypeId} {xs : List Int} {o : Obj} (hr : wr.heap[bs]? = some (.cells cs T (0, 0))) (ho : OwnInts base wr rv xs) (hB : bs < base) (hgrow : (wr.alloc o).grownBy w' rv.ownBlock) : w'.heap[bs]? = some (.cells cs T (0, 0)) := by
  have hlt := (Array.getElem?_eq_some_iff.1 hr).1
  rw [hgrow.block bs (by simp; omega) (fun e => by have := (ho.own e.symm).1; omega)]
  exact ((Joins.below_alloc1 wr o).block bs hlt).trans hr
/-- a number pushed to a field: what stands behind it -/
theorem pushed {w wr w' : World} {H0 bs j base : Nat} {rv : Value} {cs : Array Value} {T : TypeId} {xs : List Int} {y : Int} {g m cap : Nat} {o : Obj} (hr : wr.heap[bs]? = some (.cells cs T (0, 0))) (ho : OwnInts base wr rv xs) (hB : bs < base) (hH : H0 ≤ bs) (hb : Below H0 w wr)
    (hown : OwnInts base w' (.slice (some ⟨g, 0, none⟩) m cap) (xs ++ [y])) (hgrow : (wr.alloc o).grownBy w' rv.ownBlock) (hat : rv.ownBlock = some g ∨ g = wr.heap.size + 1) :
    (w'.setCell ⟨bs, j, none⟩ (.slice (some ⟨g, 0, none⟩) m cap)).heap[bs]? = some (.cells (cs.setIfInBounds j (.slice (some ⟨g, 0, none⟩) m cap)) T (0, 0)) ∧
    (∀ q, q < wr.heap.size → q ≠ bs → rv.ownBlock ≠ some q → (w'.setCell ⟨bs, j, none⟩ (.slice (some ⟨g, 0, none⟩) m cap)).heap[q]? = wr.heap[q]?) ∧
    OwnInts base (w'.setCell ⟨bs, j, none⟩ (.slice (some ⟨g, 0, none⟩) m cap)) (.slice (some ⟨g, 0, none⟩) m cap) (xs ++ [y]) ∧
    Below H0 w (w'.setCell ⟨bs, j, none⟩ (.slice (some ⟨g, 0, none⟩) m cap)) ∧ (rv.ownBlock = some g ∨ wr.heap.size ≤ g) ∧ base ≤ g := by
  have hg := (hown.own (q := g) rfl).1
  have hbA : Below H0 w (wr.alloc o) := hb.alloc (by have := (Array.getElem?_eq_some_iff.1 hr).1; omega) o
  have hfar : ∀ q, q < wr.heap.size → rv.ownBlock ≠ some q → w'.heap[q]? = wr.heap[q]? := fun q hq hq2 => by
    rw [hgrow.block q (by simp; omega) (Ne.symm hq2)]
    exact (Joins.below_alloc1 wr o).block q hq
  refine ⟨Joins.block_setCell (pushed_row hr ho hB hgrow) _, fun q hq hq1 hq2 => ?_, hown.far (fun q hq => ?_), ?_, hat.imp id (fun e => by omega), hg⟩
  · rw [Below.heap_setCell _ _ _ _ hq1]
    exact hfar q hq hq2
  · simp [Value.ownBlock] at hq
    subst hq
    exact Below.heap_setCell _ _ _ _ (by show g ≠ bs; omega)
  · refine Below.setCell (p := ⟨bs, j, none⟩) ⟨hgrow.os.trans hbA.os, hgrow.tape.trans hbA.tape, hgrow.output.trans hbA.output, Nat.le_trans hbA.size hgrow.size, fun q hq => ?_⟩ hH _
    rw [hgrow.block q (Nat.lt_of_lt_of_le hq (by have := hbA.size; have := (Array.getElem?_eq_some_iff.1 hr).1; simp; omega)) (fun e => by have := (ho.own e.symm).1; omega)]
    exact hbA.block q hq
end Go.Proofs.YtmjjigdnoiphbaaDoor

/-
  TRAINS THAT ARE GATHERED BY append, each with a path of its own.
-/
namespace Go.Proofs.YtmjjigdnoiphbaaDoor
open Go.RowKit Go.Deep
set_option linter.unusedVariables false

def trVals (ts : List Tr) (pa : Nat → Option Addr) (pc : Nat → Nat) : List Value :=
  (List.range ts.length).flatMap (fun i => [.int .i64 (tAt ts i), .slice (pa i) (tPath ts i).length (pc i), .int .i64 (tWt ts i)])

theorem tGet_snoc (ts : List Tr) (t : Tr) (i : Nat) (hi : i < ts.length) : (ts ++ [t])[i]? = ts[i]? := List.getElem?_append_left hi
theorem tAt_snoc {ts : List Tr} {t : Tr} {i : Nat} (hi : i < ts.length) : tAt (ts ++ [t]) i = tAt ts i := by unfold tAt; rw [tGet_snoc ts t i hi]
theorem tPath_snoc {ts : List Tr} {t : Tr} {i : Nat} (hi : i < ts.length) : tPath (ts ++ [t]) i = tPath ts i := by unfold tPath; rw [tGet_snoc ts t i hi]
theorem tWt_snoc {ts : List Tr} {t : Tr} {i : Nat} (hi : i < ts.length) : tWt (ts ++ [t]) i = tWt ts i := by unfold tWt; rw [tGet_snoc ts t i hi]
theorem tAt_last (ts : List Tr) (t : Tr) : tAt (ts ++ [t]) ts.length = t.1 := by simp [tAt]
theorem tPath_last (ts : List Tr) (t : Tr) : tPath (ts ++ [t]) ts.length = t.2.1 := by simp [tPath]
theorem tWt_last (ts : List Tr) (t : Tr) : tWt (ts ++ [t]) ts.length = t.2.2 := by simp [tWt]

theorem flatMap_congr' {α β : Type} {l : List α} {f g : α → List β} (h : ∀ x, x ∈ l → f x = g x) : l.flatMap f = l.flatMap g := by
  induction l with
  | nil => rfl
  | cons x r ih => rw [List.flatMap_cons, List.flatMap_cons, h x (by simp), ih (fun y hy => h y (by simp [hy]))]

theorem trVals_snoc (ts : List Tr) (t : Tr) (pa : Nat → Option Addr) (pc : Nat → Nat) (a : Option Addr) (c : Nat) :
    trVals (ts ++ [t]) (upd pa ts.length a) (upd pc ts.length c) = trVals ts pa pc ++ [.int .i64 t.1, .slice a t.2.1.length c, .int .i64 t.2.2] := by
  unfold trVals
  rw [List.length_append, List.length_singleton, List.range_succ, List.flatMap_append]
  congr 1
  · refine flatMap_congr' (fun i hi => ?_)
    have hi' : i < ts.length := by simpa using hi
    have hne : i ≠ ts.length := by omega
    rw [tAt_snoc hi', tPath_snoc hi', tWt_snoc hi', upd_other _ _ hne, upd_other _ _ hne]
  · simp [tAt_last, tPath_last, tWt_last, upd_same]

theorem sum3 (n : Nat) : ((List.range n).map (fun _ => 3)).sum = n * 3 := by
  induction n with
  | zero => rfl
  | succ n ih =>
    rw [List.range_succ, List.map_append, List.sum_append, ih]
    simp
    omega

theorem trVals_length (ts : List Tr) (pa : Nat → Option Addr) (pc : Nat → Nat) : (trVals ts pa pc).length = ts.length * 3 := by
  unfold trVals
  simp [List.length_flatMap, sum3]

theorem flat3_get {α : Type} (f : Nat → α × α × α) : ∀ (n i o : Nat), i < n → o < 3 → ((List.range n).flatMap (fun j => [(f j).1, (f j).2.1, (f j).2.2]))[i * 3 + o]? = [(f i).1, (f i).2.1, (f i).2.2][o]?
  | 0, i, o, hi, _ => absurd hi (Nat.not_lt_zero _)
  | n + 1, i, o, hi, ho => by
    have hl : ((List.range n).flatMap (fun j => [(f j).1, (f j).2.1, (f j).2.2])).length = n * 3 := by simp [List.length_flatMap, sum3]
    rw [List.range_succ, List.flatMap_append]
    by_cases e : i < n
    · rw [List.getElem?_append_left (by omega)]
      exact flat3_get f n i o e ho
    · obtain rfl : i = n := by omega
      rw [List.getElem?_append_right (by omega), hl]
      simp

theorem trVals_get (ts : List Tr) (pa : Nat → Option Addr) (pc : Nat → Nat) {i : Nat} (hi : i < ts.length) :
    (trVals ts pa pc)[i * 3]? = some (.int .i64 (tAt ts i)) ∧ (trVals ts pa pc)[i * 3 + 1]? = some (.slice (pa i) (tPath ts i).length (pc i)) ∧ (trVals ts pa pc)[i * 3 + 2]? = some (.int .i64 (tWt ts i)) := by
  have h := fun o ho => flat3_get (fun j => (Value.int .i64 (tAt ts j), Value.slice (pa j) (tPath ts j).length (pc j), Value.int .i64 (tWt ts j))) ts.length i o hi ho
  exact ⟨h 0 (by omega), h 1 (by omega), h 2 (by omega)⟩

/-- the blocks of what is gathered -/
def FG (tv : Value) (pa : Nat → Option Addr) (n : Nat) : Nat → Prop := fun k => tv.ownBlock = some k ∨ ∃ i, i < n ∧ FA (pa i) k

/-- trains gathered in blocks from B on -/
structure Gath (B : Nat) (w : World) (tv : Value) (ts : List Tr) (pa : Nat → Option Addr) (pc : Nat → Nat) : Prop where
  row : w.ownsRow B 35 3 tv ts.length (trVals ts pa pc)
  path : ∀ i, i < ts.length → OwnF w (pa i) (tPath ts i).length (el (tPath ts i))
  capOk : ∀ i, i < ts.length → (tPath ts i).length ≤ pc i
  lo : ∀ i k, i < ts.length → FA (pa i) k → B ≤ k ∧ k < w.heap.size ∧ tv.ownBlock ≠ some k
  inj : ∀ i j k, i < ts.length → j < ts.length → i ≠ j → FA (pa i) k → ¬ FA (pa j) k

theorem Gath.nil (B : Nat) (w : World) (pa : Nat → Option Addr) (pc : Nat → Nat) : Gath B w (.slice none 0 0) [] pa pc :=
  ⟨World.ownsRow_nil w B 35 3, fun i hi => absurd hi (Nat.not_lt_zero _), fun i hi => absurd hi (Nat.not_lt_zero _), fun i k hi => absurd hi (Nat.not_lt_zero _), fun i j k hi => absurd hi (Nat.not_lt_zero _)⟩

theorem ownBlock_lt {w : World} {base : Nat} {e : TypeId} {size : Nat} {v : Value} {n : Nat} {xs : List Value} {k : Nat} (h : w.ownsRow base e size v n xs) (hk : v.ownBlock = some k) : base ≤ k ∧ k < w.heap.size := by
  rcases h.2 with ⟨rfl, _⟩ | ⟨g, cap, cur, rfl, hg, hh, _⟩
  · simp [Value.ownBlock] at hk
  · simp [Value.ownBlock] at hk
    subst hk
    exact ⟨hg, (Array.getElem?_eq_some_iff.1 hh).1⟩

theorem ownsRow_keep {w w' : World} {base : Nat} {e : TypeId} {size : Nat} {v : Value} {n : Nat} {xs : List Value} (h : w.ownsRow base e size v n xs) (hb : ∀ k, v.ownBlock = some k → w'.heap[k]? = w.heap[k]?) : w'.ownsRow base e size v n xs := by
  obtain ⟨h1, h2⟩ := h
  refine ⟨h1, ?_⟩
  rcases h2 with h2 | ⟨g, cap, cur, rfl, hg, hh, r⟩
  · exact Or.inl h2
  · exact Or.inr ⟨g, cap, cur, rfl, hg, by rw [hb g rfl]; exact hh, r⟩

theorem Gath.keep {B : Nat} {w w' : World} {tv : Value} {ts : List Tr} {pa : Nat → Option Addr} {pc : Nat → Nat} (h : Gath B w tv ts pa pc) (hz : w.heap.size ≤ w'.heap.size) (hb : ∀ k, k < w.heap.size → FG tv pa ts.length k → w'.heap[k]? = w.heap[k]?) : Gath B w' tv ts pa pc :=
  ⟨ownsRow_keep h.row (fun k hk => hb k (ownBlock_lt h.row hk).2 (Or.inl hk)), fun i hi => (h.path i hi).keep (fun k hk e => hb k hk (Or.inr ⟨i, hi, e⟩)), h.capOk, fun i k hi e => let ⟨u1, u2, u3⟩ := h.lo i k hi e; ⟨u1, Nat.lt_of_lt_of_le u2 hz, u3⟩, h.inj⟩
theorem Gath.chg {B : Nat} {G : Nat → Prop} {w w' : World} {tv : Value} {ts : List Tr} {pa : Nat → Option Addr} {pc : Nat → Nat} (h : Gath B w tv ts pa pc) (hc : Chg G w w') (hG : ∀ k, FG tv pa ts.length k → ¬ G k) : Gath B w' tv ts pa pc := h.keep hc.size (fun k hk e => hc.block k hk (hG k e))
theorem Gath.below {B : Nat} {w w' : World} {tv : Value} {ts : List Tr} {pa : Nat → Option Addr} {pc : Nat → Nat} (h : Gath B w tv ts pa pc) (hb : Below w.heap.size w w') : Gath B w' tv ts pa pc := h.keep hb.size (fun k hk _ => hb.block k hk)
theorem Gath.FG_lo {B : Nat} {w : World} {tv : Value} {ts : List Tr} {pa : Nat → Option Addr} {pc : Nat → Nat} (h : Gath B w tv ts pa pc) {k : Nat} (hk : FG tv pa ts.length k) : B ≤ k ∧ k < w.heap.size := by
  rcases hk with hk | ⟨i, hi, e⟩
  · exact ownBlock_lt h.row hk
  · exact ⟨(h.lo i k hi e).1, (h.lo i k hi e).2.1⟩

/-- one train more, its path in a block of its own -/
theorem Gath.snoc {B : Nat} {w w' : World} {tv : Value} {ts : List Tr} {pa : Nat → Option Addr} {pc : Nat → Nat} (h : Gath B w tv ts pa pc) {t : Tr} {a : Option Addr} {c g cap : Nat}
    (hp : OwnF w a t.2.1.length (el t.2.1)) (hcap : t.2.1.length ≤ c) (hlo : ∀ k, FA a k → B ≤ k ∧ k < w.heap.size ∧ ¬ FG tv pa ts.length k)
    (hown : w'.ownsRow B 35 3 (.slice (some ⟨g, 0, none⟩) (ts.length + 1) cap) (ts.length + 1) (trVals ts pa pc ++ [.int .i64 t.1, .slice a t.2.1.length c, .int .i64 t.2.2]))
    (hgrow : w.grownBy w' tv.ownBlock) (hat : tv.ownBlock = some g ∨ w.heap.size ≤ g) :
    Gath B w' (.slice (some ⟨g, 0, none⟩) (ts.length + 1) cap) (ts ++ [t]) (upd pa ts.length a) (upd pc ts.length c) := by
  have hn : (ts ++ [t]).length = ts.length + 1 := by simp
  have hfar : ∀ k, k < w.heap.size → tv.ownBlock ≠ some k → w'.heap[k]? = w.heap[k]? := fun k hk hne => hgrow.block k hk (fun e => hne e.symm)
  have hneg : ∀ k, k < w.heap.size → tv.ownBlock ≠ some k → Value.ownBlock (.slice (some ⟨g, 0, none⟩) (ts.length + 1) cap) ≠ some k := fun k hk hne e => by
    simp [Value.ownBlock] at e
    subst e
    rcases hat with hat | hat
    · exact hne hat
    · omega
  refine ⟨?_, fun i hi => ?_, fun i hi => ?_, fun i k hi e => ?_, fun i j k hi hj hij e e' => ?_⟩
  · rw [hn, trVals_snoc]
    exact hown
  · rw [hn] at hi
    by_cases e : i < ts.length
    · rw [tPath_snoc e, upd_other _ _ (by omega)]
      exact (h.path i e).keep (fun k hk e' => hfar k hk (h.lo i k e e').2.2)
    · obtain rfl : i = ts.length := by omega
      rw [tPath_last, upd_same]
      exact hp.keep (fun k hk e' => hfar k hk (fun e2 => (hlo k e').2.2 (Or.inl e2)))
  · rw [hn] at hi
    by_cases e : i < ts.length
    · rw [tPath_snoc e, upd_other _ _ (by omega)]
      exact h.capOk i e
    · obtain rfl : i = ts.length := by omega
      rw [tPath_last, upd_same]
      exact hcap
  · rw [hn] at hi
    by_cases e2 : i < ts.length
    · rw [upd_other _ _ (by omega)] at e
      obtain ⟨u1, u2, u3⟩ := h.lo i k e2 e
      exact ⟨u1, Nat.lt_of_lt_of_le u2 hgrow.size, hneg k u2 u3⟩
    · obtain rfl : i = ts.length := by omega
      rw [upd_same] at e
      obtain ⟨u1, u2, u3⟩ := hlo k e
      exact ⟨u1, Nat.lt_of_lt_of_le u2 hgrow.size, hneg k u2 (fun e3 => u3 (Or.inl e3))⟩
  · rw [hn] at hi hj
    by_cases e1 : i < ts.length <;> by_cases e2 : j < ts.length
    · rw [upd_other _ _ (by omega)] at e e'
      exact h.inj i j k e1 e2 hij e e'
    · obtain rfl : j = ts.length := by omega
      rw [upd_other _ _ (by omega)] at e
      rw [upd_same] at e'
      exact (hlo k e').2.2 (Or.inr ⟨i, e1, e⟩)
    · obtain rfl : i = ts.length := by omega
      rw [upd_other _ _ (by omega)] at e'
      rw [upd_same] at e
      exact (hlo k e).2.2 (Or.inr ⟨j, e2, e'⟩)
    · omega

theorem FA_ownBlock {g o k n cap : Nat} (h : FA (some ⟨g, o, none⟩) k) : Value.ownBlock (.slice (some ⟨g, 0, none⟩) n cap) = some k := by
  rw [FA_some h]; rfl

/-- what is gathered is a row of trains of the call's own -/
theorem Gath.ownT {B : Nat} {w : World} {tv : Value} {ts : List Tr} {pa : Nat → Option Addr} {pc : Nat → Nat} (h : Gath B w tv ts pa pc) :
    ∃ a cap, tv = .slice a ts.length cap ∧ ts.length ≤ cap ∧ OwnT w a ts.length pa (fun i => (tPath ts i).length) pc (tAt ts) (tWt ts) (fun i j => el (tPath ts i) j) ∧ ∀ k, FT a pa ts.length k → B ≤ k ∧ k < w.heap.size ∧ FG tv pa ts.length k := by
  rcases h.row.2 with ⟨rfl, h0⟩ | ⟨g, cap, cur, rfl, hg, hh, hc1, hc2, hc3, hc4⟩
  · have hts : ts = [] := List.length_eq_zero_iff.1 h0
    subst hts
    exact ⟨none, 0, rfl, Nat.le_refl _, ⟨fun i hi => absurd hi (Nat.not_lt_zero _), fun i hi => absurd hi (Nat.not_lt_zero _), fun i k hi => absurd hi (Nat.not_lt_zero _), fun i j k hi => absurd hi (Nat.not_lt_zero _)⟩, fun k hk => by
      rcases hk with ⟨off, e⟩ | ⟨i, hi, _⟩
      · cases e
      · exact absurd hi (Nat.not_lt_zero _)⟩
  · have hcell : ∀ i o u, i < ts.length → o < 3 → (trVals ts pa pc)[i * 3 + o]? = some u → w.cell? ⟨g, 0 + i * 3 + o, none⟩ = some u := fun i o u hi ho hu => by
      rw [Nat.zero_add, cell_of_row w g (i * 3 + o) cur 35 (0, 0) hh, ← Array.getElem?_toList, take_get hc4 (by omega)]
      exact hu
    refine ⟨_, cap, rfl, hc1, ⟨fun i hi => ?_, h.path, fun i k hi e e' => (h.lo i k hi e).2.2 (FA_ownBlock e'), h.inj⟩, fun k hk => ?_⟩
    · obtain ⟨v0, v1, v2⟩ := trVals_get ts pa pc hi
      exact ⟨g, 0, rfl, hcell i 0 _ hi (by omega) v0, hcell i 1 _ hi (by omega) v1, hcell i 2 _ hi (by omega) v2, fun o _ => by simp [World.frozen?, hh]⟩
    · rcases hk with hk | ⟨i, hi, e⟩
      · have hb := FA_ownBlock (n := ts.length) (cap := cap) hk
        exact ⟨(ownBlock_lt h.row hb).1, (ownBlock_lt h.row hb).2, Or.inl hb⟩
      · exact ⟨(h.lo i k hi e).1, (h.lo i k hi e).2.1, Or.inr ⟨i, hi, e⟩⟩

theorem block3 {w : World} {b : Nat} {x y z : Value} {t : TypeId} (h : w.heap[b]? = some (.cells #[x, y, z] t (0, 0))) :
    w.cell? ⟨b, 0, none⟩ = some x ∧ w.cell? ⟨b, 1, none⟩ = some y ∧ w.cell? ⟨b, 2, none⟩ = some z ∧ ∀ o, w.frozen? ⟨b, o, none⟩ = false :=
  ⟨by rw [cell_of_row w b 0 _ t (0, 0) h]; rfl, by rw [cell_of_row w b 1 _ t (0, 0) h]; rfl, by rw [cell_of_row w b 2 _ t (0, 0) h]; rfl, fun o => frozen_of_row w b o _ t h⟩
theorem block3_set0 {w : World} {b : Nat} {x y z : Value} {t : TypeId} (h : w.heap[b]? = some (.cells #[x, y, z] t (0, 0))) (u : Value) : (w.setCell ⟨b, 0, none⟩ u).heap[b]? = some (.cells #[u, y, z] t (0, 0)) := by
  have := Joins.block_setCell (i := 0) h u
  simpa using this
theorem block3_set1 {w : World} {b : Nat} {x y z : Value} {t : TypeId} (h : w.heap[b]? = some (.cells #[x, y, z] t (0, 0))) (u : Value) : (w.setCell ⟨b, 1, none⟩ u).heap[b]? = some (.cells #[x, u, z] t (0, 0)) := by
  have := Joins.block_setCell (i := 1) h u
  simpa using this
theorem block3_set2 {w : World} {b : Nat} {x y z : Value} {t : TypeId} (h : w.heap[b]? = some (.cells #[x, y, z] t (0, 0))) (u : Value) : (w.setCell ⟨b, 2, none⟩ u).heap[b]? = some (.cells #[x, y, u] t (0, 0)) := by
  have := Joins.block_setCell (i := 2) h u
  simpa using this
end Go.Proofs.YtmjjigdnoiphbaaDoor
