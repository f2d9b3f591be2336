/-
  append([]int{}, xs...).
-/
import Derived.Test.YtmjjigdnoiphbaaW21
import Derived.Deep.AppendSrc
namespace Go.Proofs.Ytmjjigdnoiphbaa
open Go.RowKit Go.Deep
set_option linter.unusedVariables false

theorem wpList_append_run {P : Program} {ops : Array Oper} {rest : List Oper} {o : Oper} {a : Act} {w : World} {Q : Exit → Act → World → Prop} (hgd : o.guard = none) (s x : Operand) (t : TypeId)
    (ho : o.op = .call { callee := .builtin .append, args := #[s, x], argTypes := #[t, t] }) (vs vx v' : Value) (w' : World) (hs : a.eval s = vs) (hx : a.eval x = vx)
    (hrun : (Builtin.append_ #[t, t] o.type #[vs, vx]).run P w = .ok v' w') (h : wpList P ops Q rest (a.put o.dst v') w') : wpList P ops Q (o :: rest) a w :=
  wpList_plain hgd fun _ hK => by
    unfold Oper.wp execOp
    simp only [ho, resolve, invoke, builtin, Sem.run_bind, Sem.run_pure, Result.andThen_ok, List.map_toArray, List.map_cons, List.map_nil, hs, hx, hrun]
    exact hK _ _ h

theorem run_append_nil_nil (ty : TypeId) (c : Nat) (w : World) : (Builtin.append_ #[23, 23] ty #[.slice none 0 0, .slice none 0 c]).run Try.prog w = .ok (.slice none 0 0) w := by
  obtain ⟨i0, hi, hz0, hz1, hz2⟩ := info_parts Try.infoInt
  have hs := Src.ofNil (P := Try.prog) (size := 1) (tx := 23) (e' := 3) w Try.underlying23 c
  have h1 := hs.len
  have h2 := hs.cells
  simp [Builtin.append_, run_underlying Try.underlying23, sizeOf, typeInfo, hi, hz1, h1, h2]

theorem run_append_some_nil (ty : TypeId) (b off n cap c : Nat) (hn : n ≤ cap) (w : World) : (Builtin.append_ #[23, 23] ty #[.slice (some ⟨b, off, none⟩) n cap, .slice none 0 c]).run Try.prog w = .ok (.slice (some ⟨b, off, none⟩) n cap) w := by
  obtain ⟨i0, hi, hz0, hz1, hz2⟩ := info_parts Try.infoInt
  exact run_append_room_src (P := Try.prog) w 23 23 ty 3 i0 Try.underlying23 hi b off n cap (.slice none 0 c) 0 [] (by rw [hz1]; exact Src.ofNil w Try.underlying23 c) (by omega) (fun j hj => absurd hj (Nat.not_lt_zero _)) (fun j hj => absurd hj (Nat.not_lt_zero _))

/-- 'append(v0, xs...)', v0 empty and of the call's own -/
theorem wpList_append_ints {ops : Array Oper} {rest : List Oper} {o : Oper} {a : Act} {w : World} {Q : Exit → Act → World → Prop} (hgd : o.guard = none) (s x : Operand)
    (ho : o.op = .call { callee := .builtin .append, args := #[s, x], argTypes := #[23, 23] }) (base : Nat) (v0 v : Value) (xs : List Int) (hs : a.eval s = v0) (hx : a.eval x = v)
    (h0 : OwnInts base w v0 []) (h : IntsAt w v xs) (hl : xs.length ≤ 1048576) (hbase : base ≤ w.heap.size)
    (hK : ∀ v' w', OwnInts base w' v' xs → w.grownBy w' v0.ownBlock → wpList Try.prog ops Q rest (a.put o.dst v') w') : wpList Try.prog ops Q (o :: rest) a w := by
  obtain ⟨i0, hi, hz0, hz1, hz2⟩ := info_parts Try.infoInt
  obtain ⟨ad, cap, rfl, _⟩ := id h
  cases ad with
  | some ad =>
    refine wpList_append_own w hgd s x 23 ho base 3 i0 (.int .i64 0) 1 8 Try.underlying23 hi hz0 hz1 hz2 rfl (by decide) v0 0 [] hs (by simpa [OwnInts] using h0) ad xs.length cap (xs.map (Value.int .i64)) hx (by simp) (ints_news h) ?_ ?_ ?_ hbase (fun v' w' hown hgrow _ => hK v' w' (by simpa [OwnInts] using hown) hgrow)
    · intro u hu
      simp at hu
      obtain ⟨y, _, rfl⟩ := hu
      rfl
    · unfold maxLen; omega
    · omega
  | none =>
    have hxs : xs = [] := by
      cases xs with
      | nil => rfl
      | cons y r => obtain ⟨b, off, e, _⟩ := h.cellAt 0 (by simp); cases e
    subst hxs
    have hg : ∀ row, w.grownBy w row := fun row => ⟨rfl, rfl, rfl, Nat.le_refl _, fun _ _ _ => rfl⟩
    rcases h0.lies with ⟨rfl, _⟩ | ⟨g, cp, cur, rfl, _⟩
    · exact wpList_append_run hgd s x 23 ho _ _ _ _ hs hx (run_append_nil_nil o.type cap w) (hK _ _ h0 (hg _))
    · exact wpList_append_run hgd s x 23 ho _ _ _ _ hs hx (run_append_some_nil o.type g 0 0 cp cap (Nat.zero_le _) w) (hK _ _ h0 (hg _))

theorem ownInts_made (w : World) (base : Nat) (hb : base ≤ w.heap.size) : OwnInts base (w.alloc (.cells #[] 3)) (.slice (some ⟨w.heap.size, 0, none⟩) 0 0) [] := by
  unfold OwnInts
  exact World.ownsRow_made w #[] 0 hb (Nat.zero_le _) rfl

theorem Try.infoBool : (Try.prog.info? 4).map (fun i => (i.zero, i.size, i.bytes)) = some (some (.bool false), 1, 1) := by kernel_rfl
theorem Try.infoInts : (Try.prog.info? 23).map (fun i => (i.zero, i.size, i.bytes)) = some (some (.slice none 0 0), 1, 24) := by kernel_rfl

theorem rowIs_keep {w w' : World} {b : Nat} {t : TypeId} {n : Nat} {f : Nat → Value} (h : w.rowIs b t n f) (hb : w'.heap[b]? = w.heap[b]?) : w'.rowIs b t n f := by
  obtain ⟨A, hA, r⟩ := h
  exact ⟨A, hb.trans hA, r⟩
end Go.Proofs.Ytmjjigdnoiphbaa
