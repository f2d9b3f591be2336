/-
  THE SEARCH IN MEMORY; push, pop.
-/
import Derived.Test.YtmjjigdnoiphbaaDoorJ8
namespace Go.Proofs.YtmjjigdnoiphbaaDoor
open Go.RowKit Go.Deep Go.Maps
set_option linter.unusedVariables false

theorem Tryd.infoFunc : (Tryd.prog.info? 1).map (fun i => (i.zero, i.size, i.bytes)) = some (some Value.nilFunc, 1, 8) := by kernel_rfl

/-- the blocks that the search writes -/
def badB (sb mb : Nat) (tv : Value) : Nat → Prop := fun q => q = sb ∨ q = mb ∨ tv.ownBlock = some q
def ptr (b : Nat) : Value := .pointer (some ⟨b, 0, none⟩)
/-- a closure on the stack -/
def TaskV (w : World) (sb : Nat) (bad : Nat → Prop) (v : Value) (t : Task) : Prop :=
  match t.2 with
  | none => ∃ fn b1 b2, (fn = 64 ∨ fn = 114) ∧ v = .func (.func fn) #[] #[.pointer (some ⟨b1, 0, none⟩), .pointer (some ⟨b2, 0, none⟩)] ∧ w.heap[b1]? = some (.cells #[.pointer (some ⟨sb, 0, none⟩)] 55 (0, 0)) ∧ w.heap[b2]? = some (.cells (pc5 t.1) 61 (0, 0)) ∧ ¬ bad b1 ∧ ¬ bad b2
  | some m => ∃ b1 b2 b3 b4, v = .func (.func 113) #[] #[.pointer (some ⟨b1, 0, none⟩), .pointer (some ⟨b2, 0, none⟩), .pointer (some ⟨b3, 0, none⟩), .pointer (some ⟨b4, 0, none⟩)] ∧ w.heap[b1]? = some (.cells #[.pointer (some ⟨sb, 0, none⟩)] 55 (0, 0)) ∧ w.heap[b2]? = some (.cells (pc5 (bump t.1 m)) 61 (0, 0)) ∧ w.heap[b3]? = some (.cells (pc5 t.1) 61 (0, 0)) ∧ w.heap[b4]? = some (.cells #[.int .i64 (m : Int)] 3 (0, 0)) ∧ ¬ bad b1 ∧ ¬ bad b2 ∧ ¬ bad b3 ∧ ¬ bad b4
theorem TaskV.keep {w w' : World} {sb : Nat} {bad bad' : Nat → Prop} {v : Value} {t : Task} (h : TaskV w sb bad v t) (hb : ∀ q, q < w.heap.size → ¬ bad q → w'.heap[q]? = w.heap[q]? ∧ ¬ bad' q) : TaskV w' sb bad' v t := by
  have kk : ∀ {q : Nat} {o : Obj}, w.heap[q]? = some o → ¬ bad q → w'.heap[q]? = some o ∧ ¬ bad' q := fun hq hn => by
    obtain ⟨e1, e2⟩ := hb _ (Array.getElem?_eq_some_iff.1 hq).1 hn
    exact ⟨e1.trans hq, e2⟩
  obtain ⟨d, om⟩ := t
  cases om with
  | none =>
    obtain ⟨fn, b1, b2, h1, h2, h3, h4, h5, h6⟩ := h
    exact ⟨fn, b1, b2, h1, h2, (kk h3 h5).1, (kk h4 h6).1, (kk h3 h5).2, (kk h4 h6).2⟩
  | some m =>
    obtain ⟨b1, b2, b3, b4, h2, h3, h4, h5, h6, n1, n2, n3, n4⟩ := h
    exact ⟨b1, b2, b3, b4, h2, (kk h3 n1).1, (kk h4 n2).1, (kk h5 n3).1, (kk h6 n4).1, (kk h3 n1).2, (kk h4 n2).2, (kk h5 n3).2, (kk h6 n4).2⟩
theorem TaskV.one {w : World} {sb : Nat} {bad : Nat → Prop} {v : Value} {t : Task} (h : TaskV w sb bad v t) : v.oneCell' = true := by
  obtain ⟨d, om⟩ := t
  cases om with
  | none => obtain ⟨fn, b1, b2, h1, rfl, _⟩ := h; rfl
  | some m => obtain ⟨b1, b2, b3, b4, rfl, _⟩ := h; rfl
theorem TaskV.form {w : World} {sb : Nat} {bad : Nat → Prop} {v : Value} {t : Task} (h : TaskV w sb bad v t) : ∃ fn caps, v = .func (.func fn) #[] caps := by
  obtain ⟨d, om⟩ := t
  cases om with
  | none => obtain ⟨fn, b1, b2, h1, rfl, _⟩ := h; exact ⟨_, _, rfl⟩
  | some m => obtain ⟨b1, b2, b3, b4, rfl, _⟩ := h; exact ⟨_, _, rfl⟩
/-- the closures of a stack, its top first -/
def TasksV (w : World) (sb : Nat) (bad : Nat → Prop) : List Value → List Task → Prop
  | [], [] => True
  | v :: vs, t :: S => TaskV w sb bad v t ∧ TasksV w sb bad vs S
  | _, _ => False
theorem TasksV.keep {w w' : World} {sb : Nat} {bad bad' : Nat → Prop} (hb : ∀ q, q < w.heap.size → ¬ bad q → w'.heap[q]? = w.heap[q]? ∧ ¬ bad' q) : ∀ {vs : List Value} {S : List Task}, TasksV w sb bad vs S → TasksV w' sb bad' vs S
  | [], [], _ => trivial
  | v :: vs, t :: S, h => ⟨h.1.keep hb, TasksV.keep hb h.2⟩
  | [], _ :: _, h => h.elim
  | _ :: _, [], h => h.elim
theorem TasksV.len {w : World} {sb : Nat} {bad : Nat → Prop} : ∀ {vs : List Value} {S : List Task}, TasksV w sb bad vs S → vs.length = S.length
  | [], [], _ => rfl
  | v :: vs, t :: S, h => by simp [TasksV.len h.2]
  | [], _ :: _, h => h.elim
  | _ :: _, [], h => h.elim

/-- the search: its struct is block sb, its map block mb; w0: the world ahead of it -/
structure Srch (st : St) (w0 : World) (sb mb : Nat) (r t n : Value) (w : World) (tv : Value) (vals : List Value) (S : List Task) (kn : Kn) : Prop where
  var : w.heap[sb]? = some (.cells #[r, t, n, .int .i8 (endP st 0), .int .i8 (endP st 1), .int .i8 (endP st 2), .int .i8 (endP st 3), .int .i8 (endP st 4), .map (some mb), tv] 114 (0, 0))
  row : w.ownsRow w0.heap.size 1 1 tv vals.length vals
  tasks : TasksV w sb (badB sb mb tv) vals.reverse S
  known : KnownAt st w mb kn
  ne : mb ≠ sb
  apart : ∀ q, tv.ownBlock = some q → q ≠ sb ∧ q ≠ mb
  lo : w0.heap.size ≤ sb ∧ w0.heap.size ≤ mb
  old : Below w0.heap.size w0 w
/-- what a piece of the search leaves behind -/
structure SOut (st : St) (w0 : World) (sb mb : Nat) (r t n : Value) (w : World) (tv : Value) (S' : List Task) (kn' : Kn) (w' : World) : Prop where
  ex : ∃ tv' vals', Srch st w0 sb mb r t n w' tv' vals' S' kn' ∧ Chg (badB sb mb tv) w w' ∧ ∀ q, tv'.ownBlock = some q → tv.ownBlock = some q ∨ w.heap.size ≤ q

theorem Srch.below {st : St} {w0 : World} {sb mb : Nat} {r t n : Value} {w w' : World} {tv : Value} {vals : List Value} {S : List Task} {kn : Kn} (h : Srch st w0 sb mb r t n w tv vals S kn) (hb : Below w.heap.size w w') : Srch st w0 sb mb r t n w' tv vals S kn :=
  ⟨blockLater hb h.var, ownsRow_below h.row hb, TasksV.keep (fun q hq hn => ⟨hb.block q hq, hn⟩) h.tasks, h.known.kept (hb.block mb h.known.lt), h.ne, h.apart, h.lo, h.old.trans (hb.mono h.old.size)⟩
theorem SOut.refl {st : St} {w0 : World} {sb mb : Nat} {r t n : Value} {w : World} {tv : Value} {vals : List Value} {S : List Task} {kn : Kn} (h : Srch st w0 sb mb r t n w tv vals S kn) : SOut st w0 sb mb r t n w tv S kn w := ⟨tv, vals, h, Chg.refl _ _, fun q hq => Or.inl hq⟩
theorem SOut.trans {st : St} {w0 : World} {sb mb : Nat} {r t n : Value} {w w' w'' : World} {tv tv' : Value} {S'' : List Task} {kn'' : Kn} (h1 : Chg (badB sb mb tv) w w') (h2 : ∀ q, tv'.ownBlock = some q → tv.ownBlock = some q ∨ w.heap.size ≤ q) (h : SOut st w0 sb mb r t n w' tv' S'' kn'' w'') : SOut st w0 sb mb r t n w tv S'' kn'' w'' := by
  obtain ⟨tv'', vals'', hs, hc, hq⟩ := h.ex
  refine ⟨tv'', vals'', hs, ⟨hc.os.trans h1.os, hc.tape.trans h1.tape, hc.output.trans h1.output, Nat.le_trans h1.size hc.size, fun q hq hn => (hc.block q (Nat.lt_of_lt_of_le hq h1.size) (fun e => ?_)).trans (h1.block q hq hn)⟩, fun q e => ?_⟩
  · rcases e with e | e | e
    · exact hn (Or.inl e)
    · exact hn (Or.inr (Or.inl e))
    · rcases h2 q e with e | e
      · exact hn (Or.inr (Or.inr e))
      · omega
  · rcases hq q e with e | e
    · exact h2 q e
    · exact Or.inr (Nat.le_trans h1.size e)

/-- the cells of a search that are read: its state, its map, its stack -/
theorem cellsS {w : World} {b : Nat} {x0 x1 x2 x3 x4 x5 x6 x7 x8 x9 : Value} {t : TypeId} (h : w.heap[b]? = some (.cells #[x0, x1, x2, x3, x4, x5, x6, x7, x8, x9] t (0, 0))) :
    w.cell? ⟨b, 0, none⟩ = some x0 ∧ w.cell? ⟨b, 1, none⟩ = some x1 ∧ w.cell? ⟨b, 2, none⟩ = some x2 ∧ w.cell? ⟨b, 8, none⟩ = some x8 ∧ w.cell? ⟨b, 9, none⟩ = some x9 :=
  ⟨by rw [cell_of_row w b 0 _ t (0, 0) h]; rfl, by rw [cell_of_row w b 1 _ t (0, 0) h]; rfl, by rw [cell_of_row w b 2 _ t (0, 0) h]; rfl, by rw [cell_of_row w b 8 _ t (0, 0) h]; rfl, by rw [cell_of_row w b 9 _ t (0, 0) h]; rfl⟩
/-- its end -/
theorem cellsE {w : World} {b : Nat} {x0 x1 x2 x3 x4 x5 x6 x7 x8 x9 : Value} {t : TypeId} (h : w.heap[b]? = some (.cells #[x0, x1, x2, x3, x4, x5, x6, x7, x8, x9] t (0, 0))) :
    w.cell? ⟨b, 3, none⟩ = some x3 ∧ w.cell? ⟨b, 4, none⟩ = some x4 ∧ w.cell? ⟨b, 5, none⟩ = some x5 ∧ w.cell? ⟨b, 6, none⟩ = some x6 ∧ w.cell? ⟨b, 7, none⟩ = some x7 :=
  ⟨by rw [cell_of_row w b 3 _ t (0, 0) h]; rfl, by rw [cell_of_row w b 4 _ t (0, 0) h]; rfl, by rw [cell_of_row w b 5 _ t (0, 0) h]; rfl, by rw [cell_of_row w b 6 _ t (0, 0) h]; rfl, by rw [cell_of_row w b 7 _ t (0, 0) h]; rfl⟩
theorem cellsSb {w : World} {b : Nat} {x0 x1 x2 x3 x4 x5 x6 x7 x8 x9 : Value} {t : TypeId} (h : w.heap[b]? = some (.cells #[x0, x1, x2, x3, x4, x5, x6, x7, x8, x9] t (0, 0))) : ∀ o, w.frozen? ⟨b, o, none⟩ = false := fun o => frozen_of_row w b o _ t h
theorem block10_set9 {w : World} {b : Nat} {x0 x1 x2 x3 x4 x5 x6 x7 x8 x9 : Value} {t : TypeId} (h : w.heap[b]? = some (.cells #[x0, x1, x2, x3, x4, x5, x6, x7, x8, x9] t (0, 0))) (q : Value) : (w.setCell ⟨b, 9, none⟩ q).heap[b]? = some (.cells #[x0, x1, x2, x3, x4, x5, x6, x7, x8, q] t (0, 0)) := by
  have := Joins.block_setCell (i := 9) h q
  simpa using this
theorem cells5b {w : World} {b : Nat} {x0 x1 x2 x3 x4 : Value} {t : TypeId} (h : w.heap[b]? = some (.cells #[x0, x1, x2, x3, x4] t (0, 0))) : ∀ o, w.frozen? ⟨b, o, none⟩ = false := fun o => frozen_of_row w b o _ t h
theorem block5_set4 {w : World} {b : Nat} {x y z u v : Value} {t : TypeId} (h : w.heap[b]? = some (.cells #[x, y, z, u, v] t (0, 0))) (q : Value) : (w.setCell ⟨b, 4, none⟩ q).heap[b]? = some (.cells #[x, y, z, u, q] t (0, 0)) := by
  have := Joins.block_setCell (i := 4) h q
  simpa using this

/-- a row one of whose last is dropped -/
theorem ownsRow_pop {w : World} {B g n cap : Nat} {e : TypeId} {xs : List Value} {x : Value} (h : w.ownsRow B e 1 (.slice (some ⟨g, 0, none⟩) (n + 1) cap) (n + 1) (xs ++ [x])) : w.ownsRow B e 1 (.slice (some ⟨g, 0, none⟩) n cap) n xs := by
  obtain ⟨h1, h2⟩ := h
  have hl : xs.length = n := by simpa using h1
  refine ⟨by omega, ?_⟩
  rcases h2 with ⟨e1, _⟩ | ⟨g', cap', cur, e1, r1, r2, r3, r4, r5, r6⟩
  · simp at e1
  · simp only [Value.slice.injEq, Option.some.injEq, Addr.mk.injEq, and_true, true_and] at e1
    obtain ⟨rfl, rfl⟩ := e1
    refine Or.inr ⟨g, cap, cur, rfl, r1, r2, by omega, r4, r5, ?_⟩
    have : cur.toList.take (n * 1) = (cur.toList.take ((n + 1) * 1)).take n := by simp [List.take_take, Nat.min_eq_left]
    rw [this, r6, List.take_append_of_le_length (by omega), ← hl, List.take_length]

set_option maxRecDepth 4000 in
set_option maxHeartbeats 4000000 in
theorem push_any {st : St} {w0 : World} {sb mb : Nat} {r t n : Value} {w : World} {tv : Value} {vals : List Value} {S : List Task} {kn : Kn} (h : Srch st w0 sb mb r t n w tv vals S kn) {v : Value} {tk : Task} (hv : TaskV w sb (badB sb mb tv) v tk) (hl : vals.length ≤ 1000) :
    Calls Tryd.prog 63 #[.pointer (some ⟨sb, 0, none⟩), v] w fun e w' => (∃ u, e = .returned u) ∧ SOut st w0 sb mb r t n w tv (tk :: S) kn w' := by
  have HH := hide h
  have hone := hv.one
  obtain ⟨fn, caps, rfl⟩ := hv.form
  have HV := hide hv
  obtain ⟨c0, c1, c2, c3, c4⟩ := cellsS h.var
  have hf4 := cellsSb h.var 9
  have hsl : sb < w.heap.size := (Array.getElem?_eq_some_iff.1 h.var).1
  have hlo : w0.heap.size ≤ w.heap.size := h.old.size
  clear h hv
  obtain ⟨i0, hi, hz0, hz1, hz2⟩ := info_parts Tryd.infoFunc
  have HI0 := hide hi
  have HZ0 := hide hz0
  have HZ1 := hide hz1
  have HZ2 := hide hz2
  clear hi hz0 hz1 hz2
  go_enter Tryd.func63, Tryd.ntmps63
  go_wp2_with (first | (at_builtin; refine wpList_append_lies _ rfl _ _ 112 rfl w0.heap.size 1 i0 Value.nilFunc 1 8 Tryd.underlying112 HI0.out HZ0.out HZ1.out HZ2.out rfl (by decide) tv _ _ rfl (HH.out.row.alloc _) ⟨w.heap.size, 0, none⟩ 1 1 [.func (.func fn) #[] caps] rfl rfl ?c1 ?c2 (by decide) ?c3 ?c4 ?c5 _ rfl ?_))
  case c1 => exact cell_one_new _ _ _
  case c2 => intro u hu; simp at hu; subst hu; exact hone
  case c3 => unfold maxLen; omega
  case c4 => omega
  case c5 => simp; omega
  intro g cap w2 hown hgrow hat _
  have hba := Joins.below_alloc1 w (.cells #[.func (.func fn) #[] caps] 1)
  have hfar : ∀ q, q < w.heap.size → tv.ownBlock ≠ some q → w2.heap[q]? = w.heap[q]? := fun q hq hne => by
    rw [hgrow.block q (by simp; omega) (fun e => hne e.symm), hba.block q hq]
  have hsb2 : w2.heap[sb]? = some (.cells #[r, t, n, .int .i8 (endP st 0), .int .i8 (endP st 1), .int .i8 (endP st 2), .int .i8 (endP st 3), .int .i8 (endP st 4), .map (some mb), tv] 114 (0, 0)) := (hfar sb hsl (fun e => (HH.out.apart sb e).1 rfl)).trans HH.out.var
  obtain ⟨d0, d1, d2, d3, d4⟩ := cellsS hsb2
  have df4 := cellsSb hsb2 9
  have HSB2 := hide hsb2
  have HOWN := hide hown
  have HGROW := hide hgrow
  have HAT := hide hat
  have HFAR := hide hfar
  have HBA := hide hba
  clear hown hgrow hat hfar hba hsb2 c0 c1 c2 c3 c4 hf4
  go_wp2_with fail
  go_end0
  have hmb := HH.out.known.lt
  have hgw : tv.ownBlock = some g ∨ w.heap.size ≤ g := HAT.out.imp id (fun e => by rw [e]; simp)
  have hgs : g ≠ sb := fun e => by
    subst e
    rcases hgw with e | e
    · exact (HH.out.apart _ e).1 rfl
    · omega
  have hgm : g ≠ mb := fun e => by
    subst e
    rcases hgw with e | e
    · exact (HH.out.apart _ e).2 rfl
    · omega
  have hall : ∀ q, q < w.heap.size → ¬ badB sb mb tv q → (w2.setCell ⟨sb, 9, none⟩ (.slice (some ⟨g, 0, none⟩) (vals.length + 1) cap)).heap[q]? = w.heap[q]? ∧ ¬ badB sb mb (.slice (some ⟨g, 0, none⟩) (vals.length + 1) cap) q := fun q hq hn => by
    refine ⟨(Below.heap_setCell _ _ _ _ (fun e => hn (Or.inl e))).trans (HFAR.out q hq (fun e => hn (Or.inr (Or.inr e)))), fun e => ?_⟩
    rcases e with e | e | e
    · exact hn (Or.inl e)
    · exact hn (Or.inr (Or.inl e))
    · simp [Value.ownBlock] at e
      subst e
      rcases hgw with e | e
      · exact hn (Or.inr (Or.inr e))
      · omega
  have hmbk : (w2.setCell ⟨sb, 9, none⟩ (.slice (some ⟨g, 0, none⟩) (vals.length + 1) cap)).heap[mb]? = w.heap[mb]? := (Below.heap_setCell _ _ _ _ HH.out.ne).trans (HFAR.out mb hmb (fun e => (HH.out.apart mb e).2 rfl))
  have hold : Below w0.heap.size w0 w2 := (HH.out.old.trans (HBA.out.mono hlo)).grown HGROW.out (by simp; omega) (fun q e => (ownBlock_lt HH.out.row e).1)
  refine ⟨⟨_, rfl⟩, ⟨_, vals ++ [.func (.func fn) #[] caps], ⟨block10_set9 HSB2.out _, ?_, ?_, HH.out.known.kept hmbk, HH.out.ne, fun q e => ?_, HH.out.lo, hold.setCell (p := ⟨sb, 9, none⟩) HH.out.lo.1 _⟩, ⟨hold.os.trans HH.out.old.os.symm, hold.tape.trans HH.out.old.tape.symm, hold.output.trans HH.out.old.output.symm, ?_, fun q hq hn => (hall q hq hn).1⟩, fun q e => ?_⟩⟩
  · have := ownsRow_keep HOWN.out (w' := w2.setCell ⟨sb, 9, none⟩ (.slice (some ⟨g, 0, none⟩) (vals.length + 1) cap)) (fun q hq => Below.heap_setCell _ _ _ _ (fun e => by simp [Value.ownBlock] at hq; subst hq; exact hgs e))
    simpa using this
  · rw [List.reverse_append]
    exact ⟨HV.out.keep hall, TasksV.keep hall HH.out.tasks⟩
  · simp [Value.ownBlock] at e
    subst e
    exact ⟨hgs, hgm⟩
  · have := HGROW.out.size
    have h2 := HBA.out.size
    simp [World.setCell] at this h2 ⊢
    omega
  · simp [Value.ownBlock] at e
    subst e
    exact hgw

set_option maxRecDepth 4000 in
set_option maxHeartbeats 4000000 in
theorem pop_any {st : St} {w0 : World} {sb mb : Nat} {r t n : Value} {w : World} {tv : Value} {vals : List Value} {tk : Task} {S : List Task} {kn : Kn} (h : Srch st w0 sb mb r t n w tv vals (tk :: S) kn) (hl : vals.length ≤ 1000) :
    Calls Tryd.prog 66 #[.pointer (some ⟨sb, 0, none⟩)] w fun e w' => ∃ v tv', e = .returned v ∧ TaskV w' sb (badB sb mb tv') v tk ∧ (∃ vals', vals'.length ≤ 1000 ∧ Srch st w0 sb mb r t n w' tv' vals' S kn) ∧ Chg (badB sb mb tv) w w' ∧ ∀ q, tv'.ownBlock = some q → tv.ownBlock = some q ∨ w.heap.size ≤ q := by
  have HH := hide h
  obtain ⟨v, vs, hvs⟩ : ∃ v vs, vals.reverse = v :: vs := by
    cases e : vals.reverse with
    | nil => have := h.tasks; rw [e] at this; exact this.elim
    | cons v vs => exact ⟨v, vs, rfl⟩
  have htk := h.tasks
  rw [hvs] at htk
  have hve : vals = vs.reverse ++ [v] := by rw [← List.reverse_reverse vals, hvs, List.reverse_cons]
  have hvl : vals.length = vs.length + 1 := by rw [hve]; simp
  obtain ⟨fn, caps, rfl⟩ := htk.1.form
  have hrow := h.row
  rw [hve] at hrow
  simp only [List.length_append, List.length_reverse, List.length_singleton] at hrow
  obtain ⟨g, cap, cur, rfl, r1, r2, r3, r4, r5, r6⟩ : ∃ g cap cur, tv = .slice (some ⟨g, 0, none⟩) (vs.length + 1) cap ∧ w0.heap.size ≤ g ∧ w.heap[g]? = some (.cells cur 1 (0, 0)) ∧ vs.length + 1 ≤ cap ∧ cap ≤ maxLen ∧ cur.size = cap * 1 ∧ cur.toList.take ((vs.length + 1) * 1) = vs.reverse ++ [.func (.func fn) #[] caps] := by
    rcases hrow.2 with ⟨_, e⟩ | r
    · simp at e
    · exact r
  have hcell : w.cell? ⟨g, vs.length, none⟩ = some (.func (.func fn) #[] caps) := by
    rw [cell_of_row w g vs.length cur 1 (0, 0) r2, ← Array.getElem?_toList, take_get r6 (by omega)]
    simp
  obtain ⟨c0, c1, c2, c3, c4⟩ := cellsS h.var
  have hf4 := cellsSb h.var 9
  have hsl : sb < w.heap.size := (Array.getElem?_eq_some_iff.1 h.var).1
  have HROW := hide (ownsRow_pop hrow)
  have HTK := hide htk
  have hgs : g ≠ sb := (h.apart g rfl).1
  have hcap' : vs.length ≤ cap := by omega
  have hcapI : ((vs.length : Nat) : Int) ≤ (cap : Int) := by omega
  have hwr : IntKind.i64.wrap (((vs.length + 1 : Nat) : Int) - 1) = (vs.length : Int) := by rw [IntKind.wrap_i64] <;> omega
  have hli : (vs.length : Int) < ((vs.length + 1 : Nat) : Int) := by omega
  have HVL := hide hvl
  have hk9 : vs.length ≤ 1000 := by omega
  have HLV : Hid (vs.reverse.length = vs.length) := by simp [Hid]
  clear h htk hrow r1 r2 r4 r5 r6 hvs hve hvl
  obtain ⟨k, hk⟩ : ∃ k, vs.length = k := ⟨_, rfl⟩
  have HK := hide hk
  rw [hk] at hcell hcap' hcapI hwr hli hk9 HROW HLV r3 c4
  rw [hk] at HH
  rw [hk]
  clear hk
  go_enter Tryd.func66, Tryd.ntmps66
  go_wp2_with fail
  go_ret
  have hmb := HH.out.known.lt
  have hgm : g ≠ mb := (HH.out.apart g rfl).2
  have hall : ∀ q, q < w.heap.size → ¬ badB sb mb (.slice (some ⟨g, 0, none⟩) (k + 1) cap) q → (w.setCell ⟨sb, 9, none⟩ (.slice (some ⟨g, 0, none⟩) k cap)).heap[q]? = w.heap[q]? ∧ ¬ badB sb mb (.slice (some ⟨g, 0, none⟩) k cap) q := fun q hq hn => ⟨Below.heap_setCell _ _ _ _ (fun e => hn (Or.inl e)), fun e => hn e⟩
  have hsz : (w.setCell ⟨sb, 9, none⟩ (.slice (some ⟨g, 0, none⟩) k cap)).heap.size = w.heap.size := by simp [World.setCell]
  have hold : Below w0.heap.size w0 (w.setCell ⟨sb, 9, none⟩ (.slice (some ⟨g, 0, none⟩) k cap)) := HH.out.old.setCell (p := ⟨sb, 9, none⟩) HH.out.lo.1 _
  refine ⟨_, .slice (some ⟨g, 0, none⟩) k cap, rfl, HTK.out.1.keep hall, ⟨vs.reverse, by rw [HLV.out]; omega, ⟨block10_set9 HH.out.var _, ?_, ?_, HH.out.known.kept (Below.heap_setCell _ _ _ _ HH.out.ne), HH.out.ne, fun q e => HH.out.apart q e, HH.out.lo, hold⟩⟩, Chg.setCell (F := badB sb mb (.slice (some ⟨g, 0, none⟩) (k + 1) cap)) (p := ⟨sb, 9, none⟩) (Chg.refl _ _) (Or.inl rfl) _, fun q e => Or.inl e⟩
  · rw [HLV.out]
    exact ownsRow_keep HROW.out (fun q hq => Below.heap_setCell _ _ _ _ (fun e => by simp [Value.ownBlock] at hq; subst hq; exact hgs e))
  · rw [List.reverse_reverse]
    exact TasksV.keep hall HTK.out.2
end Go.Proofs.YtmjjigdnoiphbaaDoor
