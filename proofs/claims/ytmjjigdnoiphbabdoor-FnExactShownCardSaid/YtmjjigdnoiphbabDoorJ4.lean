import Derived.Test.YtmjjigdnoiphbabDoorJ3
import Derived.Deep.LoopGhost
import Derived.Deep.RegionHeld3
/-
  THE SEARCH IN MEMORY; push, pop.
-/
namespace Go.Proofs.YtmjjigdnoiphbabDoor
open Go.RowKit Go.Deep Go.Maps
set_option linter.unusedVariables false

theorem Tryd.infoFunc : (Tryd.prog.info? 1).map (fun i => (i.zero, i.size, i.bytes)) = some (some Value.nilFunc, 1, 8) := by kernel_rfl

/-- the blocks that the search writes -/
def badB (sb mb : Nat) (tv : Value) : Nat → Prop := fun q => q = sb ∨ q = mb ∨ tv.ownBlock = some q
def ptr (b : Nat) : Value := .pointer (some ⟨b, 0, none⟩)
/-- a closure on the stack -/
def TaskV (w : World) (sb : Nat) (bad : Nat → Prop) (v : Value) (t : Task) : Prop :=
  match t.2 with
  | none => ∃ fn b1 b2, (fn = 60 ∨ fn = 76) ∧ v = .func (.func fn) #[] #[.pointer (some ⟨b1, 0, none⟩), .pointer (some ⟨b2, 0, none⟩)] ∧ w.heap[b1]? = some (.cells #[.pointer (some ⟨sb, 0, none⟩)] 71 (0, 0)) ∧ w.heap[b2]? = some (.cells (pc5 t.1) 70 (0, 0)) ∧ ¬ bad b1 ∧ ¬ bad b2
  | some m => ∃ b1 b2 b3 b4, v = .func (.func 75) #[] #[.pointer (some ⟨b1, 0, none⟩), .pointer (some ⟨b2, 0, none⟩), .pointer (some ⟨b3, 0, none⟩), .pointer (some ⟨b4, 0, none⟩)] ∧ w.heap[b1]? = some (.cells #[.pointer (some ⟨sb, 0, none⟩)] 71 (0, 0)) ∧ w.heap[b2]? = some (.cells (pc5 (bump t.1 m)) 70 (0, 0)) ∧ w.heap[b3]? = some (.cells (pc5 t.1) 70 (0, 0)) ∧ w.heap[b4]? = some (.cells #[.int .i64 (m : Int)] 3 (0, 0)) ∧ ¬ bad b1 ∧ ¬ bad b2 ∧ ¬ bad b3 ∧ ¬ bad b4
theorem TaskV.keep {w w' : World} {sb : Nat} {bad bad' : Nat → Prop} {v : Value} {t : Task} (h : TaskV w sb bad v t) (hb : ∀ q, q < w.heap.size → ¬ bad q → w'.heap[q]? = w.heap[q]? ∧ ¬ bad' q) : TaskV w' sb bad' v t := by
  have kk : ∀ {q : Nat} {o : Obj}, w.heap[q]? = some o → ¬ bad q → w'.heap[q]? = some o ∧ ¬ bad' q := fun hq hn => by
    obtain ⟨e1, e2⟩ := hb _ (Array.getElem?_eq_some_iff.1 hq).1 hn
    exact ⟨e1.trans hq, e2⟩
  obtain ⟨d, om⟩ := t
  cases om with
  | none =>
    obtain ⟨fn, b1, b2, h1, h2, h3, h4, h5, h6⟩ := h
    exact ⟨fn, b1, b2, h1, h2, (kk h3 h5).1, (kk h4 h6).1, (kk h3 h5).2, (kk h4 h6).2⟩
  | some m =>
    obtain ⟨b1, b2, b3, b4, h2, h3, h4, h5, h6, n1, n2, n3, n4⟩ := h
    exact ⟨b1, b2, b3, b4, h2, (kk h3 n1).1, (kk h4 n2).1, (kk h5 n3).1, (kk h6 n4).1, (kk h3 n1).2, (kk h4 n2).2, (kk h5 n3).2, (kk h6 n4).2⟩
theorem TaskV.one {w : World} {sb : Nat} {bad : Nat → Prop} {v : Value} {t : Task} (h : TaskV w sb bad v t) : v.oneCell' = true := by
  obtain ⟨d, om⟩ := t
  cases om with
  | none => obtain ⟨fn, b1, b2, h1, rfl, _⟩ := h; rfl
  | some m => obtain ⟨b1, b2, b3, b4, rfl, _⟩ := h; rfl
theorem TaskV.form {w : World} {sb : Nat} {bad : Nat → Prop} {v : Value} {t : Task} (h : TaskV w sb bad v t) : ∃ fn caps, v = .func (.func fn) #[] caps := by
  obtain ⟨d, om⟩ := t
  cases om with
  | none => obtain ⟨fn, b1, b2, h1, rfl, _⟩ := h; exact ⟨_, _, rfl⟩
  | some m => obtain ⟨b1, b2, b3, b4, rfl, _⟩ := h; exact ⟨_, _, rfl⟩
/-- the closures of a stack, its top first -/
def TasksV (w : World) (sb : Nat) (bad : Nat → Prop) : List Value → List Task → Prop
  | [], [] => True
  | v :: vs, t :: S => TaskV w sb bad v t ∧ TasksV w sb bad vs S
  | _, _ => False
theorem TasksV.keep {w w' : World} {sb : Nat} {bad bad' : Nat → Prop} (hb : ∀ q, q < w.heap.size → ¬ bad q → w'.heap[q]? = w.heap[q]? ∧ ¬ bad' q) : ∀ {vs : List Value} {S : List Task}, TasksV w sb bad vs S → TasksV w' sb bad' vs S
  | [], [], _ => trivial
  | v :: vs, t :: S, h => ⟨h.1.keep hb, TasksV.keep hb h.2⟩
  | [], _ :: _, h => h.elim
  | _ :: _, [], h => h.elim
theorem TasksV.len {w : World} {sb : Nat} {bad : Nat → Prop} : ∀ {vs : List Value} {S : List Task}, TasksV w sb bad vs S → vs.length = S.length
  | [], [], _ => rfl
  | v :: vs, t :: S, h => by simp [TasksV.len h.2]
  | [], _ :: _, h => h.elim
  | _ :: _, [], h => h.elim

/-- the search: its struct is block sb, its map block mb; w0: the world ahead of it -/
structure Srch (st : St) (w0 : World) (sb mb : Nat) (r t n : Value) (w : World) (tv : Value) (vals : List Value) (S : List Task) (kn : Kn) : Prop where
  var : w.heap[sb]? = some (.cells #[r, t, n, .int .i8 (endP st 0), .int .i8 (endP st 1), .int .i8 (endP st 2), .int .i8 (endP st 3), .int .i8 (endP st 4), .map (some mb), tv] 94 (0, 0))
  row : w.ownsRow w0.heap.size 1 1 tv vals.length vals
  tasks : TasksV w sb (badB sb mb tv) vals.reverse S
  known : KnownAt st w mb kn
  ne : mb ≠ sb
  apart : ∀ q, tv.ownBlock = some q → q ≠ sb ∧ q ≠ mb
  lo : w0.heap.size ≤ sb ∧ w0.heap.size ≤ mb
  old : Below w0.heap.size w0 w
/-- what a piece of the search leaves behind -/
structure SOut (st : St) (w0 : World) (sb mb : Nat) (r t n : Value) (w : World) (tv : Value) (S' : List Task) (kn' : Kn) (w' : World) : Prop where
  ex : ∃ tv' vals', Srch st w0 sb mb r t n w' tv' vals' S' kn' ∧ Chg (badB sb mb tv) w w' ∧ ∀ q, tv'.ownBlock = some q → tv.ownBlock = some q ∨ w.heap.size ≤ q

theorem Srch.below {st : St} {w0 : World} {sb mb : Nat} {r t n : Value} {w w' : World} {tv : Value} {vals : List Value} {S : List Task} {kn : Kn} (h : Srch st w0 sb mb r t n w tv vals S kn) (hb : Below w.heap.size w w') : Srch st w0 sb mb r t n w' tv vals S kn :=
  ⟨blockLater hb h.var, ownsRow_below h.row hb, TasksV.keep (fun q hq hn => ⟨hb.block q hq, hn⟩) h.tasks, h.known.kept (hb.block mb h.known.lt), h.ne, h.apart, h.lo, h.old.trans (hb.mono h.old.size)⟩
theorem SOut.refl {st : St} {w0 : World} {sb mb : Nat} {r t n : Value} {w : World} {tv : Value} {vals : List Value} {S : List Task} {kn : Kn} (h : Srch st w0 sb mb r t n w tv vals S kn) : SOut st w0 sb mb r t n w tv S kn w := ⟨tv, vals, h, Chg.refl _ _, fun q hq => Or.inl hq⟩
theorem SOut.trans {st : St} {w0 : World} {sb mb : Nat} {r t n : Value} {w w' w'' : World} {tv tv' : Value} {S'' : List Task} {kn'' : Kn} (h1 : Chg (badB sb mb tv) w w') (h2 : ∀ q, tv'.ownBlock = some q → tv.ownBlock = some q ∨ w.heap.size ≤ q) (h : SOut st w0 sb mb r t n w' tv' S'' kn'' w'') : SOut st w0 sb mb r t n w tv S'' kn'' w'' := by
  obtain ⟨tv'', vals'', hs, hc, hq⟩ := h.ex
  refine ⟨tv'', vals'', hs, ⟨hc.os.trans h1.os, hc.tape.trans h1.tape, hc.output.trans h1.output, Nat.le_trans h1.size hc.size, fun q hq hn => (hc.block q (Nat.lt_of_lt_of_le hq h1.size) (fun e => ?_)).trans (h1.block q hq hn)⟩, fun q e => ?_⟩
  · rcases e with e | e | e
    · exact hn (Or.inl e)
    · exact hn (Or.inr (Or.inl e))
    · rcases h2 q e with e | e
      · exact hn (Or.inr (Or.inr e))
      · omega
  · rcases hq q e with e | e
    · exact h2 q e
    · exact Or.inr (Nat.le_trans h1.size e)

/-- the cells of a search that are read: its state, its map, its stack -/
theorem cellsS {w : World} {b : Nat} {x0 x1 x2 x3 x4 x5 x6 x7 x8 x9 : Value} {t : TypeId} (h : w.heap[b]? = some (.cells #[x0, x1, x2, x3, x4, x5, x6, x7, x8, x9] t (0, 0))) :
    w.cell? ⟨b, 0, none⟩ = some x0 ∧ w.cell? ⟨b, 1, none⟩ = some x1 ∧ w.cell? ⟨b, 2, none⟩ = some x2 ∧ w.cell? ⟨b, 8, none⟩ = some x8 ∧ w.cell? ⟨b, 9, none⟩ = some x9 :=
  ⟨by rw [cell_of_row w b 0 _ t (0, 0) h]; rfl, by rw [cell_of_row w b 1 _ t (0, 0) h]; rfl, by rw [cell_of_row w b 2 _ t (0, 0) h]; rfl, by rw [cell_of_row w b 8 _ t (0, 0) h]; rfl, by rw [cell_of_row w b 9 _ t (0, 0) h]; rfl⟩
/-- its end -/
theorem cellsE {w : World} {b : Nat} {x0 x1 x2 x3 x4 x5 x6 x7 x8 x9 : Value} {t : TypeId} (h : w.heap[b]? = some (.cells #[x0, x1, x2, x3, x4, x5, x6, x7, x8, x9] t (0, 0))) :
    w.cell? ⟨b, 3, none⟩ = some x3 ∧ w.cell? ⟨b, 4, none⟩ = some x4 ∧ w.cell? ⟨b, 5, none⟩ = some x5 ∧ w.cell? ⟨b, 6, none⟩ = some x6 ∧ w.cell? ⟨b, 7, none⟩ = some x7 :=
  ⟨by rw [cell_of_row w b 3 _ t (0, 0) h]; rfl, by rw [cell_of_row w b 4 _ t (0, 0) h]; rfl, by rw [cell_of_row w b 5 _ t (0, 0) h]; rfl, by rw [cell_of_row w b 6 _ t (0, 0) h]; rfl, by rw [cell_of_row w b 7 _ t (0, 0) h]; rfl⟩
theorem cellsSb {w : World} {b : Nat} {x0 x1 x2 x3 x4 x5 x6 x7 x8 x9 : Value} {t : TypeId} (h : w.heap[b]? = some (.cells #[x0, x1, x2, x3, x4, x5, x6, x7, x8, x9] t (0, 0))) : ∀ o, w.frozen? ⟨b, o, none⟩ = false := fun o => frozen_of_row w b o _ t h
theorem block10_set9 {w : World} {b : Nat} {x0 x1 x2 x3 x4 x5 x6 x7 x8 x9 : Value} {t : TypeId} (h : w.heap[b]? = some (.cells #[x0, x1, x2, x3, x4, x5, x6, x7, x8, x9] t (0, 0))) (q : Value) : (w.setCell ⟨b, 9, none⟩ q).heap[b]? = some (.cells #[x0, x1, x2, x3, x4, x5, x6, x7, x8, q] t (0, 0)) := by
  have := Joins.block_setCell (i := 9) h q
  simpa using this
theorem cells5b {w : World} {b : Nat} {x0 x1 x2 x3 x4 : Value} {t : TypeId} (h : w.heap[b]? = some (.cells #[x0, x1, x2, x3, x4] t (0, 0))) : ∀ o, w.frozen? ⟨b, o, none⟩ = false := fun o => frozen_of_row w b o _ t h
theorem block5_set4 {w : World} {b : Nat} {x y z u v : Value} {t : TypeId} (h : w.heap[b]? = some (.cells #[x, y, z, u, v] t (0, 0))) (q : Value) : (w.setCell ⟨b, 4, none⟩ q).heap[b]? = some (.cells #[x, y, z, u, q] t (0, 0)) := by
  have := Joins.block_setCell (i := 4) h q
  simpa using this

/-- a row one of whose last is dropped -/
theorem ownsRow_pop {w : World} {B g n cap : Nat} {e : TypeId} {xs : List Value} {x : Value} (h : w.ownsRow B e 1 (.slice (some ⟨g, 0, none⟩) (n + 1) cap) (n + 1) (xs ++ [x])) : w.ownsRow B e 1 (.slice (some ⟨g, 0, none⟩) n cap) n xs := by
  obtain ⟨h1, h2⟩ := h
  have hl : xs.length = n := by simpa using h1
  refine ⟨by omega, ?_⟩
  rcases h2 with ⟨e1, _⟩ | ⟨g', cap', cur, e1, r1, r2, r3, r4, r5, r6⟩
  · simp at e1
  · simp only [Value.slice.injEq, Option.some.injEq, Addr.mk.injEq, and_true, true_and] at e1
    obtain ⟨rfl, rfl⟩ := e1
    refine Or.inr ⟨g, cap, cur, rfl, r1, r2, by omega, r4, r5, ?_⟩
    have : cur.toList.take (n * 1) = (cur.toList.take ((n + 1) * 1)).take n := by simp [List.take_take, Nat.min_eq_left]
    rw [this, r6, List.take_append_of_le_length (by omega), ← hl, List.take_length]

set_option maxRecDepth 4000 in
set_option maxHeartbeats 4000000 in
theorem push_any {st : St} {w0 : World} {sb mb : Nat} {r t n : Value} {w : World} {tv : Value} {vals : List Value} {S : List Task} {kn : Kn} (h : Srch st w0 sb mb r t n w tv vals S kn) {v : Value} {tk : Task} (hv : TaskV w sb (badB sb mb tv) v tk) (hl : vals.length ≤ 1000) :
    Calls Tryd.prog 59 #[.pointer (some ⟨sb, 0, none⟩), v] w fun e w' => (∃ u, e = .returned u) ∧ SOut st w0 sb mb r t n w tv (tk :: S) kn w' := by
  have HH := hide h
  have hone := hv.one
  obtain ⟨fn, caps, rfl⟩ := hv.form
  have HV := hide hv
  obtain ⟨c0, c1, c2, c3, c4⟩ := cellsS h.var
  have hf4 := cellsSb h.var 9
  have hsl : sb < w.heap.size := (Array.getElem?_eq_some_iff.1 h.var).1
  have hlo : w0.heap.size ≤ w.heap.size := h.old.size
  clear h hv
  obtain ⟨i0, hi, hz0, hz1, hz2⟩ := info_parts Tryd.infoFunc
  have HI0 := hide hi
  have HZ0 := hide hz0
  have HZ1 := hide hz1
  have HZ2 := hide hz2
  clear hi hz0 hz1 hz2
  go_enter Tryd.func59, Tryd.ntmps59
  go_wp2_with (first | (at_builtin; refine wpList_append_lies _ rfl _ _ 92 rfl w0.heap.size 1 i0 Value.nilFunc 1 8 Tryd.underlying92 HI0.out HZ0.out HZ1.out HZ2.out rfl (by decide) tv _ _ rfl (HH.out.row.alloc _) ⟨w.heap.size, 0, none⟩ 1 1 [.func (.func fn) #[] caps] rfl rfl ?c1 ?c2 (by decide) ?c3 ?c4 ?c5 _ rfl ?_))
  case c1 => exact cell_one_new _ _ _
  case c2 => intro u hu; simp at hu; subst hu; exact hone
  case c3 => unfold maxLen; omega
  case c4 => omega
  case c5 => simp; omega
  intro g cap w2 hown hgrow hat _
  have hba := Joins.below_alloc1 w (.cells #[.func (.func fn) #[] caps] 1)
  have hfar : ∀ q, q < w.heap.size → tv.ownBlock ≠ some q → w2.heap[q]? = w.heap[q]? := fun q hq hne => by
    rw [hgrow.block q (by simp; omega) (fun e => hne e.symm), hba.block q hq]
  have hsb2 : w2.heap[sb]? = some (.cells #[r, t, n, .int .i8 (endP st 0), .int .i8 (endP st 1), .int .i8 (endP st 2), .int .i8 (endP st 3), .int .i8 (endP st 4), .map (some mb), tv] 94 (0, 0)) := (hfar sb hsl (fun e => (HH.out.apart sb e).1 rfl)).trans HH.out.var
  obtain ⟨d0, d1, d2, d3, d4⟩ := cellsS hsb2
  have df4 := cellsSb hsb2 9
  have HSB2 := hide hsb2
  have HOWN := hide hown
  have HGROW := hide hgrow
  have HAT := hide hat
  have HFAR := hide hfar
  have HBA := hide hba
  clear hown hgrow hat hfar hba hsb2 c0 c1 c2 c3 c4 hf4
  go_wp2_with fail
  go_end0
  have hmb := HH.out.known.lt
  have hgw : tv.ownBlock = some g ∨ w.heap.size ≤ g := HAT.out.imp id (fun e => by rw [e]; simp)
  have hgs : g ≠ sb := fun e => by
    subst e
    rcases hgw with e | e
    · exact (HH.out.apart _ e).1 rfl
    · omega
  have hgm : g ≠ mb := fun e => by
    subst e
    rcases hgw with e | e
    · exact (HH.out.apart _ e).2 rfl
    · omega
  have hall : ∀ q, q < w.heap.size → ¬ badB sb mb tv q → (w2.setCell ⟨sb, 9, none⟩ (.slice (some ⟨g, 0, none⟩) (vals.length + 1) cap)).heap[q]? = w.heap[q]? ∧ ¬ badB sb mb (.slice (some ⟨g, 0, none⟩) (vals.length + 1) cap) q := fun q hq hn => by
    refine ⟨(Below.heap_setCell _ _ _ _ (fun e => hn (Or.inl e))).trans (HFAR.out q hq (fun e => hn (Or.inr (Or.inr e)))), fun e => ?_⟩
    rcases e with e | e | e
    · exact hn (Or.inl e)
    · exact hn (Or.inr (Or.inl e))
    · simp [Value.ownBlock] at e
      subst e
      rcases hgw with e | e
      · exact hn (Or.inr (Or.inr e))
      · omega
  have hmbk : (w2.setCell ⟨sb, 9, none⟩ (.slice (some ⟨g, 0, none⟩) (vals.length + 1) cap)).heap[mb]? = w.heap[mb]? := (Below.heap_setCell _ _ _ _ HH.out.ne).trans (HFAR.out mb hmb (fun e => (HH.out.apart mb e).2 rfl))
  have hold : Below w0.heap.size w0 w2 := (HH.out.old.trans (HBA.out.mono hlo)).grown HGROW.out (by simp; omega) (fun q e => (ownBlock_lt HH.out.row e).1)
  refine ⟨⟨_, rfl⟩, ⟨_, vals ++ [.func (.func fn) #[] caps], ⟨block10_set9 HSB2.out _, ?_, ?_, HH.out.known.kept hmbk, HH.out.ne, fun q e => ?_, HH.out.lo, hold.setCell (p := ⟨sb, 9, none⟩) HH.out.lo.1 _⟩, ⟨hold.os.trans HH.out.old.os.symm, hold.tape.trans HH.out.old.tape.symm, hold.output.trans HH.out.old.output.symm, ?_, fun q hq hn => (hall q hq hn).1⟩, fun q e => ?_⟩⟩
  · have := ownsRow_keep HOWN.out (w' := w2.setCell ⟨sb, 9, none⟩ (.slice (some ⟨g, 0, none⟩) (vals.length + 1) cap)) (fun q hq => Below.heap_setCell _ _ _ _ (fun e => by simp [Value.ownBlock] at hq; subst hq; exact hgs e))
    simpa using this
  · rw [List.reverse_append]
    exact ⟨HV.out.keep hall, TasksV.keep hall HH.out.tasks⟩
  · simp [Value.ownBlock] at e
    subst e
    exact ⟨hgs, hgm⟩
  · have := HGROW.out.size
    have h2 := HBA.out.size
    simp [World.setCell] at this h2 ⊢
    omega
  · simp [Value.ownBlock] at e
    subst e
    exact hgw

set_option maxRecDepth 4000 in
set_option maxHeartbeats 4000000 in
theorem pop_any {st : St} {w0 : World} {sb mb : Nat} {r t n : Value} {w : World} {tv : Value} {vals : List Value} {tk : Task} {S : List Task} {kn : Kn} (h : Srch st w0 sb mb r t n w tv vals (tk :: S) kn) (hl : vals.length ≤ 1000) :
    Calls Tryd.prog 62 #[.pointer (some ⟨sb, 0, none⟩)] w fun e w' => ∃ v tv', e = .returned v ∧ TaskV w' sb (badB sb mb tv') v tk ∧ (∃ vals', vals'.length ≤ 1000 ∧ Srch st w0 sb mb r t n w' tv' vals' S kn) ∧ Chg (badB sb mb tv) w w' ∧ ∀ q, tv'.ownBlock = some q → tv.ownBlock = some q ∨ w.heap.size ≤ q := by
  have HH := hide h
  obtain ⟨v, vs, hvs⟩ : ∃ v vs, vals.reverse = v :: vs := by
    cases e : vals.reverse with
    | nil => have := h.tasks; rw [e] at this; exact this.elim
    | cons v vs => exact ⟨v, vs, rfl⟩
  have htk := h.tasks
  rw [hvs] at htk
  have hve : vals = vs.reverse ++ [v] := by rw [← List.reverse_reverse vals, hvs, List.reverse_cons]
  have hvl : vals.length = vs.length + 1 := by rw [hve]; simp
  obtain ⟨fn, caps, rfl⟩ := htk.1.form
  have hrow := h.row
  rw [hve] at hrow
  simp only [List.length_append, List.length_reverse, List.length_singleton] at hrow
  obtain ⟨g, cap, cur, rfl, r1, r2, r3, r4, r5, r6⟩ : ∃ g cap cur, tv = .slice (some ⟨g, 0, none⟩) (vs.length + 1) cap ∧ w0.heap.size ≤ g ∧ w.heap[g]? = some (.cells cur 1 (0, 0)) ∧ vs.length + 1 ≤ cap ∧ cap ≤ maxLen ∧ cur.size = cap * 1 ∧ cur.toList.take ((vs.length + 1) * 1) = vs.reverse ++ [.func (.func fn) #[] caps] := by
    rcases hrow.2 with ⟨_, e⟩ | r
    · simp at e
    · exact r
  have hcell : w.cell? ⟨g, vs.length, none⟩ = some (.func (.func fn) #[] caps) := by
    rw [cell_of_row w g vs.length cur 1 (0, 0) r2, ← Array.getElem?_toList, take_get r6 (by omega)]
    simp
  obtain ⟨c0, c1, c2, c3, c4⟩ := cellsS h.var
  have hf4 := cellsSb h.var 9
  have hsl : sb < w.heap.size := (Array.getElem?_eq_some_iff.1 h.var).1
  have HROW := hide (ownsRow_pop hrow)
  have HTK := hide htk
  have hgs : g ≠ sb := (h.apart g rfl).1
  have hcap' : vs.length ≤ cap := by omega
  have hcapI : ((vs.length : Nat) : Int) ≤ (cap : Int) := by omega
  have hwr : IntKind.i64.wrap (((vs.length + 1 : Nat) : Int) - 1) = (vs.length : Int) := by rw [IntKind.wrap_i64] <;> omega
  have hli : (vs.length : Int) < ((vs.length + 1 : Nat) : Int) := by omega
  have HVL := hide hvl
  have hk9 : vs.length ≤ 1000 := by omega
  have HLV : Hid (vs.reverse.length = vs.length) := by simp [Hid]
  clear h htk hrow r1 r2 r4 r5 r6 hvs hve hvl
  obtain ⟨k, hk⟩ : ∃ k, vs.length = k := ⟨_, rfl⟩
  have HK := hide hk
  rw [hk] at hcell hcap' hcapI hwr hli hk9 HROW HLV r3 c4
  rw [hk] at HH
  rw [hk]
  clear hk
  go_enter Tryd.func62, Tryd.ntmps62
  go_wp2_with fail
  go_ret
  have hmb := HH.out.known.lt
  have hgm : g ≠ mb := (HH.out.apart g rfl).2
  have hall : ∀ q, q < w.heap.size → ¬ badB sb mb (.slice (some ⟨g, 0, none⟩) (k + 1) cap) q → (w.setCell ⟨sb, 9, none⟩ (.slice (some ⟨g, 0, none⟩) k cap)).heap[q]? = w.heap[q]? ∧ ¬ badB sb mb (.slice (some ⟨g, 0, none⟩) k cap) q := fun q hq hn => ⟨Below.heap_setCell _ _ _ _ (fun e => hn (Or.inl e)), fun e => hn e⟩
  have hsz : (w.setCell ⟨sb, 9, none⟩ (.slice (some ⟨g, 0, none⟩) k cap)).heap.size = w.heap.size := by simp [World.setCell]
  have hold : Below w0.heap.size w0 (w.setCell ⟨sb, 9, none⟩ (.slice (some ⟨g, 0, none⟩) k cap)) := HH.out.old.setCell (p := ⟨sb, 9, none⟩) HH.out.lo.1 _
  refine ⟨_, .slice (some ⟨g, 0, none⟩) k cap, rfl, HTK.out.1.keep hall, ⟨vs.reverse, by rw [HLV.out]; omega, ⟨block10_set9 HH.out.var _, ?_, ?_, HH.out.known.kept (Below.heap_setCell _ _ _ _ HH.out.ne), HH.out.ne, fun q e => HH.out.apart q e, HH.out.lo, hold⟩⟩, Chg.setCell (F := badB sb mb (.slice (some ⟨g, 0, none⟩) (k + 1) cap)) (p := ⟨sb, 9, none⟩) (Chg.refl _ _) (Or.inl rfl) _, fun q e => Or.inl e⟩
  · rw [HLV.out]
    exact ownsRow_keep HROW.out (fun q hq => Below.heap_setCell _ _ _ _ (fun e => by simp [Value.ownBlock] at hq; subst hq; exact hgs e))
  · rw [List.reverse_reverse]
    exact TasksV.keep hall HTK.out.2
end Go.Proofs.YtmjjigdnoiphbabDoor

/-
  impl: try.
-/
namespace Go.Proofs.YtmjjigdnoiphbabDoor
open Go.RowKit Go.Deep Go.Maps
set_option linter.unusedVariables false

theorem Srch.put {st : St} {w0 : World} {sb mb : Nat} {r t n : Value} {w w' : World} {tv : Value} {vals : List Value} {S : List Task} {kn kn' : Kn} (h : Srch st w0 sb mb r t n w tv vals S kn) (hk : KnownAt st w' mb kn') (hg : w.grownBy w' (some mb)) : Srch st w0 sb mb r t n w' tv vals S kn' ∧ Chg (badB sb mb tv) w w' := by
  have hsame : ∀ q, q < w.heap.size → q ≠ mb → w'.heap[q]? = w.heap[q]? := fun q hq hne => hg.block q hq (fun e => hne (by cases e; rfl))
  have hsl : sb < w.heap.size := (Array.getElem?_eq_some_iff.1 h.var).1
  refine ⟨⟨(hsame sb hsl (fun e => h.ne e.symm)).trans h.var, ownsRow_keep h.row (fun q hq => hsame q (ownBlock_lt h.row hq).2 (h.apart q hq).2), TasksV.keep (fun q hq hn => ⟨hsame q hq (fun e => hn (Or.inr (Or.inl e))), hn⟩) h.tasks, hk, h.ne, h.apart, h.lo, h.old.grown hg h.old.size (fun q e => by cases e; exact h.lo.2)⟩, ⟨hg.os, hg.tape, hg.output, hg.size, fun q hq hn => hsame q hq (fun e => hn (Or.inr (Or.inl e)))⟩⟩
theorem Srch.len {st : St} {w0 : World} {sb mb : Nat} {r t n : Value} {w : World} {tv : Value} {vals : List Value} {S : List Task} {kn : Kn} (h : Srch st w0 sb mb r t n w tv vals S kn) : vals.length = S.length := by
  have := TasksV.len h.tasks
  simpa using this

set_option maxRecDepth 8000 in
set_option maxHeartbeats 16000000 in
theorem try_any {st : St} {w0 : World} {sb mb : Nat} {a1 a2 a3 : Option Addr} {q1 q2 q3 : Nat} {w : World} {tv : Value} {vals : List Value} {S : List Task} {kn : Kn} (h : Srch st w0 sb mb (.slice a1 st.1.length q1) (.slice a2 st.2.1.length q2) (.slice a3 st.2.2.length q3) w tv vals S kn)
    (hst : StateAt w0 (.agg #[.slice a1 st.1.length q1, .slice a2 st.2.1.length q2, .slice a3 st.2.2.length q3]) st) (hcap : CapSt w0 (.agg #[.slice a1 st.1.length q1, .slice a2 st.2.1.length q2, .slice a3 st.2.2.length q3]) st.2.1.length) (hr : RightSt st) {d : Pr} (hd : PV st d) (m : Nat) (hm : m ≤ st.2.1.length) (hl : vals.length ≤ 500) :
    Calls Tryd.prog 68 #[.pointer (some ⟨sb, 0, none⟩), pv d, .int .i64 m] w fun e w' => (∃ u, e = .returned u) ∧ ∃ kn' S', TryR st d m kn S kn' S' ∧ SOut st w0 sb mb (.slice a1 st.1.length q1) (.slice a2 st.2.1.length q2) (.slice a3 st.2.2.length q3) w tv S' kn' w' := by
  have HST := hide hst
  have HCAP := hide hcap
  have HR := hide hr
  have HD := hide hd
  have HH := hide h
  have hsl : sb < w.heap.size := (Array.getElem?_eq_some_iff.1 h.var).1
  have hml : mb < w.heap.size := h.known.lt
  obtain ⟨l1, l2, l3, l4⟩ := hr.lens
  clear h hst hcap hr hd l4
  unfold pv pc5
  go_enter Tryd.func68, Tryd.ntmps68
  go_wp2_with fail
  obtain ⟨V, hV⟩ : ∃ V, V = ((w.alloc (.cells #[.pointer (some ⟨sb, 0, none⟩)] 71)).alloc (.cells #[.int .i8 (d 0), .int .i8 (d 1), .int .i8 (d 2), .int .i8 (d 3), .int .i8 (d 4)] 70)).alloc (.cells #[.int .i64 (m : Int)] 3) := ⟨_, rfl⟩
  obtain ⟨bf, hbf⟩ : ∃ bf, bf = w.heap.size := ⟨_, rfl⟩
  rw [← hV, ← hbf]
  have hbV : Below w.heap.size w V := by rw [hV]; exact Joins.below_alloc3 _ _ _ _
  have vF : V.heap[bf]? = some (.cells #[.pointer (some ⟨sb, 0, none⟩)] 71 (0, 0)) := by rw [hV, hbf]; exact blockLater (Joins.below_alloc2 _ _ _) (heap_alloc_new _ _)
  have vP : V.heap[bf + 1]? = some (.cells #[.int .i8 (d 0), .int .i8 (d 1), .int .i8 (d 2), .int .i8 (d 3), .int .i8 (d 4)] 70 (0, 0)) := by rw [hV, hbf]; exact blockLater (Joins.below_alloc1 _ _) (heap_alloc2_new _ _ _)
  have vM : V.heap[bf + 1 + 1]? = some (.cells #[.int .i64 (m : Int)] 3 (0, 0)) := by
    rw [hV, hbf]
    have := heap_alloc_new ((w.alloc (.cells #[.pointer (some ⟨sb, 0, none⟩)] 71)).alloc (.cells #[.int .i8 (d 0), .int .i8 (d 1), .int .i8 (d 2), .int .i8 (d 3), .int .i8 (d 4)] 70)) (.cells #[.int .i64 (m : Int)] 3)
    simpa using this
  have HSV := hide (HH.out.below hbV)
  have HVF := hide vF
  have HVP := hide vP
  have HVM := hide vM
  have HBV := hide hbV
  have HBF := hide hbf
  have hs1 : sb < bf := by omega
  have hm1 : mb < bf := by omega
  clear hV hbf hbV vF vP vM
  go_loopg [7] (st.2.1.length - m) (fun gk _ wr => ∃ m', m ≤ m' ∧ m' + gk = st.2.1.length ∧ (∀ j, m ≤ j → j < m' → canP st d j = false) ∧ wr.heap[bf]? = some (.cells #[.pointer (some ⟨sb, 0, none⟩)] 71 (0, 0)) ∧ wr.heap[bf + 1]? = some (.cells #[.int .i8 (d 0), .int .i8 (d 1), .int .i8 (d 2), .int .i8 (d 3), .int .i8 (d 4)] 70 (0, 0)) ∧ wr.heap[bf + 1 + 1]? = some (.cells #[.int .i64 (m' : Int)] 3 (0, 0)) ∧ Below bf w wr)
  case atStart => exact ⟨m, Nat.le_refl _, by omega, fun j h1 h2 => by omega, HVF.out, HVP.out, HVM.out, by rw [HBF.out]; exact HBV.out⟩
  case round =>
    obtain ⟨m', h1, h2, h3, hF, hP, hM, hb⟩ := hrel
    have hb' : Below w.heap.size w wr := by rw [← HBF.out]; exact hb
    have hsr := HH.out.below hb'
    have f0 : wr.cell? ⟨bf, 0, none⟩ = some (.pointer (some ⟨sb, 0, none⟩)) := by rw [cell_of_row wr bf 0 _ _ (0, 0) hF]; rfl
    have m0 : wr.cell? ⟨bf + 1 + 1, 0, none⟩ = some (.int .i64 (m' : Int)) := by rw [cell_of_row wr (bf + 1 + 1) 0 _ _ (0, 0) hM]; rfl
    have mf : wr.frozen? ⟨bf + 1 + 1, 0, none⟩ = false := frozen_of_row wr _ 0 _ _ hM
    obtain ⟨p0, p1, p2, p3, p4⟩ := cells5 hP
    obtain ⟨c0, c1, c2, c3, c4⟩ := cellsS hsr.var
    have hm3 : bf + 1 + 1 < wr.heap.size := (Array.getElem?_eq_some_iff.1 hM).1
    have H3 := hide h3
    have HF := hide hF
    have HP := hide hP
    have HM := hide hM
    have HB := hide hb
    have HSR := hide hsr
    have HSTR := hide (HST.out.below (HSR.out.old))
    have HCPR := hide (CapSt.below HCAP.out HST.out HSR.out.old)
    clear h3 hF hP hM hb hb' hsr
    by_cases hlt : m' < st.2.1.length
    · have hlI : (m' : Int) < (st.2.1.length : Int) := by omega
      have hlb : decide ((m' : Int) < (st.2.1.length : Int)) = true := by simp; omega
      cases hcan : canP st d m'
      all_goals
        have HCAN := hide hcan
        clear hcan
        go_wp2_with fail
        go_region_held3 (fun w' => w'.cell? ⟨bf, 0, none⟩ = some (.pointer (some ⟨sb, 0, none⟩)) ∧ w'.cell? ⟨bf + 1 + 1, 0, none⟩ = some (.int .i64 (m' : Int)) ∧ w'.cell? ⟨bf + 1, 0, none⟩ = some (.int .i8 (d 0)) ∧ w'.cell? ⟨bf + 1, 1, none⟩ = some (.int .i8 (d 1)) ∧ w'.cell? ⟨bf + 1, 2, none⟩ = some (.int .i8 (d 2)) ∧ w'.cell? ⟨bf + 1, 3, none⟩ = some (.int .i8 (d 3)) ∧ w'.cell? ⟨bf + 1, 4, none⟩ = some (.int .i8 (d 4)) ∧ w'.cell? ⟨sb, 0, none⟩ = some (.slice a1 st.1.length q1) ∧ w'.cell? ⟨sb, 1, none⟩ = some (.slice a2 st.2.1.length q2) ∧ w'.cell? ⟨sb, 2, none⟩ = some (.slice a3 st.2.2.length q3))
          (first | (exact ⟨cell_later hb2 (by exact f0), cell_later hb2 (by exact m0), cell_later hb2 (by exact p0), cell_later hb2 (by exact p1), cell_later hb2 (by exact p2), cell_later hb2 (by exact p3), cell_later hb2 (by exact p4), cell_later hb2 (by exact c0), cell_later hb2 (by exact c1), cell_later hb2 (by exact c2)⟩) | go_keep)
          (first | (go_at_call 42; refine (canMove_any _ st d m' _ (StateAt.below HSTR.out (Joins.below_draws _ _ 1)) (CapSt.below HCPR.out HSTR.out (Joins.below_draws _ _ 1)) HR.out HD.out.ok hlt).mono ?_; rw [HCAN.out]; rintro e w2 ⟨rfl, hb2⟩))
      · have hb2' : Below wr.heap.size wr w2 := below_tail (Joins.below_draws _ _ 1) hb2
        have HM2 := hide (blockLater hb2' HM.out)
        have HP2 := hide (blockLater hb2' HP.out)
        have HF2 := hide (blockLater hb2' HF.out)
        have HB2 : Hid (Below bf w w2) := HB.out.trans (hb2'.mono (by omega))
        have mm : w2.cell? ⟨bf + 1 + 1, 0, none⟩ = some (.int .i64 (m' : Int)) := by rw [cell_of_row w2 (bf + 1 + 1) 0 _ _ (0, 0) HM2.out]; rfl
        have mmf : w2.frozen? ⟨bf + 1 + 1, 0, none⟩ = false := frozen_of_row w2 _ 0 _ _ HM2.out
        rename_i hh
        clear hh hb2 hb2' f0 m0 mf p0 p1 p2 p3 p4 c0 c1 c2 c3 c4
        go_wp2_with fail
        go_roundg (st.2.1.length - (m' + 1))
        case measure => omega
        case rel =>
          refine ⟨m' + 1, by omega, by omega, fun j g1 g2 => ?_, (Below.heap_setCell _ _ _ _ (by simp; omega)).trans HF2.out, (Below.heap_setCell _ _ _ _ (by simp)).trans HP2.out, ?_, HB2.out.setCell (p := ⟨bf + 1 + 1, 0, none⟩) (by simp; omega) _⟩
          · by_cases e : j = m'
            · subst e; exact HCAN.out
            · exact H3.out j g1 (by omega)
          · have := Joins.block_setCell (i := 0) HM2.out (.int .i64 ((m' : Int) + 1))
            simpa using this
      · have hb2' : Below wr.heap.size wr w2 := below_tail (Joins.below_draws _ _ 1) hb2
        have HM2 := hide (blockLater hb2' HM.out)
        have HP2 := hide (blockLater hb2' HP.out)
        have HF2 := hide (blockLater hb2' HF.out)
        have HB2 : Hid (Below bf w w2) := HB.out.trans (hb2'.mono (by omega))
        have HS2 := hide (HSR.out.below hb2')
        have mm : w2.cell? ⟨bf + 1 + 1, 0, none⟩ = some (.int .i64 (m' : Int)) := by rw [cell_of_row w2 (bf + 1 + 1) 0 _ _ (0, 0) HM2.out]; rfl
        have ff : w2.cell? ⟨bf, 0, none⟩ = some (.pointer (some ⟨sb, 0, none⟩)) := by rw [cell_of_row w2 bf 0 _ _ (0, 0) HF2.out]; rfl
        obtain ⟨e0, e1, e2, e3, e4⟩ := cells5 HP2.out
        obtain ⟨g0, g1, g2, g3, g4⟩ := cellsS HS2.out.var
        have hneb : ((m' : Int) == (st.2.1.length : Int)) = false := by rw [beq_eq_false_iff_ne]; omega
        rename_i hh
        clear hh hb2 hb2' f0 m0 mf p0 p1 p2 p3 p4 c0 c1 c2 c3 c4
        have hw2s : bf + 1 + 1 < w2.heap.size := (Array.getElem?_eq_some_iff.1 HM2.out).1
        have htvb : Hid (∀ q, tv.ownBlock = some q → q < bf) := fun q e => by rw [HBF.out]; exact (ownBlock_lt HH.out.row e).2
        have hvl : vals.length = S.length := HH.out.len
        go_wp2_with fail
        go_quiet (fail)
        go_wp2_with fail
        refine (pmoved_any d m' _ (by omega) (HD.out.lt HR.out.so m')).mono ?_
        rintro e w3 ⟨rfl, hb3⟩
        have hb23 : Below w2.heap.size w2 w3 := below_tail (Joins.below_draws _ _ nq) hb3
        have ff3 : w3.cell? ⟨bf, 0, none⟩ = some (.pointer (some ⟨sb, 0, none⟩)) := cell_later hb23 ff
        have hw3s : bf + 1 + 1 < w3.heap.size := Nat.lt_of_lt_of_le hw2s hb23.size
        have hbf3 : bf < w3.heap.size := by omega
        have HM3 := hide (blockLater hb23 HM2.out)
        have HP3 := hide (blockLater hb23 HP2.out)
        have HF3 := hide (blockLater hb23 HF2.out)
        have HS3 := hide (HS2.out.below hb23)
        have HB3 : Hid (Below bf w w3) := HB2.out.trans (hb23.mono (by omega))
        clear hb3 hb23 mm ff e0 e1 e2 e3 e4 g0 g1 g2 g3 g4
        have hmf : ∀ (fn : Fn) (first cap : Array Value) (w : World), (Instr.makeFunc fn first cap).run Tryd.prog w = .ok (.func fn first cap) w := fun _ _ _ _ => rfl
        unfold pv pc5
        generalize hde : bump d m' = de at *
        have HDE := hide hde
        clear hde
        go_wp2_with fail
        obtain ⟨V3, hV3⟩ : ∃ V3, V3 = w3.alloc (.cells #[.int .i8 (de 0), .int .i8 (de 1), .int .i8 (de 2), .int .i8 (de 3), .int .i8 (de 4)] 70) := ⟨_, rfl⟩
        rw [← hV3]
        have hbV3 : Below w3.heap.size w3 V3 := by rw [hV3]; exact Joins.below_alloc1 _ _
        have HN3 : Hid (V3.heap[w3.heap.size]? = some (.cells (pc5 de) 70 (0, 0))) := by rw [hV3]; exact heap_alloc_new _ _
        have HMV := hide (blockLater hbV3 HM3.out)
        have HPV := hide (blockLater hbV3 HP3.out)
        have HFV := hide (blockLater hbV3 HF3.out)
        have HSV3 := hide (HS3.out.below hbV3)
        have HBV3 : Hid (Below bf w V3) := HB3.out.trans (hbV3.mono (by omega))
        have hV3s : w3.heap.size < V3.heap.size := (Array.getElem?_eq_some_iff.1 HN3.out).1
        have hnb : Hid (∀ q, bf ≤ q → ¬ badB sb mb tv q) := fun q hq e => by
          rcases e with e | e | e
          · omega
          · omega
          · have := htvb.out q e
            omega
        clear hV3 hbV3
        refine (push_any HSV3.out (tk := (d, some m')) ⟨bf, w3.heap.size, bf + 1, bf + 1 + 1, rfl, HFV.out, by rw [HDE.out]; exact HN3.out, HPV.out, HMV.out, hnb.out _ (by omega), hnb.out _ (by omega), hnb.out _ (by omega), hnb.out _ (by omega)⟩ (by omega)).mono ?_
        rintro e w4 ⟨⟨u4, rfl⟩, ⟨tv4, vals4, hs4, hc4, hq4⟩⟩
        have HF4 : Hid (w4.heap[bf]? = some (.cells #[.pointer (some ⟨sb, 0, none⟩)] 71 (0, 0))) := (hc4.block bf (by omega) (hnb.out _ (by omega))).trans HFV.out
        have HN4 : Hid (w4.heap[w3.heap.size]? = some (.cells (pc5 de) 70 (0, 0))) := (hc4.block w3.heap.size hV3s (hnb.out _ (by omega))).trans HN3.out
        have ff4 : w4.cell? ⟨bf, 0, none⟩ = some (.pointer (some ⟨sb, 0, none⟩)) := by rw [cell_of_row w4 bf 0 _ _ (0, 0) HF4.out]; rfl
        have hnb4 : Hid (∀ q, bf ≤ q → q < V3.heap.size → ¬ badB sb mb tv4 q) := fun q hq hq2 e => by
          rcases e with e | e | e
          · omega
          · omega
          · rcases hq4 q e with e | e
            · have := htvb.out q e
              omega
            · omega
        have HS4 := hide hs4
        have HC4 := hide hc4
        have HQ4 := hide hq4
        have hvl4 : vals4.length = S.length + 1 := by rw [hs4.len]; rfl
        clear hs4 hc4 hq4
        go_wp2_with fail
        refine (push_any HS4.out (tk := (bump d m', none)) ⟨_, bf, w3.heap.size, Or.inr rfl, rfl, HF4.out, by rw [HDE.out]; exact HN4.out, hnb4.out _ (by omega) (by omega), hnb4.out _ (by omega) (by omega)⟩ (by omega)).mono ?_
        rintro e w5 ⟨⟨u5, rfl⟩, ho5⟩
        go_wp2_with fail
        first | go_end0 | (refine bodyPost_ret (results_none rfl _ _ _) rfl ?_)
        exact ⟨⟨_, rfl⟩, kn, _, ⟨m', h1, by omega, H3.out, Or.inr ⟨hlt, HCAN.out, rfl, rfl⟩⟩, SOut.trans (Chg.of_below (by rw [← HBF.out]; exact HBV3.out)) (fun q e => Or.inl e) (SOut.trans HC4.out HQ4.out ho5)⟩
    · obtain rfl : m' = st.2.1.length := by omega
      have hlb : decide ((st.2.1.length : Int) < (st.2.1.length : Int)) = false := by simp
      have heq : ((st.2.1.length : Int) == (st.2.1.length : Int)) = true := by simp
      go_wp2_with fail
      go_quiet (fail)
      go_wp2_with fail
      have hbQ := Joins.below_draws wr.heap.size wr nq
      have hsr1 := HSR.out.below hbQ
      have hP1 := blockLater hbQ HP.out
      have hF1 := blockLater hbQ HF.out
      have hM1 := blockLater hbQ HM.out
      have HB1 : Hid (Below bf w (wr.drewN nq)) := HB.out.trans (hbQ.mono (by omega))
      clear f0 m0 mf p0 p1 p2 p3 p4 c0 c1 c2 c3 c4 hbQ
      generalize wr.drewN nq = W1 at *
      have f0 : W1.cell? ⟨bf, 0, none⟩ = some (.pointer (some ⟨sb, 0, none⟩)) := by rw [cell_of_row W1 bf 0 _ _ (0, 0) hF1]; rfl
      have m0 : W1.cell? ⟨bf + 1 + 1, 0, none⟩ = some (.int .i64 (st.2.1.length : Int)) := by rw [cell_of_row W1 (bf + 1 + 1) 0 _ _ (0, 0) hM1]; rfl
      obtain ⟨p0, p1, p2, p3, p4⟩ := cells5 hP1
      obtain ⟨c0, c1, c2, c3, c4⟩ := cellsS hsr1.var
      have HS1 := hide hsr1
      have HP1 := hide hP1
      have HF1 := hide hF1
      have hW1s : bf + 1 + 1 < W1.heap.size := (Array.getElem?_eq_some_iff.1 hM1).1
      clear hsr1 hP1 hF1 hM1
      go_quiet (fail)
      go_wp2_with fail
      have hbQ := Joins.below_draws W1.heap.size W1 nq
      have hsr2 := HS1.out.below hbQ
      have hP2 := blockLater hbQ HP1.out
      have hF2 := blockLater hbQ HF1.out
      have HB2 : Hid (Below bf w (W1.drewN nq)) := HB1.out.trans (hbQ.mono (by omega))
      clear f0 m0 p0 p1 p2 p3 p4 c0 c1 c2 c3 c4 hbQ
      generalize W1.drewN nq = W2 at *
      have f0 : W2.cell? ⟨bf, 0, none⟩ = some (.pointer (some ⟨sb, 0, none⟩)) := by rw [cell_of_row W2 bf 0 _ _ (0, 0) hF2]; rfl
      obtain ⟨p0, p1, p2, p3, p4⟩ := cells5 hP2
      obtain ⟨c0, c1, c2, c3, c4⟩ := cellsS hsr2.var
      have hsd : Srch st w0 sb mb (.slice a1 st.1.length q1) (.slice a2 st.2.1.length q2) (.slice a3 st.2.2.length q3) W2.drew tv vals S kn := hsr2.below (Joins.below_draws _ _ 1)
      obtain ⟨w5, hput, hkn5, hg5⟩ := hsd.known.put HR.out.so HD.out (x := 1) (Or.inl rfl)
      have hput' : (Instr.mapUpdate 91 (.map (some mb)) (.agg #[.int .i8 (d 0), .int .i8 (d 1), .int .i8 (d 2), .int .i8 (d 3), .int .i8 (d 4)]) (.int .i64 1)).run Tryd.prog W2.drew = .ok () w5 := hput
      obtain ⟨hs5, hc5⟩ := hsd.put hkn5 hg5
      have HS5 := hide hs5
      have HC5 := hide hc5
      clear hput hkn5 hg5 hsd hsr2 hP2 hF2 hs5 hc5
      go_region
      go_wp2_with fail
      first | go_end0 | (refine bodyPost_ret (results_none rfl _ _ _) rfl ?_)
      refine ⟨⟨_, rfl⟩, _, S, ⟨st.2.1.length, h1, Nat.le_refl _, H3.out, Or.inl ⟨rfl, rfl, rfl⟩⟩, SOut.trans (w' := W2.drew) (tv' := tv) ?_ (fun q e => Or.inl e) ⟨tv, vals, HS5.out, HC5.out, fun q e => Or.inl e⟩⟩
      refine Chg.of_below ?_
      rw [← HBF.out]
      exact HB2.out.drew
end Go.Proofs.YtmjjigdnoiphbabDoor

/-
  impl: visit, and the closures of the search.
-/
namespace Go.Proofs.YtmjjigdnoiphbabDoor
open Go.RowKit Go.Deep Go.Maps
set_option linter.unusedVariables false

set_option maxRecDepth 8000 in
set_option maxHeartbeats 8000000 in
theorem visit_any {st : St} {w0 : World} {sb mb : Nat} {a1 a2 a3 : Option Addr} {q1 q2 q3 : Nat} {w : World} {tv : Value} {vals : List Value} {S : List Task} {kn : Kn} (h : Srch st w0 sb mb (.slice a1 st.1.length q1) (.slice a2 st.2.1.length q2) (.slice a3 st.2.2.length q3) w tv vals S kn)
    (hst : StateAt w0 (.agg #[.slice a1 st.1.length q1, .slice a2 st.2.1.length q2, .slice a3 st.2.2.length q3]) st) (hcap : CapSt w0 (.agg #[.slice a1 st.1.length q1, .slice a2 st.2.1.length q2, .slice a3 st.2.2.length q3]) st.2.1.length) (hr : RightSt st) {d : Pr} (hd : PV st d) (hl : vals.length ≤ 500) :
    Calls Tryd.prog 61 #[.pointer (some ⟨sb, 0, none⟩), pv d] w fun e w' => (∃ u, e = .returned u) ∧ ∃ kn' S', RunR st (d, none) kn S kn' S' ∧ SOut st w0 sb mb (.slice a1 st.1.length q1) (.slice a2 st.2.1.length q2) (.slice a3 st.2.2.length q3) w tv S' kn' w' := by
  have HST := hide hst
  have HCAP := hide hcap
  have HR := hide hr
  have HD := hide hd
  have HH := hide h
  have hsl : sb < w.heap.size := (Array.getElem?_eq_some_iff.1 h.var).1
  clear h hst hcap hr hd
  unfold pv pc5
  go_enter Tryd.func61, Tryd.ntmps61
  go_wp2_with fail
  obtain ⟨V, hV⟩ : ∃ V, V = w.alloc (.cells #[.int .i8 (d 0), .int .i8 (d 1), .int .i8 (d 2), .int .i8 (d 3), .int .i8 (d 4)] 70) := ⟨_, rfl⟩
  rw [← hV]
  have hbV : Below w.heap.size w V := by rw [hV]; exact Joins.below_alloc1 _ _
  have vP : V.heap[w.heap.size]? = some (.cells #[.int .i8 (d 0), .int .i8 (d 1), .int .i8 (d 2), .int .i8 (d 3), .int .i8 (d 4)] 70 (0, 0)) := by rw [hV]; exact heap_alloc_new _ _
  have hsV := HH.out.below hbV
  obtain ⟨p0, p1, p2, p3, p4⟩ := cells5 vP
  obtain ⟨c0, c1, c2, c3, c4⟩ := cellsS hsV.var
  have hlook : ∀ k, (Instr.lookup 91 (.map (some mb)) (.agg #[.int .i8 (d 0), .int .i8 (d 1), .int .i8 (d 2), .int .i8 (d 3), .int .i8 (d 4)]) false).run Tryd.prog (V.drewN k) = .ok (.int .i64 (kn d)) (V.drewN k) := fun k => (hsV.known.kept (w' := V.drewN k) ((Joins.below_draws V.heap.size V k).block mb hsV.known.lt)).look HR.out.so HD.out
  have HSV := hide hsV
  have HVP := hide vP
  have HBV := hide hbV
  clear hV hbV vP hsV
  by_cases hk : kn d = 0
  · have hkb : (kn d != 0) = false := by simp [hk]
    have HK := hide hk
    obtain ⟨kd, hkd⟩ : ∃ kd, kn d = kd := ⟨_, rfl⟩
    simp only [hkd] at hlook hkb
    clear hk hkd
    go_quiet (fail)
    go_wp2_with fail
    have hbQ := Joins.below_draws V.heap.size V nq
    have HS1 := hide (HSV.out.below hbQ)
    have HP1 := hide (blockLater hbQ HVP.out)
    have HB1 : Hid (Below w.heap.size w (V.drewN nq)) := below_tail HBV.out hbQ
    clear hbQ p0 p1 p2 p3 p4 c0 c1 c2 c3 c4 hlook
    generalize V.drewN nq = W1 at *
    have HSM : Hid (same5 d (endP st) = allLeft st d) := by
      have h1 := same5_iff HR.out.so HD.out (PV.endP st)
      have h2 := allLeft_iff HD.out
      show same5 d (endP st) = allLeft st d
      rw [Bool.eq_iff_iff, h1, h2]
      exact eq_comm
    obtain ⟨p0, p1, p2, p3, p4⟩ := cells5 HP1.out
    obtain ⟨c0, c1, c2, c3, c4⟩ := cellsS HS1.out.var
    obtain ⟨f0, f1, f2, f3, f4⟩ := cellsE HS1.out.var
    have heq := eqPr' d (endP st)
    unfold pc5 at heq
    obtain ⟨sm, hsm⟩ : ∃ sm, same5 d (endP st) = sm := ⟨_, rfl⟩
    simp only [hsm] at heq
    rw [hsm] at HSM
    clear hsm
    generalize endP st = ep at heq f0 f1 f2 f3 f4
    cases sm with
    | true =>
      have HALL := hide HSM.out.symm
      go_quiet (fail)
      go_wp2_with fail
      have hb2 := Joins.below_draws W1.heap.size W1 nq
      have HS2 := hide (HS1.out.below hb2)
      have hP2 := blockLater hb2 HP1.out
      have HB2 : Hid (Below w.heap.size w (W1.drewN nq)) := below_tail HB1.out hb2
      clear hb2 p0 p1 p2 p3 p4 c0 c1 c2 c3 c4 f0 f1 f2 f3 f4 heq
      generalize W1.drewN nq = w2 at *
      obtain ⟨p0, p1, p2, p3, p4⟩ := cells5 hP2
      obtain ⟨c0, c1, c2, c3, c4⟩ := cellsS HS2.out.var
      clear hP2
      have hsd : Srch st w0 sb mb (.slice a1 st.1.length q1) (.slice a2 st.2.1.length q2) (.slice a3 st.2.2.length q3) w2.drew tv vals S kn := HS2.out.below (Joins.below_draws _ _ 1)
      obtain ⟨w5, hput, hkn5, hg5⟩ := hsd.known.put HR.out.so HD.out (x := 2) (Or.inr rfl)
      have hput' : (Instr.mapUpdate 91 (.map (some mb)) (.agg #[.int .i8 (d 0), .int .i8 (d 1), .int .i8 (d 2), .int .i8 (d 3), .int .i8 (d 4)]) (.int .i64 2)).run Tryd.prog w2.drew = .ok () w5 := hput
      obtain ⟨hs5, hc5⟩ := hsd.put hkn5 hg5
      have HS5 := hide hs5
      have HC5 := hide hc5
      clear hput hkn5 hg5 hsd hs5 hc5
      go_region
      go_wp2_with fail
      first | go_end0 | (refine bodyPost_ret (results_none rfl _ _ _) rfl ?_)
      exact ⟨⟨_, rfl⟩, _, S, Or.inr (Or.inl ⟨HK.out, HALL.out, rfl, rfl⟩), SOut.trans (w' := w2.drew) (tv' := tv) (Chg.of_below HB2.out.drew) (fun q e => Or.inl e) ⟨tv, vals, HS5.out, HC5.out, fun q e => Or.inl e⟩⟩
    | false =>
      have HALL := hide HSM.out.symm
      go_quiet (fail)
      go_wp2_with fail
      have hb2 := Joins.below_draws W1.heap.size W1 nq
      have HS2 := hide (HS1.out.below hb2)
      have hP2 := blockLater hb2 HP1.out
      have HB2 : Hid (Below w.heap.size w (W1.drewN nq)) := below_tail HB1.out hb2
      clear hb2 p0 p1 p2 p3 p4 c0 c1 c2 c3 c4 f0 f1 f2 f3 f4 heq
      generalize W1.drewN nq = w2 at *
      obtain ⟨p0, p1, p2, p3, p4⟩ := cells5 hP2
      obtain ⟨c0, c1, c2, c3, c4⟩ := cellsS HS2.out.var
      clear hP2
      refine (try_any HS2.out HST.out HCAP.out HR.out HD.out 0 (Nat.zero_le _) hl).mono ?_
      rintro e w3 ⟨⟨u, rfl⟩, kn', S', hT, hO⟩
      go_wp2_with fail
      first | go_end0 | (refine bodyPost_ret (results_none rfl _ _ _) rfl ?_)
      exact ⟨⟨_, rfl⟩, kn', S', Or.inr (Or.inr ⟨HK.out, HALL.out, hT⟩), SOut.trans (Chg.of_below HB2.out) (fun q e => Or.inl e) hO⟩
  · have hkb : (kn d != 0) = true := by simp [hk]
    have HK := hide hk
    obtain ⟨kd, hkd⟩ : ∃ kd, kn d = kd := ⟨_, rfl⟩
    simp only [hkd] at hlook hkb
    clear hk hkd
    go_quiet (fail)
    go_wp2_with fail
    have hbQ := Joins.below_draws V.heap.size V nq
    first | go_end0 | (refine bodyPost_ret (results_none rfl _ _ _) rfl ?_)
    exact ⟨⟨_, rfl⟩, kn, S, Or.inl ⟨HK.out, rfl, rfl⟩, SOut.trans (Chg.of_below (below_tail HBV.out hbQ)) (fun q e => Or.inl e) (SOut.refl (HSV.out.below hbQ))⟩

theorem cell1 {w : World} {b : Nat} {x : Value} {t : TypeId} (h : w.heap[b]? = some (.cells #[x] t (0, 0))) : w.cell? ⟨b, 0, none⟩ = some x := by rw [cell_of_row w b 0 _ t (0, 0) h]; rfl

/-- what is asked of a task's progress -/
def TaskOk (st : St) (tk : Task) : Prop :=
  match tk.2 with
  | none => PV st tk.1
  | some m => PV st tk.1 ∧ m < st.2.1.length ∧ PV st (bump tk.1 m)

set_option maxRecDepth 8000 in
set_option maxHeartbeats 8000000 in
theorem visitTask_any {st : St} {w0 : World} {sb mb : Nat} {a1 a2 a3 : Option Addr} {q1 q2 q3 : Nat} {w : World} {tv : Value} {vals : List Value} {S : List Task} {kn : Kn} (h : Srch st w0 sb mb (.slice a1 st.1.length q1) (.slice a2 st.2.1.length q2) (.slice a3 st.2.2.length q3) w tv vals S kn)
    (hst : StateAt w0 (.agg #[.slice a1 st.1.length q1, .slice a2 st.2.1.length q2, .slice a3 st.2.2.length q3]) st) (hcap : CapSt w0 (.agg #[.slice a1 st.1.length q1, .slice a2 st.2.1.length q2, .slice a3 st.2.2.length q3]) st.2.1.length) (hr : RightSt st) {d : Pr} (hd : PV st d) (hl : vals.length ≤ 500)
    {fn b1 b2 : Nat} (hfn : fn = 60 ∨ fn = 76) (h1 : w.heap[b1]? = some (.cells #[.pointer (some ⟨sb, 0, none⟩)] 71 (0, 0))) (h2 : w.heap[b2]? = some (.cells (pc5 d) 70 (0, 0))) :
    Calls Tryd.prog fn #[.pointer (some ⟨b1, 0, none⟩), .pointer (some ⟨b2, 0, none⟩)] w fun e w' => (∃ u, e = .returned u) ∧ ∃ kn' S', RunR st (d, none) kn S kn' S' ∧ SOut st w0 sb mb (.slice a1 st.1.length q1) (.slice a2 st.2.1.length q2) (.slice a3 st.2.2.length q3) w tv S' kn' w' := by
  have HV := hide (visit_any h hst hcap hr hd hl)
  have f0 := cell1 h1
  obtain ⟨p0, p1, p2, p3, p4⟩ := cells5 h2
  clear h hst hcap hr hd h1 h2
  rcases hfn with rfl | rfl
  · go_enter Tryd.func60, Tryd.ntmps60
    go_wp2_with fail
    refine HV.out.mono ?_
    rintro e w2 ⟨⟨u, rfl⟩, hx⟩
    go_wp2_with fail
    first | go_end0 | (refine bodyPost_ret (results_none rfl _ _ _) rfl ?_)
    exact ⟨⟨_, rfl⟩, hx⟩
  · go_enter Tryd.func76, Tryd.ntmps76
    go_wp2_with fail
    refine HV.out.mono ?_
    rintro e w2 ⟨⟨u, rfl⟩, hx⟩
    go_wp2_with fail
    first | go_end0 | (refine bodyPost_ret (results_none rfl _ _ _) rfl ?_)
    exact ⟨⟨_, rfl⟩, hx⟩

set_option maxRecDepth 8000 in
set_option maxHeartbeats 8000000 in
theorem afterTask_any {st : St} {w0 : World} {sb mb : Nat} {a1 a2 a3 : Option Addr} {q1 q2 q3 : Nat} {w : World} {tv : Value} {vals : List Value} {S : List Task} {kn : Kn} (h : Srch st w0 sb mb (.slice a1 st.1.length q1) (.slice a2 st.2.1.length q2) (.slice a3 st.2.2.length q3) w tv vals S kn)
    (hst : StateAt w0 (.agg #[.slice a1 st.1.length q1, .slice a2 st.2.1.length q2, .slice a3 st.2.2.length q3]) st) (hcap : CapSt w0 (.agg #[.slice a1 st.1.length q1, .slice a2 st.2.1.length q2, .slice a3 st.2.2.length q3]) st.2.1.length) (hr : RightSt st) {d : Pr} {m : Nat} (hd : PV st d) (hm : m < st.2.1.length) (hd2 : PV st (bump d m)) (hl : vals.length ≤ 500)
    {b1 b2 b3 b4 : Nat} (h1 : w.heap[b1]? = some (.cells #[.pointer (some ⟨sb, 0, none⟩)] 71 (0, 0))) (h2 : w.heap[b2]? = some (.cells (pc5 (bump d m)) 70 (0, 0))) (h3 : w.heap[b3]? = some (.cells (pc5 d) 70 (0, 0))) (h4 : w.heap[b4]? = some (.cells #[.int .i64 (m : Int)] 3 (0, 0))) :
    Calls Tryd.prog 75 #[.pointer (some ⟨b1, 0, none⟩), .pointer (some ⟨b2, 0, none⟩), .pointer (some ⟨b3, 0, none⟩), .pointer (some ⟨b4, 0, none⟩)] w fun e w' => (∃ u, e = .returned u) ∧ ∃ kn' S', RunR st (d, some m) kn S kn' S' ∧ SOut st w0 sb mb (.slice a1 st.1.length q1) (.slice a2 st.2.1.length q2) (.slice a3 st.2.2.length q3) w tv S' kn' w' := by
  have HH := hide h
  have HST := hide hst
  have HCAP := hide hcap
  have HR := hide hr
  have HD := hide hd
  have H1 := hide h1
  have H3 := hide h3
  have H4 := hide h4
  have f0 := cell1 h1
  obtain ⟨p0, p1, p2, p3, p4⟩ := cells5 h2
  obtain ⟨c0, c1, c2, c3, c4⟩ := cellsS h.var
  obtain ⟨l1, l2, l3, l4⟩ := hr.lens
  have hlook : ∀ k, (Instr.lookup 91 (.map (some mb)) (.agg #[.int .i8 (bump d m 0), .int .i8 (bump d m 1), .int .i8 (bump d m 2), .int .i8 (bump d m 3), .int .i8 (bump d m 4)]) false).run Tryd.prog (w.drewN k) = .ok (.int .i64 (kn (bump d m))) (w.drewN k) := fun k => (h.known.kept (w' := w.drewN k) ((Joins.below_draws w.heap.size w k).block mb h.known.lt)).look hr.so hd2
  obtain ⟨kd, hkd⟩ : ∃ kd, kn (bump d m) = kd := ⟨_, rfl⟩
  simp only [hkd] at hlook
  have HKD := hide hkd
  clear h hst hcap hr hd h1 h2 h3 h4 hd2 hkd l4
  obtain ⟨de, hde⟩ : ∃ de, bump d m = de := ⟨_, rfl⟩
  simp only [hde] at hlook p0 p1 p2 p3 p4
  clear hde
  by_cases hk : kd = 2
  · have hkb : (kd == 2) = true := by simp [hk]
    have HK := hide hk
    clear hk
    go_enter Tryd.func75, Tryd.ntmps75
    go_wp2_with fail
    go_quiet (fail)
    go_wp2_with fail
    have hbQ := Joins.below_draws w.heap.size w nq
    have HS1 := hide (HH.out.below hbQ)
    have h31 := blockLater hbQ H3.out
    have h11 := blockLater hbQ H1.out
    have HB1 := hide hbQ
    clear hbQ p0 p1 p2 p3 p4 c0 c1 c2 c3 c4 hlook f0
    generalize w.drewN nq = W1 at *
    have f0 := cell1 h11
    obtain ⟨p0, p1, p2, p3, p4⟩ := cells5 h31
    obtain ⟨c0, c1, c2, c3, c4⟩ := cellsS HS1.out.var
    have hsd : Srch st w0 sb mb (.slice a1 st.1.length q1) (.slice a2 st.2.1.length q2) (.slice a3 st.2.2.length q3) W1.drew tv vals S kn := HS1.out.below (Joins.below_draws _ _ 1)
    obtain ⟨w5, hput, hkn5, hg5⟩ := hsd.known.put HR.out.so HD.out (x := 2) (Or.inr rfl)
    have hput' : (Instr.mapUpdate 91 (.map (some mb)) (.agg #[.int .i8 (d 0), .int .i8 (d 1), .int .i8 (d 2), .int .i8 (d 3), .int .i8 (d 4)]) (.int .i64 2)).run Tryd.prog W1.drew = .ok () w5 := hput
    obtain ⟨hs5, hc5⟩ := hsd.put hkn5 hg5
    have HS5 := hide hs5
    have HC5 := hide hc5
    clear hput hkn5 hg5 hsd hs5 hc5 h31 h11
    go_region
    go_wp2_with fail
    first | go_end0 | (refine bodyPost_ret (results_none rfl _ _ _) rfl ?_)
    exact ⟨⟨_, rfl⟩, _, S, Or.inl ⟨HKD.out.trans HK.out, rfl, rfl⟩, SOut.trans (w' := W1.drew) (tv' := tv) (Chg.of_below HB1.out.drew) (fun q e => Or.inl e) ⟨tv, vals, HS5.out, HC5.out, fun q e => Or.inl e⟩⟩
  · have hkb : (kd == 2) = false := by simp [hk]
    have HK := hide hk
    have m0 := cell1 H4.out
    obtain ⟨r0, r1, r2, r3, r4⟩ := cells5 H3.out
    clear hk
    go_enter Tryd.func75, Tryd.ntmps75
    go_wp2_with fail
    go_quiet (fail)
    go_wp2_with fail
    have hbQ := Joins.below_draws w.heap.size w nq
    have ht := try_any (HH.out.below hbQ) HST.out HCAP.out HR.out HD.out (m + 1) hm hl
    refine Calls.mono (show Calls Tryd.prog 68 #[.pointer (some ⟨sb, 0, none⟩), pv d, .int .i64 ((m : Int) + 1)] (w.drewN nq) _ from ht) ?_
    rintro e w3 ⟨⟨u, rfl⟩, kn', S', hT, hO⟩
    go_wp2_with fail
    first | go_end0 | (refine bodyPost_ret (results_none rfl _ _ _) rfl ?_)
    exact ⟨⟨_, rfl⟩, kn', S', Or.inr ⟨fun e => HK.out (HKD.out.symm.trans e), hT⟩, SOut.trans (Chg.of_below hbQ) (fun q e => Or.inl e) hO⟩
end Go.Proofs.YtmjjigdnoiphbabDoor

/-
  impl: leadsHome, newSearch.
-/
namespace Go.Proofs.YtmjjigdnoiphbabDoor
open Go.RowKit Go.Deep Go.Maps
set_option linter.unusedVariables false

theorem Awaits.len {st : St} {d0 : Pr} : ∀ {S : List Task} {d : Pr}, Awaits st d0 S d → S.length + restR st d = restR st d0
  | [], d, h => by rw [show d = d0 from h]; simp
  | t :: S, d, h => by
    obtain ⟨⟨m, _, rfl, h3, h4, h5, _⟩, h2⟩ := h
    have := Awaits.len h2
    have := restR_bump h3.ok h4 (canP_left h5)
    simp only [List.length_cons]
    omega
theorem SInv.len {st : St} (hs : SoSt st) {d0 : Pr} (hd : PV st d0) {kn : Kn} {S : List Task} (h : SInv st d0 kn S) : S.length ≤ 46 := by
  have h45 : restR st d0 ≤ 45 := rem_le (hs.behind hd.ok)
  rcases h.form with ⟨d, _, ha, _⟩ | ⟨d, S0, rfl, _, ha⟩
  · have := ha.len
    omega
  · have := ha.len
    simp only [List.length_cons]
    omega
theorem SInv.taskOk {st : St} {d0 : Pr} {kn : Kn} {tk : Task} {S : List Task} (h : SInv st d0 kn (tk :: S)) : TaskOk st tk := by
  unfold TaskOk
  rcases h.form with ⟨d, _, ha, _⟩ | ⟨d, S0, e, hd, _⟩
  · obtain ⟨⟨m, e1, _, h3, h4, h5, _⟩, _⟩ := ha
    rw [e1]
    exact ⟨h3, h4, h3.bump h4 (canP_left h5)⟩
  · simp only [List.cons.injEq] at e
    rw [e.1]
    exact hd
theorem ownsRow_form {w : World} {B : Nat} {e : TypeId} {tv : Value} {vals : List Value} (h : w.ownsRow B e 1 tv vals.length vals) : ∃ a cap, tv = .slice a vals.length cap := by
  rcases h.2 with ⟨h1, h2⟩ | ⟨g, cap, cur, h1, _⟩
  · exact ⟨none, 0, by simp [h1, h2]⟩
  · exact ⟨_, cap, h1⟩
/-- any task that is on the stack, run -/
theorem task_any {st : St} {w0 : World} {sb mb : Nat} {a1 a2 a3 : Option Addr} {q1 q2 q3 : Nat} {w : World} {tv : Value} {vals : List Value} {S : List Task} {kn : Kn} (h : Srch st w0 sb mb (.slice a1 st.1.length q1) (.slice a2 st.2.1.length q2) (.slice a3 st.2.2.length q3) w tv vals S kn)
    (hst : StateAt w0 (.agg #[.slice a1 st.1.length q1, .slice a2 st.2.1.length q2, .slice a3 st.2.2.length q3]) st) (hcap : CapSt w0 (.agg #[.slice a1 st.1.length q1, .slice a2 st.2.1.length q2, .slice a3 st.2.2.length q3]) st.2.1.length) (hr : RightSt st) (hl : vals.length ≤ 500) {v : Value} {tk : Task} (ht : TaskV w sb (badB sb mb tv) v tk) (hk : TaskOk st tk) :
    ∃ fn caps, v = .func (.func fn) #[] caps ∧ (fn = 60 ∨ fn = 76 ∨ fn = 75) ∧ Calls Tryd.prog fn caps w fun e w' => (∃ u, e = .returned u) ∧ ∃ kn' S', RunR st tk kn S kn' S' ∧ SOut st w0 sb mb (.slice a1 st.1.length q1) (.slice a2 st.2.1.length q2) (.slice a3 st.2.2.length q3) w tv S' kn' w' := by
  obtain ⟨d, om⟩ := tk
  cases om with
  | none =>
    obtain ⟨fn, b1, b2, hfn, rfl, h1, h2, _, _⟩ := ht
    exact ⟨fn, _, rfl, hfn.imp id Or.inl, visitTask_any h hst hcap hr hk hl hfn h1 h2⟩
  | some m =>
    obtain ⟨b1, b2, b3, b4, rfl, h1, h2, h3, h4, _⟩ := ht
    exact ⟨_, _, rfl, Or.inr (Or.inr rfl), afterTask_any h hst hcap hr hk.1 hk.2.1 hk.2.2 hl h1 h2 h3 h4⟩

set_option maxRecDepth 8000 in
set_option maxHeartbeats 8000000 in
theorem leadsHome_any {st : St} {w0 : World} {sb mb : Nat} {a1 a2 a3 : Option Addr} {q1 q2 q3 : Nat} {w : World} {tv0 : Value} {vals0 : List Value} {kn0 : Kn} (h : Srch st w0 sb mb (.slice a1 st.1.length q1) (.slice a2 st.2.1.length q2) (.slice a3 st.2.2.length q3) w tv0 vals0 [] kn0)
    (hst : StateAt w0 (.agg #[.slice a1 st.1.length q1, .slice a2 st.2.1.length q2, .slice a3 st.2.2.length q3]) st) (hcap : CapSt w0 (.agg #[.slice a1 st.1.length q1, .slice a2 st.2.1.length q2, .slice a3 st.2.2.length q3]) st.2.1.length) (hr : RightSt st) (hsd : Sound st kn0) {d : Pr} (hd : PV st d) :
    Calls Tryd.prog 44 #[.pointer (some ⟨sb, 0, none⟩), pv d] w fun e w' => e = .returned (.bool (decide (0 ≤ val (behindSt st d)))) ∧ ∃ kn', Sound st kn' ∧ SOut st w0 sb mb (.slice a1 st.1.length q1) (.slice a2 st.2.1.length q2) (.slice a3 st.2.2.length q3) w tv0 [] kn' w' := by
  have HST := hide hst
  have HCAP := hide hcap
  have HR := hide hr
  have HD := hide hd
  have HH := hide h
  have HSD := hide hsd
  have hsl : sb < w.heap.size := (Array.getElem?_eq_some_iff.1 h.var).1
  have hml : mb < w.heap.size := h.known.lt
  have HTL : Hid (∀ q, tv0.ownBlock = some q → q < w.heap.size) := fun q e => (ownBlock_lt h.row e).2
  have hv0 : vals0.length = 0 := h.len
  clear h hst hcap hr hd hsd
  have hmf : ∀ (fn : Fn) (first cap : Array Value) (w : World), (Instr.makeFunc fn first cap).run Tryd.prog w = .ok (.func fn first cap) w := fun _ _ _ _ => rfl
  unfold pv pc5
  go_enter Tryd.func44, Tryd.ntmps44
  go_wp2_with fail
  obtain ⟨V, hV⟩ : ∃ V, V = (w.alloc (.cells #[.pointer (some ⟨sb, 0, none⟩)] 71)).alloc (.cells #[.int .i8 (d 0), .int .i8 (d 1), .int .i8 (d 2), .int .i8 (d 3), .int .i8 (d 4)] 70) := ⟨_, rfl⟩
  obtain ⟨bf, hbf⟩ : ∃ bf, bf = w.heap.size := ⟨_, rfl⟩
  rw [← hV, ← hbf]
  have hbV : Below w.heap.size w V := by rw [hV]; exact Joins.below_alloc2 _ _ _
  have vF : V.heap[bf]? = some (.cells #[.pointer (some ⟨sb, 0, none⟩)] 71 (0, 0)) := by rw [hV, hbf]; exact blockLater (Joins.below_alloc1 _ _) (heap_alloc_new _ _)
  have vP : V.heap[bf + 1]? = some (.cells #[.int .i8 (d 0), .int .i8 (d 1), .int .i8 (d 2), .int .i8 (d 3), .int .i8 (d 4)] 70 (0, 0)) := by rw [hV, hbf]; exact heap_alloc2_new _ _ _
  have HBF := hide hbf
  have HSV := hide (HH.out.below hbV)
  have HCV : Hid (Chg (badB sb mb tv0) w V) := Chg.of_below hbV
  have HVF := hide vF
  have HVP := hide vP
  have hV2 : bf + 1 < V.heap.size := (Array.getElem?_eq_some_iff.1 vP).1
  have hsb : sb < bf := by omega
  have hmb : mb < bf := by omega
  have hnb : Hid (∀ q, bf ≤ q → ¬ badB sb mb tv0 q) := fun q hq e => by
    rcases e with e | e | e
    · omega
    · omega
    · have := HTL.out q e
      omega
  clear hV hbf hbV vF vP
  refine (push_any HSV.out (tk := (d, none)) ⟨_, bf, bf + 1, Or.inl rfl, rfl, HVF.out, HVP.out, hnb.out _ (by omega), hnb.out _ (by omega)⟩ (by omega)).mono ?_
  rintro e w1 ⟨⟨u1, rfl⟩, ⟨tv1, vals1, hs1, hc1, hq1⟩⟩
  have HF1 : Hid (w1.heap[bf]? = some (.cells #[.pointer (some ⟨sb, 0, none⟩)] 71 (0, 0))) := (hc1.block bf (by omega) (hnb.out _ (by omega))).trans HVF.out
  have HP1 : Hid (w1.heap[bf + 1]? = some (.cells #[.int .i8 (d 0), .int .i8 (d 1), .int .i8 (d 2), .int .i8 (d 3), .int .i8 (d 4)] 70 (0, 0))) := (hc1.block (bf + 1) hV2 (hnb.out _ (by omega))).trans HVP.out
  have HT1 : Hid (∀ q, tv1.ownBlock = some q → q < bf ∨ bf + 1 < q) := fun q e => by
    rcases hq1 q e with e | e
    · have := HTL.out q e
      have := HBF.out
      omega
    · omega
  have HO1 : Hid (Chg (badB sb mb tv0) w w1 ∧ ∀ q, tv1.ownBlock = some q → tv0.ownBlock = some q ∨ w.heap.size ≤ q) := by
    obtain ⟨_, _, _, hc, hq⟩ := (SOut.trans (tv := tv0) (tv' := tv0) HCV.out (fun q e => Or.inl e) ⟨tv1, vals1, hs1, hc1, hq1⟩ : SOut st w0 sb mb _ _ _ w tv0 _ _ w1).ex
    exact ⟨hc, fun q e => by
      rcases hq1 q e with e | e
      · exact Or.inl e
      · exact Or.inr (Nat.le_trans HCV.out.size e)⟩
  have HS1 := hide hs1
  have HI1 : Hid (SInv st d kn0 [(d, none)]) := ⟨HSD.out, Or.inr ⟨d, [], rfl, HD.out, rfl⟩⟩
  clear hs1 hc1 hq1 HVF HVP HSV HCV
  go_wp2_with fail
  go_loopg [8] (measS st [(d, none)]) (fun gk _ wr => ∃ tv vals S kn, Srch st w0 sb mb (.slice a1 st.1.length q1) (.slice a2 st.2.1.length q2) (.slice a3 st.2.2.length q3) wr tv vals S kn ∧ SInv st d kn S ∧ measS st S = gk ∧ wr.heap[bf]? = some (.cells #[.pointer (some ⟨sb, 0, none⟩)] 71 (0, 0)) ∧ wr.heap[bf + 1]? = some (.cells #[.int .i8 (d 0), .int .i8 (d 1), .int .i8 (d 2), .int .i8 (d 3), .int .i8 (d 4)] 70 (0, 0)) ∧ (∀ q, tv.ownBlock = some q → q < bf ∨ bf + 1 < q) ∧ Chg (badB sb mb tv0) w wr ∧ ∀ q, tv.ownBlock = some q → tv0.ownBlock = some q ∨ w.heap.size ≤ q)
  case atStart => exact ⟨tv1, vals1, [(d, none)], kn0, HS1.out, HI1.out, rfl, HF1.out, HP1.out, HT1.out, HO1.out.1, HO1.out.2⟩
  case round =>
    obtain ⟨tv, vals, S, kn, hs, hi, hme, hF, hP, hT, hO, hQ⟩ := hrel
    have hl46 := hi.len HR.out.so HD.out
    have hvl := hs.len
    obtain ⟨ta, tc, rfl⟩ := ownsRow_form hs.row
    have f0 := cell1 hF
    obtain ⟨c0, c1, c2, c3, c4⟩ := cellsS hs.var
    obtain ⟨p0, p1, p2, p3, p4⟩ := cells5 hP
    have HS := hide hs
    have HI := hide hi
    have HME := hide hme
    have HF := hide hF
    have HP := hide hP
    have HT := hide hT
    have HO := hide hO
    have HQ := hide hQ
    have HVL := hide hvl
    have hb2 : bf + 1 < wr.heap.size := (Array.getElem?_eq_some_iff.1 hP).1
    cases S with
    | nil =>
      have hlook : ∀ k, (Instr.lookup 91 (.map (some mb)) (.agg #[.int .i8 (d 0), .int .i8 (d 1), .int .i8 (d 2), .int .i8 (d 3), .int .i8 (d 4)]) false).run Tryd.prog (wr.drewN k) = .ok (.int .i64 (kn d)) (wr.drewN k) := fun k => (hs.known.kept (w' := wr.drewN k) ((Joins.below_draws wr.heap.size wr k).block mb hs.known.lt)).look HR.out.so HD.out
      have hdone := (search_done hi).1
      have HDN : Hid ((kn d == 2) = decide (0 ≤ val (behindSt st d))) := by
        show _ = _
        rw [Bool.eq_iff_iff]
        simp only [beq_iff_eq, decide_eq_true_eq]
        exact hdone
      have HSND := hide hi.sound
      have hz : vals.length = 0 := hvl
      clear hs hi hme hF hP hT hO hQ hdone hvl
      rw [hz] at c4
      obtain ⟨kd, hkd⟩ : ∃ kd, kn d = kd := ⟨_, rfl⟩
      simp only [hkd] at hlook
      rw [hkd] at HDN
      clear hkd hz
      go_wp2_with fail
      go_quiet (fail)
      go_wp2_with fail
      go_ret
      have hbQ := Joins.below_draws wr.heap.size wr nq
      exact ⟨by rw [← HDN.out]; rfl, kn, HSND.out, ⟨_, vals, HS.out.below hbQ, HO.out.trans (Chg.of_below hbQ), HQ.out⟩⟩
    | cons tk S' =>
      have hpos : 0 < vals.length := by rw [hvl]; simp
      have hv5 : vals.length ≤ 500 := by rw [hvl]; omega
      clear hs hi hme hF hP hT hO hQ hvl
      go_wp2_with fail
      refine (pop_any HS.out (by omega)).mono ?_
      rintro e w2 ⟨v, tv2, rfl, ht2, ⟨vals2, _, hs2⟩, hc2, hq2⟩
      have hlen2 : vals2.length ≤ 500 := by
        have h1 := hs2.len
        have h2 : S'.length + 1 ≤ 46 := hl46
        omega
      obtain ⟨fn, caps, rfl, hfn, hrun⟩ := task_any hs2 HST.out HCAP.out HR.out hlen2 ht2 HI.out.taskOk
      have HRUN := hide hrun
      have HC2 := hide hc2
      have HQ2 := hide hq2
      clear hrun hs2 hc2 hq2 ht2 f0 c0 c1 c2 c3 c4 p0 p1 p2 p3 p4
      rcases hfn with rfl | rfl | rfl
      all_goals
        go_wp2_with fail
        refine HRUN.out.mono ?_
        rintro e w3 ⟨⟨u3, rfl⟩, kn3, S3, hR3, ⟨tv3, vals3, hs3, hc3, hq3⟩⟩
        go_wp2_with fail
        obtain ⟨hi3, hm3⟩ := run_inv HR.out.so HI.out hR3
        go_roundg (measS st S3)
        case measure => rw [← HME.out]; exact hm3
        case rel =>
          have hnb2 : ∀ q, q = bf ∨ q = bf + 1 → ¬ badB sb mb (.slice ta vals.length tc) q := fun q hq e => by
            rcases e with e | e | e
            · omega
            · omega
            · have := HT.out q e
              omega
          have hnb3 : ∀ q, q = bf ∨ q = bf + 1 → ¬ badB sb mb tv2 q := fun q hq e => by
            rcases e with e | e | e
            · omega
            · omega
            · rcases HQ2.out q e with e | e
              · have := HT.out q e
                omega
              · omega
          have hsz2 := HC2.out.size
          refine ⟨tv3, vals3, S3, kn3, hs3, hi3, rfl, ?_, ?_, fun q e => ?_, ?_, fun q e => ?_⟩
          · rw [hc3.block bf (by omega) (hnb3 _ (Or.inl rfl)), HC2.out.block bf (by omega) (hnb2 _ (Or.inl rfl))]; exact HF.out
          · rw [hc3.block (bf + 1) (by omega) (hnb3 _ (Or.inr rfl)), HC2.out.block (bf + 1) (by omega) (hnb2 _ (Or.inr rfl))]; exact HP.out
          · rcases hq3 q e with e | e
            · rcases HQ2.out q e with e | e
              · exact HT.out q e
              · omega
            · omega
          · exact (SOut.trans HO.out HQ.out (SOut.trans HC2.out HQ2.out ⟨tv3, vals3, hs3, hc3, hq3⟩)).ex.choose_spec.choose_spec.2.1
          · rcases hq3 q e with e | e
            · rcases HQ2.out q e with e | e
              · exact HQ.out q e
              · exact Or.inr (Nat.le_trans HO.out.size e)
            · exact Or.inr (Nat.le_trans HO.out.size (Nat.le_trans hsz2 e))
end Go.Proofs.YtmjjigdnoiphbabDoor

/-
  impl: newSearch, Safe.
-/
namespace Go.Proofs.YtmjjigdnoiphbabDoor
open Go.RowKit Go.Deep Go.Maps
set_option linter.unusedVariables false

theorem known_made {st : St} (w : World) : KnownAt st (w.alloc (.map #[] 0)) w.heap.size (fun _ => 0) :=
  ⟨.map [], (World.ownsMap_made w Tryd.prog 70 (plainElem Tryd.prog 98)).mono (by omega), ⟨⟨[], rfl, List.Pairwise.nil, fun p hp => by simp at hp⟩, fun d _ kl _ => rfl⟩⟩
theorem sound_none (st : St) : Sound st (fun _ => 0) := fun e _ => ⟨fun h => by simp at h, fun h => by simp at h, Or.inl rfl⟩

set_option maxHeartbeats 2000000 in
theorem newSearch_any {st : St} {a1 a2 a3 : Option Addr} {q1 q2 q3 : Nat} (w : World) (hst : StateAt w (.agg #[.slice a1 st.1.length q1, .slice a2 st.2.1.length q2, .slice a3 st.2.2.length q3]) st) (hs : SoSt st) :
    Calls Tryd.prog 43 #[.agg #[.slice a1 st.1.length q1, .slice a2 st.2.1.length q2, .slice a3 st.2.2.length q3]] w fun e w' => ∃ sb mb, e = .returned (.pointer (some ⟨sb, 0, none⟩)) ∧ Srch st w sb mb (.slice a1 st.1.length q1) (.slice a2 st.2.1.length q2) (.slice a3 st.2.2.length q3) w' (.slice none 0 0) [] [] (fun _ => 0) ∧ sb < w'.heap.size ∧ mb < w'.heap.size := by
  have hmm := @run_makeMap Tryd.prog
  have HST := hide hst
  have HSO := hide hs
  clear hst hs
  go_enter Tryd.func43, Tryd.ntmps43
  go_wp2_with fail
  obtain ⟨W0, hW0⟩ : ∃ W0, W0 = w.alloc (.cells #[.slice a1 st.1.length q1, .slice a2 st.2.1.length q2, .slice a3 st.2.2.length q3] 30) := ⟨_, rfl⟩
  rw [← hW0]
  have HB0 : Hid (Below w.heap.size w W0) := by rw [hW0]; exact Joins.below_alloc1 _ _
  have hs0 : W0.heap.size = w.heap.size + 1 := by rw [hW0]; simp
  have hx0 : W0.heap[w.heap.size]? = some (.cells #[.slice a1 st.1.length q1, .slice a2 st.2.1.length q2, .slice a3 st.2.2.length q3] 30 (0, 0)) := by rw [hW0]; exact heap_alloc_new _ _
  obtain ⟨c0, c1, c2, _⟩ := block3 hx0
  clear hW0 hx0
  have m0 := cell_later (Joins.below_alloc1 W0 (.map #[] 0)) c0
  have m1 := cell_later (Joins.below_alloc1 W0 (.map #[] 0)) c1
  have m2 := cell_later (Joins.below_alloc1 W0 (.map #[] 0)) c2
  go_region_held3 (fun w' => w'.cell? ⟨w.heap.size, 0, none⟩ = some (.slice a1 st.1.length q1) ∧ w'.cell? ⟨w.heap.size, 1, none⟩ = some (.slice a2 st.2.1.length q2) ∧ w'.cell? ⟨w.heap.size, 2, none⟩ = some (.slice a3 st.2.2.length q3))
    (first | (exact ⟨cell_later hb1 (by exact c0), cell_later hb1 (by exact c1), cell_later hb1 (by exact c2)⟩) | (exact ⟨cell_later hb1 (by exact m0), cell_later hb1 (by exact m1), cell_later hb1 (by exact m2)⟩) | go_keep)
    (first | (go_at_call 58; refine (endOf_any _ st _ ?_ HSO.out).mono ?_; (first | exact (HST.out.below HB0.out.drew) | exact (HST.out.below (below_tail HB0.out.drew (Joins.below_alloc1 _ _))) | exact (HST.out.below (below_tail HB0.out (Joins.below_alloc1 _ _)).drew)); rintro e W1 ⟨rfl, hb1⟩; unfold pv pc5))
  · have hbA : Below w.heap.size w W1 := below_tail HB0.out (below_tail (Joins.below_draws _ _ 1) hb1)
    go_wp2_with fail
    go_ret
    have hkn := known_made (st := st) W1
    have hbB := Joins.below_alloc1 (W1.alloc (.map #[] 0)) (.cells #[.slice a1 st.1.length q1, .slice a2 st.2.1.length q2, .slice a3 st.2.2.length q3, .int .i8 (endP st 0), .int .i8 (endP st 1), .int .i8 (endP st 2), .int .i8 (endP st 3), .int .i8 (endP st 4), .map (some W1.heap.size), .slice none 0 0] 94)
    have hs2 : (W1.alloc (.map #[] 0)).heap.size = W1.heap.size + 1 := by simp
    have hvar := heap_alloc_new (W1.alloc (.map #[] 0)) (.cells #[.slice a1 st.1.length q1, .slice a2 st.2.1.length q2, .slice a3 st.2.2.length q3, .int .i8 (endP st 0), .int .i8 (endP st 1), .int .i8 (endP st 2), .int .i8 (endP st 3), .int .i8 (endP st 4), .map (some W1.heap.size), .slice none 0 0] 94)
    rw [hs2] at hvar
    have hall : Below w.heap.size w ((W1.alloc (.map #[] 0)).alloc (.cells #[.slice a1 st.1.length q1, .slice a2 st.2.1.length q2, .slice a3 st.2.2.length q3, .int .i8 (endP st 0), .int .i8 (endP st 1), .int .i8 (endP st 2), .int .i8 (endP st 3), .int .i8 (endP st 4), .map (some W1.heap.size), .slice none 0 0] 94)) := below_tail hbA (Joins.below_alloc2 W1 _ _)
    have hsz := hbA.size
    refine ⟨W1.heap.size + 1, W1.heap.size, rfl, ⟨hvar, World.ownsRow_nil _ _ _ _, trivial, hkn.kept (hbB.block _ hkn.lt), by omega, fun q e => by simp [Value.ownBlock] at e, ⟨by omega, by omega⟩, hall⟩, ?_, ?_⟩
    · simp
    · simp; omega
  · have hkn := known_made (st := st) W0
    have hb1' : Below (W0.alloc (.map #[] 0)).heap.size (W0.alloc (.map #[] 0)) W1 := below_tail (Joins.below_draws _ _ 1) hb1
    have hbA : Below w.heap.size w W1 := below_tail (below_tail HB0.out (Joins.below_alloc1 _ _)) hb1'
    go_wp2_with fail
    go_ret
    have hm1 := hkn.kept (hb1'.block _ hkn.lt)
    have hlt := hm1.lt
    have hbB := Joins.below_alloc1 W1 (.cells #[.slice a1 st.1.length q1, .slice a2 st.2.1.length q2, .slice a3 st.2.2.length q3, .int .i8 (endP st 0), .int .i8 (endP st 1), .int .i8 (endP st 2), .int .i8 (endP st 3), .int .i8 (endP st 4), .map (some (w.heap.size + 1)), .slice none 0 0] 94)
    have hvar := heap_alloc_new W1 (.cells #[.slice a1 st.1.length q1, .slice a2 st.2.1.length q2, .slice a3 st.2.2.length q3, .int .i8 (endP st 0), .int .i8 (endP st 1), .int .i8 (endP st 2), .int .i8 (endP st 3), .int .i8 (endP st 4), .map (some (w.heap.size + 1)), .slice none 0 0] 94)
    have hm2 := hm1.kept (hbB.block _ hlt)
    rw [hs0] at hm2 hlt
    refine ⟨W1.heap.size, w.heap.size + 1, rfl, ⟨hvar, World.ownsRow_nil _ _ _ _, trivial, hm2, by omega, fun q e => by simp [Value.ownBlock] at e, ⟨by omega, by omega⟩, below_tail hbA (Joins.below_alloc1 W1 _)⟩, ?_, ?_⟩
    · simp
    · simp; omega

set_option maxRecDepth 4000 in
set_option maxHeartbeats 4000000 in
theorem implSafe_any (v : Value) (st : St) (w : World) (h : StateAt w v st) (hcap : CapSt w v st.2.1.length) (hp : ∀ i, i < st.2.1.length → (tPath st.2.1 i).length ≤ 4611686018427387904) :
    Calls Tryd.prog 23 #[v] w fun e w' => e = .returned (.bool (safeF st)) ∧ Below w.heap.size w w' := by
  have HS := hide h
  have HP := hide hp
  have HC := hide hcap
  obtain ⟨a1, q1, a2, q2, a3, q3, rfl⟩ := h.form
  clear h hp hcap
  go_enter Tryd.func23, Tryd.ntmps23
  go_wp2_with fail
  refine (implStateOk_any _ st _ (HS.out.below (Joins.below_alloc1 _ _)) HP.out).mono ?_
  rintro e w1 ⟨rfl, hb1⟩
  have HX1 := hide (blockLater hb1 (heap_alloc_new w (.cells #[.slice a1 st.1.length q1, .slice a2 st.2.1.length q2, .slice a3 st.2.2.length q3] 30)))
  have HB1 := hide (below_tail (Joins.below_alloc1 w (.cells #[.slice a1 st.1.length q1, .slice a2 st.2.1.length q2, .slice a3 st.2.2.length q3] 30)) hb1)
  obtain ⟨c0, c1, c2, _⟩ := block3 HX1.out
  clear hb1
  by_cases hok : stOk st = 0
  · have HR := hide (right_of_ok hok)
    have HPZ := hide (behind_pz HR.out.lens.2.2.2)
    have hokb : (stOk st == 0) = true := by simp [hok]
    have HF := hide (show safeF st = decide (0 ≤ val st) by simp [safeF, hok])
    clear hok
    generalize stOk st = code at *
    go_wp2_with fail
    refine (newSearch_any (st := st) w1 (HS.out.below HB1.out) HR.out.so).mono ?_
    rintro e w2 ⟨sb, mb, rfl, hs2, _, _⟩
    have HB2 : Hid (Below w.heap.size w w2) := below_tail HB1.out hs2.old
    have HS2 := hide hs2
    have hlh := leadsHome_any hs2 (HS.out.below HB1.out) (CapSt.below HC.out HS.out HB1.out) HR.out (sound_none st) (PV.pz st)
    rw [HPZ.out] at hlh
    have HLH := hide hlh
    clear hs2 hlh c0 c1 c2
    go_wp2_with fail
    refine HLH.out.mono ?_
    rintro e w3 ⟨rfl, kn', _, ⟨tv', vals', hs3, hc3, _⟩⟩
    have HB3 : Hid (Below w.heap.size w w3) := below_tail HB1.out hs3.old
    clear hs3 hc3
    generalize val st = vv at *
    cases hd : decide (0 ≤ vv)
    all_goals
      rw [hd] at HF
      go_wp2_with fail
      go_ret
      exact ⟨by rw [HF.out]; rfl, HB3.out⟩
  · have hokb : (stOk st == 0) = false := by simp [hok]
    have HF := hide (show safeF st = false by simp [safeF, hok])
    clear hok
    generalize stOk st = code at *
    go_wp2_with fail
    go_ret
    exact ⟨by rw [HF.out]; rfl, HB1.out⟩

/-- a search with nothing on its stack, where its blocks have not turned -/
theorem Srch.still {st : St} {w0 : World} {sb mb : Nat} {r t n : Value} {w w' : World} {tv : Value} {vals : List Value} {kn : Kn} (h : Srch st w0 sb mb r t n w tv vals [] kn) (hb : ∀ q, badB sb mb tv q → w'.heap[q]? = w.heap[q]?) (hold : Below w0.heap.size w0 w') : Srch st w0 sb mb r t n w' tv vals [] kn := by
  refine ⟨(hb sb (Or.inl rfl)).trans h.var, ownsRow_keep h.row (fun q hq => hb q (Or.inr (Or.inr hq))), ?_, h.known.kept (hb mb (Or.inr (Or.inl rfl))), h.ne, h.apart, h.lo, hold⟩
  have := h.tasks
  cases e : vals.reverse with
  | nil => trivial
  | cons v vs => rw [e] at this; exact this.elim

end Go.Proofs.YtmjjigdnoiphbabDoor
