import Derived.Test.YtmjjigdnoiphbaaDoorW17
import Derived.Deep.AppendLies
import Derived.OwnWalk
/-
  impl.progress: how far each train has come.
-/
namespace Go.Proofs.YtmjjigdnoiphbaaDoor
open Go.RowKit Go.Deep
set_option linter.unusedVariables false

/-- no path of these trains is longer than its room -/
def CapT (w : World) (a : Option Addr) (n : Nat) : Prop := ∀ i b off p q c, i < n → a = some ⟨b, off, none⟩ → w.cell? ⟨b, off + i * 3 + 1, none⟩ = some (.slice p q c) → q ≤ c

/-- no path of this state is longer than its room -/
def CapSt (w : World) (v : Value) (n : Nat) : Prop := ∀ a1 l1 q1 a2 l2 q2 a3 l3 q3, v = .agg #[.slice a1 l1 q1, .slice a2 l2 q2, .slice a3 l3 q3] → CapT w a2 n

theorem CapSt.below {w w' : World} {v : Value} {st : St} (h : CapSt w v st.2.1.length) (hs : StateAt w v st) (hb : Below w.heap.size w w') : CapSt w' v st.2.1.length := fun a1 l1 q1 a2 l2 q2 a3 l3 q3 hv i b off p q c hi ha hc => by
  subst hv
  obtain ⟨b', off', e, u, _, hc1, ⟨a', c', hu, _⟩, _⟩ := hs.parts.2.1.trainAt i hi
  rw [ha] at e
  simp only [Option.some.injEq, Addr.mk.injEq, and_true] at e
  obtain ⟨rfl, rfl⟩ := e
  have := cell_later hb hc1
  rw [hc] at this
  have h2 := Option.some.inj this
  exact h a1 l1 q1 a2 l2 q2 a3 l3 q3 rfl i b off p q c hi ha (by rw [hc1, h2])

/-- the cells of a progress, and its value -/
def pc5 (d : Nat → Nat) : Array Value := #[.int .i8 (d 0), .int .i8 (d 1), .int .i8 (d 2), .int .i8 (d 3), .int .i8 (d 4)]
def pv (d : Nat → Nat) : Value := .agg (pc5 d)
theorem pc5_at (d : Nat → Nat) (i : Nat) (hi : i < 5) : (pc5 d)[i]? = some (.int .i8 (d i)) := by
  match i, hi with
  | 0, _ => rfl
  | 1, _ => rfl
  | 2, _ => rfl
  | 3, _ => rfl
  | 4, _ => rfl

set_option maxHeartbeats 1000000 in
theorem hasLeft_any (d : Nat → Nat) (x y : Int) (a : Option Addr) (l c i : Nat) (w : World) (hi : i < 5) (hd : d i < 100) (hl : l ≤ 4611686018427387904) :
    Calls Tryd.prog 93 #[pv d, .agg #[.int .i64 x, .slice a l c, .int .i64 y], .int .i64 i] w fun e w' => e = .returned (.bool (decide (l < d i))) ∧ Below w.heap.size w w' := by
  have hV : ∀ w : World, ((w.alloc (.cells (pc5 d) 61)).alloc (.cells #[.int .i64 x, .slice a l c, .int .i64 y] 35)).cell? ⟨w.heap.size, i, none⟩ = some (.int .i8 (d i)) := fun w => by
    rw [World.cell?_alloc_old _ _ _ (by simp)]
    rw [cell_of_row _ _ _ (pc5 d) 61 (0, 0) (heap_alloc_new _ _)]
    exact pc5_at d i hi
  unfold pv
  unfold pc5 at hV ⊢
  go_enter Tryd.func93, Tryd.ntmps93
  go_wp2_with fail
  go_quiet (fail)
  go_wp2_with fail
  go_ret
  exact ⟨rfl, (Joins.below_alloc2 _ _ _).trans (Joins.below_draws _ _ _)⟩

/-- what is left of a path behind k moves, and where the train is then -/
def farAt (x : Int) (p : List Int) (k : Nat) : Int := if k = 0 then x else el p (k - 1)
theorem farAt_zero (x : Int) (p : List Int) : farAt x p 0 = x := rfl

set_option maxHeartbeats 2000000 in
theorem trainBehind_any (d : Nat → Nat) (x y : Int) (p : List Int) (a : Option Addr) (c i : Nat) (w : World) (hi : i < 5) (hd : d i ≤ p.length) (hl : p.length ≤ 8) (hc : p.length ≤ c) (hI : IntsAt w (.slice a p.length c) p) :
    Calls Tryd.prog 94 #[pv d, .agg #[.int .i64 x, .slice a p.length c, .int .i64 y], .int .i64 i] w fun e w' => ∃ a' c', e = .returned (.agg #[.int .i64 (farAt x p (d i)), .slice a' (p.drop (d i)).length c', .int .i64 y]) ∧ (∀ w0, IntsAt w0 (.slice a p.length c) p → IntsAt w0 (.slice a' (p.drop (d i)).length c') (p.drop (d i))) ∧ (p.drop (d i)).length ≤ c' ∧ Below w.heap.size w w' := by
  have hV : ∀ w : World, ∀ o : Obj, ∀ o', (((w.alloc (.cells (pc5 d) 61)).alloc o).alloc o').cell? ⟨w.heap.size, i, none⟩ = some (.int .i8 (d i)) := fun w o o' => by
    rw [World.cell?_alloc_some _ _ _ (by rw [World.cell?_alloc_some _ _ _ (by rw [cell_of_row _ _ _ (pc5 d) 61 (0, 0) (heap_alloc_new _ _), pc5_at d i hi]; rfl), cell_of_row _ _ _ (pc5 d) 61 (0, 0) (heap_alloc_new _ _), pc5_at d i hi]; rfl), World.cell?_alloc_some _ _ _ (by rw [cell_of_row _ _ _ (pc5 d) 61 (0, 0) (heap_alloc_new _ _), pc5_at d i hi]; rfl)]
    rw [cell_of_row _ _ _ (pc5 d) 61 (0, 0) (heap_alloc_new _ _)]
    exact pc5_at d i hi
  have HI := hide hI
  clear hI
  unfold pv
  unfold pc5 at hV ⊢
  rcases Nat.eq_zero_or_pos (d i) with hk | hk
  · rw [hk] at hV hd ⊢
    clear hk
    go_enter Tryd.func94, Tryd.ntmps94
    go_wp2_with fail
    refine bodyPost_ret (v := .agg #[.int .i64 x, .slice a p.length c, .int .i64 y]) (by simp [results, Tryd.results94, go_sem]) rfl ⟨a, c, rfl, ?_, hc, ?_⟩
    · exact fun w0 h0 => h0
    · exact Joins.below_alloc3 _ _ _ _
  · obtain ⟨j, hj⟩ : ∃ j, d i = j + 1 := ⟨d i - 1, by omega⟩
    have hF : farAt x p (d i) = el p j := by rw [hj]; simp [farAt]
    rw [hF]
    obtain ⟨b, off, rfl, hx⟩ := HI.out.cellAt j (by omega)
    have hxx : ∀ o1 o2 o3, (((w.alloc o1).alloc o2).alloc o3).cell? ⟨b, off + j, none⟩ = some (.int .i64 (el p j)) := fun o1 o2 o3 => cell_later (Joins.below_alloc3 w o1 o2 o3) hx
    clear hx
    have hwr : IntKind.i8.wrap ((d i : Int) - 1) = (j : Int) := by rw [hj, show (((j + 1 : Nat) : Int) - 1) = (j : Int) by omega]; simp [IntKind.wrap, IntKind.bits]; omega
    have hjl : (j : Int) < (p.length : Int) := by omega
    have hkl : (d i : Int) ≤ (p.length : Int) := by omega
    have hkc : d i ≤ c := by omega
    have HJ := hide hj
    clear hj hF
    generalize d i = k at *
    go_enter Tryd.func94, Tryd.ntmps94
    go_wp2_with fail
    go_region
    obtain ⟨A, hA⟩ : ∃ A, (if c = k then some (⟨b, off, none⟩ : Addr) else some ⟨b, off + k, none⟩) = A := ⟨_, rfl⟩
    rw [hA]
    have HA := hide hA
    clear hA
    go_wp2_with fail
    refine bodyPost_ret (v := .agg #[.int .i64 (el p j), .slice A (p.length - k) (c - k), .int .i64 y]) (by simp [results, Tryd.results94, go_sem]) rfl ⟨A, c - k, by rw [List.length_drop], ?_, by rw [List.length_drop]; omega, (Joins.below_alloc3 _ _ _ _).drew⟩
    refine fun w0 h0 => ⟨A, c - k, rfl, fun q hq => ?_⟩
    rw [List.length_drop] at hq
    obtain ⟨b', o', e', hc'⟩ := IntsAt.cellAt h0 (q + k) (by omega)
    simp only [Option.some.injEq, Addr.mk.injEq, and_true] at e'
    obtain ⟨rfl, rfl⟩ := e'
    refine ⟨b, off + k, by rw [← HA.out, if_neg (by omega)], ?_⟩
    rw [show off + k + q = off + (q + k) by omega, hc']
    simp [el, List.getElem?_drop, Nat.add_comm]

/-- one move more of train m -/
def bump (d : Nat → Nat) (m : Nat) : Nat → Nat := fun i => if i = m then d i + 1 else d i

set_option maxHeartbeats 1000000 in
theorem pmoved_any (d : Nat → Nat) (m : Nat) (w : World) (hm : m < 5) (hd : d m < 100) :
    Calls Tryd.prog 56 #[pv d, .int .i64 m] w fun e w' => e = .returned (pv (bump d m)) ∧ Below w.heap.size w w' := by
  have hwr : IntKind.i8.wrap ((d m : Int) + 1) = (d m : Int) + 1 := by simp [IntKind.wrap, IntKind.bits]; omega
  unfold pv pc5
  rcases (show m = 0 ∨ m = 1 ∨ m = 2 ∨ m = 3 ∨ m = 4 by omega) with rfl | rfl | rfl | rfl | rfl
  all_goals
    go_enter Tryd.func56, Tryd.ntmps56
    go_wp2_with fail
  all_goals
    refine bodyPost_ret ?_ rfl ⟨rfl, Joins.below_alloc2 _ _ _⟩
    simp [results, Tryd.results56, go_sem, bump]
end Go.Proofs.YtmjjigdnoiphbaaDoor

/-
  impl.countOn, impl.canMove.
-/
namespace Go.Proofs.YtmjjigdnoiphbaaDoor
open Go.RowKit Go.Deep
set_option linter.unusedVariables false

/-- train i has left -/
def leftB (ts : List Tr) (d : Nat → Nat) (i : Nat) : Bool := decide ((tPath ts i).length < d i)
/-- train i is on section s yet -/
def onB (ts : List Tr) (d : Nat → Nat) (s : Int) (i : Nat) : Bool := !leftB ts d i && (farAt (tAt ts i) (tPath ts i) (d i) == s)
def cntUp (ts : List Tr) (d : Nat → Nat) (s : Int) : Nat → Nat
  | 0 => 0
  | k + 1 => cntUp ts d s k + if onB ts d s k = true then 1 else 0
theorem cntUp_le (ts : List Tr) (d : Nat → Nat) (s : Int) : ∀ k, cntUp ts d s k ≤ k
  | 0 => Nat.le_refl _
  | k + 1 => by have := cntUp_le ts d s k; unfold cntUp; split <;> omega
/-- train i can move -/
def canP (st : St) (d : Nat → Nat) (i : Nat) : Bool :=
  !leftB st.2.1 d i && (decide ((tPath st.2.1 i).length = d i) || decide ((cntUp st.2.1 d (el (tPath st.2.1 i) (d i)) st.2.1.length : Int) < el st.1 (el (tPath st.2.1 i) (d i)).toNat))
/-- nobody has done more moves than there are -/
def PrOk (st : St) (d : Nat → Nat) : Prop := ∀ i, i < st.2.1.length → d i ≤ (tPath st.2.1 i).length + 1

theorem cells5 {w : World} {b : Nat} {x0 x1 x2 x3 x4 : Value} {t : TypeId} (h : w.heap[b]? = some (.cells #[x0, x1, x2, x3, x4] t (0, 0))) :
    w.cell? ⟨b, 0, none⟩ = some x0 ∧ w.cell? ⟨b, 1, none⟩ = some x1 ∧ w.cell? ⟨b, 2, none⟩ = some x2 ∧ w.cell? ⟨b, 3, none⟩ = some x3 ∧ w.cell? ⟨b, 4, none⟩ = some x4 :=
  ⟨by rw [cell_of_row w b 0 _ t (0, 0) h]; rfl, by rw [cell_of_row w b 1 _ t (0, 0) h]; rfl, by rw [cell_of_row w b 2 _ t (0, 0) h]; rfl, by rw [cell_of_row w b 3 _ t (0, 0) h]; rfl, by rw [cell_of_row w b 4 _ t (0, 0) h]; rfl⟩
theorem blockLater {w w' : World} (hb : Below w.heap.size w w') {b : Nat} {o : Obj} (h : w.heap[b]? = some o) : w'.heap[b]? = some o := (hb.block b (Array.getElem?_eq_some_iff.1 h).1).trans h

theorem run_field0 (x y : Int) (u : Value) (w : World) : (Instr.field 35 (.agg #[.int .i64 x, u, .int .i64 y]) 0).run Tryd.prog w = .ok (.int .i64 x) w := by
  obtain ⟨i0, hi, hz0, hz1, hz2⟩ := info_parts Tryd.infoInt
  simp [Instr.field, run_underlying Tryd.underlying35, run_underlying Tryd.underlying3, part, isAgg, sizeOf, typeInfo, hi, hz1, asAgg, go_sem]
theorem run_field1 (x y : Int) (u : Value) (w : World) : (Instr.field 35 (.agg #[.int .i64 x, u, .int .i64 y]) 1).run Tryd.prog w = .ok u w := by
  simp [Instr.field, run_underlying Tryd.underlying35, run_underlying Tryd.underlying23, part, isAgg, sizeOf, typeInfo, asAgg, go_sem]

set_option maxRecDepth 4000 in
set_option maxHeartbeats 4000000 in
theorem countOn_any (v : Value) (st : St) (d : Nat → Nat) (s : Int) (w : World) (h : StateAt w v st) (hcap : CapSt w v st.2.1.length) (hr : RightSt st) (hd : PrOk st d) :
    Calls Tryd.prog 95 #[v, pv d, .int .i64 s] w fun e w' => e = .returned (.int .i64 (cntUp st.2.1 d s st.2.1.length)) ∧ Below w.heap.size w w' := by
  have HS := hide h
  have HR := hide hr
  have HD := hide hd
  obtain ⟨a1, q1, a2, q2, a3, q3, rfl⟩ := h.form
  have HCAP := hide (hcap _ _ _ _ _ _ _ _ _ rfl)
  obtain ⟨l1, l2, l3, l4⟩ := hr.lens
  clear h hr hcap hd l4
  unfold pv pc5
  go_enter Tryd.func95, Tryd.ntmps95
  go_wp2_with fail
  obtain ⟨V, hV⟩ : ∃ V, V = (w.alloc (.cells #[.slice a1 st.1.length q1, .slice a2 st.2.1.length q2, .slice a3 st.2.2.length q3] 26)).alloc (.cells #[.int .i8 (d 0), .int .i8 (d 1), .int .i8 (d 2), .int .i8 (d 3), .int .i8 (d 4)] 61) := ⟨_, rfl⟩
  rw [← hV]
  have HP : Hid (V.heap[w.heap.size + 1]? = some (.cells #[.int .i8 (d 0), .int .i8 (d 1), .int .i8 (d 2), .int .i8 (d 3), .int .i8 (d 4)] 61 (0, 0))) := by rw [hV]; exact heap_alloc2_new _ _ _
  have HBV : Hid (Below w.heap.size w V) := by rw [hV]; exact Joins.below_alloc2 _ _ _
  clear hV
  go_loopw [7, 13] (fun u i wr => ∃ k : Nat, k ≤ st.2.1.length ∧ i = .int .i64 k ∧ u = .int .i64 (cntUp st.2.1 d s k) ∧ Below V.heap.size V wr) (fun _ i _ => st.2.1.length - (intOf i).toNat)
  case atStart => exact ⟨0, Nat.zero_le _, rfl, rfl, Below.refl _ _⟩
  case round =>
    obtain ⟨k, hk, rfl, rfl, hb⟩ := hrel
    by_cases hlt : k < st.2.1.length
    · have hbw := below_tail HBV.out hb
      obtain ⟨b, off, rfl, vp, t0, t1, hI, t2⟩ := HS.out.parts.2.1.trainAt k hlt
      have hI' := hI.below hbw
      obtain ⟨ap, cp, rfl, -⟩ := id hI
      have HCP : Hid ((tPath st.2.1 k).length ≤ cp) := HCAP.out k b off _ _ _ hlt rfl t1
      have g0 := cell_later hbw t0
      have g1 := cell_later hbw t1
      have g2 := cell_later hbw t2
      have h8 := (HR.out.train k hlt).2.2.1
      have hdk := HD.out k hlt
      have hp := blockLater hb HP.out
      obtain ⟨p0, p1, p2, p3, p4⟩ := cells5 hp
      have hplt : w.heap.size + 1 < wr.heap.size := (Array.getElem?_eq_some_iff.1 hp).1
      have HPR := hide hp
      have HI := hide hI'
      have HB := hide hb
      have hcu := cntUp_le st.2.1 d s k
      clear t0 t1 t2 hI hI' hb hbw hp
      go_wp2_with fail
      refine (hasLeft_any d _ _ _ _ _ k _ (by omega) (by omega) (by omega)).mono ?_
      rintro e w2 ⟨rfl, hb2⟩
      have hbT : Below wr.heap.size wr w2 := below_tail (Joins.below_alloc1 _ _) hb2
      have x0 : w2.cell? ⟨wr.heap.size, 0, none⟩ = some (.int .i64 (tAt st.2.1 k)) := cell_later hb2 (by simp)
      have x1 : w2.cell? ⟨wr.heap.size, 1, none⟩ = some (.slice ap (tPath st.2.1 k).length cp) := cell_later hb2 (by simp)
      have x2 : w2.cell? ⟨wr.heap.size, 2, none⟩ = some (.int .i64 (tWt st.2.1 k)) := cell_later hb2 (by simp)
      obtain ⟨r0, r1, r2, r3, r4⟩ := cells5 (blockLater hbT HPR.out)
      have HB2 := hide (below_tail HB.out hbT)
      have HI2 := hide (HI.out.below hbT)
      clear hb2 hbT p0 p1 p2 p3 p4 g0 g1 g2
      by_cases hle : (tPath st.2.1 k).length < d k
      · have hleb : decide ((tPath st.2.1 k).length < d k) = true := by simp [hle]
        have HC := hide (show cntUp st.2.1 d s (k + 1) = cntUp st.2.1 d s k by simp [cntUp, onB, leftB, hle])
        rw [hleb]
        clear hle hleb
        go_wp2_with fail
        go_roundw
        case rel => exact ⟨k + 1, by omega, by go_num, by rw [HC.out], HB2.out⟩
        case measure => simp [intOf]; omega
      · have hleb : decide ((tPath st.2.1 k).length < d k) = false := by simp [hle]
        have HC := hide (show cntUp st.2.1 d s (k + 1) = cntUp st.2.1 d s k + if (farAt (tAt st.2.1 k) (tPath st.2.1 k) (d k) == s) = true then 1 else 0 by simp [cntUp, onB, leftB, hle])
        rw [hleb]
        have hle' : d k ≤ (tPath st.2.1 k).length := by omega
        clear hle hleb
        go_wp2_with fail
        refine (trainBehind_any d _ _ (tPath st.2.1 k) _ _ k _ (by omega) hle' (by omega) HCP.out HI2.out).mono ?_
        rintro e w3 ⟨a', c', rfl, -, -, hb3⟩
        have HB3 := hide (below_tail HB2.out hb3)
        clear hb3 x0 x1 x2 r0 r1 r2 r3 r4
        generalize farAt (tAt st.2.1 k) (tPath st.2.1 k) (d k) = z at *
        generalize (List.drop (d k) (tPath st.2.1 k)).length = zl at *
        have hf0 := fun w => run_field0 z (tWt st.2.1 k) (.slice a' zl c') w
        cases hon : (z == s)
        all_goals
          rw [hon] at HC
          go_wp2_with fail
          go_roundw
          case rel => exact ⟨k + 1, by omega, by go_num, by rw [HC.out]; simp, HB3.out⟩
          case measure => simp [intOf]; omega
    · go_wp2_with fail
      go_ret
      obtain rfl : k = st.2.1.length := by omega
      exact ⟨rfl, below_tail HBV.out hb⟩

theorem trainBehind_at (d : Nat → Nat) (x y z : Int) (p r : List Int) (a : Option Addr) (c i : Nat) (w : World) (hi : i < 5) (hd : d i ≤ p.length) (hl : p.length ≤ 8) (hc : p.length ≤ c) (hI : IntsAt w (.slice a p.length c) p) (hz : farAt x p (d i) = z) (hr : p.drop (d i) = r) :
    Calls Tryd.prog 94 #[pv d, .agg #[.int .i64 x, .slice a p.length c, .int .i64 y], .int .i64 i] w fun e w' => ∃ a' c', e = .returned (.agg #[.int .i64 z, .slice a' r.length c', .int .i64 y]) ∧ (∀ w0, IntsAt w0 (.slice a p.length c) p → IntsAt w0 (.slice a' r.length c') r) ∧ r.length ≤ c' ∧ Below w.heap.size w w' := by
  subst hz hr
  exact trainBehind_any d x y p a c i w hi hd hl hc hI

set_option maxRecDepth 4000 in
set_option maxHeartbeats 4000000 in
theorem canMove_any (v : Value) (st : St) (d : Nat → Nat) (i : Nat) (w : World) (h : StateAt w v st) (hcap : CapSt w v st.2.1.length) (hr : RightSt st) (hd : PrOk st d) (hi : i < st.2.1.length) :
    Calls Tryd.prog 53 #[v, pv d, .int .i64 i] w fun e w' => e = .returned (.bool (canP st d i)) ∧ Below w.heap.size w w' := by
  have HS := hide h
  have HR := hide hr
  have HD := hide hd
  have HCS := hide hcap
  obtain ⟨a1, q1, a2, q2, a3, q3, rfl⟩ := h.form
  obtain ⟨hp1, hp2, hp3⟩ := h.parts
  obtain ⟨b, off, rfl, vp, t0, t1, hI, t2⟩ := hp2.trainAt i hi
  obtain ⟨l1, l2, l3, l4⟩ := hr.lens
  have HI := hide hI
  obtain ⟨ap, cp, rfl, -⟩ := hI
  have HCP : Hid ((tPath st.2.1 i).length ≤ cp) := hcap _ _ _ _ _ _ _ _ _ rfl i b off _ _ _ hi rfl t1
  have h8 := (hr.train i hi).2.2.1
  have hdi := hd i hi
  have HP1 := hide hp1
  have hii : (i : Int) < (st.2.1.length : Int) := by omega
  have hi5 : i < 5 := by omega
  clear h hr hp1 hp2 hp3 l4 hcap hd
  unfold pv pc5
  go_enter Tryd.func53, Tryd.ntmps53
  go_wp2_with fail
  obtain ⟨V, hV⟩ : ∃ V, V = (w.alloc (.cells #[.slice a1 st.1.length q1, .slice (some ⟨b, off, none⟩) st.2.1.length q2, .slice a3 st.2.2.length q3] 26)).alloc (.cells #[.int .i8 (d 0), .int .i8 (d 1), .int .i8 (d 2), .int .i8 (d 3), .int .i8 (d 4)] 61) := ⟨_, rfl⟩
  rw [← hV]
  have hp : V.heap[w.heap.size + 1]? = some (.cells #[.int .i8 (d 0), .int .i8 (d 1), .int .i8 (d 2), .int .i8 (d 3), .int .i8 (d 4)] 61 (0, 0)) := by rw [hV]; exact heap_alloc2_new _ _ _
  have hbV : Below w.heap.size w V := by rw [hV]; exact Joins.below_alloc2 _ _ _
  have c0 : V.cell? ⟨w.heap.size, 0, none⟩ = some (.slice a1 st.1.length q1) := by rw [hV]; simp
  have c1 : V.cell? ⟨w.heap.size, 1, none⟩ = some (.slice (some ⟨b, off, none⟩) st.2.1.length q2) := by rw [hV]; simp
  have c2 : V.cell? ⟨w.heap.size, 2, none⟩ = some (.slice a3 st.2.2.length q3) := by rw [hV]; simp
  have g0 := cell_later hbV t0
  have g1 := cell_later hbV t1
  have g2 := cell_later hbV t2
  obtain ⟨p0, p1, p2, p3, p4⟩ := cells5 hp
  have HBV := hide hbV
  clear hV t0 t1 t2 hp hbV
  go_region_held3 (fun w' => w'.cell? ⟨w.heap.size, 0, none⟩ = some (.slice a1 st.1.length q1) ∧ w'.cell? ⟨w.heap.size, 1, none⟩ = some (.slice (some ⟨b, off, none⟩) st.2.1.length q2) ∧ w'.cell? ⟨w.heap.size, 2, none⟩ = some (.slice a3 st.2.2.length q3) ∧ w'.cell? ⟨w.heap.size + 1, 0, none⟩ = some (.int .i8 (d 0)) ∧ w'.cell? ⟨w.heap.size + 1, 1, none⟩ = some (.int .i8 (d 1)) ∧ w'.cell? ⟨w.heap.size + 1, 2, none⟩ = some (.int .i8 (d 2)) ∧ w'.cell? ⟨w.heap.size + 1, 3, none⟩ = some (.int .i8 (d 3)) ∧ w'.cell? ⟨w.heap.size + 1, 4, none⟩ = some (.int .i8 (d 4)) ∧ w'.cell? ⟨b, off + i * 3, none⟩ = some (.int .i64 (tAt st.2.1 i)) ∧ w'.cell? ⟨b, off + i * 3 + 1, none⟩ = some (.slice ap (tPath st.2.1 i).length cp) ∧ w'.cell? ⟨b, off + i * 3 + 2, none⟩ = some (.int .i64 (tWt st.2.1 i)))
    (first | (exact ⟨cell_later hb2 (by exact c0), cell_later hb2 (by exact c1), cell_later hb2 (by exact c2), cell_later hb2 (by exact p0), cell_later hb2 (by exact p1), cell_later hb2 (by exact p2), cell_later hb2 (by exact p3), cell_later hb2 (by exact p4), cell_later hb2 (by exact g0), cell_later hb2 (by exact g1), cell_later hb2 (by exact g2)⟩) | go_keep)
    (first | (go_at_call 93; refine (hasLeft_any d _ _ _ _ _ i _ hi5 (by omega) (by omega)).mono ?_; rintro e w2 ⟨rfl, hb2⟩))
  rename_i hh
  clear c0 c1 c2 p0 p1 p2 p3 p4 g0 g1 g2
  obtain ⟨c0, c1, c2, p0, p1, p2, p3, p4, g0, g1, g2⟩ := hh
  have HB2 := hide (below_tail HBV.out.drew hb2)
  have HI2 := hide (IntsAt.below HI.out HB2.out)
  clear hb2 HBV
  by_cases hle : (tPath st.2.1 i).length < d i
  · have hleb : decide ((tPath st.2.1 i).length < d i) = true := by simp [hle]
    have HF := hide (show canP st d i = false by simp [canP, leftB, hle])
    rw [hleb]
    clear hle hleb
    go_wp2_with fail
    go_ret
    exact ⟨by rw [HF.out]; rfl, HB2.out⟩
  · have hleb : decide ((tPath st.2.1 i).length < d i) = false := by simp [hle]
    have hle' : d i ≤ (tPath st.2.1 i).length := by omega
    rw [hleb]
    have HF := hide (show canP st d i = (decide ((List.drop (d i) (tPath st.2.1 i)).length = 0) || decide ((cntUp st.2.1 d (el (List.drop (d i) (tPath st.2.1 i)) 0) st.2.1.length : Int) < el st.1 (el (List.drop (d i) (tPath st.2.1 i)) 0).toNat)) by
      simp only [canP, leftB, hleb, List.length_drop, el, List.getElem?_drop, Nat.add_zero]
      simp only [Bool.not_false, Bool.true_and]
      congr 1
      rw [decide_eq_decide]
      omega)
    have HQ : Hid (∀ j, j < (List.drop (d i) (tPath st.2.1 i)).length → ∃ k : Nat, el (List.drop (d i) (tPath st.2.1 i)) j = (k : Int) ∧ k < st.1.length) := fun j hj => by
      rw [List.length_drop] at hj
      obtain ⟨u1, u2⟩ := (HR.out.train i hi).2.2.2.2.2 (d i + j) (by omega)
      refine ⟨(el (tPath st.2.1 i) (d i + j)).toNat, ?_, by omega⟩
      have : el (List.drop (d i) (tPath st.2.1 i)) j = el (tPath st.2.1 i) (d i + j) := by simp [el, List.getElem?_drop]
      rw [this]
      omega
    have h8' : (List.drop (d i) (tPath st.2.1 i)).length ≤ 8 := by rw [List.length_drop]; omega
    obtain ⟨r, hrr⟩ : ∃ r, List.drop (d i) (tPath st.2.1 i) = r := ⟨_, rfl⟩
    obtain ⟨z, hz⟩ : ∃ z, farAt (tAt st.2.1 i) (tPath st.2.1 i) (d i) = z := ⟨_, rfl⟩
    rw [hrr] at HF HQ h8'
    have HRR := hide hrr
    have HZ := hide hz
    clear hrr hz
    clear hle hleb
    have hf1 := fun (x y : Int) (u : Value) (w : World) => run_field1 x y u w
    go_wp2_with fail
    go_region_held3 (fun w' => w'.cell? ⟨w.heap.size, 0, none⟩ = some (.slice a1 st.1.length q1) ∧ w'.cell? ⟨w.heap.size, 1, none⟩ = some (.slice (some ⟨b, off, none⟩) st.2.1.length q2) ∧ w'.cell? ⟨w.heap.size, 2, none⟩ = some (.slice a3 st.2.2.length q3) ∧ w'.cell? ⟨w.heap.size + 1, 0, none⟩ = some (.int .i8 (d 0)) ∧ w'.cell? ⟨w.heap.size + 1, 1, none⟩ = some (.int .i8 (d 1)) ∧ w'.cell? ⟨w.heap.size + 1, 2, none⟩ = some (.int .i8 (d 2)) ∧ w'.cell? ⟨w.heap.size + 1, 3, none⟩ = some (.int .i8 (d 3)) ∧ w'.cell? ⟨w.heap.size + 1, 4, none⟩ = some (.int .i8 (d 4)) ∧ w'.cell? ⟨b, off + i * 3, none⟩ = some (.int .i64 (tAt st.2.1 i)) ∧ w'.cell? ⟨b, off + i * 3 + 1, none⟩ = some (.slice ap (tPath st.2.1 i).length cp) ∧ w'.cell? ⟨b, off + i * 3 + 2, none⟩ = some (.int .i64 (tWt st.2.1 i)))
      (first | (exact ⟨cell_later hb3 (by exact c0), cell_later hb3 (by exact c1), cell_later hb3 (by exact c2), cell_later hb3 (by exact p0), cell_later hb3 (by exact p1), cell_later hb3 (by exact p2), cell_later hb3 (by exact p3), cell_later hb3 (by exact p4), cell_later hb3 (by exact g0), cell_later hb3 (by exact g1), cell_later hb3 (by exact g2)⟩) | go_keep)
      (first | (go_at_call 94; refine (trainBehind_at d _ _ z (tPath st.2.1 i) r _ _ i _ hi5 hle' h8 HCP.out (IntsAt.below HI2.out (Joins.below_draws _ _ 1)) HZ.out HRR.out).mono ?_; rintro e w3 ⟨a', c', rfl, hI3, -, hb3⟩))
    rename_i hh
    clear c0 c1 c2 p0 p1 p2 p3 p4 g0 g1 g2
    obtain ⟨c0, c1, c2, p0, p1, p2, p3, p4, g0, g1, g2⟩ := hh
    have HB3 := hide (below_tail HB2.out.drew hb3)
    have HI3 := hide (hI3 _ (IntsAt.below HI.out HB3.out))
    have HS3 := hide (HS.out.below HB3.out)
    have HC3 := hide (CapSt.below HCS.out HS.out HB3.out)
    clear hb3 HB2 hI3 HI2 g0 g1 g2 HRR HZ hf1
    by_cases hz : r.length = 0
    · have hzb : ((r.length : Int) == 0) = true := by simp [hz]
      have HF2 := hide (show canP st d i = true by rw [HF.out]; simp [hz])
      clear hz
      generalize r.length = nr at *
      go_wp2_with fail
      go_quiet (fail)
      go_wp2_with fail
      go_ret
      exact ⟨by rw [HF2.out]; rfl, HB3.out.trans (Joins.below_draws _ _ _)⟩
    · have hzb : ((r.length : Int) == 0) = false := by rw [beq_eq_false_iff_ne]; omega
      obtain ⟨k, hk, hkl⟩ := HQ.out 0 (by omega)
      obtain ⟨b2, off2, rfl, hx⟩ := IntsAt.cellAt HI3.out 0 (by omega)
      obtain ⟨b3, off3, rfl, hy⟩ := IntsAt.cellAt HP1.out k hkl
      rw [hk, Nat.add_zero] at hx
      have y0 := cell_later HB3.out hy
      rw [hk] at HF
      have HF2 := hide (show canP st d i = decide ((cntUp st.2.1 d (k : Int) st.2.1.length : Int) < el st.1 k) by rw [HF.out]; simp [hz])
      have hki : (k : Int) < (st.1.length : Int) := by omega
      have hk0 : (0 : Int) ≤ (k : Int) := by omega
      have hpn : 0 < r.length := by omega
      clear hz hk hy HF HQ
      generalize r.length = np at *
      have hp0 : (0 : Int) < (np : Int) := by omega
      go_wp2_with fail
      cases hdd : decide ((cntUp st.2.1 d (k : Int) st.2.1.length : Int) < el st.1 k)
      all_goals
        rw [hdd] at HF2
        go_region_held3 (fun w' => w'.cell? ⟨w.heap.size, 0, none⟩ = some (.slice (some ⟨b3, off3, none⟩) st.1.length q1) ∧ w'.cell? ⟨w.heap.size, 1, none⟩ = some (.slice (some ⟨b, off, none⟩) st.2.1.length q2) ∧ w'.cell? ⟨w.heap.size, 2, none⟩ = some (.slice a3 st.2.2.length q3) ∧ w'.cell? ⟨w.heap.size + 1, 0, none⟩ = some (.int .i8 (d 0)) ∧ w'.cell? ⟨w.heap.size + 1, 1, none⟩ = some (.int .i8 (d 1)) ∧ w'.cell? ⟨w.heap.size + 1, 2, none⟩ = some (.int .i8 (d 2)) ∧ w'.cell? ⟨w.heap.size + 1, 3, none⟩ = some (.int .i8 (d 3)) ∧ w'.cell? ⟨w.heap.size + 1, 4, none⟩ = some (.int .i8 (d 4)) ∧ w'.cell? ⟨b2, off2, none⟩ = some (.int .i64 (k : Int)) ∧ w'.cell? ⟨b3, off3 + k, none⟩ = some (.int .i64 (el st.1 k)))
          (first | (exact ⟨cell_later hb4 (by exact c0), cell_later hb4 (by exact c1), cell_later hb4 (by exact c2), cell_later hb4 (by exact p0), cell_later hb4 (by exact p1), cell_later hb4 (by exact p2), cell_later hb4 (by exact p3), cell_later hb4 (by exact p4), cell_later hb4 (by exact hx), cell_later hb4 (by exact y0)⟩) | go_keep)
          (first | (go_at_call 95; refine (countOn_any _ st d _ _ (StateAt.below HS3.out (Joins.below_draws _ _ 1)) (CapSt.below HC3.out HS3.out (Joins.below_draws _ _ 1)) HR.out HD.out).mono ?_; rintro e w4 ⟨rfl, hb4⟩))
        all_goals
          have HB4 := hide (below_tail HB3.out.drew hb4)
          clear hb4
          go_wp2_with fail
          go_ret
          exact ⟨by rw [HF2.out]; rfl, HB4.out⟩

/-- nobody has moved -/
def pz : Nat → Nat := fun _ => 0
theorem pz_ok (st : St) : PrOk st pz := fun i hi => Nat.zero_le _
theorem cntUp_pz (ts : List Tr) (s : Int) : ∀ k, cntUp ts pz s k = thereUp ts s k
  | 0 => rfl
  | k + 1 => by
    unfold cntUp thereUp
    rw [cntUp_pz ts s k]
    simp [onB, leftB, pz, farAt]
theorem canP_pz (st : St) (i : Nat) : canP st pz i = canB st i := by
  have h1 : leftB st.2.1 pz i = false := by simp [leftB, pz]
  unfold canP canB there
  rw [h1, cntUp_pz]
  rfl
end Go.Proofs.YtmjjigdnoiphbaaDoor

/-
  SLICES OF INTEGERS OF THE CALL's OWN.
-/
namespace Go.Proofs.YtmjjigdnoiphbaaDoor
open Go.RowKit Go.Deep
set_option linter.unusedVariables false

theorem ownsRow_below {w w' : World} {base : Nat} {e : TypeId} {size : Nat} {v : Value} {n : Nat} {xs : List Value} (h : w.ownsRow base e size v n xs) (hb : Below w.heap.size w w') : w'.ownsRow base e size v n xs := by
  obtain ⟨h1, h2⟩ := h
  refine ⟨h1, ?_⟩
  rcases h2 with h2 | ⟨g, cap, cur, hv, hg, hh, r⟩
  · exact Or.inl h2
  · have hlt : g < w.heap.size := (Array.getElem?_eq_some_iff.1 hh).1
    exact Or.inr ⟨g, cap, cur, hv, hg, by rw [hb.block g hlt]; exact hh, r⟩

/-- v owns the integers xs, in a block from base on -/
def OwnInts (base : Nat) (w : World) (v : Value) (xs : List Int) : Prop := w.ownsRow base 3 1 v xs.length (xs.map (Value.int .i64))

theorem OwnInts.below {base : Nat} {w w' : World} {v : Value} {xs : List Int} (h : OwnInts base w v xs) (hb : Below w.heap.size w w') : OwnInts base w' v xs := ownsRow_below h hb
theorem OwnInts.le {base base' : Nat} {w : World} {v : Value} {xs : List Int} (h : OwnInts base w v xs) (hb : base' ≤ base) : OwnInts base' w v xs := Joins.ownsRow_le h hb
theorem OwnInts.nil (base : Nat) (w : World) : OwnInts base w (.slice none 0 0) [] := World.ownsRow_nil w base 3 1

theorem take_get {α : Type} {l xs : List α} {n i : Nat} (h : l.take n = xs) (hi : i < n) : l[i]? = xs[i]? := by
  rw [← h, List.getElem?_take, if_pos hi]

/-- where it lies: nil, or at the head of a block of its own -/
theorem OwnInts.lies {base : Nat} {w : World} {v : Value} {xs : List Int} (h : OwnInts base w v xs) :
    (v = .slice none 0 0 ∧ xs = []) ∨ ∃ g cap cur, v = .slice (some ⟨g, 0, none⟩) xs.length cap ∧ base ≤ g ∧ w.heap[g]? = some (.cells cur 3 (0, 0)) ∧ xs.length ≤ cap ∧ cap ≤ maxLen ∧ cur.size = cap ∧ ∀ i, i < xs.length → cur[i]? = some (.int .i64 (el xs i)) := by
  obtain ⟨_, h | ⟨g, cap, cur, hv, hg, hh, h1, h2, h3, h4⟩⟩ := h
  · exact Or.inl ⟨h.1, by simpa using h.2⟩
  · refine Or.inr ⟨g, cap, cur, hv, hg, hh, h1, h2, by omega, fun i hi => ?_⟩
    have := take_get h4 (i := i) (by omega)
    rw [← Array.getElem?_toList, this]
    simp [el, hi]

theorem OwnInts.at {base : Nat} {w : World} {v : Value} {xs : List Int} (h : OwnInts base w v xs) : IntsAt w v xs := by
  rcases h.lies with ⟨rfl, rfl⟩ | ⟨g, cap, cur, rfl, _, hh, _, _, _, hc⟩
  · exact ⟨none, 0, rfl, fun i hi => absurd hi (Nat.not_lt_zero _)⟩
  · exact ⟨_, cap, rfl, fun i hi => ⟨g, 0, rfl, by rw [Nat.zero_add, cell_of_row w g i cur 3 (0, 0) hh]; exact hc i hi⟩⟩

theorem OwnInts.len {base : Nat} {w : World} {v : Value} {xs : List Int} (h : OwnInts base w v xs) : xs.length ≤ 9223372036854775807 := by
  rcases h.lies with ⟨_, rfl⟩ | ⟨g, cap, cur, _, _, _, h1, h2, _⟩
  · simp
  · unfold maxLen at h2; omega

theorem OwnInts.form {base : Nat} {w : World} {v : Value} {xs : List Int} (h : OwnInts base w v xs) : ∃ a cap, v = .slice a xs.length cap := by
  obtain ⟨a, cap, e, _⟩ := h.at
  exact ⟨a, cap, e⟩

/-- one more integer -/
theorem OwnInts.snoc {base : Nat} {w : World} {v : Value} {xs : List Int} {x : Int} (h : w.ownsRow base 3 1 v (xs.length + 1) (xs.map (Value.int .i64) ++ [.int .i64 x])) : OwnInts base w v (xs ++ [x]) := by
  unfold OwnInts
  simpa using h

/-- behind an append to a row of the call's own, old memory is as it was -/
theorem below_grown {B : Nat} {a w w' : World} {v : Value} {base : Nat} {e : TypeId} {size n : Nat} {xs : List Value} (h : Below B a w) (ho : w.ownsRow base e size v n xs) (hg : w.grownBy w' v.ownBlock) (hB : B ≤ w.heap.size) (hb : B ≤ base) : Below B a w' :=
  h.grown hg hB (fun k hk => by
    rcases ho.2 with ⟨rfl, _⟩ | ⟨g, cap, cur, rfl, hgb, _⟩
    · simp [Value.ownBlock] at hk
    · simp [Value.ownBlock] at hk
      omega)
end Go.Proofs.YtmjjigdnoiphbaaDoor

/-
  spec.Moves, impl.Moves.
-/
namespace Go.Proofs.YtmjjigdnoiphbaaDoor
open Go.RowKit Go.Deep
set_option linter.unusedVariables false

def movesUp (st : St) : Nat → List Int
  | 0 => []
  | k + 1 => movesUp st k ++ (bif canB st k then [el st.2.2 k] else [])
/-- Moves -/
def movesF (st : St) : List Int := bif decide (stOk st = 0) then movesUp st st.2.2.length else []
theorem movesUp_le (st : St) : ∀ k, (movesUp st k).length ≤ k
  | 0 => Nat.le_refl _
  | k + 1 => by have := movesUp_le st k; simp only [movesUp, List.length_append]; cases canB st k <;> simp <;> omega
theorem movesF_le (st : St) : (movesF st).length ≤ 5 := by
  unfold movesF
  by_cases h : stOk st = 0
  · have := (right_of_ok h).lens
    have h2 := movesUp_le st st.2.2.length
    simp [h]; omega
  · simp [h]

set_option maxHeartbeats 2000000 in
theorem implMoves_any (v : Value) (st : St) (w : World) (h : StateAt w v st) (hcap : CapSt w v st.2.1.length) (hp : ∀ i, i < st.2.1.length → (tPath st.2.1 i).length ≤ 4611686018427387904) :
    Calls Tryd.prog 17 #[v] w fun e w' => ∃ r, e = .returned r ∧ OwnInts w.heap.size w' r (movesF st) ∧ Below w.heap.size w w' := by
  have HS := hide h
  have HP := hide hp
  have HCP := hide hcap
  clear hp hcap
  obtain ⟨a1, q1, a2, q2, a3, q3, rfl⟩ := h.form
  clear h
  go_enter Tryd.func17, Tryd.ntmps17
  go_wp2_with fail
  refine (implStateOk_any _ st _ (HS.out.below (Joins.below_alloc1 _ _)) HP.out).mono ?_
  rintro e w1 ⟨rfl, hb1⟩
  have c0 : w1.cell? ⟨w.heap.size, 0, none⟩ = some (.slice a1 st.1.length q1) := cell_later hb1 (by simp)
  have c1 : w1.cell? ⟨w.heap.size, 1, none⟩ = some (.slice a2 st.2.1.length q2) := cell_later hb1 (by simp)
  have c2 : w1.cell? ⟨w.heap.size, 2, none⟩ = some (.slice a3 st.2.2.length q3) := cell_later hb1 (by simp)
  have HB1 := hide (below_tail (Joins.below_alloc1 w (.cells #[.slice a1 st.1.length q1, .slice a2 st.2.1.length q2, .slice a3 st.2.2.length q3] 26)) hb1)
  clear hb1
  by_cases hok : stOk st = 0
  · have HR := hide (right_of_ok hok)
    have hokb : (stOk st != 0) = false := by simp [hok]
    have HF := hide (show movesF st = movesUp st st.2.2.length by simp [movesF, hok])
    obtain ⟨l1, l2, l3, l4⟩ := HR.out.lens
    have HL4 := hide l4
    have hn5 : st.2.2.length ≤ 5 := by omega
    clear hok l4
    generalize stOk st = code at *
    go_wp2_with fail
    have HC0 := hide c0
    have HC1 := hide c1
    have HC2 := hide c2
    go_loopw [3, 12] (fun u i wr => ∃ k : Nat, k ≤ st.2.2.length ∧ i = .int .i64 k ∧ OwnInts w1.heap.size wr u (movesUp st k) ∧ Below w1.heap.size w1 wr) (fun _ i _ => st.2.2.length - (intOf i).toNat)
    case atStart => exact ⟨0, Nat.zero_le _, rfl, OwnInts.nil _ _, Below.refl _ _⟩
    case round =>
      obtain ⟨k, hk, rfl, hown, hb⟩ := hrel
      have hbw := below_tail HB1.out hb
      by_cases hlt : k < st.2.2.length
      · have q0 := cell_later hb HC0.out
        have q1' := cell_later hb HC1.out
        have q2' := cell_later hb HC2.out
        have HSW := hide (HS.out.below hbw)
        obtain ⟨b, off, rfl, hx⟩ := HSW.out.parts.2.2.cellAt k hlt
        have HB := hide hb
        have HO := hide hown
        have HBW := hide hbw
        have hkt : Hid (k < st.2.1.length) := show k < _ by have := HL4.out; omega
        clear hb hown hbw c0 c1 c2
        go_wp2_with fail
        refine (canMove_any _ st pz k _ HSW.out (CapSt.below HCP.out HS.out HBW.out) HR.out (pz_ok st) hkt.out).mono ?_
        rintro e w2 ⟨rfl, hb2⟩
        rw [canP_pz]
        have HO2 := hide (HO.out.below hb2)
        have HB2 := hide (below_tail HB.out hb2)
        clear hb2
        cases hcan : canB st k with
        | false =>
          have HM := hide (show movesUp st (k + 1) = movesUp st k by simp [movesUp, hcan])
          clear hcan
          go_wp2_with fail
          go_roundw
          case rel => exact ⟨k + 1, by omega, by go_num, by rw [HM.out]; exact HO2.out, HB2.out⟩
          case measure => simp [intOf]; omega
        | true =>
          have HM := hide (show movesUp st (k + 1) = movesUp st k ++ [el st.2.2 k] by simp [movesUp, hcan])
          have hml := movesUp_le st k
          clear hcan
          obtain ⟨i0, hi, hz0, hz1, hz2⟩ := info_parts Tryd.infoInt
          have HI0 := hide hi
          have HZ0 := hide hz0
          have HZ1 := hide hz1
          have HZ2 := hide hz2
          clear hi hz0 hz1 hz2
          go_wp2_with (first | (at_builtin; refine wpList_append_lies _ rfl _ _ 23 rfl w1.heap.size 3 i0 (.int .i64 0) 1 8 Tryd.underlying23 HI0.out HZ0.out HZ1.out HZ2.out rfl (by decide) _ _ _ rfl (HO2.out.alloc _) ⟨w2.heap.size, 0, none⟩ 1 1 [.int .i64 (el st.2.2 k)] rfl rfl ?c1 ?c2 (by decide) ?c3 ?c4 ?c5 _ rfl ?_))
          case c1 => exact cell_one_new _ _ _
          case c2 => intro u hu; simp at hu; subst hu; rfl
          case c3 => unfold maxLen; omega
          case c4 => omega
          case c5 => have := HB2.out.size; simp; omega
          · intro g cap w3 hown3 hgrow _ _
            have HO3 := hide (OwnInts.snoc hown3)
            have HB3 := hide (below_grown (HB2.out.alloc HB2.out.size (.cells #[.int .i64 (el st.2.2 k)] 3)) (HO2.out.alloc (.cells #[.int .i64 (el st.2.2 k)] 3)) hgrow (by have := HB2.out.size; simp; omega) (Nat.le_refl _))
            clear hown3 hgrow
            go_wp2_with fail
            go_roundw
            case rel => exact ⟨k + 1, by omega, by go_num, by rw [HM.out]; exact HO3.out, HB3.out⟩
            case measure => simp [intOf]; omega
      · go_wp2_with fail
        go_ret
        obtain rfl : k = st.2.2.length := by omega
        exact ⟨_, rfl, by rw [HF.out]; exact hown.le HB1.out.size, hbw⟩
  · have hokb : (stOk st != 0) = true := by simp [hok]
    have HF := hide (show movesF st = [] by simp [movesF, hok])
    clear hok
    generalize stOk st = code at *
    go_wp2_with fail
    go_ret
    exact ⟨_, rfl, by rw [HF.out]; exact OwnInts.nil _ _, HB1.out⟩
end Go.Proofs.YtmjjigdnoiphbaaDoor

/-
  MEMORY OF THE CALL's OWN THAT IS WRITTEN: rows of integers, rows of trains, states; what is left alone.
-/
namespace Go.Proofs.YtmjjigdnoiphbaaDoor
open Go.RowKit Go.Deep
set_option linter.unusedVariables false

/-- of the blocks that were there only those of F may have turned -/
structure Chg (F : Nat → Prop) (w w' : World) : Prop where
  os : w'.os = w.os
  tape : w'.tape = w.tape
  output : w'.output = w.output
  size : w.heap.size ≤ w'.heap.size
  block : ∀ k, k < w.heap.size → ¬ F k → w'.heap[k]? = w.heap[k]?

theorem Chg.refl (F : Nat → Prop) (w : World) : Chg F w w := ⟨rfl, rfl, rfl, Nat.le_refl _, fun _ _ _ => rfl⟩
theorem Chg.trans {F : Nat → Prop} {a b c : World} (h : Chg F a b) (k : Chg F b c) : Chg F a c :=
  ⟨k.os.trans h.os, k.tape.trans h.tape, k.output.trans h.output, Nat.le_trans h.size k.size, fun i hi hf => (k.block i (Nat.lt_of_lt_of_le hi h.size) hf).trans (h.block i hi hf)⟩
theorem Chg.mono {F G : Nat → Prop} {w w' : World} (h : Chg F w w') (hFG : ∀ k, F k → G k) : Chg G w w' := ⟨h.os, h.tape, h.output, h.size, fun k hk hg => h.block k hk (fun hf => hg (hFG k hf))⟩
theorem Chg.of_below {F : Nat → Prop} {w w' : World} (h : Below w.heap.size w w') : Chg F w w' := ⟨h.os, h.tape, h.output, h.size, fun k hk _ => h.block k hk⟩
theorem Chg.below {F : Nat → Prop} {w w' : World} {B : Nat} (h : Chg F w w') (hB : B ≤ w.heap.size) (hF : ∀ k, k < B → ¬ F k) : Below B w w' := ⟨h.os, h.tape, h.output, h.size, fun k hk => h.block k (Nat.lt_of_lt_of_le hk hB) (hF k hk)⟩
theorem Chg.setCell {F : Nat → Prop} {a w : World} (h : Chg F a w) {p : Addr} (hp : F p.block) (u : Value) : Chg F a (w.setCell p u) :=
  h.trans ⟨rfl, rfl, rfl, by simp [World.setCell], fun k _ hf => Below.heap_setCell _ _ _ _ (fun e => hf (e ▸ hp))⟩
theorem Chg.alloc {F : Nat → Prop} {a w : World} (h : Chg F a w) (o : Obj) : Chg F a (w.alloc o) := h.trans (Chg.of_below (Joins.below_alloc1 _ _))

theorem frozen_setCell (w : World) (a q : Addr) (v : Value) : (w.setCell a v).frozen? q = w.frozen? q := by
  by_cases h : q.block = a.block
  · unfold World.frozen? World.setCell
    simp only [Array.getElem?_modify, h, if_pos]
    cases w.heap[a.block]? with
    | none => rfl
    | some o => cases o <;> rfl
  · exact World.frozen?_of_block (Below.heap_setCell _ _ _ _ h)

/-- the block that an address leads to -/
def FA (a : Option Addr) (k : Nat) : Prop := ∃ off, a = some ⟨k, off, none⟩

/-- n integers of one block, none frozen -/
def OwnF (w : World) (a : Option Addr) (n : Nat) (X : Nat → Int) : Prop :=
  ∀ i, i < n → ∃ b off, a = some ⟨b, off, none⟩ ∧ w.cell? ⟨b, off + i, none⟩ = some (.int .i64 (X i)) ∧ w.frozen? ⟨b, off + i, none⟩ = false

theorem OwnF.congr {w : World} {a : Option Addr} {n : Nat} {X Y : Nat → Int} (h : OwnF w a n X) (e : ∀ i, i < n → X i = Y i) : OwnF w a n Y := fun i hi => by rw [← e i hi]; exact h i hi
theorem OwnF.keep {w w' : World} {a : Option Addr} {n : Nat} {X : Nat → Int} (h : OwnF w a n X) (hb : ∀ k, k < w.heap.size → FA a k → w'.heap[k]? = w.heap[k]?) : OwnF w' a n X := fun i hi => by
  obtain ⟨b, off, e, hc, hz⟩ := h i hi
  have := hb b (World.block_lt_of_cell? _ _ hc) ⟨off, e⟩
  exact ⟨b, off, e, (World.cell?_of_block (a := ⟨b, off + i, none⟩) this).trans hc, (World.frozen?_of_block (a := ⟨b, off + i, none⟩) this).trans hz⟩
theorem OwnF.chg {G : Nat → Prop} {w w' : World} {a : Option Addr} {n : Nat} {X : Nat → Int} (h : OwnF w a n X) (hc : Chg G w w') (hFG : ∀ k, FA a k → ¬ G k) : OwnF w' a n X := h.keep (fun k hk hf => hc.block k hk (hFG k hf))
theorem OwnF.below {w w' : World} {a : Option Addr} {n : Nat} {X : Nat → Int} (h : OwnF w a n X) (hb : Below w.heap.size w w') : OwnF w' a n X := h.keep (fun k hk _ => hb.block k hk)

def upd {α : Type} (f : Nat → α) (k : Nat) (x : α) : Nat → α := fun i => if i = k then x else f i
theorem upd_same {α : Type} (f : Nat → α) (k : Nat) (x : α) : upd f k x k = x := if_pos rfl
theorem upd_other {α : Type} (f : Nat → α) {k i : Nat} (x : α) (h : i ≠ k) : upd f k x i = f i := if_neg h

theorem OwnF.set {w : World} {b off : Nat} {n : Nat} {X : Nat → Int} (h : OwnF w (some ⟨b, off, none⟩) n X) (k : Nat) (x : Int) : OwnF (w.setCell ⟨b, off + k, none⟩ (.int .i64 x)) (some ⟨b, off, none⟩) n (upd X k x) := fun i hi => by
  obtain ⟨b', off', e, hc, hz⟩ := h i hi
  simp only [Option.some.injEq, Addr.mk.injEq, and_true] at e
  obtain ⟨rfl, rfl⟩ := e
  refine ⟨b, off, rfl, ?_, by rw [frozen_setCell]; exact hz⟩
  by_cases e : i = k
  · subst e
    rw [upd_same, World.cell?_setCell_same _ _ _ hc]
  · rw [upd_other _ _ e, World.cell?_setCell_other _ _ _ _ (by simp <;> omega)]
    exact hc

theorem OwnF.at {w : World} {a : Option Addr} {xs : List Int} {cap : Nat} {X : Nat → Int} (h : OwnF w a xs.length X) (e : ∀ i, i < xs.length → X i = el xs i) : IntsAt w (.slice a xs.length cap) xs :=
  ⟨a, cap, rfl, fun i hi => let ⟨b, off, ha, hc, _⟩ := h i hi; ⟨b, off, ha, by rw [← e i hi]; exact hc⟩⟩

theorem OwnInts.ownF {base : Nat} {w : World} {v : Value} {xs : List Int} (h : OwnInts base w v xs) : ∃ a cap, v = .slice a xs.length cap ∧ OwnF w a xs.length (el xs) ∧ ∀ k, FA a k → base ≤ k ∧ k < w.heap.size := by
  rcases h.lies with ⟨rfl, rfl⟩ | ⟨g, cap, cur, rfl, hg, hh, _, _, _, hc⟩
  · exact ⟨none, 0, rfl, fun i hi => absurd hi (Nat.not_lt_zero _), fun k ⟨off, e⟩ => by cases e⟩
  · refine ⟨_, cap, rfl, fun i hi => ⟨g, 0, rfl, by rw [Nat.zero_add, cell_of_row w g i cur 3 (0, 0) hh]; exact hc i hi, by simp [World.frozen?, hh]⟩, fun k ⟨off, e⟩ => ?_⟩
    simp only [Option.some.injEq, Addr.mk.injEq, and_true] at e
    obtain ⟨rfl, _⟩ := e
    exact ⟨hg, (Array.getElem?_eq_some_iff.1 hh).1⟩

theorem FA_some {b o k : Nat} (h : FA (some ⟨b, o, none⟩) k) : k = b := by
  obtain ⟨off, e⟩ := h
  simp only [Option.some.injEq, Addr.mk.injEq, and_true] at e
  exact e.1.symm
theorem FA_mk (b o : Nat) : FA (some ⟨b, o, none⟩) b := ⟨o, rfl⟩

theorem rowIs_ownF {w : World} {b n : Nat} {t : TypeId} {X : Nat → Int} (h : w.rowIs b t n (fun j => .int .i64 (X j))) : OwnF w (some ⟨b, 0, none⟩) n X := fun i hi => ⟨b, 0, rfl, by rw [Nat.zero_add]; exact h.cell hi, h.frozen _⟩

/-- a row of trains of the call's own; its paths lie elsewhere, each by itself -/
structure OwnT (w : World) (a : Option Addr) (n : Nat) (pa : Nat → Option Addr) (pl pc : Nat → Nat) (X Y : Nat → Int) (Z : Nat → Nat → Int) : Prop where
  row : ∀ i, i < n → ∃ b off, a = some ⟨b, off, none⟩ ∧ w.cell? ⟨b, off + i * 3, none⟩ = some (.int .i64 (X i)) ∧ w.cell? ⟨b, off + i * 3 + 1, none⟩ = some (.slice (pa i) (pl i) (pc i)) ∧ w.cell? ⟨b, off + i * 3 + 2, none⟩ = some (.int .i64 (Y i)) ∧ ∀ o, o < 3 → w.frozen? ⟨b, off + i * 3 + o, none⟩ = false
  path : ∀ i, i < n → OwnF w (pa i) (pl i) (Z i)
  ne : ∀ i k, i < n → FA (pa i) k → ¬ FA a k
  inj : ∀ i j k, i < n → j < n → i ≠ j → FA (pa i) k → ¬ FA (pa j) k

def FT (a : Option Addr) (pa : Nat → Option Addr) (n : Nat) : Nat → Prop := fun k => FA a k ∨ ∃ i, i < n ∧ FA (pa i) k

section
variable {w w' : World} {a : Option Addr} {n : Nat} {pa : Nat → Option Addr} {pl pc : Nat → Nat} {X Y : Nat → Int} {Z : Nat → Nat → Int}

theorem OwnT.congr {X' Y' : Nat → Int} {Z' : Nat → Nat → Int} (h : OwnT w a n pa pl pc X Y Z) (e1 : ∀ i, i < n → X i = X' i) (e2 : ∀ i, i < n → Y i = Y' i) (e3 : ∀ i j, i < n → j < pl i → Z i j = Z' i j) : OwnT w a n pa pl pc X' Y' Z' :=
  ⟨fun i hi => by rw [← e1 i hi, ← e2 i hi]; exact h.row i hi, fun i hi => (h.path i hi).congr (fun j hj => e3 i j hi hj), h.ne, h.inj⟩

theorem OwnT.keep (h : OwnT w a n pa pl pc X Y Z) (hb : ∀ k, k < w.heap.size → FT a pa n k → w'.heap[k]? = w.heap[k]?) : OwnT w' a n pa pl pc X Y Z :=
  ⟨fun i hi => by
    obtain ⟨b, off, e, h0, h1, h2, h3⟩ := h.row i hi
    have hk := hb b (World.block_lt_of_cell? _ _ h0) (Or.inl ⟨off, e⟩)
    exact ⟨b, off, e, (World.cell?_of_block (a := ⟨b, off + i * 3, none⟩) hk).trans h0, (World.cell?_of_block (a := ⟨b, off + i * 3 + 1, none⟩) hk).trans h1, (World.cell?_of_block (a := ⟨b, off + i * 3 + 2, none⟩) hk).trans h2, fun o ho => (World.frozen?_of_block (a := ⟨b, off + i * 3 + o, none⟩) hk).trans (h3 o ho)⟩,
   fun i hi => (h.path i hi).keep (fun k hk e => hb k hk (Or.inr ⟨i, hi, e⟩)), h.ne, h.inj⟩

theorem OwnT.below (h : OwnT w a n pa pl pc X Y Z) (hb : Below w.heap.size w w') : OwnT w' a n pa pl pc X Y Z := h.keep (fun k hk _ => hb.block k hk)

/-- a store into a train's first or third cell -/
theorem OwnT.setAt {b off : Nat} (h : OwnT w (some ⟨b, off, none⟩) n pa pl pc X Y Z) (k : Nat) (x : Int) : OwnT (w.setCell ⟨b, off + k * 3, none⟩ (.int .i64 x)) (some ⟨b, off, none⟩) n pa pl pc (upd X k x) Y Z := by
  refine ⟨fun i hi => ?_, fun i hi => (h.path i hi).keep (fun k' _ e => Below.heap_setCell _ _ _ _ (fun e' => h.ne i k' hi e (by simp only at e'; rw [e']; exact FA_mk _ _))), h.ne, h.inj⟩
  obtain ⟨b', off', e, h0, h1, h2, h3⟩ := h.row i hi
  simp only [Option.some.injEq, Addr.mk.injEq, and_true] at e
  obtain ⟨rfl, rfl⟩ := e
  refine ⟨b, off, rfl, ?_, ?_, ?_, fun o ho => by rw [frozen_setCell]; exact h3 o ho⟩
  · by_cases e : i = k
    · subst e
      rw [upd_same, World.cell?_setCell_same _ _ _ h0]
    · rw [upd_other _ _ e, World.cell?_setCell_other _ _ _ _ (by simp <;> omega)]
      exact h0
  · rw [World.cell?_setCell_other _ _ _ _ (by simp <;> omega)]
    exact h1
  · rw [World.cell?_setCell_other _ _ _ _ (by simp <;> omega)]
    exact h2
theorem OwnT.setWt {b off : Nat} (h : OwnT w (some ⟨b, off, none⟩) n pa pl pc X Y Z) (k : Nat) (x : Int) : OwnT (w.setCell ⟨b, off + k * 3 + 2, none⟩ (.int .i64 x)) (some ⟨b, off, none⟩) n pa pl pc X (upd Y k x) Z := by
  refine ⟨fun i hi => ?_, fun i hi => (h.path i hi).keep (fun k' _ e => Below.heap_setCell _ _ _ _ (fun e' => h.ne i k' hi e (by simp only at e'; rw [e']; exact FA_mk _ _))), h.ne, h.inj⟩
  obtain ⟨b', off', e, h0, h1, h2, h3⟩ := h.row i hi
  simp only [Option.some.injEq, Addr.mk.injEq, and_true] at e
  obtain ⟨rfl, rfl⟩ := e
  refine ⟨b, off, rfl, ?_, ?_, ?_, fun o ho => by rw [frozen_setCell]; exact h3 o ho⟩
  · rw [World.cell?_setCell_other _ _ _ _ (by simp <;> omega)]
    exact h0
  · rw [World.cell?_setCell_other _ _ _ _ (by simp <;> omega)]
    exact h1
  · by_cases e : i = k
    · subst e
      rw [upd_same, World.cell?_setCell_same _ _ _ h2]
    · rw [upd_other _ _ e, World.cell?_setCell_other _ _ _ _ (by simp <;> omega)]
      exact h2

/-- a train's path has been written -/
theorem OwnT.setPath (h : OwnT w a n pa pl pc X Y Z) {k : Nat} (hk : k < n) (hc : Chg (FA (pa k)) w w') {Z1 : Nat → Int} (hp : OwnF w' (pa k) (pl k) Z1) : OwnT w' a n pa pl pc X Y (upd Z k Z1) := by
  refine ⟨fun i hi => ?_, fun i hi => ?_, h.ne, h.inj⟩
  · obtain ⟨b, off, e, h0, h1, h2, h3⟩ := h.row i hi
    have hkk := hc.block b (World.block_lt_of_cell? _ _ h0) (fun e' => h.ne k b hk e' ⟨off, e⟩)
    exact ⟨b, off, e, (World.cell?_of_block (a := ⟨b, off + i * 3, none⟩) hkk).trans h0, (World.cell?_of_block (a := ⟨b, off + i * 3 + 1, none⟩) hkk).trans h1, (World.cell?_of_block (a := ⟨b, off + i * 3 + 2, none⟩) hkk).trans h2, fun o ho => (World.frozen?_of_block (a := ⟨b, off + i * 3 + o, none⟩) hkk).trans (h3 o ho)⟩
  · by_cases e : i = k
    · subst e
      rw [upd_same]
      exact hp
    · rw [upd_other _ _ e]
      exact (h.path i hi).chg hc (fun q hq => h.inj i k q hi hk e hq)

theorem OwnT.at {ts : List Tr} {cap : Nat} (h : OwnT w a ts.length pa pl pc X Y Z) (e1 : ∀ i, i < ts.length → X i = tAt ts i) (e2 : ∀ i, i < ts.length → Y i = tWt ts i) (e3 : ∀ i, i < ts.length → pl i = (tPath ts i).length) (e4 : ∀ i j, i < ts.length → j < pl i → Z i j = el (tPath ts i) j) : TrainsAt w (.slice a ts.length cap) ts :=
  ⟨a, cap, rfl, fun i hi => by
    obtain ⟨b, off, ha, h0, h1, h2, _⟩ := h.row i hi
    refine ⟨b, off, ha, .slice (pa i) (pl i) (pc i), by rw [← e1 i hi]; exact h0, h1, ?_, by rw [← e2 i hi]; exact h2⟩
    have hp := h.path i hi
    rw [e3 i hi] at hp ⊢
    exact hp.at (fun j hj => e4 i j hi (by rw [e3 i hi]; exact hj))⟩
end

/-- what is counted through when trains are marked -/
def cnt (m : Int) (pl : Nat → Nat) : Nat → Int
  | 0 => m
  | i + 1 => cnt m pl i + (pl i + 2 : Nat)
theorem cnt_le {m : Int} {pl : Nat → Nat} {n : Nat} (h : ∀ i, i < n → pl i ≤ 1048576) : ∀ k, k ≤ n → m ≤ cnt m pl k ∧ cnt m pl k ≤ m + k * 1048578
  | 0, _ => by simp [cnt]
  | k + 1, hk => by
    obtain ⟨h1, h2⟩ := cnt_le (m := m) h k (by omega)
    have := h k (by omega)
    simp only [cnt]
    omega
end Go.Proofs.YtmjjigdnoiphbaaDoor
