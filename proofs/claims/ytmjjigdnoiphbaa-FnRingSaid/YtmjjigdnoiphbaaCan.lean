/-
  impl.countOn, impl.canMove.
-/
import Derived.Test.YtmjjigdnoiphbaaPrg
namespace Go.Proofs.Ytmjjigdnoiphbaa
open Go.RowKit Go.Deep
set_option linter.unusedVariables false

/-- train i has left -/
def leftB (ts : List Tr) (d : Nat → Nat) (i : Nat) : Bool := decide ((tPath ts i).length < d i)
/-- train i is on section s yet -/
def onB (ts : List Tr) (d : Nat → Nat) (s : Int) (i : Nat) : Bool := !leftB ts d i && (farAt (tAt ts i) (tPath ts i) (d i) == s)
def cntUp (ts : List Tr) (d : Nat → Nat) (s : Int) : Nat → Nat
  | 0 => 0
  | k + 1 => cntUp ts d s k + if onB ts d s k = true then 1 else 0
theorem cntUp_le (ts : List Tr) (d : Nat → Nat) (s : Int) : ∀ k, cntUp ts d s k ≤ k
  | 0 => Nat.le_refl _
  | k + 1 => by have := cntUp_le ts d s k; unfold cntUp; split <;> omega
/-- train i can move -/
def canP (st : St) (d : Nat → Nat) (i : Nat) : Bool :=
  !leftB st.2.1 d i && (decide ((tPath st.2.1 i).length = d i) || decide ((cntUp st.2.1 d (el (tPath st.2.1 i) (d i)) st.2.1.length : Int) < el st.1 (el (tPath st.2.1 i) (d i)).toNat))
/-- nobody has done more moves than there are -/
def PrOk (st : St) (d : Nat → Nat) : Prop := ∀ i, i < st.2.1.length → d i ≤ (tPath st.2.1 i).length + 1

theorem cells5 {w : World} {b : Nat} {x0 x1 x2 x3 x4 : Value} {t : TypeId} (h : w.heap[b]? = some (.cells #[x0, x1, x2, x3, x4] t (0, 0))) :
    w.cell? ⟨b, 0, none⟩ = some x0 ∧ w.cell? ⟨b, 1, none⟩ = some x1 ∧ w.cell? ⟨b, 2, none⟩ = some x2 ∧ w.cell? ⟨b, 3, none⟩ = some x3 ∧ w.cell? ⟨b, 4, none⟩ = some x4 :=
  ⟨by rw [cell_of_row w b 0 _ t (0, 0) h]; rfl, by rw [cell_of_row w b 1 _ t (0, 0) h]; rfl, by rw [cell_of_row w b 2 _ t (0, 0) h]; rfl, by rw [cell_of_row w b 3 _ t (0, 0) h]; rfl, by rw [cell_of_row w b 4 _ t (0, 0) h]; rfl⟩
theorem blockLater {w w' : World} (hb : Below w.heap.size w w') {b : Nat} {o : Obj} (h : w.heap[b]? = some o) : w'.heap[b]? = some o := (hb.block b (Array.getElem?_eq_some_iff.1 h).1).trans h

theorem run_field0 (x y : Int) (u : Value) (w : World) : (Instr.field 39 (.agg #[.int .i64 x, u, .int .i64 y]) 0).run Try.prog w = .ok (.int .i64 x) w := by
  obtain ⟨i0, hi, hz0, hz1, hz2⟩ := info_parts Try.infoInt
  simp [Instr.field, run_underlying Try.underlying39, run_underlying Try.underlying3, part, isAgg, sizeOf, typeInfo, hi, hz1, asAgg, go_sem]
theorem run_field1 (x y : Int) (u : Value) (w : World) : (Instr.field 39 (.agg #[.int .i64 x, u, .int .i64 y]) 1).run Try.prog w = .ok u w := by
  simp [Instr.field, run_underlying Try.underlying39, run_underlying Try.underlying23, part, isAgg, sizeOf, typeInfo, asAgg, go_sem]

set_option maxRecDepth 4000 in
set_option maxHeartbeats 4000000 in
theorem countOn_any (v : Value) (st : St) (d : Nat → Nat) (s : Int) (w : World) (h : StateAt w v st) (hcap : CapSt w v st.2.1.length) (hr : RightSt st) (hd : PrOk st d) :
    Calls Try.prog 82 #[v, pv d, .int .i64 s] w fun e w' => e = .returned (.int .i64 (cntUp st.2.1 d s st.2.1.length)) ∧ Below w.heap.size w w' := by
  have HS := hide h
  have HR := hide hr
  have HD := hide hd
  obtain ⟨a1, q1, a2, q2, a3, q3, rfl⟩ := h.form
  have HCAP := hide (hcap _ _ _ _ _ _ _ _ _ rfl)
  obtain ⟨l1, l2, l3, l4⟩ := hr.lens
  clear h hr hcap hd l4
  unfold pv pc5
  go_enter Try.func82, Try.ntmps82
  go_wp2_with fail
  obtain ⟨V, hV⟩ : ∃ V, V = (w.alloc (.cells #[.slice a1 st.1.length q1, .slice a2 st.2.1.length q2, .slice a3 st.2.2.length q3] 26)).alloc (.cells #[.int .i8 (d 0), .int .i8 (d 1), .int .i8 (d 2), .int .i8 (d 3), .int .i8 (d 4)] 63) := ⟨_, rfl⟩
  rw [← hV]
  have HP : Hid (V.heap[w.heap.size + 1]? = some (.cells #[.int .i8 (d 0), .int .i8 (d 1), .int .i8 (d 2), .int .i8 (d 3), .int .i8 (d 4)] 63 (0, 0))) := by rw [hV]; exact heap_alloc2_new _ _ _
  have HBV : Hid (Below w.heap.size w V) := by rw [hV]; exact Joins.below_alloc2 _ _ _
  clear hV
  go_loopw [7, 13] (fun u i wr => ∃ k : Nat, k ≤ st.2.1.length ∧ i = .int .i64 k ∧ u = .int .i64 (cntUp st.2.1 d s k) ∧ Below V.heap.size V wr) (fun _ i _ => st.2.1.length - (intOf i).toNat)
  case atStart => exact ⟨0, Nat.zero_le _, rfl, rfl, Below.refl _ _⟩
  case round =>
    obtain ⟨k, hk, rfl, rfl, hb⟩ := hrel
    by_cases hlt : k < st.2.1.length
    · have hbw := below_tail HBV.out hb
      obtain ⟨b, off, rfl, vp, t0, t1, hI, t2⟩ := HS.out.parts.2.1.trainAt k hlt
      have hI' := hI.below hbw
      obtain ⟨ap, cp, rfl, -⟩ := id hI
      have HCP : Hid ((tPath st.2.1 k).length ≤ cp) := HCAP.out k b off _ _ _ hlt rfl t1
      have g0 := cell_later hbw t0
      have g1 := cell_later hbw t1
      have g2 := cell_later hbw t2
      have h8 := (HR.out.train k hlt).2.2.1
      have hdk := HD.out k hlt
      have hp := blockLater hb HP.out
      obtain ⟨p0, p1, p2, p3, p4⟩ := cells5 hp
      have hplt : w.heap.size + 1 < wr.heap.size := (Array.getElem?_eq_some_iff.1 hp).1
      have HPR := hide hp
      have HI := hide hI'
      have HB := hide hb
      have hcu := cntUp_le st.2.1 d s k
      clear t0 t1 t2 hI hI' hb hbw hp
      go_wp2_with fail
      refine (hasLeft_any d _ _ _ _ _ k _ (by omega) (by omega) (by omega)).mono ?_
      rintro e w2 ⟨rfl, hb2⟩
      have hbT : Below wr.heap.size wr w2 := below_tail (Joins.below_alloc1 _ _) hb2
      have x0 : w2.cell? ⟨wr.heap.size, 0, none⟩ = some (.int .i64 (tAt st.2.1 k)) := cell_later hb2 (by simp)
      have x1 : w2.cell? ⟨wr.heap.size, 1, none⟩ = some (.slice ap (tPath st.2.1 k).length cp) := cell_later hb2 (by simp)
      have x2 : w2.cell? ⟨wr.heap.size, 2, none⟩ = some (.int .i64 (tWt st.2.1 k)) := cell_later hb2 (by simp)
      obtain ⟨r0, r1, r2, r3, r4⟩ := cells5 (blockLater hbT HPR.out)
      have HB2 := hide (below_tail HB.out hbT)
      have HI2 := hide (HI.out.below hbT)
      clear hb2 hbT p0 p1 p2 p3 p4 g0 g1 g2
      by_cases hle : (tPath st.2.1 k).length < d k
      · have hleb : decide ((tPath st.2.1 k).length < d k) = true := by simp [hle]
        have HC := hide (show cntUp st.2.1 d s (k + 1) = cntUp st.2.1 d s k by simp [cntUp, onB, leftB, hle])
        rw [hleb]
        clear hle hleb
        go_wp2_with fail
        go_roundw
        case rel => exact ⟨k + 1, by omega, by go_num, by rw [HC.out], HB2.out⟩
        case measure => simp [intOf]; omega
      · have hleb : decide ((tPath st.2.1 k).length < d k) = false := by simp [hle]
        have HC := hide (show cntUp st.2.1 d s (k + 1) = cntUp st.2.1 d s k + if (farAt (tAt st.2.1 k) (tPath st.2.1 k) (d k) == s) = true then 1 else 0 by simp [cntUp, onB, leftB, hle])
        rw [hleb]
        have hle' : d k ≤ (tPath st.2.1 k).length := by omega
        clear hle hleb
        go_wp2_with fail
        refine (trainBehind_any d _ _ (tPath st.2.1 k) _ _ k _ (by omega) hle' (by omega) HCP.out HI2.out).mono ?_
        rintro e w3 ⟨a', c', rfl, -, -, hb3⟩
        have HB3 := hide (below_tail HB2.out hb3)
        clear hb3 x0 x1 x2 r0 r1 r2 r3 r4
        generalize farAt (tAt st.2.1 k) (tPath st.2.1 k) (d k) = z at *
        generalize (List.drop (d k) (tPath st.2.1 k)).length = zl at *
        have hf0 := fun w => run_field0 z (tWt st.2.1 k) (.slice a' zl c') w
        cases hon : (z == s)
        all_goals
          rw [hon] at HC
          go_wp2_with fail
          go_roundw
          case rel => exact ⟨k + 1, by omega, by go_num, by rw [HC.out]; simp, HB3.out⟩
          case measure => simp [intOf]; omega
    · go_wp2_with fail
      go_ret
      obtain rfl : k = st.2.1.length := by omega
      exact ⟨rfl, below_tail HBV.out hb⟩

theorem trainBehind_at (d : Nat → Nat) (x y z : Int) (p r : List Int) (a : Option Addr) (c i : Nat) (w : World) (hi : i < 5) (hd : d i ≤ p.length) (hl : p.length ≤ 8) (hc : p.length ≤ c) (hI : IntsAt w (.slice a p.length c) p) (hz : farAt x p (d i) = z) (hr : p.drop (d i) = r) :
    Calls Try.prog 81 #[pv d, .agg #[.int .i64 x, .slice a p.length c, .int .i64 y], .int .i64 i] w fun e w' => ∃ a' c', e = .returned (.agg #[.int .i64 z, .slice a' r.length c', .int .i64 y]) ∧ (∀ w0, IntsAt w0 (.slice a p.length c) p → IntsAt w0 (.slice a' r.length c') r) ∧ r.length ≤ c' ∧ Below w.heap.size w w' := by
  subst hz hr
  exact trainBehind_any d x y p a c i w hi hd hl hc hI

set_option maxRecDepth 4000 in
set_option maxHeartbeats 4000000 in
theorem canMove_any (v : Value) (st : St) (d : Nat → Nat) (i : Nat) (w : World) (h : StateAt w v st) (hcap : CapSt w v st.2.1.length) (hr : RightSt st) (hd : PrOk st d) (hi : i < st.2.1.length) :
    Calls Try.prog 45 #[v, pv d, .int .i64 i] w fun e w' => e = .returned (.bool (canP st d i)) ∧ Below w.heap.size w w' := by
  have HS := hide h
  have HR := hide hr
  have HD := hide hd
  have HCS := hide hcap
  obtain ⟨a1, q1, a2, q2, a3, q3, rfl⟩ := h.form
  obtain ⟨hp1, hp2, hp3⟩ := h.parts
  obtain ⟨b, off, rfl, vp, t0, t1, hI, t2⟩ := hp2.trainAt i hi
  obtain ⟨l1, l2, l3, l4⟩ := hr.lens
  have HI := hide hI
  obtain ⟨ap, cp, rfl, -⟩ := hI
  have HCP : Hid ((tPath st.2.1 i).length ≤ cp) := hcap _ _ _ _ _ _ _ _ _ rfl i b off _ _ _ hi rfl t1
  have h8 := (hr.train i hi).2.2.1
  have hdi := hd i hi
  have HP1 := hide hp1
  have hii : (i : Int) < (st.2.1.length : Int) := by omega
  have hi5 : i < 5 := by omega
  clear h hr hp1 hp2 hp3 l4 hcap hd
  unfold pv pc5
  go_enter Try.func45, Try.ntmps45
  go_wp2_with fail
  obtain ⟨V, hV⟩ : ∃ V, V = (w.alloc (.cells #[.slice a1 st.1.length q1, .slice (some ⟨b, off, none⟩) st.2.1.length q2, .slice a3 st.2.2.length q3] 26)).alloc (.cells #[.int .i8 (d 0), .int .i8 (d 1), .int .i8 (d 2), .int .i8 (d 3), .int .i8 (d 4)] 63) := ⟨_, rfl⟩
  rw [← hV]
  have hp : V.heap[w.heap.size + 1]? = some (.cells #[.int .i8 (d 0), .int .i8 (d 1), .int .i8 (d 2), .int .i8 (d 3), .int .i8 (d 4)] 63 (0, 0)) := by rw [hV]; exact heap_alloc2_new _ _ _
  have hbV : Below w.heap.size w V := by rw [hV]; exact Joins.below_alloc2 _ _ _
  have c0 : V.cell? ⟨w.heap.size, 0, none⟩ = some (.slice a1 st.1.length q1) := by rw [hV]; simp
  have c1 : V.cell? ⟨w.heap.size, 1, none⟩ = some (.slice (some ⟨b, off, none⟩) st.2.1.length q2) := by rw [hV]; simp
  have c2 : V.cell? ⟨w.heap.size, 2, none⟩ = some (.slice a3 st.2.2.length q3) := by rw [hV]; simp
  have g0 := cell_later hbV t0
  have g1 := cell_later hbV t1
  have g2 := cell_later hbV t2
  obtain ⟨p0, p1, p2, p3, p4⟩ := cells5 hp
  have HBV := hide hbV
  clear hV t0 t1 t2 hp hbV
  go_region_held3 (fun w' => w'.cell? ⟨w.heap.size, 0, none⟩ = some (.slice a1 st.1.length q1) ∧ w'.cell? ⟨w.heap.size, 1, none⟩ = some (.slice (some ⟨b, off, none⟩) st.2.1.length q2) ∧ w'.cell? ⟨w.heap.size, 2, none⟩ = some (.slice a3 st.2.2.length q3) ∧ w'.cell? ⟨w.heap.size + 1, 0, none⟩ = some (.int .i8 (d 0)) ∧ w'.cell? ⟨w.heap.size + 1, 1, none⟩ = some (.int .i8 (d 1)) ∧ w'.cell? ⟨w.heap.size + 1, 2, none⟩ = some (.int .i8 (d 2)) ∧ w'.cell? ⟨w.heap.size + 1, 3, none⟩ = some (.int .i8 (d 3)) ∧ w'.cell? ⟨w.heap.size + 1, 4, none⟩ = some (.int .i8 (d 4)) ∧ w'.cell? ⟨b, off + i * 3, none⟩ = some (.int .i64 (tAt st.2.1 i)) ∧ w'.cell? ⟨b, off + i * 3 + 1, none⟩ = some (.slice ap (tPath st.2.1 i).length cp) ∧ w'.cell? ⟨b, off + i * 3 + 2, none⟩ = some (.int .i64 (tWt st.2.1 i)))
    (first | (exact ⟨cell_later hb2 (by exact c0), cell_later hb2 (by exact c1), cell_later hb2 (by exact c2), cell_later hb2 (by exact p0), cell_later hb2 (by exact p1), cell_later hb2 (by exact p2), cell_later hb2 (by exact p3), cell_later hb2 (by exact p4), cell_later hb2 (by exact g0), cell_later hb2 (by exact g1), cell_later hb2 (by exact g2)⟩) | go_keep)
    (first | (go_at_call 80; refine (hasLeft_any d _ _ _ _ _ i _ hi5 (by omega) (by omega)).mono ?_; rintro e w2 ⟨rfl, hb2⟩))
  rename_i hh
  clear c0 c1 c2 p0 p1 p2 p3 p4 g0 g1 g2
  obtain ⟨c0, c1, c2, p0, p1, p2, p3, p4, g0, g1, g2⟩ := hh
  have HB2 := hide (below_tail HBV.out.drew hb2)
  have HI2 := hide (IntsAt.below HI.out HB2.out)
  clear hb2 HBV
  by_cases hle : (tPath st.2.1 i).length < d i
  · have hleb : decide ((tPath st.2.1 i).length < d i) = true := by simp [hle]
    have HF := hide (show canP st d i = false by simp [canP, leftB, hle])
    rw [hleb]
    clear hle hleb
    go_wp2_with fail
    go_ret
    exact ⟨by rw [HF.out]; rfl, HB2.out⟩
  · have hleb : decide ((tPath st.2.1 i).length < d i) = false := by simp [hle]
    have hle' : d i ≤ (tPath st.2.1 i).length := by omega
    rw [hleb]
    have HF := hide (show canP st d i = (decide ((List.drop (d i) (tPath st.2.1 i)).length = 0) || decide ((cntUp st.2.1 d (el (List.drop (d i) (tPath st.2.1 i)) 0) st.2.1.length : Int) < el st.1 (el (List.drop (d i) (tPath st.2.1 i)) 0).toNat)) by
      simp only [canP, leftB, hleb, List.length_drop, el, List.getElem?_drop, Nat.add_zero]
      simp only [Bool.not_false, Bool.true_and]
      congr 1
      rw [decide_eq_decide]
      omega)
    have HQ : Hid (∀ j, j < (List.drop (d i) (tPath st.2.1 i)).length → ∃ k : Nat, el (List.drop (d i) (tPath st.2.1 i)) j = (k : Int) ∧ k < st.1.length) := fun j hj => by
      rw [List.length_drop] at hj
      obtain ⟨u1, u2⟩ := (HR.out.train i hi).2.2.2.2.2 (d i + j) (by omega)
      refine ⟨(el (tPath st.2.1 i) (d i + j)).toNat, ?_, by omega⟩
      have : el (List.drop (d i) (tPath st.2.1 i)) j = el (tPath st.2.1 i) (d i + j) := by simp [el, List.getElem?_drop]
      rw [this]
      omega
    have h8' : (List.drop (d i) (tPath st.2.1 i)).length ≤ 8 := by rw [List.length_drop]; omega
    obtain ⟨r, hrr⟩ : ∃ r, List.drop (d i) (tPath st.2.1 i) = r := ⟨_, rfl⟩
    obtain ⟨z, hz⟩ : ∃ z, farAt (tAt st.2.1 i) (tPath st.2.1 i) (d i) = z := ⟨_, rfl⟩
    rw [hrr] at HF HQ h8'
    have HRR := hide hrr
    have HZ := hide hz
    clear hrr hz
    clear hle hleb
    have hf1 := fun (x y : Int) (u : Value) (w : World) => run_field1 x y u w
    go_wp2_with fail
    go_region_held3 (fun w' => w'.cell? ⟨w.heap.size, 0, none⟩ = some (.slice a1 st.1.length q1) ∧ w'.cell? ⟨w.heap.size, 1, none⟩ = some (.slice (some ⟨b, off, none⟩) st.2.1.length q2) ∧ w'.cell? ⟨w.heap.size, 2, none⟩ = some (.slice a3 st.2.2.length q3) ∧ w'.cell? ⟨w.heap.size + 1, 0, none⟩ = some (.int .i8 (d 0)) ∧ w'.cell? ⟨w.heap.size + 1, 1, none⟩ = some (.int .i8 (d 1)) ∧ w'.cell? ⟨w.heap.size + 1, 2, none⟩ = some (.int .i8 (d 2)) ∧ w'.cell? ⟨w.heap.size + 1, 3, none⟩ = some (.int .i8 (d 3)) ∧ w'.cell? ⟨w.heap.size + 1, 4, none⟩ = some (.int .i8 (d 4)) ∧ w'.cell? ⟨b, off + i * 3, none⟩ = some (.int .i64 (tAt st.2.1 i)) ∧ w'.cell? ⟨b, off + i * 3 + 1, none⟩ = some (.slice ap (tPath st.2.1 i).length cp) ∧ w'.cell? ⟨b, off + i * 3 + 2, none⟩ = some (.int .i64 (tWt st.2.1 i)))
      (first | (exact ⟨cell_later hb3 (by exact c0), cell_later hb3 (by exact c1), cell_later hb3 (by exact c2), cell_later hb3 (by exact p0), cell_later hb3 (by exact p1), cell_later hb3 (by exact p2), cell_later hb3 (by exact p3), cell_later hb3 (by exact p4), cell_later hb3 (by exact g0), cell_later hb3 (by exact g1), cell_later hb3 (by exact g2)⟩) | go_keep)
      (first | (go_at_call 81; refine (trainBehind_at d _ _ z (tPath st.2.1 i) r _ _ i _ hi5 hle' h8 HCP.out (IntsAt.below HI2.out (Joins.below_draws _ _ 1)) HZ.out HRR.out).mono ?_; rintro e w3 ⟨a', c', rfl, hI3, -, hb3⟩))
    rename_i hh
    clear c0 c1 c2 p0 p1 p2 p3 p4 g0 g1 g2
    obtain ⟨c0, c1, c2, p0, p1, p2, p3, p4, g0, g1, g2⟩ := hh
    have HB3 := hide (below_tail HB2.out.drew hb3)
    have HI3 := hide (hI3 _ (IntsAt.below HI.out HB3.out))
    have HS3 := hide (HS.out.below HB3.out)
    have HC3 := hide (CapSt.below HCS.out HS.out HB3.out)
    clear hb3 HB2 hI3 HI2 g0 g1 g2 HRR HZ hf1
    by_cases hz : r.length = 0
    · have hzb : ((r.length : Int) == 0) = true := by simp [hz]
      have HF2 := hide (show canP st d i = true by rw [HF.out]; simp [hz])
      clear hz
      generalize r.length = nr at *
      go_wp2_with fail
      go_quiet (fail)
      go_wp2_with fail
      go_ret
      exact ⟨by rw [HF2.out]; rfl, HB3.out.trans (Joins.below_draws _ _ _)⟩
    · have hzb : ((r.length : Int) == 0) = false := by rw [beq_eq_false_iff_ne]; omega
      obtain ⟨k, hk, hkl⟩ := HQ.out 0 (by omega)
      obtain ⟨b2, off2, rfl, hx⟩ := IntsAt.cellAt HI3.out 0 (by omega)
      obtain ⟨b3, off3, rfl, hy⟩ := IntsAt.cellAt HP1.out k hkl
      rw [hk, Nat.add_zero] at hx
      have y0 := cell_later HB3.out hy
      rw [hk] at HF
      have HF2 := hide (show canP st d i = decide ((cntUp st.2.1 d (k : Int) st.2.1.length : Int) < el st.1 k) by rw [HF.out]; simp [hz])
      have hki : (k : Int) < (st.1.length : Int) := by omega
      have hk0 : (0 : Int) ≤ (k : Int) := by omega
      have hpn : 0 < r.length := by omega
      clear hz hk hy HF HQ
      generalize r.length = np at *
      have hp0 : (0 : Int) < (np : Int) := by omega
      go_wp2_with fail
      cases hdd : decide ((cntUp st.2.1 d (k : Int) st.2.1.length : Int) < el st.1 k)
      all_goals
        rw [hdd] at HF2
        go_region_held3 (fun w' => w'.cell? ⟨w.heap.size, 0, none⟩ = some (.slice (some ⟨b3, off3, none⟩) st.1.length q1) ∧ w'.cell? ⟨w.heap.size, 1, none⟩ = some (.slice (some ⟨b, off, none⟩) st.2.1.length q2) ∧ w'.cell? ⟨w.heap.size, 2, none⟩ = some (.slice a3 st.2.2.length q3) ∧ w'.cell? ⟨w.heap.size + 1, 0, none⟩ = some (.int .i8 (d 0)) ∧ w'.cell? ⟨w.heap.size + 1, 1, none⟩ = some (.int .i8 (d 1)) ∧ w'.cell? ⟨w.heap.size + 1, 2, none⟩ = some (.int .i8 (d 2)) ∧ w'.cell? ⟨w.heap.size + 1, 3, none⟩ = some (.int .i8 (d 3)) ∧ w'.cell? ⟨w.heap.size + 1, 4, none⟩ = some (.int .i8 (d 4)) ∧ w'.cell? ⟨b2, off2, none⟩ = some (.int .i64 (k : Int)) ∧ w'.cell? ⟨b3, off3 + k, none⟩ = some (.int .i64 (el st.1 k)))
          (first | (exact ⟨cell_later hb4 (by exact c0), cell_later hb4 (by exact c1), cell_later hb4 (by exact c2), cell_later hb4 (by exact p0), cell_later hb4 (by exact p1), cell_later hb4 (by exact p2), cell_later hb4 (by exact p3), cell_later hb4 (by exact p4), cell_later hb4 (by exact hx), cell_later hb4 (by exact y0)⟩) | go_keep)
          (first | (go_at_call 82; refine (countOn_any _ st d _ _ (StateAt.below HS3.out (Joins.below_draws _ _ 1)) (CapSt.below HC3.out HS3.out (Joins.below_draws _ _ 1)) HR.out HD.out).mono ?_; rintro e w4 ⟨rfl, hb4⟩))
        all_goals
          have HB4 := hide (below_tail HB3.out.drew hb4)
          clear hb4
          go_wp2_with fail
          go_ret
          exact ⟨by rw [HF2.out]; rfl, HB4.out⟩

/-- nobody has moved -/
def pz : Nat → Nat := fun _ => 0
theorem pz_ok (st : St) : PrOk st pz := fun i hi => Nat.zero_le _
theorem cntUp_pz (ts : List Tr) (s : Int) : ∀ k, cntUp ts pz s k = thereUp ts s k
  | 0 => rfl
  | k + 1 => by
    unfold cntUp thereUp
    rw [cntUp_pz ts s k]
    simp [onB, leftB, pz, farAt]
theorem canP_pz (st : St) (i : Nat) : canP st pz i = canB st i := by
  have h1 : leftB st.2.1 pz i = false := by simp [leftB, pz]
  unfold canP canB there
  rw [h1, cntUp_pz]
  rfl
end Go.Proofs.Ytmjjigdnoiphbaa
