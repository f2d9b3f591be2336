/-
  spec: l1can (of a state that need not be right), l2weight, at.
-/
import Derived.Test.YtmjjigdnoiphbaaDoorJ5
import Derived.Test.YtmjjigdnoiphbaaDoorL3
namespace Go.Proofs.YtmjjigdnoiphbaaDoor
open Go.RowKit Go.Deep
set_option linter.unusedVariables false

theorem SoSt.first {st : St} (h : SoSt st) (i : Nat) (hi : i < st.2.1.length) (hne : ¬ (tPath st.2.1 i).length = 0) : ∃ k : Nat, el (tPath st.2.1 i) 0 = (k : Int) ∧ k < st.1.length := by
  obtain ⟨_, _, _, _, _, h6⟩ := h.train i hi
  obtain ⟨a, b⟩ := h6 0 (by omega)
  exact ⟨(el (tPath st.2.1 i) 0).toNat, by omega, by omega⟩

set_option maxHeartbeats 2000000 in
theorem l1can_so (v : Value) (st : St) (i : Nat) (w : World) (h : StateAt w v st) (hr : SoSt st) (hi : i < st.2.1.length) :
    Calls Tryd.prog 26 #[v, .int .i64 i] w fun e w' => e = .returned (.bool (canB st i)) ∧ Below w.heap.size w w' := by
  have HS := hide h
  have HR := hide hr
  obtain ⟨a1, q1, a2, q2, a3, q3, rfl⟩ := h.form
  obtain ⟨hp1, hp2, hp3⟩ := h.parts
  obtain ⟨b, off, rfl, vp, t0, t1, hI, t2⟩ := hp2.trainAt i hi
  obtain ⟨l1, l2, l3, l4⟩ := hr.lens
  have HI := hide hI
  obtain ⟨ap, cp, rfl, _⟩ := hI
  have hbl := World.block_lt_of_cell? _ _ t0
  have h8 := (hr.train i hi).2.2.1
  simp only at hbl
  clear h hr hp2 hp3 l4
  have hii : (i : Int) < (st.2.1.length : Int) := by omega
  go_enter Tryd.func26, Tryd.ntmps26
  go_wp2_with fail
  obtain ⟨V, hV⟩ : ∃ V, V = (w.alloc (.cells #[.slice a1 st.1.length q1, .slice (some ⟨b, off, none⟩) st.2.1.length q2, .slice a3 st.2.2.length q3] 26)).alloc (.cells #[.int .i64 (tAt st.2.1 i), .slice ap (tPath st.2.1 i).length cp, .int .i64 (tWt st.2.1 i)] 35) := ⟨_, rfl⟩
  rw [← hV]
  have c0 : V.cell? ⟨w.heap.size, 0, none⟩ = some (.slice a1 st.1.length q1) := by rw [hV]; simp
  have c1 : V.cell? ⟨w.heap.size, 1, none⟩ = some (.slice (some ⟨b, off, none⟩) st.2.1.length q2) := by rw [hV]; simp
  have c2 : V.cell? ⟨w.heap.size, 2, none⟩ = some (.slice a3 st.2.2.length q3) := by rw [hV]; simp
  have d1 : V.cell? ⟨w.heap.size + 1, 1, none⟩ = some (.slice ap (tPath st.2.1 i).length cp) := by rw [hV]; simp
  have hbV : Below w.heap.size w V := by rw [hV]; exact Joins.below_alloc2 _ _ _
  have HBV := hide hbV
  clear hV t0 t1 t2
  by_cases hz : (tPath st.2.1 i).length = 0
  · have hzb : (((tPath st.2.1 i).length : Int) == 0) = true := by simp [hz]
    have HF := hide (show canB st i = true by simp [canB, hz])
    clear hz hbV
    go_quiet (fail)
    go_wp2_with fail
    go_ret
    exact ⟨by rw [HF.out]; rfl, HBV.out.trans (Joins.below_draws _ _ _)⟩
  · have hzb : (((tPath st.2.1 i).length : Int) == 0) = false := by rw [beq_eq_false_iff_ne]; omega
    obtain ⟨k, hk, hkl⟩ := HR.out.first i hi hz
    obtain ⟨b2, off2, rfl, hx⟩ := HI.out.cellAt 0 (by omega)
    obtain ⟨b3, off3, rfl, hy⟩ := hp1.cellAt k hkl
    rw [hk, Nat.add_zero] at hx
    have x0 := cell_later hbV hx
    have y0 := cell_later hbV hy
    have HF := hide (show canB st i = decide ((there st.2.1 (k : Int) : Int) < el st.1 k) by simp [canB, hk, hz])
    have hp0 : (0 : Int) < ((tPath st.2.1 i).length : Int) := by omega
    have hki : (k : Int) < (st.1.length : Int) := by omega
    have hk0 : (0 : Int) ≤ (k : Int) := by omega
    have HSV := hide (HS.out.below hbV)
    have HL : Hid (st.2.1.length ≤ 4611686018427387904) := show _ ≤ _ by omega
    clear hz hx hy hk hbV hp1 HI
    generalize (tPath st.2.1 i).length = np at *
    have hpn : 0 < np := by omega
    cases hd : decide ((there st.2.1 (k : Int) : Int) < el st.1 k)
    all_goals
      rw [hd] at HF
      go_region_held3 (fun w' => w'.cell? ⟨w.heap.size, 0, none⟩ = some (.slice (some ⟨b3, off3, none⟩) st.1.length q1) ∧ w'.cell? ⟨w.heap.size, 1, none⟩ = some (.slice (some ⟨b, off, none⟩) st.2.1.length q2) ∧ w'.cell? ⟨w.heap.size, 2, none⟩ = some (.slice a3 st.2.2.length q3) ∧ w'.cell? ⟨w.heap.size + 1, 1, none⟩ = some (.slice (some ⟨b2, off2, none⟩) np cp) ∧ w'.cell? ⟨b2, off2, none⟩ = some (.int .i64 (k : Int)) ∧ w'.cell? ⟨b3, off3 + k, none⟩ = some (.int .i64 (el st.1 k)))
        (first | (exact ⟨cell_later hb2 (by exact c0), cell_later hb2 (by exact c1), cell_later hb2 (by exact c2), cell_later hb2 (by exact d1), cell_later hb2 (by exact x0), cell_later hb2 (by exact y0)⟩) | go_keep)
        (first | (go_at_call 45; refine (l1there_any _ st _ _ ?_ HL.out).mono ?_; exact (HSV.out.below (Joins.below_draws _ _ 1)); rintro e w2 ⟨rfl, hb2⟩))
      all_goals
        have HB2 := hide (below_tail HBV.out.drew hb2)
        clear hb2
        go_wp2_with fail
        go_ret
        exact ⟨by rw [HF.out]; rfl, HB2.out⟩


set_option maxHeartbeats 2000000 in
theorem l2weight_any (v : Value) (st : St) (w : World) (h : StateAt w v st) (hs : SoSt st) :
    Calls Tryd.prog 101 #[v] w fun e w' => e = .returned (.int .i64 (wtOf st)) ∧ Below w.heap.size w w' := by
  have HS := hide h
  have HO := hide hs
  obtain ⟨a1, q1, a2, q2, a3, q3, rfl⟩ := h.form
  obtain ⟨l1, l2, l3, l4⟩ := hs.lens
  clear h hs l4
  go_enter Tryd.func101, Tryd.ntmps101
  go_wp2_with fail
  obtain ⟨V, hV⟩ : ∃ V, V = w.alloc (.cells #[.slice a1 st.1.length q1, .slice a2 st.2.1.length q2, .slice a3 st.2.2.length q3] 26) := ⟨_, rfl⟩
  rw [← hV]
  have HBV : Hid (Below w.heap.size w V) := by rw [hV]; exact Joins.below_alloc1 _ _
  clear hV
  go_loopw [3, 9] (fun u i wr => ∃ k : Nat, k ≤ st.2.1.length ∧ i = .int .i64 k ∧ u = .int .i64 (wtUp st.2.1 k) ∧ Below V.heap.size V wr) (fun _ i _ => st.2.1.length - (intOf i).toNat)
  case atStart => exact ⟨0, Nat.zero_le _, rfl, rfl, Below.refl _ _⟩
  case round =>
    obtain ⟨k, hk, rfl, rfl, hb⟩ := hrel
    by_cases hlt : k < st.2.1.length
    · have hbw := below_tail HBV.out hb
      obtain ⟨b, off, rfl, vp, t0, t1, hI, t2⟩ := HS.out.parts.2.1.trainAt k hlt
      obtain ⟨ap, cp, rfl, -⟩ := hI
      have g0 := cell_later hbw t0
      have g1 := cell_later hbw t1
      have g2 := cell_later hbw t2
      obtain ⟨u1, u2⟩ := wtUp_le HO.out k hk
      obtain ⟨_, _, _, u3, u4, _⟩ := HO.out.train k hlt
      have HW := hide (show wtUp st.2.1 (k + 1) = wtUp st.2.1 k + tWt st.2.1 k from rfl)
      have HB := hide hb
      clear t0 t1 t2 hb hbw
      generalize wtUp st.2.1 k = c at *
      generalize tWt st.2.1 k = y at *
      go_wp2_with fail
      go_roundw
      case rel => exact ⟨k + 1, by omega, by go_num, by rw [HW.out], below_tail HB.out (Joins.below_alloc1 _ _)⟩
      case measure => simp [intOf]; omega
    · go_wp2_with fail
      go_ret
      obtain rfl : k = st.2.1.length := by omega
      exact ⟨rfl, below_tail HBV.out hb⟩

/-- the lengths of the paths -/
def lensOf (st : St) : List Int := st.2.1.map (fun t => (t.2.1.length : Int))
theorem lensOf_len (st : St) : (lensOf st).length = st.2.1.length := by simp [lensOf]
theorem lensOf_at {st : St} {i : Nat} (hi : i < st.2.1.length) : el (lensOf st) i = ((tPath st.2.1 i).length : Int) := by
  obtain ⟨_, e, _⟩ := tPath_get (List.getElem?_eq_getElem hi)
  rw [e]
  simp [el, lensOf, hi]

/-- what value knows of the states that were met -/
structure Tab (st0 : St) (B tb cb mb : Nat) (pv' nv : Value) (w : World) (cost : Nat → Int) (met : Nat → Bool) : Prop where
  var : w.heap[tb]? = some (.cells #[pv', nv, .slice (some ⟨cb, 0, none⟩) (prodUp st0.2.1 st0.2.1.length) (prodUp st0.2.1 st0.2.1.length), .slice (some ⟨mb, 0, none⟩) (prodUp st0.2.1 st0.2.1.length) (prodUp st0.2.1 st0.2.1.length)] 156 (0, 0))
  paths : OwnInts B w pv' (lensOf st0)
  names : OwnInts B w nv st0.2.2
  costs : w.rowIs cb 3 (prodUp st0.2.1 st0.2.1.length) (fun k => .int .i64 (cost k))
  mets : w.rowIs mb 4 (prodUp st0.2.1 st0.2.1.length) (fun k => .bool (met k))
  ok : ∀ d, PrOk st0 d → met (idxUp st0.2.1 d st0.2.1.length) = true → cost (idxUp st0.2.1 d st0.2.1.length) = val (behindSt st0 d)
  tc : tb ≠ cb
  tm : tb ≠ mb
  cm : cb ≠ mb
  pn : ∀ k, pv'.ownBlock = some k ∨ nv.ownBlock = some k → k ≠ cb ∧ k ≠ mb

theorem Tab.keep {st0 : St} {B tb cb mb : Nat} {pv' nv : Value} {w w' : World} {cost : Nat → Int} {met : Nat → Bool} (h : Tab st0 B tb cb mb pv' nv w cost met) (hb : ∀ k, k < w.heap.size → w'.heap[k]? = w.heap[k]?) : Tab st0 B tb cb mb pv' nv w' cost met :=
  ⟨(hb tb (Array.getElem?_eq_some_iff.1 h.var).1).trans h.var, ownsRow_keep h.paths (fun k hk => hb k (ownBlock_lt h.paths hk).2), ownsRow_keep h.names (fun k hk => hb k (ownBlock_lt h.names hk).2), rowIs_keep h.costs (hb cb h.costs.lt), rowIs_keep h.mets (hb mb h.mets.lt), h.ok, h.tc, h.tm, h.cm, h.pn⟩
theorem Tab.below {st0 : St} {B tb cb mb : Nat} {pv' nv : Value} {w w' : World} {cost : Nat → Int} {met : Nat → Bool} (h : Tab st0 B tb cb mb pv' nv w cost met) (hb : Below w.heap.size w w') : Tab st0 B tb cb mb pv' nv w' cost met := h.keep (fun k hk => hb.block k hk)

theorem cells4 {w : World} {b : Nat} {x0 x1 x2 x3 : Value} {t : TypeId} (h : w.heap[b]? = some (.cells #[x0, x1, x2, x3] t (0, 0))) :
    w.cell? ⟨b, 0, none⟩ = some x0 ∧ w.cell? ⟨b, 1, none⟩ = some x1 ∧ w.cell? ⟨b, 2, none⟩ = some x2 ∧ w.cell? ⟨b, 3, none⟩ = some x3 ∧ ∀ o, w.frozen? ⟨b, o, none⟩ = false :=
  ⟨by rw [cell_of_row w b 0 _ t (0, 0) h]; rfl, by rw [cell_of_row w b 1 _ t (0, 0) h]; rfl, by rw [cell_of_row w b 2 _ t (0, 0) h]; rfl, by rw [cell_of_row w b 3 _ t (0, 0) h]; rfl, fun o => frozen_of_row w b o _ t h⟩

theorem wrap_mix {ix ln lj : Nat} (h : ix * (ln + 2) ≤ 100000 * 10) (h1 : ln ≤ 8) (h2 : lj ≤ ln) : Value.int .i64 (wrap64 ((ix : Int) * ((ln : Int) + 2) + ((ln : Int) - (lj : Int)))) = .int .i64 ((ix * (ln + 2) + (ln - lj) : Nat) : Int) := by
  have e : ((ix : Int) * ((ln : Int) + 2)) = ((ix * (ln + 2) : Nat) : Int) := by simp
  rw [e]
  generalize ix * (ln + 2) = q at *
  rw [show ((q : Int) + ((ln : Int) - (lj : Int))) = ((q + (ln - lj) : Nat) : Int) by omega]
  rw [show wrap64 ((q + (ln - lj) : Nat) : Int) = ((q + (ln - lj) : Nat) : Int) by unfold wrap64; omega]
theorem wrap_mix2 {ix ln : Nat} (h : ix * (ln + 2) ≤ 100000 * 10) (h1 : ln ≤ 8) : Value.int .i64 (wrap64 ((ix : Int) * ((ln : Int) + 2) + ((ln : Int) + 1))) = .int .i64 ((ix * (ln + 2) + (ln + 1) : Nat) : Int) := by
  have e : ((ix : Int) * ((ln : Int) + 2)) = ((ix * (ln + 2) : Nat) : Int) := by simp
  rw [e]
  generalize ix * (ln + 2) = q at *
  rw [show ((q : Int) + ((ln : Int) + 1)) = ((q + (ln + 1) : Nat) : Int) by omega]
  rw [show wrap64 ((q + (ln + 1) : Nat) : Int) = ((q + (ln + 1) : Nat) : Int) by unfold wrap64; omega]

set_option maxRecDepth 4000 in
set_option maxHeartbeats 4000000 in
theorem at_any (st0 : St) (d : Nat → Nat) (B tb cb mb : Nat) (pv' nv : Value) (v : Value) (w : World) (cost : Nat → Int) (met : Nat → Bool) (hr : RightSt st0) (hd : PrOk st0 d) (h : StateAt w v (behindSt st0 d)) (ht : Tab st0 B tb cb mb pv' nv w cost met) :
    Calls Tryd.prog 100 #[.pointer (some ⟨tb, 0, none⟩), v] w fun e w' => e = .returned (.int .i64 (idxUp st0.2.1 d st0.2.1.length)) ∧ Below w.heap.size w w' := by
  have HS := hide h
  have HR := hide hr
  have HD := hide hd
  have HT := hide ht
  have HSO := hide (hr.so.behind hd)
  have HX : Hid (∀ i, i < st0.2.1.length → (∃ j : Nat, nameRes (behindSt st0 d).2.2 (el st0.2.2 i) = (j : Int) ∧ j < (behindSt st0 d).2.1.length ∧ (tPath (behindSt st0 d).2.1 j).length + d i = (tPath st0.2.1 i).length) ∨ (nameRes (behindSt st0 d).2.2 (el st0.2.2 i) = -1 ∧ d i = (tPath st0.2.1 i).length + 1)) := fun i hi => by
    obtain ⟨n1, n2⟩ := nameIx_behind hr (d := d) hi
    have hdi := hd i hi
    have hnl : (behindSt st0 d).2.2.length = (behindSt st0 d).2.1.length := HSO.out.lens.2.2.2
    cases hl : leftB st0.2.1 d i
    · left
      have hlt := behind_lt hi hl
      have hl' : ¬ (tPath st0.2.1 i).length < d i := by simpa [leftB] using hl
      refine ⟨posUp st0.2.1 d i, ?_, hlt, ?_⟩
      · unfold nameRes
        rw [n1 hl, if_pos (by omega)]
      · rw [(behind_at hi hl).2.1, List.length_drop]
        omega
    · right
      have hl' : (tPath st0.2.1 i).length < d i := by simpa [leftB] using hl
      refine ⟨?_, by omega⟩
      unfold nameRes
      rw [if_neg (n2 hl)]
  obtain ⟨st, hst⟩ : ∃ st, behindSt st0 d = st := ⟨_, rfl⟩
  rw [hst] at HX HSO h HS
  clear hst
  obtain ⟨s1, s2, s3, s4⟩ := HSO.out.lens
  have hs25 : st.2.2.length ≤ 5 := by omega
  obtain ⟨a1, q1, a2, q2, a3, q3, rfl⟩ := h.form
  obtain ⟨pa, pc, rfl⟩ := ht.paths.form
  obtain ⟨na, nc, rfl⟩ := ht.names.form
  obtain ⟨c0, c1, c2, c3, cf⟩ := cells4 ht.var
  have htl : tb < w.heap.size := (Array.getElem?_eq_some_iff.1 ht.var).1
  obtain ⟨l1, l2, l3, l4⟩ := hr.lens
  have HL4 := hide l4
  have hn5 : st0.2.2.length ≤ 5 := by omega
  have hpl := lensOf_len st0
  rw [hpl] at c0
  have HPA : Hid (IntsAt w (.slice pa st0.2.1.length pc) (lensOf st0)) := by have := ht.paths.at; rw [hpl] at this; exact this
  have HNA := hide ht.names.at
  have HC0 := hide c0
  clear h hr hd ht l4 cf c2 c3 s4 hpl c0
  go_enter Tryd.func100, Tryd.ntmps100
  go_wp2_with fail
  obtain ⟨V, hV⟩ : ∃ V, V = w.alloc (.cells #[.slice a1 st.1.length q1, .slice a2 st.2.1.length q2, .slice a3 st.2.2.length q3] 26) := ⟨_, rfl⟩
  rw [← hV]
  have HBV : Hid (Below w.heap.size w V) := by rw [hV]; exact Joins.below_alloc1 _ _
  have HV : Hid (V.heap[w.heap.size]? = some (.cells #[.slice a1 st.1.length q1, .slice a2 st.2.1.length q2, .slice a3 st.2.2.length q3] 26 (0, 0))) := by rw [hV]; exact heap_alloc_new _ _
  clear hV c1
  go_loopw [5, 15] (fun u i wr => ∃ k : Nat, k ≤ st0.2.2.length ∧ i = .int .i64 k ∧ u = .int .i64 (idxUp st0.2.1 d k) ∧ Below V.heap.size V wr) (fun _ i _ => st0.2.2.length - (intOf i).toNat)
  case atStart => exact ⟨0, Nat.zero_le _, rfl, rfl, Below.refl _ _⟩
  case round =>
    obtain ⟨k, hk, rfl, rfl, hb⟩ := hrel
    by_cases hlt : k < st0.2.2.length
    · have hkt : k < st0.2.1.length := by have := HL4.out; omega
      have hbw := below_tail HBV.out hb
      obtain ⟨e0, e1, e2, _⟩ := block3 (blockLater hb HV.out)
      have x0 := cell_later hbw HC0.out
      obtain ⟨nb, noff, rfl, n0⟩ := IntsAt.cellAt HNA.out k hlt
      obtain ⟨pb, poff, rfl, p0⟩ := IntsAt.cellAt HPA.out k (by rw [lensOf_len]; exact hkt)
      rw [lensOf_at hkt] at p0
      have n1 := cell_later hbw n0
      have p1 := cell_later hbw p0
      have h8 := (HR.out.train k hkt).2.2.1
      have hdk := HD.out k hkt
      have hix := idx_lt HD.out k (by omega)
      have hpr := prod_small HR.out.so (k := k) (by omega)
      have HIX := hide (show idxUp st0.2.1 d (k + 1) = idxUp st0.2.1 d k * ((tPath st0.2.1 k).length + 2) + d k from rfl)
      have HSW := hide (HS.out.below hbw)
      have HB := hide hb
      have HXk := hide (HX.out k hkt)
      have HBW := hide hbw
      have P0 := hide p0
      have hi100 : idxUp st0.2.1 d k < 100000 := by omega
      clear n0 p0 hb hbw hix hpr
      generalize (tPath st0.2.1 k).length = ln at *
      generalize idxUp st0.2.1 d k = ix at *
      generalize d k = dk at *
      have hm1 : ix * (ln + 2) ≤ 100000 * 10 := Nat.mul_le_mul (by omega) (by omega)
      have hmul : IntKind.i64.wrap ((ix : Int) * ((ln : Int) + 2)) = ((ix * (ln + 2) : Nat) : Int) := by
        rw [show ((ix : Int) * ((ln : Int) + 2)) = ((ix * (ln + 2) : Nat) : Int) by simp, IntKind.wrap_i64] <;> omega
      go_wp2_with fail
      refine (l1name_any _ st (el st0.2.2 k) _ HSW.out (by omega)).mono ?_
      rintro e w2 ⟨rfl, hb2⟩
      have f0 := cell_later hb2 e0
      have f1 := cell_later hb2 e1
      have f2 := cell_later hb2 e2
      have y0 := cell_later hb2 x0
      have y1 := cell_later hb2 p1
      have HB2 := hide (below_tail HB.out hb2)
      have HBW2 := hide (below_tail HBW.out hb2)
      clear hb2 e0 e1 e2 x0 n1 p1
      rcases HXk.out with ⟨j, hj1, hj2, hj3⟩ | ⟨hj1, hj2⟩
      · rw [hj1]
        obtain ⟨tb', toff, rfl, vp, t0, t1, hI, t2⟩ := (HS.out.below HBW2.out).parts.2.1.trainAt j hj2
        obtain ⟨ap, cp, rfl, -⟩ := hI
        have hjj : (j : Int) < (st.2.1.length : Int) := by omega
        have hj0 : (0 : Int) ≤ (j : Int) := by omega
        have HJ3 := hide hj3
        have hle : (tPath st.2.1 j).length ≤ ln := by omega
        clear hj1 hj3 t0 t2
        generalize (tPath st.2.1 j).length = lj at *
        go_wp2_with fail
        go_quiet (fail)
        go_wp2_with fail
        go_roundw
        case rel => exact ⟨k + 1, by omega, by go_num, by rw [HIX.out, show dk = ln - lj by have := HJ3.out; omega]; exact wrap_mix hm1 (by omega) (by omega), below_tail HB2.out (Joins.below_draws _ _ _)⟩
        case measure => simp [intOf]; omega
      · rw [hj1]
        have HJ2 := hide hj2
        clear hj1 hj2
        go_wp2_with fail
        go_roundw
        case rel => exact ⟨k + 1, by omega, by go_num, by rw [HIX.out, HJ2.out]; exact wrap_mix2 hm1 (by omega), HB2.out⟩
        case measure => simp [intOf]; omega
    · go_wp2_with fail
      go_ret
      obtain rfl : k = st0.2.2.length := by omega
      exact ⟨by rw [HL4.out]; rfl, below_tail HBV.out hb⟩
end Go.Proofs.YtmjjigdnoiphbaaDoor
