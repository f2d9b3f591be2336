import Derived.Test.YtmjjigdnoiphbaaDoorW24
import Derived.BigRegion
import Derived.Deep.RegionLaw
/-
  WHAT A MOVE LEAVES, AS LISTS BY THEIR INDEX.
-/
namespace Go.Proofs.YtmjjigdnoiphbaaDoor
open Go.RowKit Go.Deep
set_option linter.unusedVariables false

def gT (ts : List Tr) (i : Nat) : Tr := (tAt ts i, tPath ts i, tWt ts i)
def fT (ts : List Tr) (m i : Nat) : Tr := if i = m then (el (tPath ts i) 0, (tPath ts i).tail, tWt ts i) else gT ts i
def skip (m j : Nat) : Nat := if j < m then j else j + 1

theorem mvT_go {ts : List Tr} {m : Nat} (h : ¬ (tPath ts m).length = 0) : ∀ k, mvT ts m k = (List.range k).map (fT ts m)
  | 0 => rfl
  | k + 1 => by
    rw [mvT, mvT_go h k, List.range_succ, List.map_append]
    congr 1
    unfold mvT1 fT gT
    by_cases e : k = m
    · subst e; simp [h]
    · simp [e]
theorem mvN_go {ts : List Tr} {ns : List Int} {m : Nat} (h : ¬ (tPath ts m).length = 0) : ∀ k, mvN ts ns m k = (List.range k).map (el ns)
  | 0 => rfl
  | k + 1 => by
    rw [mvN, mvN_go h k, List.range_succ, List.map_append]
    congr 1
    by_cases e : k = m
    · subst e; simp [h]
    · simp [e]
theorem mvT_low {ts : List Tr} {m : Nat} : ∀ k, k ≤ m → mvT ts m k = (List.range k).map (gT ts)
  | 0, _ => rfl
  | k + 1, hk => by
    rw [mvT, mvT_low k (by omega), List.range_succ, List.map_append]
    congr 1
    unfold mvT1 gT
    simp [show k ≠ m by omega]
theorem mvT_out {ts : List Tr} {m : Nat} (h : (tPath ts m).length = 0) : ∀ d, mvT ts m (m + 1 + d) = (List.range (m + d)).map (fun j => gT ts (skip m j))
  | 0 => by
    rw [Nat.add_zero, mvT, mvT_low m (Nat.le_refl _)]
    unfold mvT1
    rw [if_pos rfl, if_pos h, List.append_nil]
    refine List.map_congr_left (fun j hj => ?_)
    rw [skip, if_pos (by simpa using hj)]
  | d + 1 => by
    rw [show m + 1 + (d + 1) = (m + 1 + d) + 1 by omega, mvT, mvT_out h d, show m + (d + 1) = (m + d) + 1 by omega, List.range_succ, List.map_append]
    congr 1
    unfold mvT1 gT skip
    simp [show m + d + 1 ≠ m by omega, show ¬ m + d < m by omega, show m + 1 + d = m + d + 1 by omega]
theorem mvN_low {ts : List Tr} {ns : List Int} {m : Nat} : ∀ k, k ≤ m → mvN ts ns m k = (List.range k).map (el ns)
  | 0, _ => rfl
  | k + 1, hk => by
    rw [mvN, mvN_low k (by omega), List.range_succ, List.map_append]
    congr 1
    simp [show k ≠ m by omega]
theorem mvN_out {ts : List Tr} {ns : List Int} {m : Nat} (h : (tPath ts m).length = 0) : ∀ d, mvN ts ns m (m + 1 + d) = (List.range (m + d)).map (fun j => el ns (skip m j))
  | 0 => by
    rw [Nat.add_zero, mvN, mvN_low m (Nat.le_refl _), if_pos ⟨rfl, h⟩, List.append_nil]
    refine List.map_congr_left (fun j hj => ?_)
    rw [skip, if_pos (by simpa using hj)]
  | d + 1 => by
    rw [show m + 1 + (d + 1) = (m + 1 + d) + 1 by omega, mvN, mvN_out h d, show m + (d + 1) = (m + d) + 1 by omega, List.range_succ, List.map_append]
    congr 1
    unfold skip
    simp [show m + d + 1 ≠ m by omega, show ¬ m + d < m by omega, show m + 1 + d = m + d + 1 by omega]

theorem stepSt_go {st : St} {m : Nat} (h : ¬ (tPath st.2.1 m).length = 0) (hn : st.2.2.length = st.2.1.length) : stepSt st m = (st.1, (List.range st.2.1.length).map (fT st.2.1 m), (List.range st.2.2.length).map (el st.2.2)) := by
  unfold stepSt
  rw [mvT_go h, mvN_go h, hn]
theorem stepSt_out {st : St} {m : Nat} (h : (tPath st.2.1 m).length = 0) (hm : m < st.2.1.length) (hn : st.2.2.length = st.2.1.length) : stepSt st m = (st.1, (List.range (st.2.1.length - 1)).map (fun j => gT st.2.1 (skip m j)), (List.range (st.2.2.length - 1)).map (fun j => el st.2.2 (skip m j))) := by
  unfold stepSt
  obtain ⟨d, hd⟩ : ∃ d, st.2.1.length = m + 1 + d := ⟨st.2.1.length - (m + 1), by omega⟩
  rw [hn, hd, mvT_out h d, mvN_out h d, show m + 1 + d - 1 = m + d by omega]

theorem trainsAt_fn {w : World} {a : Option Addr} {n cap : Nat} {f : Nat → Tr} (h : ∀ j, j < n → ∃ b off, a = some ⟨b, off, none⟩ ∧ TrainAt w b (off + j * 3) (f j).1 (f j).2.1 (f j).2.2) : TrainsAt w (.slice a n cap) ((List.range n).map f) :=
  ⟨a, cap, by simp, fun i hi => by
    have hi' : i < n := by simpa using hi
    have e : ((List.range n).map f)[i]?.getD (0, [], 0) = f i := by simp [hi']
    unfold tAt tPath tWt
    rw [e]
    exact h i hi'⟩
theorem intsAt_fn {w : World} {a : Option Addr} {n cap : Nat} {X : Nat → Int} (h : ∀ j, j < n → ∃ b off, a = some ⟨b, off, none⟩ ∧ w.cell? ⟨b, off + j, none⟩ = some (.int .i64 (X j))) : IntsAt w (.slice a n cap) ((List.range n).map X) :=
  ⟨a, cap, by simp, fun i hi => by
    have hi' : i < n := by simpa using hi
    have e : el ((List.range n).map X) i = X i := by simp [el, hi']
    rw [e]
    exact h i hi'⟩
end Go.Proofs.YtmjjigdnoiphbaaDoor

/-
  spec.l1step, a train that goes on.
-/
namespace Go.Proofs.YtmjjigdnoiphbaaDoor
open Go.RowKit Go.Deep
set_option linter.unusedVariables false

theorem OwnT.rowAt {w : World} {b off : Nat} {n : Nat} {pa : Nat → Option Addr} {pl pc : Nat → Nat} {X Y : Nat → Int} {Z : Nat → Nat → Int} (h : OwnT w (some ⟨b, off, none⟩) n pa pl pc X Y Z) (i : Nat) (hi : i < n) :
    w.cell? ⟨b, off + i * 3, none⟩ = some (.int .i64 (X i)) ∧ w.cell? ⟨b, off + i * 3 + 1, none⟩ = some (.slice (pa i) (pl i) (pc i)) ∧ w.cell? ⟨b, off + i * 3 + 2, none⟩ = some (.int .i64 (Y i)) ∧ ∀ o, o < 3 → w.frozen? ⟨b, off + i * 3 + o, none⟩ = false := by
  obtain ⟨b', off', e, r⟩ := h.row i hi
  simp only [Option.some.injEq, Addr.mk.injEq, and_true] at e
  obtain ⟨rfl, rfl⟩ := e
  exact r

set_option maxRecDepth 100000 in
set_option maxHeartbeats 4000000 in
theorem l1step_go (v : Value) (st : St) (m : Nat) (w : World) (h : StateAt w v st) (hs : SmallSt st) (hm : m < st.2.1.length) (hn : st.2.2.length = st.2.1.length) (hgo : ¬ (tPath st.2.1 m).length = 0) :
    Calls Tryd.prog 27 #[v, .int .i64 m] w fun e w' => ∃ r, e = .returned r ∧ (∀ w'', Chg (fun q => q < w.heap.size) w' w'' → StateAt w'' r (stepSt st m)) ∧ Below w.heap.size w w' := by
  rw [stepSt_go hgo hn]
  have HS := hide h
  have HM := hide hs
  have b2 := hs.tl
  obtain ⟨a1, q1, a2, q2, a3, q3, rfl⟩ := h.form
  clear h hs hn
  go_enter Tryd.func27, Tryd.ntmps27
  go_wp2_with fail
  refine (l1copy_any _ st _ (HS.out.below (Joins.below_alloc2 _ _ _)) HM.out).mono ?_
  rintro e w1 ⟨L, rfl, hL, _, _, hpcap, hLF, hb1⟩
  have hd : w1.heap[w.heap.size + 1]? = some (.cells #[.slice none 0 0, .slice none 0 0, .slice none 0 0] 26 (0, 0)) := (hb1.block (w.heap.size + 1) (by simp)).trans (heap_alloc2_new _ _ _)
  have hb01 := below_tail (Joins.below_alloc2 w (.cells #[.slice a1 st.1.length q1, .slice a2 st.2.1.length q2, .slice a3 st.2.2.length q3] 26) (.cells #[.slice none 0 0, .slice none 0 0, .slice none 0 0] 26)) hb1
  have HLF : Hid (∀ k, L.F st.2.1.length k → w.heap.size + 2 ≤ k) := fun k hk => by have := hLF k hk; simpa using this
  obtain ⟨tb, toff, hta, _⟩ := hL.t.row m hm
  have hcpm := hpcap m hm
  have HB1 := hide hb01
  have HL := hide hL
  have HD := hide hd
  clear hb1 hb01 hLF hL hd hpcap
  unfold Lies.val
  rw [hta]
  have HTA := hide hta
  clear hta
  obtain ⟨ra, rc, ta, tc, na, nc, pa, pc⟩ := L
  simp only at *
  have hta := HTA.out
  subst hta
  clear HTA
  obtain ⟨V, hV⟩ : ∃ V, V = w1.alloc (.cells #[.slice ra st.1.length rc, .slice (some ⟨tb, toff, none⟩) st.2.1.length tc, .slice na st.2.2.length nc] 26) := ⟨_, rfl⟩
  have hbV : Below w1.heap.size w1 V := by rw [hV]; exact Joins.below_alloc1 _ _
  have hLV := HL.out.below hbV
  obtain ⟨t0, t1, t2, tf⟩ := hLV.t.rowAt m hm
  have tl1 := HL.out.apart.lt tb (Or.inr (Or.inr (Or.inl (FA_mk _ _))))
  obtain ⟨s0, s1, s2, _⟩ := HL.out.t.rowAt m hm
  have hplt : 0 < (tPath st.2.1 m).length := by omega
  obtain ⟨pb, poff, hpa, px, _⟩ := HL.out.t.path m hm 0 hplt
  rw [Nat.add_zero] at px
  rw [hpa] at t1 s1
  have plt := World.block_lt_of_cell? _ _ px
  simp only at plt
  have hmi : (m : Int) < (st.2.1.length : Int) := by omega
  have hm0 : (0 : Int) ≤ (m : Int) := by omega
  have HPA := hide hpa
  have HLV := hide hLV
  have HBV := hide hbV
  have HVV := hide hV
  clear hV hpa t0 t1 t2 tf hLV hbV
  generalize hnp : (tPath st.2.1 m).length = np at *
  have hgt : decide ((0 : Int) < (np : Int)) = true := by simp; omega
  have HNP := hide hnp
  clear hnp
  go_wp2_with fail
  rw [← HVV.out]
  have k1 : V.cell? ⟨w1.heap.size, 1, none⟩ = some (.slice (some ⟨tb, toff, none⟩) st.2.1.length tc) := by rw [HVV.out]; simp
  have KV : Hid (V.heap[w1.heap.size]? = some (.cells #[.slice ra st.1.length rc, .slice (some ⟨tb, toff, none⟩) st.2.1.length tc, .slice na st.2.2.length nc] 26 (0, 0))) := by rw [HVV.out]; exact heap_alloc_new _ _
  obtain ⟨t0, t1, t2, tf⟩ := HLV.out.t.rowAt m hm
  simp only [HPA.out, HNP.out] at t1
  have f0 := tf 0 (by omega)
  rw [Nat.add_zero] at f0
  have f1 := tf 1 (by omega)
  have pxV := cell_later HBV.out px
  have hpn : 0 < np := by omega
  have hbt : ¬ w1.heap.size = tb := by omega
  have hbt' : ¬ tb = w1.heap.size := by omega
  have hne1 : ¬ pb = tb := fun e => HL.out.t.ne m pb hm ⟨poff, HPA.out⟩ (e ▸ FA_mk _ _)
  have hne2 : ¬ tb = pb := fun e => hne1 e.symm
  clear HVV s0 s1 s2 px tf
  go_region
  obtain ⟨x0, hx0⟩ : ∃ x0, x0 = el (tPath st.2.1 m) 0 := ⟨_, rfl⟩
  rw [← hx0]
  have hO2 : OwnT (V.setCell ⟨tb, toff + m * 3, none⟩ (.int .i64 x0)).drew (some ⟨tb, toff, none⟩) st.2.1.length pa (fun i => (tPath st.2.1 i).length) pc (upd (tAt st.2.1) m x0) (tWt st.2.1) (fun i j => el (tPath st.2.1 i) j) := (HLV.out.t.setAt m x0).keep (fun k _ _ => rfl)
  have hC2 : Chg (fun q => q = tb) V (V.setCell ⟨tb, toff + m * 3, none⟩ (.int .i64 x0)).drew := (Chg.setCell (F := fun q => q = tb) (p := ⟨tb, toff + m * 3, none⟩) (Chg.refl _ _) rfl (.int .i64 x0)).trans (Chg.of_below (Joins.below_draws _ _ 1))
  obtain ⟨V2, hV2⟩ : ∃ V2, V2 = (V.setCell ⟨tb, toff + m * 3, none⟩ (.int .i64 x0)).drew := ⟨_, rfl⟩
  rw [← hV2] at hO2 hC2 ⊢
  have HZV : Hid (w1.heap.size < V.heap.size) := (Array.getElem?_eq_some_iff.1 KV.out).1
  have KV2 : Hid (V2.heap[w1.heap.size]? = some (.cells #[.slice ra st.1.length rc, .slice (some ⟨tb, toff, none⟩) st.2.1.length tc, .slice na st.2.2.length nc] 26 (0, 0))) := (hC2.block _ HZV.out (by omega)).trans KV.out
  obtain ⟨_, k1', _, _⟩ := block3 KV2.out
  obtain ⟨t0', t1', t2', tf'⟩ := hO2.rowAt m hm
  simp only [HPA.out, HNP.out] at t1'
  have f1' := tf' 1 (by omega)
  have HO2 := hide hO2
  have HC2 := hide hC2
  have HX0 := hide hx0
  obtain ⟨A, hA⟩ : ∃ A, (if pc m = 1 then some (⟨pb, poff, none⟩ : Addr) else some ⟨pb, poff + 1, none⟩) = A := ⟨_, rfl⟩
  have hp2 : (1 : Int) ≤ (np : Int) := by omega
  have hp3 : 1 ≤ np := by omega
  have HKP := hide KV
  have pxV2 : V2.cell? ⟨pb, poff, none⟩ = some (.int .i64 x0) := by
    rw [World.cell?_of_block (hC2.block pb (Nat.lt_trans plt HZV.out) hne1), hx0]
    exact pxV
  clear hV2 hx0 hO2 hC2 t0 t1 t2 f0 f1 pxV k1 tf' t0'
  go_wp2_with fail
  go_region
  have hC3 : Chg (fun q => q = tb) V2 (V2.setCell ⟨tb, toff + m * 3 + 1, none⟩ (.slice A (np - 1) (pc m - 1))).drew := (Chg.setCell (F := fun q => q = tb) (p := ⟨tb, toff + m * 3 + 1, none⟩) (Chg.refl _ _) rfl (.slice A (np - 1) (pc m - 1))).trans (Chg.of_below (Joins.below_draws _ _ 1))
  obtain ⟨V3, hV3⟩ : ∃ V3, V3 = (V2.setCell ⟨tb, toff + m * 3 + 1, none⟩ (.slice A (np - 1) (pc m - 1))).drew := ⟨_, rfl⟩
  rw [← hV3] at hC3 ⊢
  have hV2z : V.heap.size ≤ V2.heap.size := HC2.out.size
  have KV3 : V3.heap[w1.heap.size]? = some (.cells #[.slice ra st.1.length rc, .slice (some ⟨tb, toff, none⟩) st.2.1.length tc, .slice na st.2.2.length nc] 26 (0, 0)) := (hC3.block _ (by have := HZV.out; omega) (by omega)).trans KV2.out
  have hDV : V.heap[w.heap.size + 1]? = some (.cells #[.slice none 0 0, .slice none 0 0, .slice none 0 0] 26 (0, 0)) := (HBV.out.block _ (Array.getElem?_eq_some_iff.1 HD.out).1).trans HD.out
  have htb2 : w.heap.size + 2 ≤ tb := HLF.out tb (Or.inr (Or.inr (Or.inl (FA_mk _ _))))
  have hC13 : Chg (fun q => q = tb) V V3 := HC2.out.trans hC3
  have hD3 : V3.heap[w.heap.size + 1]? = some (.cells #[.slice none 0 0, .slice none 0 0, .slice none 0 0] 26 (0, 0)) := (hC13.block _ (Array.getElem?_eq_some_iff.1 hDV).1 (by omega)).trans hDV
  obtain ⟨z0, z1, z2, _⟩ := block3 KV3
  obtain ⟨v0, v1, v2, vf⟩ := block3 hD3
  have vf0 := vf 0
  have vf1 := vf 1
  have vf2 := vf 2
  have hnew : V3.cell? ⟨tb, toff + m * 3 + 1, none⟩ = some (.slice A (np - 1) (pc m - 1)) := by
    rw [hV3]
    exact World.cell?_setCell_same _ _ _ t1'
  have hoth : ∀ o, o ≠ toff + m * 3 + 1 → V3.cell? ⟨tb, o, none⟩ = V2.cell? ⟨tb, o, none⟩ := fun o ho => by
    rw [hV3]
    exact World.cell?_setCell_other _ _ _ _ (by simp <;> omega)
  have HNEW := hide hnew
  have HOTH := hide hoth
  have HC13 := hide hC13
  have HC3 := hide hC3
  have HAA := hide hA
  have HZ2 := hide hV2z
  have hne : ¬ w1.heap.size = w.heap.size + 1 := by have := (Array.getElem?_eq_some_iff.1 HD.out).1; omega
  have HTB2 := hide htb2
  have HD3 := hide hD3
  have HZ13 : Hid (w.heap.size + 1 < w1.heap.size) := (Array.getElem?_eq_some_iff.1 HD.out).1
  clear hV3 KV3 hDV hD3 hC13 hC3 hnew hoth hA vf t1' t2' f1' k1' pxV2 hV2z htb2 hp2 hp3 hpn hgt hgo
  go_wp2_with fail
  have hc : Chg (fun q => q = w.heap.size + 1) V3 (((V3.setCell ⟨w.heap.size + 1, 0, none⟩ (.slice ra st.1.length rc)).setCell ⟨w.heap.size + 1, 1, none⟩ (.slice (some ⟨tb, toff, none⟩) st.2.1.length tc)).setCell ⟨w.heap.size + 1, 2, none⟩ (.slice na st.2.2.length nc)) :=
    Chg.setCell (F := fun q => q = w.heap.size + 1) (Chg.setCell (F := fun q => q = w.heap.size + 1) (Chg.setCell (F := fun q => q = w.heap.size + 1) (Chg.refl _ _) rfl _) rfl _) rfl _
  have hvar := block3_set2 (block3_set1 (block3_set0 HD3.out (.slice ra st.1.length rc)) (.slice (some ⟨tb, toff, none⟩) st.2.1.length tc)) (.slice na st.2.2.length nc)
  generalize ((V3.setCell ⟨w.heap.size + 1, 0, none⟩ (.slice ra st.1.length rc)).setCell ⟨w.heap.size + 1, 1, none⟩ (.slice (some ⟨tb, toff, none⟩) st.2.1.length tc)).setCell ⟨w.heap.size + 1, 2, none⟩ (.slice na st.2.2.length nc) = WF at *
  obtain ⟨r0, r1, r2, _⟩ := block3 hvar
  have hall : Chg (fun q => q = tb ∨ q = w.heap.size + 1) V WF := (HC13.out.mono (fun q e => Or.inl e)).trans (hc.mono (fun q e => Or.inr e))
  have hbF : Below w.heap.size w WF := (HB1.out.trans (HBV.out.mono (by have := HZ13.out; omega))).trans (hall.below (by have := HZV.out; have := HZ13.out; omega) (fun q hq e => by have := HTB2.out; omega))
  have htF : ∀ o, WF.cell? ⟨tb, o, none⟩ = V3.cell? ⟨tb, o, none⟩ := fun o => World.cell?_of_block (hc.block tb (by have := HZV.out; have := HC13.out.size; omega) (by have := HTB2.out; omega))
  refine bodyPost_ret (v := .agg #[.slice ra st.1.length rc, .slice (some ⟨tb, toff, none⟩) st.2.1.length tc, .slice na st.2.2.length nc]) (by simp [results, Tryd.results27, go_sem, r0, r1, r2]) rfl ⟨_, rfl, fun wz hk => ?_, hbF⟩
  replace htF : ∀ o, wz.cell? ⟨tb, o, none⟩ = V3.cell? ⟨tb, o, none⟩ := fun o => (World.cell?_of_block (hk.block tb (by have := HZV.out; have := HC13.out.size; have := hc.size; omega) (by have := HTB2.out; omega))).trans (htF o)
  replace hall : Chg (fun q => q = tb ∨ q = w.heap.size + 1 ∨ q < w.heap.size) V wz := (hall.mono (fun q e => by omega)).trans (hk.mono (fun q e => by omega))
  refine ⟨_, _, _, rfl, ?_, trainsAt_fn (fun j hj => ⟨tb, toff, rfl, ?_⟩), intsAt_fn (fun j hj => ?_)⟩
  · refine OwnF.at (HLV.out.r.chg hall (fun q hq e => ?_)) (fun _ _ => rfl)
    have u1 := HLF.out q (Or.inl hq)
    rcases e with e | e | e
    · exact HLV.out.apart.rt q hq (Or.inl (e ▸ FA_mk _ _))
    · omega
    · omega
  · obtain ⟨j0, j1, j2, _⟩ := HO2.out.rowAt j hj
    by_cases e : j = m
    · subst e
      refine ⟨.slice A (np - 1) (pc j - 1), ?_, ?_, ?_, ?_⟩
      · rw [htF, HOTH.out _ (by omega), j0, upd_same, HX0.out]
        simp [fT]
      · rw [htF]; exact HNEW.out
      · have hl : (fT st.2.1 j j).2.1 = (tPath st.2.1 j).tail := by simp [fT]
        rw [hl]
        refine ⟨A, pc j - 1, by rw [List.length_tail, HNP.out], fun i hi => ?_⟩
        rw [List.length_tail, HNP.out] at hi
        obtain ⟨b', o', e', hc', _⟩ := HLV.out.t.path j hj (i + 1) (show i + 1 < (tPath st.2.1 j).length by rw [HNP.out]; omega)
        replace e' := HPA.out.symm.trans e'
        simp only [Option.some.injEq, Addr.mk.injEq, and_true] at e'
        obtain ⟨rfl, rfl⟩ := e'
        refine ⟨pb, poff + 1, by rw [← HAA.out, if_neg (by omega)], ?_⟩
        rw [show poff + 1 + i = poff + (i + 1) by omega, World.cell?_of_block (hall.block pb (World.block_lt_of_cell? _ _ hc') (fun e => by
          rcases e with e | e | e
          · exact hne1 e
          · have := HLF.out pb (Or.inr (Or.inr (Or.inr ⟨j, hj, ⟨poff, HPA.out⟩⟩))); omega
          · have := HLF.out pb (Or.inr (Or.inr (Or.inr ⟨j, hj, ⟨poff, HPA.out⟩⟩))); omega)), hc']
        simp [el, List.getElem?_tail]
      · rw [htF, HOTH.out _ (by omega), j2]
        simp [fT]
    · have hf : fT st.2.1 m j = gT st.2.1 j := if_neg e
      rw [hf]
      refine ⟨.slice (pa j) (tPath st.2.1 j).length (pc j), ?_, ?_, ?_, ?_⟩
      · rw [htF, HOTH.out _ (by omega), j0, upd_other _ _ e]; rfl
      · rw [htF, HOTH.out _ (by omega), j1]
      · refine OwnF.at ((HLV.out.t.path j hj).chg hall (fun q hq e' => ?_)) (fun _ _ => rfl)
        have u1 := HLF.out q (Or.inr (Or.inr (Or.inr ⟨j, hj, hq⟩)))
        rcases e' with e' | e' | e'
        · exact HLV.out.t.ne j q hj hq (e' ▸ FA_mk _ _)
        · omega
        · omega
      · rw [htF, HOTH.out _ (by omega), j2]; rfl
  · obtain ⟨b', o', e', hc', _⟩ := HLV.out.n j hj
    refine ⟨b', o', e', ?_⟩
    rw [World.cell?_of_block (hall.block b' (World.block_lt_of_cell? _ _ hc') (fun e => by
      have u1 := HLF.out b' (Or.inr (Or.inl ⟨o', e'⟩))
      rcases e with e | e | e
      · exact HLV.out.apart.nt b' ⟨o', e'⟩ (Or.inl (e ▸ FA_mk _ _))
      · omega
      · omega))]
    exact hc'
end Go.Proofs.YtmjjigdnoiphbaaDoor

/-
  spec.l1step, a train that leaves.
-/
namespace Go.Proofs.YtmjjigdnoiphbaaDoor
open Go.RowKit Go.Deep
set_option linter.unusedVariables false

theorem Chg.setCells {F : Nat → Prop} {a : World} {b : Nat} (hb : F b) : ∀ (vs : List Value) (o : Nat) (w : World), Chg F a w → Chg F a (w.setCells b o vs)
  | [], _, _, h => h
  | v :: r, o, w, h => Chg.setCells hb r (o + 1) (w.setCell ⟨b, o, none⟩ v) (h.setCell hb v)

/-- the trains behind m, cell by cell -/
def lateT (ts : List Tr) (pa : Nat → Option Addr) (pc : Nat → Nat) (m n : Nat) : List Value :=
  (List.range (n - (m + 1))).flatMap (fun j => [.int .i64 (tAt ts (m + 1 + j)), .slice (pa (m + 1 + j)) (tPath ts (m + 1 + j)).length (pc (m + 1 + j)), .int .i64 (tWt ts (m + 1 + j))])
theorem lateT_length (ts : List Tr) (pa : Nat → Option Addr) (pc : Nat → Nat) (m n : Nat) : (lateT ts pa pc m n).length = (n - (m + 1)) * 3 := by
  unfold lateT
  simp [List.length_flatMap, sum3]
theorem lateT_get (ts : List Tr) (pa : Nat → Option Addr) (pc : Nat → Nat) (m n : Nat) {j o : Nat} (hj : j < n - (m + 1)) (ho : o < 3) :
    (lateT ts pa pc m n)[j * 3 + o]? = [Value.int .i64 (tAt ts (m + 1 + j)), .slice (pa (m + 1 + j)) (tPath ts (m + 1 + j)).length (pc (m + 1 + j)), .int .i64 (tWt ts (m + 1 + j))][o]? :=
  flat3_get (fun j => (Value.int .i64 (tAt ts (m + 1 + j)), Value.slice (pa (m + 1 + j)) (tPath ts (m + 1 + j)).length (pc (m + 1 + j)), Value.int .i64 (tWt ts (m + 1 + j)))) (n - (m + 1)) j o hj ho
def lateN (ns : List Int) (m n : Nat) : List Value := (List.range (n - (m + 1))).map (fun j => .int .i64 (el ns (m + 1 + j)))
theorem lateN_length (ns : List Int) (m n : Nat) : (lateN ns m n).length = n - (m + 1) := by simp [lateN]

theorem three_mem {α : Type} {x y z u : α} {o : Nat} (h : [x, y, z][o]? = some u) (ho : o < 3) : (o = 0 ∧ u = x) ∨ (o = 1 ∧ u = y) ∨ (o = 2 ∧ u = z) := by
  have : o = 0 ∨ o = 1 ∨ o = 2 := by omega
  rcases this with rfl | rfl | rfl <;> simp at h <;> simp [h]

/-- what lies behind train m is read there -/
theorem late_news {w : World} {tb toff n : Nat} {ts : List Tr} {pa : Nat → Option Addr} {pc : Nat → Nat} {m : Nat} (h : OwnT w (some ⟨tb, toff, none⟩) n pa (fun i => (tPath ts i).length) pc (tAt ts) (tWt ts) (fun i j => el (tPath ts i) j)) :
    ∀ q u, (lateT ts pa pc m n)[q]? = some u → w.cell? ⟨tb, toff + (m + 1) * 3 + q, none⟩ = some u := fun q u hu => by
  have hq : q < (n - (m + 1)) * 3 := by rw [← lateT_length ts pa pc m n]; exact (List.getElem?_eq_some_iff.1 hu).1
  obtain ⟨j, o, hj, ho, rfl⟩ : ∃ j o, j < n - (m + 1) ∧ o < 3 ∧ q = j * 3 + o := ⟨q / 3, q % 3, by omega, by omega, by omega⟩
  rw [lateT_get ts pa pc m n hj ho] at hu
  obtain ⟨r0, r1, r2, _⟩ := h.rowAt (m + 1 + j) (by omega)
  rw [show toff + (m + 1) * 3 + (j * 3 + o) = toff + (m + 1 + j) * 3 + o by omega]
  rcases three_mem hu ho with ⟨rfl, rfl⟩ | ⟨rfl, rfl⟩ | ⟨rfl, rfl⟩
  · rw [Nat.add_zero]; exact r0
  · exact r1
  · exact r2

set_option maxRecDepth 100000 in
set_option maxHeartbeats 4000000 in
theorem l1step_out (v : Value) (st : St) (m : Nat) (w : World) (h : StateAt w v st) (hs : SmallSt st) (hm : m < st.2.1.length) (hn : st.2.2.length = st.2.1.length) (hout : (tPath st.2.1 m).length = 0) :
    Calls Tryd.prog 27 #[v, .int .i64 m] w fun e w' => ∃ r, e = .returned r ∧ (∀ w'', Chg (fun q => q < w.heap.size) w' w'' → StateAt w'' r (stepSt st m)) ∧ Below w.heap.size w w' := by
  rw [stepSt_out hout hm hn]
  have HS := hide h
  have HM := hide hs
  have b2 := hs.tl
  obtain ⟨a1, q1, a2, q2, a3, q3, rfl⟩ := h.form
  have HN := hide hn
  clear h hs hn
  go_enter Tryd.func27, Tryd.ntmps27
  go_wp2_with fail
  refine (l1copy_any _ st _ (HS.out.below (Joins.below_alloc2 _ _ _)) HM.out).mono ?_
  rintro e w1 ⟨L, rfl, hL, htc, hnc, _, hLF, hb1⟩
  have hd : w1.heap[w.heap.size + 1]? = some (.cells #[.slice none 0 0, .slice none 0 0, .slice none 0 0] 26 (0, 0)) := (hb1.block (w.heap.size + 1) (by simp)).trans (heap_alloc2_new _ _ _)
  have hb01 := below_tail (Joins.below_alloc2 w (.cells #[.slice a1 st.1.length q1, .slice a2 st.2.1.length q2, .slice a3 st.2.2.length q3] 26) (.cells #[.slice none 0 0, .slice none 0 0, .slice none 0 0] 26)) hb1
  have HLF : Hid (∀ k, L.F st.2.1.length k → w.heap.size + 2 ≤ k) := fun k hk => by have := hLF k hk; simpa using this
  obtain ⟨tb, toff, hta, _⟩ := hL.t.row m hm
  obtain ⟨nb, noff, hna, _⟩ := hL.n m (by have := HN.out; omega)
  have HB1 := hide hb01
  have HL := hide hL
  have HD := hide hd
  clear hb1 hb01 hLF hL hd
  unfold Lies.val
  obtain ⟨ra, rc, ta, tc, na, nc, pa, pc⟩ := L
  simp only at *
  subst hta hna
  obtain ⟨V, hV⟩ : ∃ V, V = w1.alloc (.cells #[.slice ra st.1.length rc, .slice (some ⟨tb, toff, none⟩) st.2.1.length tc, .slice (some ⟨nb, noff, none⟩) st.2.2.length nc] 26) := ⟨_, rfl⟩
  have hbV : Below w1.heap.size w1 V := by rw [hV]; exact Joins.below_alloc1 _ _
  have tl1 := HL.out.apart.lt tb (Or.inr (Or.inr (Or.inl (FA_mk _ _))))
  have nl1 := HL.out.apart.lt nb (Or.inr (Or.inl (FA_mk _ _)))
  obtain ⟨s0, s1, s2, _⟩ := HL.out.t.rowAt m hm
  have htn : tb ≠ nb := fun e => HL.out.apart.nt nb (FA_mk _ _) (Or.inl (e ▸ FA_mk _ _))
  have hmi : (m : Int) < (st.2.1.length : Int) := by omega
  have hm0 : (0 : Int) ≤ (m : Int) := by omega
  have HLV := hide (HL.out.below hbV)
  have HBV := hide hbV
  have HVV := hide hV
  have hgt : decide ((0 : Int) < ((tPath st.2.1 m).length : Int)) = false := by simp [hout]
  have HOUT := hide hout
  have hout2 : (tPath st.2.1 m).length ≤ 0 := by omega
  clear hV hbV hout HOUT
  generalize hnp : (tPath st.2.1 m).length = np at *
  clear hnp
  go_wp2_with fail
  rw [← HVV.out]
  have k1 : V.cell? ⟨w1.heap.size, 1, none⟩ = some (.slice (some ⟨tb, toff, none⟩) st.2.1.length tc) := by rw [HVV.out]; simp
  have KV : Hid (V.heap[w1.heap.size]? = some (.cells #[.slice ra st.1.length rc, .slice (some ⟨tb, toff, none⟩) st.2.1.length tc, .slice (some ⟨nb, noff, none⟩) st.2.2.length nc] 26 (0, 0))) := by rw [HVV.out]; exact heap_alloc_new _ _
  have hbt : ¬ w1.heap.size = tb := by omega
  have hbt' : ¬ tb = w1.heap.size := by omega
  obtain ⟨i1, hi1, hz0, hz1, hz2⟩ := info_parts Tryd.infoTrain
  obtain ⟨A, hA, hnews⟩ : ∃ A : Addr, (if tc = m + 1 then some (⟨tb, toff, none⟩ : Addr) else some ⟨tb, toff + (m + 1) * 3, none⟩) = some A ∧ Hid (∀ j u, (lateT st.2.1 pa pc m st.2.1.length)[j]? = some u → V.drew.cell? (A.add j) = some u) := by
    by_cases e : tc = m + 1
    · refine ⟨⟨tb, toff, none⟩, by simp [e], fun j u hu => ?_⟩
      have := (List.getElem?_eq_some_iff.1 hu).1
      rw [lateT_length] at this
      omega
    · refine ⟨⟨tb, toff + (m + 1) * 3, none⟩, by simp [e], fun j u hu => ?_⟩
      rw [Addr.add_mid]
      exact late_news HLV.out.t j u hu
  have s1' : Hid ((lateT st.2.1 pa pc m st.2.1.length).length = (st.2.1.length - (m + 1)) * 3) := lateT_length _ _ _ _ _
  have s2' : Hid (∀ u ∈ lateT st.2.1 pa pc m st.2.1.length, u.oneCell' = true) := by
    intro u hu
    simp only [lateT, List.mem_flatMap, List.mem_cons, List.not_mem_nil, or_false] at hu
    obtain ⟨j, _, rfl | rfl | rfl⟩ := hu <;> rfl
  have s3' : Hid (∀ j, j < (lateT st.2.1 pa pc m st.2.1.length).length → (V.drew.cell? ⟨tb, toff + m * 3 + j, none⟩).isSome = true ∧ V.drew.frozen? ⟨tb, toff + m * 3 + j, none⟩ = false) := by
    intro q hq
    rw [lateT_length] at hq
    obtain ⟨j, o, hj, ho, rfl⟩ : ∃ j o, j < st.2.1.length - (m + 1) ∧ o < 3 ∧ q = j * 3 + o := ⟨q / 3, q % 3, by omega, by omega, by omega⟩
    obtain ⟨r0, r1, r2, rf⟩ := HLV.out.t.rowAt (m + j) (by omega)
    rw [show toff + m * 3 + (j * 3 + o) = toff + (m + j) * 3 + o by omega]
    refine ⟨?_, rf o ho⟩
    show (V.cell? _).isSome = true
    have : o = 0 ∨ o = 1 ∨ o = 2 := by omega
    rcases this with rfl | rfl | rfl
    · rw [Nat.add_zero, r0]; rfl
    · rw [r1]; rfl
    · rw [r2]; rfl
  have s3'' : ∀ q, q < (lateT st.2.1 pa pc m st.2.1.length).length → (V.drew.cell? ⟨tb, toff + m * 3 + q, none⟩).isSome = true := fun q hq => (s3'.out q hq).1
  have HS3 := hide s3''
  clear s3''
  have hwr : IntKind.i64.wrap ((m : Int) + 1) = (m : Int) + 1 := by rw [IntKind.wrap_i64]; omega
  have hp0 : (0 : Int) ≤ (m : Int) + 1 := by omega
  have hp1 : (m : Int) + 1 ≤ (st.2.1.length : Int) := by omega
  have hp2 : ((m : Int) + 1).toNat = m + 1 := by omega
  have hmc : m ≤ tc := by omega
  have hC2 : Chg (fun q => q = tb) V (V.drew.setCells tb (toff + m * 3) (lateT st.2.1 pa pc m st.2.1.length)) := Chg.setCells (F := fun q => q = tb) rfl _ _ _ (Chg.of_below (Joins.below_draws _ _ 1))
  have HZV : Hid (w1.heap.size < V.heap.size) := (Array.getElem?_eq_some_iff.1 KV.out).1
  obtain ⟨_, k1', _, kf⟩ := block3 ((hC2.block _ HZV.out (by omega)).trans KV.out)
  have kf1 := kf 1
  have hVf : V.frozen? ⟨w1.heap.size, 1, none⟩ = false := (block3 KV.out).2.2.2 1
  have HC2 := hide hC2
  clear HVV s0 s1 s2 hC2 kf hgt
  go_region_law (refine step_append_room rfl (.tmp 45) (.tmp 50) 24 rfl 35 i1 3 Tryd.underlying24 hi1 hz1 tb toff m tc (by simp [Act.eval, Act.put]) A (st.2.1.length - (m + 1)) (tc - (m + 1)) (lateT st.2.1 pa pc m st.2.1.length) (by simp [Act.eval, Act.put]) s1'.out hnews.out s2'.out (by omega) s3'.out ?_)
  all_goals
    have hKV1 := (HC2.out.block _ HZV.out (by omega)).trans KV.out
    obtain ⟨V2, hV2⟩ : ∃ V2, V2 = (V.drew.setCells tb (toff + m * 3) (lateT st.2.1 pa pc m st.2.1.length)).setCell ⟨w1.heap.size, 1, none⟩ (.slice (some ⟨tb, toff, none⟩) (m + (st.2.1.length - (m + 1))) tc) := ⟨_, rfl⟩
    rw [← hV2]
    have KV2 : Hid (V2.heap[w1.heap.size]? = some (.cells #[.slice ra st.1.length rc, .slice (some ⟨tb, toff, none⟩) (m + (st.2.1.length - (m + 1))) tc, .slice (some ⟨nb, noff, none⟩) st.2.2.length nc] 26 (0, 0))) := by rw [hV2]; exact block3_set1 hKV1 _
    have hC12 : Chg (fun q => q = tb ∨ q = w1.heap.size) V V2 := by rw [hV2]; exact Chg.setCell (F := fun q => q = tb ∨ q = w1.heap.size) (p := ⟨w1.heap.size, 1, none⟩) (HC2.out.mono (fun q e => Or.inl e)) (Or.inr rfl) _
    have hT2 : ∀ o, V2.cell? ⟨tb, o, none⟩ = (V.drew.setCells tb (toff + m * 3) (lateT st.2.1 pa pc m st.2.1.length)).cell? ⟨tb, o, none⟩ := fun o => by rw [hV2]; exact World.cell?_of_block (Below.heap_setCell _ _ _ _ (by simpa using hbt'))
    have HT2 := hide hT2
    have HC12 := hide hC12
    have hON : OwnF V2 (some ⟨nb, noff, none⟩) st.2.2.length (el st.2.2) := HLV.out.n.chg hC12 (fun q hq e => by
      have := FA_some hq
      rcases e with e | e <;> omega)
    have HON := hide hON
    have hcell : ∀ i, i < st.2.2.length → V2.cell? ⟨nb, noff + i, none⟩ = some (.int .i64 (el st.2.2 i)) ∧ V2.frozen? ⟨nb, noff + i, none⟩ = false := fun i hi => by
      obtain ⟨b', o', e', h1, h2⟩ := hON i hi
      simp only [Option.some.injEq, Addr.mk.injEq, and_true] at e'
      obtain ⟨rfl, rfl⟩ := e'
      exact ⟨h1, h2⟩
    obtain ⟨_, _, k2, kf2⟩ := block3 KV2.out
    have kf22 := kf2 2
    obtain ⟨i0, hi0, hy0, hy1, hy2⟩ := info_parts Tryd.infoInt
    have hNL := HN.out
    obtain ⟨A2, hA2, hnews2⟩ : ∃ A2 : Addr, (if nc = m + 1 then some (⟨nb, noff, none⟩ : Addr) else some ⟨nb, noff + (m + 1), none⟩) = some A2 ∧ Hid (∀ j u, (lateN st.2.2 m st.2.2.length)[j]? = some u → V2.drew.cell? (A2.add j) = some u) := by
      by_cases e : nc = m + 1
      · refine ⟨⟨nb, noff, none⟩, by simp [e], fun j u hu => ?_⟩
        have := (List.getElem?_eq_some_iff.1 hu).1
        rw [lateN_length] at this
        omega
      · refine ⟨⟨nb, noff + (m + 1), none⟩, by simp [e], fun j u hu => ?_⟩
        have hj := (List.getElem?_eq_some_iff.1 hu).1
        rw [lateN_length] at hj
        rw [Addr.add_mid, show noff + (m + 1) + j = noff + (m + 1 + j) by omega]
        simp [lateN, hj] at hu
        rw [← hu]
        exact (hcell (m + 1 + j) (by omega)).1
    have u1' : Hid ((lateN st.2.2 m st.2.2.length).length = (st.2.2.length - (m + 1)) * 1) := by rw [Nat.mul_one]; exact lateN_length _ _ _
    have u2' : Hid (∀ u ∈ lateN st.2.2 m st.2.2.length, u.oneCell' = true) := by
      intro u hu
      obtain ⟨x, _, rfl⟩ := List.mem_map.1 hu
      rfl
    have u3' : Hid (∀ j, j < (lateN st.2.2 m st.2.2.length).length → (V2.drew.cell? ⟨nb, noff + m * 1 + j, none⟩).isSome = true ∧ V2.drew.frozen? ⟨nb, noff + m * 1 + j, none⟩ = false) := by
      intro j hj
      rw [lateN_length] at hj
      rw [Nat.mul_one, Nat.add_assoc]
      obtain ⟨h1, h2⟩ := hcell (m + j) (by omega)
      exact ⟨by show (V2.cell? _).isSome = true; rw [h1]; rfl, h2⟩
    have hp1n : (m : Int) + 1 ≤ (st.2.2.length : Int) := by omega
    have hmin : (m : Int) ≤ (st.2.2.length : Int) := by omega
    have hmcn : m ≤ nc := by omega
    have hroomn : m + (st.2.2.length - (m + 1)) ≤ nc := by omega
    have hC3 : Chg (fun q => q = nb) V2 (V2.drew.setCells nb (noff + m) (lateN st.2.2 m st.2.2.length)) := Chg.setCells (F := fun q => q = nb) rfl _ _ _ (Chg.of_below (Joins.below_draws _ _ 1))
    have HZ2 : Hid (w1.heap.size < V2.heap.size) := (Array.getElem?_eq_some_iff.1 KV2.out).1
    have hKV2' := (hC3.block _ HZ2.out (by omega)).trans KV2.out
    obtain ⟨_, _, k2', kg⟩ := block3 hKV2'
    have kg2 := kg 2
    have HC3 := hide hC3
    have HKV2' := hide hKV2'
    clear hV2 hKV1 hC12 hT2 hON hcell kf2 hNL hC3 hKV2' kg k1 k1' kf1 hVf hp1 hmc hA hnews s1' s2' s3'
    go_wp2_with fail
    go_region_law (refine step_append_room rfl (.tmp 56) (.tmp 61) 23 rfl 3 i0 1 Tryd.underlying23 hi0 hy1 nb noff m nc (by simp [Act.eval, Act.put]) A2 (st.2.2.length - (m + 1)) (nc - (m + 1)) (lateN st.2.2 m st.2.2.length) (by simp [Act.eval, Act.put]) u1'.out hnews2.out u2'.out hroomn u3'.out ?_)
    all_goals
      obtain ⟨V3, hV3⟩ : ∃ V3, V3 = (V2.drew.setCells nb (noff + m) (lateN st.2.2 m st.2.2.length)).setCell ⟨w1.heap.size, 2, none⟩ (.slice (some ⟨nb, noff, none⟩) (m + (st.2.2.length - (m + 1))) nc) := ⟨_, rfl⟩
      rw [← hV3]
      have hbn' : ¬ nb = w1.heap.size := by omega
      have hKV3 : V3.heap[w1.heap.size]? = some (.cells #[.slice ra st.1.length rc, .slice (some ⟨tb, toff, none⟩) (m + (st.2.1.length - (m + 1))) tc, .slice (some ⟨nb, noff, none⟩) (m + (st.2.2.length - (m + 1))) nc] 26 (0, 0)) := by rw [hV3]; exact block3_set2 HKV2'.out _
      have hC23 : Chg (fun q => q = nb ∨ q = w1.heap.size) V2 V3 := by rw [hV3]; exact Chg.setCell (F := fun q => q = nb ∨ q = w1.heap.size) (p := ⟨w1.heap.size, 2, none⟩) (HC3.out.mono (fun q e => Or.inl e)) (Or.inr rfl) _
      have hN3 : ∀ o, V3.cell? ⟨nb, o, none⟩ = (V2.drew.setCells nb (noff + m) (lateN st.2.2 m st.2.2.length)).cell? ⟨nb, o, none⟩ := fun o => by rw [hV3]; exact World.cell?_of_block (Below.heap_setCell _ _ _ _ (by simpa using hbn'))
      have hC13 : Chg (fun q => q = tb ∨ q = nb ∨ q = w1.heap.size) V V3 := (HC12.out.mono (fun q e => e.elim Or.inl (fun e => Or.inr (Or.inr e)))).trans (hC23.mono (fun q e => Or.inr e))
      have hDV : V.heap[w.heap.size + 1]? = some (.cells #[.slice none 0 0, .slice none 0 0, .slice none 0 0] 26 (0, 0)) := (HBV.out.block _ (Array.getElem?_eq_some_iff.1 HD.out).1).trans HD.out
      have htb2 : w.heap.size + 2 ≤ tb := HLF.out tb (Or.inr (Or.inr (Or.inl (FA_mk _ _))))
      have hnb2 : w.heap.size + 2 ≤ nb := HLF.out nb (Or.inr (Or.inl (FA_mk _ _)))
      have hz13 : w.heap.size + 1 < w1.heap.size := (Array.getElem?_eq_some_iff.1 HD.out).1
      have hD3 : V3.heap[w.heap.size + 1]? = some (.cells #[.slice none 0 0, .slice none 0 0, .slice none 0 0] 26 (0, 0)) := (hC13.block _ (Array.getElem?_eq_some_iff.1 hDV).1 (by omega)).trans hDV
      obtain ⟨z0, z1, z2, _⟩ := block3 hKV3
      obtain ⟨v0, v1, v2, vf⟩ := block3 hD3
      have vf0 := vf 0
      have vf1 := vf 1
      have vf2 := vf 2
      have hne : ¬ w1.heap.size = w.heap.size + 1 := by omega
      have HC23 := hide hC23
      have HC13 := hide hC13
      have HN3 := hide hN3
      have HD3 := hide hD3
      have HTB2 := hide htb2
      have HNB2 := hide hnb2
      have HZ13 := hide hz13
      clear hV3 hKV3 hC23 hN3 hC13 hDV htb2 hnb2 hz13 hD3 vf k2 kf22 k2' kg2
      go_wp2_with fail
      have hc : Chg (fun q => q = w.heap.size + 1) V3 (((V3.setCell ⟨w.heap.size + 1, 0, none⟩ (.slice ra st.1.length rc)).setCell ⟨w.heap.size + 1, 1, none⟩ (.slice (some ⟨tb, toff, none⟩) (m + (st.2.1.length - (m + 1))) tc)).setCell ⟨w.heap.size + 1, 2, none⟩ (.slice (some ⟨nb, noff, none⟩) (m + (st.2.2.length - (m + 1))) nc)) :=
        Chg.setCell (F := fun q => q = w.heap.size + 1) (Chg.setCell (F := fun q => q = w.heap.size + 1) (Chg.setCell (F := fun q => q = w.heap.size + 1) (Chg.refl _ _) rfl _) rfl _) rfl _
      have hvar := block3_set2 (block3_set1 (block3_set0 HD3.out (.slice ra st.1.length rc)) (.slice (some ⟨tb, toff, none⟩) (m + (st.2.1.length - (m + 1))) tc)) (.slice (some ⟨nb, noff, none⟩) (m + (st.2.2.length - (m + 1))) nc)
      generalize ((V3.setCell ⟨w.heap.size + 1, 0, none⟩ (.slice ra st.1.length rc)).setCell ⟨w.heap.size + 1, 1, none⟩ (.slice (some ⟨tb, toff, none⟩) (m + (st.2.1.length - (m + 1))) tc)).setCell ⟨w.heap.size + 1, 2, none⟩ (.slice (some ⟨nb, noff, none⟩) (m + (st.2.2.length - (m + 1))) nc) = WF at *
      obtain ⟨r0, r1, r2, _⟩ := block3 hvar
      have htb2 := HTB2.out
      have hnb2 := HNB2.out
      have hz13 := HZ13.out
      have hzV := HZV.out
      have hz2 := HC12.out.size
      have hz3 := HC23.out.size
      have hall : Chg (fun q => q = tb ∨ q = nb ∨ q = w1.heap.size ∨ q = w.heap.size + 1) V WF := (HC13.out.mono (fun q e => by omega)).trans (hc.mono (fun q e => by omega))
      have hbF : Below w.heap.size w WF := (HB1.out.trans (HBV.out.mono (by omega))).trans (hall.below (by omega) (fun q hq e => by omega))
      have htF : ∀ o, WF.cell? ⟨tb, o, none⟩ = (V.drew.setCells tb (toff + m * 3) (lateT st.2.1 pa pc m st.2.1.length)).cell? ⟨tb, o, none⟩ := fun o => by
        rw [World.cell?_of_block (hc.block tb (by omega) (by omega)), World.cell?_of_block (HC23.out.block tb (by omega) (by omega))]
        exact HT2.out o
      have hnF : ∀ o, WF.cell? ⟨nb, o, none⟩ = (V2.drew.setCells nb (noff + m) (lateN st.2.2 m st.2.2.length)).cell? ⟨nb, o, none⟩ := fun o => by
        rw [World.cell?_of_block (hc.block nb (by omega) (by omega))]
        exact HN3.out o
      have hNL := HN.out
      rw [show m + (st.2.1.length - (m + 1)) = st.2.1.length - 1 by omega] at r1
      rw [show m + (st.2.2.length - (m + 1)) = st.2.2.length - 1 by omega] at r2
      refine bodyPost_ret (v := .agg #[.slice ra st.1.length rc, .slice (some ⟨tb, toff, none⟩) (st.2.1.length - 1) tc, .slice (some ⟨nb, noff, none⟩) (st.2.2.length - 1) nc]) (by simp [results, Tryd.results27, go_sem, r0, r1, r2]) rfl ⟨_, rfl, fun wz hk => ?_, hbF⟩
      have hz4 := hc.size
      replace htF : ∀ o, wz.cell? ⟨tb, o, none⟩ = (V.drew.setCells tb (toff + m * 3) (lateT st.2.1 pa pc m st.2.1.length)).cell? ⟨tb, o, none⟩ := fun o => (World.cell?_of_block (hk.block tb (by omega) (by omega))).trans (htF o)
      replace hnF : ∀ o, wz.cell? ⟨nb, o, none⟩ = (V2.drew.setCells nb (noff + m) (lateN st.2.2 m st.2.2.length)).cell? ⟨nb, o, none⟩ := fun o => (World.cell?_of_block (hk.block nb (by omega) (by omega))).trans (hnF o)
      replace hall : Chg (fun q => q = tb ∨ q = nb ∨ q = w1.heap.size ∨ q = w.heap.size + 1 ∨ q < w.heap.size) V wz := (hall.mono (fun q e => by omega)).trans (hk.mono (fun q e => by omega))
      refine ⟨_, _, _, rfl, ?_, trainsAt_fn (fun j hj => ⟨tb, toff, rfl, ?_⟩), intsAt_fn (fun j hj => ⟨nb, noff, rfl, ?_⟩)⟩
      · refine OwnF.at (HLV.out.r.chg hall (fun q hq e => ?_)) (fun _ _ => rfl)
        have u1 := HLF.out q (Or.inl hq)
        have u2 := HL.out.apart.lt q (Or.inl hq)
        rcases e with e | e | e | e | e
        · exact HLV.out.apart.rt q hq (Or.inl (e ▸ FA_mk _ _))
        · exact HLV.out.apart.rn q hq (e ▸ FA_mk _ _)
        · omega
        · omega
        · omega
      · obtain ⟨j', hj', hsk⟩ : ∃ j', j' < st.2.1.length ∧ skip m j = j' := ⟨skip m j, by unfold skip; split <;> omega, rfl⟩
        rw [hsk]
        obtain ⟨j0, j1, j2, _⟩ := HLV.out.t.rowAt j' hj'
        have hcellT : ∀ o, o < 3 → wz.cell? ⟨tb, toff + j * 3 + o, none⟩ = V.cell? ⟨tb, toff + j' * 3 + o, none⟩ := fun o ho => by
          rw [htF]
          unfold skip at hsk
          by_cases e : j < m
          · rw [if_pos e] at hsk
            subst hsk
            rw [World.cell?_setCells_out tb _ _ _ _ (fun _ _ => Or.inl (by show toff + j * 3 + o < _; omega))]
            rfl
          · rw [if_neg e] at hsk
            subst hsk
            have hlen := lateT_length st.2.1 pa pc m st.2.1.length
            have hidx : (j - m) * 3 + o < (lateT st.2.1 pa pc m st.2.1.length).length := by rw [hlen]; omega
            rw [show toff + j * 3 + o = toff + m * 3 + ((j - m) * 3 + o) by omega, World.cell?_setCells_in tb _ _ _ (fun q hq => HS3.out q hq) _ hidx]
            have hg := late_news (m := m) HLV.out.t ((j - m) * 3 + o) _ (List.getElem?_eq_getElem hidx)
            rw [show toff + (m + 1) * 3 + ((j - m) * 3 + o) = toff + (j + 1) * 3 + o by omega] at hg
            exact hg.symm
        refine ⟨.slice (pa j') (tPath st.2.1 j').length (pc j'), ?_, ?_, ?_, ?_⟩
        · have := hcellT 0 (by omega)
          rw [Nat.add_zero, Nat.add_zero] at this
          rw [this]; exact j0
        · rw [hcellT 1 (by omega)]; exact j1
        · refine OwnF.at ((HLV.out.t.path j' hj').chg hall (fun q hq e' => ?_)) (fun _ _ => rfl)
          have u1 := HLF.out q (Or.inr (Or.inr (Or.inr ⟨j', hj', hq⟩)))
          have u2 := HL.out.apart.lt q (Or.inr (Or.inr (Or.inr ⟨j', hj', hq⟩)))
          rcases e' with e' | e' | e' | e' | e'
          · exact HLV.out.t.ne j' q hj' hq (e' ▸ FA_mk _ _)
          · exact HLV.out.apart.nt nb (FA_mk _ _) (Or.inr ⟨j', hj', e' ▸ hq⟩)
          · omega
          · omega
          · omega
        · rw [hcellT 2 (by omega)]; exact j2
      · have hcellN : ∀ i, i < st.2.2.length → V2.cell? ⟨nb, noff + i, none⟩ = some (.int .i64 (el st.2.2 i)) := fun i hi => by
          obtain ⟨b', o', e', h1, h2⟩ := HON.out i hi
          simp only [Option.some.injEq, Addr.mk.injEq, and_true] at e'
          obtain ⟨rfl, rfl⟩ := e'
          exact h1
        rw [hnF]
        unfold skip
        by_cases e : j < m
        · rw [if_pos e, World.cell?_setCells_out nb _ _ _ _ (fun _ _ => Or.inl (by show noff + j < _; omega))]
          exact hcellN j (by omega)
        · rw [if_neg e]
          have hlen := lateN_length st.2.2 m st.2.2.length
          have hidx : j - m < (lateN st.2.2 m st.2.2.length).length := by rw [hlen]; omega
          rw [show noff + j = noff + m + (j - m) by omega, World.cell?_setCells_in nb _ _ _ (fun q hq => by
            have := (u3'.out q hq).1
            rw [Nat.mul_one] at this
            exact this) _ hidx]
          simp [lateN, show m + 1 + (j - m) = j + 1 by omega]
end Go.Proofs.YtmjjigdnoiphbaaDoor

/-
  spec.Step.
-/
namespace Go.Proofs.YtmjjigdnoiphbaaDoor
open Go.RowKit Go.Deep
set_option linter.unusedVariables false

theorem RightSt.small {st : St} (h : RightSt st) : SmallSt st := by
  obtain ⟨l1, l2, l3, l4⟩ := h.lens
  exact ⟨by omega, by omega, by omega, fun i hi => by have := (h.train i hi).2.2.1; omega⟩

theorem l1step_any (v : Value) (st : St) (m : Nat) (w : World) (h : StateAt w v st) (hs : SmallSt st) (hm : m < st.2.1.length) (hn : st.2.2.length = st.2.1.length) :
    Calls Tryd.prog 27 #[v, .int .i64 m] w fun e w' => ∃ r, e = .returned r ∧ (∀ w'', Chg (fun q => q < w.heap.size) w' w'' → StateAt w'' r (stepSt st m)) ∧ Below w.heap.size w w' := by
  by_cases e : (tPath st.2.1 m).length = 0
  · exact l1step_out v st m w h hs hm hn e
  · exact l1step_go v st m w h hs hm hn e

theorem nilAt (w : World) : StateAt w (.agg #[.slice none 0 0, .slice none 0 0, .slice none 0 0]) ([], [], []) := (nilL_own w).at

end Go.Proofs.YtmjjigdnoiphbaaDoor
