/-
  Law Easier.
-/
import Derived.Test.YtmjjigdnoiphbaaSts
import Derived.Test.YtmjjigdnoiphbaaJ3
import Derived.Test.YtmjjigdnoiphbaaSo6
import Derived.Test.YtmjjigdnoiphbaaSs
import Derived.Deep.RegionHeld3
import Derived.Deep.DrawnRows
namespace Go.Proofs.Ytmjjigdnoiphbaa
open Go.RowKit Go.Deep
set_option linter.unusedVariables false

theorem OwnS.more {w : World} {L : Lies} {st : St} (h : OwnS w L st) {m rb roff : Nat} (hm : m < st.1.length) (hra : L.ra = some ⟨rb, roff, none⟩) : OwnS (w.setCell ⟨rb, roff + m, none⟩ (.int .i64 (el st.1 m + 1))) L (moreSt st m) := by
  have hr := h.r
  rw [hra] at hr
  have hlen : (moreSt st m).1.length = st.1.length := List.length_set
  have hb : ∀ k, k ≠ rb → (w.setCell ⟨rb, roff + m, none⟩ (.int .i64 (el st.1 m + 1))).heap[k]? = w.heap[k]? := fun k hk => Below.heap_setCell _ _ _ _ hk
  have hne : ∀ k, FT L.ta L.pa st.2.1.length k → k ≠ rb := fun k e e' => by
    subst e'
    exact h.apart.rt k ⟨roff, hra⟩ e
  have hnn : ∀ k, FA L.na k → k ≠ rb := fun k e e' => by
    subst e'
    exact h.apart.rn k ⟨roff, hra⟩ e
  refine ⟨?_, h.t.keep (fun k _ e => hb k (hne k e)), h.n.keep (fun k _ e => hb k (hnn k e)), ⟨h.apart.rt, h.apart.nt, h.apart.rn, fun k e => by have := h.apart.lt k e; simpa using this⟩⟩
  rw [hlen, hra]
  refine (hr.set m (el st.1 m + 1)).congr (fun i hi => ?_)
  show _ = el (st.1.set m (el st.1 m + 1)) i
  rw [el_set _ _ _ _ hm]
  rfl
theorem OwnS.less {w : World} {L : Lies} {st : St} (h : OwnS w L st) (hpc : ∀ i, i < st.2.1.length → (tPath st.2.1 i).length ≤ L.pc i) (hn : st.2.2.length = st.2.1.length) : StateAt w (.agg #[.slice L.ra st.1.length L.rc, .slice L.ta (st.2.1.length - 1) L.tc, .slice L.na (st.2.1.length - 1) L.nc]) (lessSt st) ∧ CapSt w (.agg #[.slice L.ra st.1.length L.rc, .slice L.ta (st.2.1.length - 1) L.tc, .slice L.na (st.2.1.length - 1) L.nc]) (lessSt st).2.1.length := by
  have hl := lessSt_len (st := st)
  have hnl : (lessSt st).2.2.length = st.2.1.length - 1 := by simp [lessSt, hn]
  refine ⟨⟨_, _, _, rfl, h.r.at (fun _ _ => rfl), ⟨L.ta, L.tc, by rw [hl], fun i hi => ?_⟩, ⟨L.na, L.nc, by rw [hnl], fun i hi => ?_⟩⟩, ?_⟩
  · rw [hl] at hi
    obtain ⟨b, off, e, h0, h1, h2, _⟩ := h.t.row i (by omega)
    refine ⟨b, off, e, .slice (L.pa i) (tPath st.2.1 i).length (L.pc i), ?_, h1, ?_, ?_⟩
    · show _ = some (Value.int .i64 (tAt (st.2.1.take _) i)); rw [tAt_take hi]; exact h0
    · show IntsAt w _ (tPath (st.2.1.take _) i); rw [tPath_take hi]; exact (h.t.path i (by omega)).at (fun _ _ => rfl)
    · show _ = some (Value.int .i64 (tWt (st.2.1.take _) i)); rw [tWt_take hi]; exact h2
  · rw [hnl] at hi
    obtain ⟨b, off, e, h0, _⟩ := h.n i (by omega)
    refine ⟨b, off, e, ?_⟩
    show _ = some (Value.int .i64 (el (st.2.2.take _) i))
    rw [el_take (by omega)]
    exact h0
  · intro a1 l1 q1 a2 l2 q2 a3 l3 q3 hv i b off p q c hi ha hc
    rw [hl] at hi
    simp only [Value.agg.injEq, Array.mk.injEq, List.cons.injEq, Value.slice.injEq, and_true] at hv
    obtain ⟨_, ⟨rfl, _, _⟩, _⟩ := hv
    obtain ⟨b', off', e, _, h1, _⟩ := h.t.row i (by omega)
    rw [e] at ha
    simp only [Option.some.injEq, Addr.mk.injEq, and_true] at ha
    obtain ⟨rfl, rfl⟩ := ha
    rw [h1] at hc
    simp only [Option.some.injEq, Value.slice.injEq] at hc
    obtain ⟨_, rfl, rfl⟩ := hc
    exact hpc i (by omega)

set_option maxHeartbeats 40000000 in
set_option maxRecDepth 8000 in
theorem fnEasier_walk (a : Option Addr) (B : List Int) (q : Nat) (a2 : Option Addr) (n2 q2 : Nat) (w : World) (hl : B.length ≤ 9223372036854775807) (hl2 : n2 ≤ 9223372036854775807) (h : B.length ≤ 1048576 → BytesF w a B) (ha : ∀ b off s, a = some ⟨b, off, s⟩ → 0 < B.length → b < w.heap.size) (h2 : n2 ≤ 1048576 → BytesAt w a2 n2) :
    Calls Try.prog 7 #[.slice a B.length q, .slice a2 n2 q2] w fun e w' => e = .returned (.bool true) ∧ Below w.heap.size w w' := by
  have HB1 := hide h
  have HB2 := hide h2
  have HA := hide ha
  have HD := hide (stD_drawn B)
  have HP := hide (stD_paths B)
  have HST : Hid (∀ (W : World), BytesF W a B → (∀ b off s, a = some ⟨b, off, s⟩ → 0 < B.length → b < W.heap.size) → Calls Try.prog 12 #[.slice a B.length q] W fun e w' => ∃ L : Lies, e = .returned (L.val (stD B)) ∧ DrawnAt W w' L (stD B)) := fun W h1 h2 => states_f h1 h2
  clear h h2 ha
  generalize stD B = st at *
  generalize hn1 : B.length = n1 at *
  by_cases hbig : (n1 : Int) > 1048576
  · go_enter Try.func7, Try.ntmps7
    go_wp2_with fail
    go_ret
    exact ⟨rfl, Below.refl _ _⟩
  have hb1 : ¬ (1048576 : Int) < (n1 : Int) := by omega
  by_cases hbig2 : (n2 : Int) > 1048576
  · go_enter Try.func7, Try.ntmps7
    go_wp2_with fail
    go_ret
    exact ⟨rfl, Below.refl _ _⟩
  have hb2 : ¬ (1048576 : Int) < (n2 : Int) := by omega
  have HY1 := hide (HB1.out (by omega))
  have HY2 := hide (HB2.out (by omega))
  have HN1 := hide hn1
  clear HB1 HB2 hbig hbig2 hn1 hl hl2
  go_enter Try.func7, Try.ntmps7
  go_wp2_with fail
  clear hb1 hb2
  refine (HST.out _ HY1.out HA.out).mono ?_
  rintro e w1 ⟨L, rfl, hd⟩
  have HD1 := hide hd
  have HS1 := hide hd.own.at
  have HC1 := hide (hd.own.capSt hd.pc)
  have HW1 := hide hd.below
  obtain ⟨ra, rc, ta, tc, na, nc, pa, pc⟩ := L
  simp only [Lies.val] at HS1 HC1 ⊢
  have HV1 := hide (Joins.below_alloc1 w1 (.cells #[.slice ra st.1.length rc, .slice ta st.2.1.length tc, .slice na st.2.2.length nc] 26))
  clear hd
  go_wp2_with fail
  refine (implSolve_any _ st _ (HS1.out.below HV1.out) (HC1.out.below HS1.out HV1.out) HP.out).mono ?_
  rintro e w2 ⟨r, rfl, ho2, hb2⟩
  obtain ⟨ma, ml, mc, hr⟩ : ∃ ma ml mc, r = .slice ma ml mc := by obtain ⟨x, y, e⟩ := ho2.form; exact ⟨x, _, y, e⟩
  subst hr
  have HW2 := hide (below_tail (below_tail HW1.out HV1.out) hb2)
  have c0 := cell_later hb2 (show _ = some (Value.slice ra st.1.length rc) from (block3 (heap_alloc_new w1 (.cells #[.slice ra st.1.length rc, .slice ta st.2.1.length tc, .slice na st.2.2.length nc] 26))).1)
  have c1 := cell_later hb2 (show _ = some (Value.slice ta st.2.1.length tc) from (block3 (heap_alloc_new w1 (.cells #[.slice ra st.1.length rc, .slice ta st.2.1.length tc, .slice na st.2.2.length nc] 26))).2.1)
  have c2 := cell_later hb2 (show _ = some (Value.slice na st.2.2.length nc) from (block3 (heap_alloc_new w1 (.cells #[.slice ra st.1.length rc, .slice ta st.2.1.length tc, .slice na st.2.2.length nc] 26))).2.2.1)
  have HS2 := hide (HS1.out.below (below_tail HV1.out hb2))
  have HY12 := hide (HY1.out.below HW2.out)
  have HY22 := hide (BytesAt.below HY2.out HW2.out)
  have hlt2 : w1.heap.size < w2.heap.size := World.block_lt_of_cell? _ _ c0
  clear HS1 HC1 HV1 HW1 hb2 ho2 HD1 HY1 HY2
  generalize w1.heap.size = sb at *
  cases hsf : safeF st
  · have hso : solveF st = (false, 0, []) := by
      have := solve_ok (st := st)
      rw [hsf] at this
      unfold solveF at this ⊢
      split at this
      · cases this
      · rename_i hh; rw [if_neg hh]
    rw [hso]
    simp only
    go_wp2_with fail
    refine (specSafe_any _ st _ (HS2.out.below (Joins.below_alloc1 _ _))).mono ?_
    rintro e w3 ⟨rfl, hb3⟩
    rw [hsf]
    have HB3 := hide (below_tail (below_tail HW2.out (Joins.below_alloc1 w2 _)) hb3)
    clear hb3
    go_wp2_with fail
    go_ret
    exact ⟨rfl, HB3.out⟩
  rw [solve_parts hsf]
  simp only
  have HSF := hide hsf
  have hsr := (safeF_iff.1 hsf).1
  have HSR := hide hsr
  obtain ⟨hl0, hl1, hl3, hl4⟩ := hsr.lens
  have HL4 := hide hl4
  clear hl4
  generalize hva : vP st pz = va at *
  have HVA := hide hva
  clear hva hsf hsr c0 c1 c2 HS2
  go_wp2_with fail
  have hbA := Joins.below_alloc1 w2 (.cells #[.bool true, .int .i64 va, .slice ma ml mc] 32)
  refine (HST.out _ (HY12.out.below hbA) (fun b off s e h0 => by have := HA.out b off s e h0; have := HW2.out.size; have := hbA.size; omega)).mono ?_
  rintro e w3 ⟨L, rfl, hd⟩
  obtain ⟨a0, a1, -, -⟩ := block3 (heap_alloc_new w2 (.cells #[.bool true, .int .i64 va, .slice ma ml mc] 32))
  replace a0 := cell_later hd.below a0
  replace a1 := cell_later hd.below a1
  have HW3 := hide (below_tail (below_tail HW2.out hbA) hd.below)
  have HY23 := hide (BytesAt.below HY22.out (below_tail hbA hd.below))
  have HD3 := hide (And.intro hd.own (And.intro hd.pc (And.intro hd.tc hd.nc)))
  have hab3 : w2.heap.size < w3.heap.size := World.block_lt_of_cell? _ _ a1
  obtain ⟨ra, rc, ta, tc, na, nc, pa, pc⟩ := L
  obtain ⟨rb, roff, hra, -⟩ := hd.own.r 0 (by omega)
  simp only at hra
  subst hra
  have hbig := hd.new rb (Or.inl ⟨roff, rfl⟩)
  simp only [Lies.val]
  have hnew : w2.heap.size < rb := by simp at hbig; omega
  have hwab : w.heap.size ≤ w2.heap.size := HW2.out.size
  clear hd hbA a0 hbig HW2 HY12 HY22
  generalize w2.heap.size = ab at *
  go_wp2_with fail
  obtain ⟨V, hV⟩ : ∃ V, V = w3.alloc (.cells #[.slice (some ⟨rb, roff, none⟩) st.1.length rc, .slice ta st.2.1.length tc, .slice na st.2.2.length nc] 26) := ⟨_, rfl⟩
  rw [← hV]
  have hbV : Below w3.heap.size w3 V := by rw [hV]; exact Joins.below_alloc1 _ _
  have hTV : V.heap[w3.heap.size]? = some (.cells #[.slice (some ⟨rb, roff, none⟩) st.1.length rc, .slice ta st.2.1.length tc, .slice na st.2.2.length nc] 26 (0, 0)) := by rw [hV]; exact heap_alloc_new _ _
  have HTV := hide hTV
  obtain ⟨j0, j1, j2, jf⟩ := block3 hTV
  replace a1 := cell_later hbV a1
  have HDV := hide (And.intro (HD3.out.1.below hbV) HD3.out.2)
  have HFV : Hid (∀ k, Lies.F ⟨some ⟨rb, roff, none⟩, rc, ta, tc, na, nc, pa, pc⟩ st.2.1.length k → k ≠ w3.heap.size) := fun k e => by have := HD3.out.1.apart.lt k e; omega
  have HWV := hide (below_tail HW3.out hbV)
  have HYV := hide (BytesAt.below HY23.out hbV)
  have htbV : w3.heap.size < V.heap.size := World.block_lt_of_cell? _ _ j0
  have HWT : Hid (w.heap.size ≤ w3.heap.size) := HW3.out.size
  clear hV hbV HW3 HY23 HD3 hTV
  generalize w3.heap.size = tb at *
  refine (wByte_any HYV.out 0 (by omega)).mono ?_
  rintro e w4 ⟨x0, rfl, hx0, hx1, m4, rfl⟩
  obtain ⟨r0, hr0⟩ : ∃ r0 : Nat, x0.tmod 2 = (r0 : Int) := ⟨(x0.tmod 2).toNat, by rw [Int.tmod_eq_emod_of_nonneg hx0]; omega⟩
  have hb4 := Joins.below_draws V.heap.size V m4
  replace j0 := cell_later hb4 j0
  replace j1 := cell_later hb4 j1
  replace j2 := cell_later hb4 j2
  replace a1 := cell_later hb4 a1
  have HD4 := hide (And.intro (HDV.out.1.below hb4) HDV.out.2)
  have HW4 := hide (below_tail HWV.out hb4)
  have HY4 := hide (BytesAt.below HYV.out hb4)
  have HT4 := hide (blockLater hb4 HTV.out)
  have htb4 : tb < (V.drewN m4).heap.size := World.block_lt_of_cell? _ _ j0
  clear hb4 HDV HWV HYV htbV HTV jf
  generalize V.drewN m4 = W4 at *
  have hkey : (r0 = 0 ∨ (¬ r0 = 0 ∧ st.2.1.length = 0)) ∨ (¬ r0 = 0 ∧ 0 < st.2.1.length) := by omega
  rcases hkey with hkey | ⟨hr1, hlen⟩
  · have hroom : 0 < st.1.length := by omega
    have hcc : (((r0 : Int) == 0) = true) ∨ (((r0 : Int) == 0) = false ∧ ((st.2.1.length : Int) == 0) = true) := by
      rcases hkey with e | ⟨e, e'⟩
      · left; rw [beq_iff_eq]; omega
      · right; exact ⟨by rw [beq_eq_false_iff_ne]; omega, by rw [beq_iff_eq]; omega⟩
    clear hkey
    rcases hcc with hc1 | ⟨hc1, hc2⟩
    all_goals
      have HK : Hid (∀ W5, Below W4.heap.size W4 W5 → ∀ u, u < st.1.length → W5.cell? ⟨tb, 0, none⟩ = some (.slice (some ⟨rb, roff, none⟩) st.1.length rc) ∧ W5.cell? ⟨rb, roff + u, none⟩ = some (.int .i64 (el st.1 u)) ∧ W5.frozen? ⟨rb, roff + u, none⟩ = false ∧ IntKind.i64.wrap (el st.1 u + 1) = el st.1 u + 1 ∧ (0 : Int) ≤ (u : Int) ∧ (u : Int) < (st.1.length : Int)) := fun W5 hb5 u hu => by
        obtain ⟨b', o', e', hcu, hfu⟩ := (HD4.out.1.below hb5).r u hu
        simp only [Option.some.injEq, Addr.mk.injEq, and_true] at e'
        obtain ⟨rfl, rfl⟩ := e'
        have := HD.out.rooms.2.2 u hu
        exact ⟨cell_later hb5 j0, hcu, hfu, by rw [IntKind.wrap_i64]; omega, by omega, by omega⟩
      have hrne : ¬ (st.1.length : Int) = 0 := by omega
      have hnil : ¬ st.1 = [] := fun e => by rw [e] at hroom; simp at hroom
      have hrnb : ((st.1.length : Int) == 0) = false := by rw [beq_eq_false_iff_ne]; omega
      go_wp2_with fail
      go_region_law (first | (go_simp; go_at_call 19; refine (wByte_any (BytesAt.below HY4.out ((Below.refl _ W4).drew)) 1 (by omega)).mono ?_; rintro e w5 ⟨x1, rfl, hy0, hy1, m5, rfl⟩; obtain ⟨u, hu, hud⟩ := tmod_nat hy0 hroom; have hb5 := below_tail ((Below.refl _ W4).drew) (Joins.below_draws _ _ m5); obtain ⟨k0, k1, k2, k3, k4, k5⟩ := HK.out _ hb5 u hud; have HB5 := hide hb5; clear hb5; generalize (W4.drew).drewN m5 = W5 at *))
      all_goals
        have hO5 := HD4.out.1.below HB5.out
        have hO6 : OwnS (W5.setCell ⟨rb, roff + u, none⟩ (.int .i64 (el st.1 u + 1))) ⟨some ⟨rb, roff, none⟩, rc, ta, tc, na, nc, pa, pc⟩ (moreSt st u) := hO5.more hud rfl
        have hlm : (moreSt st u).1.length = st.1.length := List.length_set
        have htr : tb ≠ rb := Ne.symm (HFV.out rb (Or.inl ⟨roff, rfl⟩))
        have har : ab ≠ rb := by omega
        have hfar : ∀ k o, k ≠ rb → (W5.setCell ⟨rb, roff + u, none⟩ (.int .i64 (el st.1 u + 1))).cell? ⟨k, o, none⟩ = W5.cell? ⟨k, o, none⟩ := fun k o hk => World.cell?_of_block (a := ⟨k, o, none⟩) (Below.heap_setCell _ _ _ _ hk)
        replace j0 := (hfar tb 0 htr).trans (cell_later HB5.out j0)
        replace j1 := (hfar tb 1 htr).trans (cell_later HB5.out j1)
        replace j2 := (hfar tb 2 htr).trans (cell_later HB5.out j2)
        replace a1 := (hfar ab 1 har).trans (cell_later HB5.out a1)
        have HST4 : Hid (StateAt (W5.setCell ⟨rb, roff + u, none⟩ (.int .i64 (el st.1 u + 1))) (.agg #[.slice (some ⟨rb, roff, none⟩) st.1.length rc, .slice ta st.2.1.length tc, .slice na st.2.2.length nc]) (moreSt st u)) := by
          have := hO6.at
          simp only [Lies.val, hlm] at this
          exact this
        have HCP4 : Hid (CapSt (W5.setCell ⟨rb, roff + u, none⟩ (.int .i64 (el st.1 u + 1))) (.agg #[.slice (some ⟨rb, roff, none⟩) st.1.length rc, .slice ta st.2.1.length tc, .slice na st.2.2.length nc]) (moreSt st u).2.1.length) := by
          have := hO6.capSt HD4.out.2.1
          simp only [Lies.val, hlm] at this
          exact this
        have HBW4 : Hid (Below w.heap.size w (W5.setCell ⟨rb, roff + u, none⟩ (.int .i64 (el st.1 u + 1)))) := (below_tail HW4.out HB5.out).setCell (p := ⟨rb, roff + u, none⟩) (by show w.heap.size ≤ rb; omega) _
        have hr5 := HD.out.rooms.2.2 u hud
        have HSU : Hid (safeF (moreSt st u) = true ∧ vP (moreSt st u) pz ≤ va) := by
          have := eases_solve HSR.out (moreSt_right HSR.out u hud (by omega)) (moreSt_eases u hud) (fun _ _ => rfl) HSF.out
          rw [HVA.out] at this
          exact this
        have HPU : Hid (∀ i, i < (moreSt st u).2.1.length → (tPath (moreSt st u).2.1 i).length ≤ 4611686018427387904) := HP.out
        generalize W5.setCell ⟨rb, roff + u, none⟩ (.int .i64 (el st.1 u + 1)) = W6 at *
        have htb6 : tb < W6.heap.size := World.block_lt_of_cell? _ _ j0
        clear hO5 hO6 hlm hfar HB5 HD4 HT4 HW4 HY4 k0 k1 k2 k3 k4 k5 hr5 htb4 HK
        go_wp2_with fail
        refine (implSolve_any _ (moreSt st u) _ HST4.out HCP4.out HPU.out).mono ?_
        rintro e w8 ⟨r8, rfl, ho8, hb8⟩
        obtain ⟨ma8, ml8, mc8, hr8⟩ : ∃ ma ml mc, r8 = .slice ma ml mc := by obtain ⟨x, y, e⟩ := ho8.form; exact ⟨x, _, y, e⟩
        subst hr8
        rw [solve_parts HSU.out.1]
        simp only
        have HSC : Hid (∀ W, StateAt W (.agg #[.slice (some ⟨rb, roff, none⟩) st.1.length rc, .slice ta st.2.1.length tc, .slice na st.2.2.length nc]) (moreSt st u) → Calls Try.prog 20 #[.agg #[.slice (some ⟨rb, roff, none⟩) st.1.length rc, .slice ta st.2.1.length tc, .slice na st.2.2.length nc]] W fun e w' => ∃ r, e = .returned (.agg #[.bool true, .int .i64 (vP (moreSt st u) pz), r]) ∧ Below W.heap.size W w') := fun W hW => by
          refine (specSolve_any _ (moreSt st u) W hW).mono ?_
          rintro e w' ⟨r, rfl, _, hb⟩
          rw [solve_parts HSU.out.1]
          exact ⟨r, rfl, hb⟩
        have hvb : vP (moreSt st u) pz ≤ va := HSU.out.2
        have HS8 := hide (HST4.out.below hb8)
        have HB8 := hide (below_tail HBW4.out hb8)
        replace j0 := cell_later hb8 j0
        replace j1 := cell_later hb8 j1
        replace j2 := cell_later hb8 j2
        replace a1 := cell_later hb8 a1
        clear hb8 ho8 HST4 HCP4 HBW4
        generalize vP (moreSt st u) pz = vb at *
        have hfB := run_fieldBest true vb
        have htb8 : tb < w8.heap.size := World.block_lt_of_cell? _ _ j0
        have hab8 : ab < w8.heap.size := World.block_lt_of_cell? _ _ a1
        go_wp2_with fail
        obtain ⟨V, hV⟩ : ∃ V, V = w8.alloc (.cells #[.bool true, .int .i64 vb, .slice ma8 ml8 mc8] 32) := ⟨_, rfl⟩
        rw [← hV]
        have hbV : Below w8.heap.size w8 V := by rw [hV]; exact Joins.below_alloc1 _ _
        obtain ⟨d0, d1, d2, -⟩ := block3 (show V.heap[w8.heap.size]? = _ by rw [hV]; exact heap_alloc_new _ _)
        replace j0 := cell_later hbV j0
        replace j1 := cell_later hbV j1
        replace j2 := cell_later hbV j2
        replace a1 := cell_later hbV a1
        have HSV := hide (HS8.out.below hbV)
        have HBV := hide (below_tail HB8.out hbV)
        clear hV hbV HS8 HB8
        generalize w8.heap.size = bb at *
        go_region_held3 (fun w' => w'.cell? ⟨tb, 0, none⟩ = some (.slice (some ⟨rb, roff, none⟩) st.1.length rc) ∧ w'.cell? ⟨tb, 1, none⟩ = some (.slice ta st.2.1.length tc) ∧ w'.cell? ⟨tb, 2, none⟩ = some (.slice na st.2.2.length nc) ∧ w'.cell? ⟨bb, 0, none⟩ = some (.bool true) ∧ w'.cell? ⟨bb, 1, none⟩ = some (.int .i64 vb) ∧ w'.cell? ⟨ab, 1, none⟩ = some (.int .i64 va))
          (first | (exact ⟨cell_later hb9 (by exact j0), cell_later hb9 (by exact j1), cell_later hb9 (by exact j2), cell_later hb9 (by exact d0), cell_later hb9 (by exact d1), cell_later hb9 (by exact a1)⟩) | go_keep)
          (first | (go_at_call 20; refine (HSC.out _ (HSV.out.below (Joins.below_draws _ _ 1))).mono ?_; rintro e' w9 ⟨r9, rfl, hb9⟩))
        all_goals
          have HB9 := hide (below_tail ((Below.refl _ V).drew) hb9)
          clear hb9
          go_wp2_with fail
          go_ret
          exact ⟨rfl, below_tail HBV.out HB9.out⟩
  · have hc1 : ((r0 : Int) == 0) = false := by rw [beq_eq_false_iff_ne]; omega
    have hc2 : ((st.2.1.length : Int) == 0) = false := by rw [beq_eq_false_iff_ne]; omega
    obtain ⟨l1, hl1e⟩ : ∃ l1 : Nat, (st.2.1.length : Int) - 1 = (l1 : Int) := ⟨st.2.1.length - 1, by omega⟩
    have htc : l1 ≤ tc := by have h9 : st.2.1.length ≤ tc := HD4.out.2.2.1; omega
    have hnc : l1 ≤ nc := by have h9 : st.2.2.length ≤ nc := HD4.out.2.2.2; have := HL4.out; omega
    have hl10 : (0 : Int) ≤ (l1 : Int) := by omega
    have htci : (l1 : Int) ≤ (tc : Int) := by omega
    have hnci : (l1 : Int) ≤ (nc : Int) := by omega
    have hlw : wrap64 ((st.2.1.length : Int) - 1) = (l1 : Int) := by unfold wrap64; omega
    rw [HL4.out] at j2
    obtain ⟨-, t1, t2, tf⟩ := block3 HT4.out
    have tf1 := tf 1
    have tf2 := tf 2
    have HL1 : Hid (st.2.1.length - 1 = l1) := show _ = l1 by omega
    clear t1 t2 tf
    go_wp2_with fail
    obtain ⟨hsl, hcl⟩ := HD4.out.1.less HD4.out.2.1 HL4.out
    simp only [HL1.out] at hsl hcl
    have hc6 : Chg (fun q => q = tb) W4 ((W4.setCell ⟨tb, 1, none⟩ (.slice ta l1 tc)).setCell ⟨tb, 2, none⟩ (.slice na l1 nc)) := Chg.setCell (F := fun q => q = tb) (Chg.setCell (F := fun q => q = tb) (Chg.refl _ _) rfl _) rfl _
    have hvar := block3_set2 (block3_set1 HT4.out (.slice ta l1 tc)) (.slice na l1 nc)
    have hO6 := HD4.out.1.keep hc6.size (fun k hk e => hc6.block k hk (HFV.out k e))
    obtain ⟨hsl', hcl'⟩ := hO6.less HD4.out.2.1 HL4.out
    simp only [HL1.out] at hsl' hcl'
    have HST4 := hide hsl'
    have HCP4 := hide hcl'
    obtain ⟨v0, v1, v2, -⟩ := block3 hvar
    replace j0 := v0
    replace j1 := v1
    replace j2 := v2
    replace a1 := (World.cell?_of_block (a := ⟨ab, 1, none⟩) (hc6.block ab (World.block_lt_of_cell? _ _ a1) (by omega))).trans a1
    have HBW4 : Hid (Below w.heap.size w ((W4.setCell ⟨tb, 1, none⟩ (.slice ta l1 tc)).setCell ⟨tb, 2, none⟩ (.slice na l1 nc))) := HW4.out.trans (hc6.below (by have := HW4.out.size; exact this) (fun k hk e => by have := HWT.out; omega))
    have HSU : Hid (safeF (lessSt st) = true ∧ vP (lessSt st) pz ≤ va) := by
      have := eases_solve HSR.out (lessSt_right HSR.out hlen) (lessSt_eases HSR.out.so hlen) (fun i hi => by rw [lessSt_len] at hi; show (tPath (st.2.1.take _) i).length = _; rw [tPath_take hi]) HSF.out
      rw [HVA.out] at this
      exact this
    have HPU : Hid (∀ i, i < (lessSt st).2.1.length → (tPath (lessSt st).2.1 i).length ≤ 4611686018427387904) := fun i hi => by
      rw [lessSt_len] at hi
      show (tPath (st.2.1.take _) i).length ≤ _
      rw [tPath_take hi]
      exact HP.out i (by omega)
    generalize (W4.setCell ⟨tb, 1, none⟩ (.slice ta l1 tc)).setCell ⟨tb, 2, none⟩ (.slice na l1 nc) = W6 at *
    clear hO6 hsl hcl hsl' hcl' hvar v0 v1 v2 HD4 HT4 HW4 HY4 hc6 tf1 tf2
    refine (implSolve_any _ (lessSt st) _ HST4.out HCP4.out HPU.out).mono ?_
    rintro e w8 ⟨r8, rfl, ho8, hb8⟩
    obtain ⟨ma8, ml8, mc8, hr8⟩ : ∃ ma ml mc, r8 = .slice ma ml mc := by obtain ⟨x, y, e⟩ := ho8.form; exact ⟨x, _, y, e⟩
    subst hr8
    rw [solve_parts HSU.out.1]
    simp only
    have HSC : Hid (∀ W, StateAt W (.agg #[.slice (some ⟨rb, roff, none⟩) st.1.length rc, .slice ta l1 tc, .slice na l1 nc]) (lessSt st) → Calls Try.prog 20 #[.agg #[.slice (some ⟨rb, roff, none⟩) st.1.length rc, .slice ta l1 tc, .slice na l1 nc]] W fun e w' => ∃ r, e = .returned (.agg #[.bool true, .int .i64 (vP (lessSt st) pz), r]) ∧ Below W.heap.size W w') := fun W hW => by
      refine (specSolve_any _ (lessSt st) W hW).mono ?_
      rintro e w' ⟨r, rfl, _, hb⟩
      rw [solve_parts HSU.out.1]
      exact ⟨r, rfl, hb⟩
    have hvb : vP (lessSt st) pz ≤ va := HSU.out.2
    have HS8 := hide (HST4.out.below hb8)
    have HB8 := hide (below_tail HBW4.out hb8)
    replace j0 := cell_later hb8 j0
    replace j1 := cell_later hb8 j1
    replace j2 := cell_later hb8 j2
    replace a1 := cell_later hb8 a1
    clear hb8 ho8 HST4 HCP4 HBW4
    generalize vP (lessSt st) pz = vb at *
    have hfB := run_fieldBest true vb
    have htb8 : tb < w8.heap.size := World.block_lt_of_cell? _ _ j0
    have hab8 : ab < w8.heap.size := World.block_lt_of_cell? _ _ a1
    go_wp2_with fail
    obtain ⟨V, hV⟩ : ∃ V, V = w8.alloc (.cells #[.bool true, .int .i64 vb, .slice ma8 ml8 mc8] 32) := ⟨_, rfl⟩
    rw [← hV]
    have hbV : Below w8.heap.size w8 V := by rw [hV]; exact Joins.below_alloc1 _ _
    obtain ⟨d0, d1, d2, -⟩ := block3 (show V.heap[w8.heap.size]? = _ by rw [hV]; exact heap_alloc_new _ _)
    replace j0 := cell_later hbV j0
    replace j1 := cell_later hbV j1
    replace j2 := cell_later hbV j2
    replace a1 := cell_later hbV a1
    have HSV := hide (HS8.out.below hbV)
    have HBV := hide (below_tail HB8.out hbV)
    clear hV hbV HS8 HB8
    generalize w8.heap.size = bb at *
    go_region_held3 (fun w' => w'.cell? ⟨tb, 0, none⟩ = some (.slice (some ⟨rb, roff, none⟩) st.1.length rc) ∧ w'.cell? ⟨tb, 1, none⟩ = some (.slice ta l1 tc) ∧ w'.cell? ⟨tb, 2, none⟩ = some (.slice na l1 nc) ∧ w'.cell? ⟨bb, 0, none⟩ = some (.bool true) ∧ w'.cell? ⟨bb, 1, none⟩ = some (.int .i64 vb) ∧ w'.cell? ⟨ab, 1, none⟩ = some (.int .i64 va))
      (first | (exact ⟨cell_later hb9 (by exact j0), cell_later hb9 (by exact j1), cell_later hb9 (by exact j2), cell_later hb9 (by exact d0), cell_later hb9 (by exact d1), cell_later hb9 (by exact a1)⟩) | go_keep)
      (first | (go_at_call 20; refine (HSC.out _ (HSV.out.below (Joins.below_draws _ _ 1))).mono ?_; rintro e' w9 ⟨r9, rfl, hb9⟩))
    all_goals
      have HB9 := hide (below_tail ((Below.refl _ V).drew) hb9)
      clear hb9
      go_wp2_with fail
      go_ret
      exact ⟨rfl, below_tail HBV.out HB9.out⟩
end Go.Proofs.Ytmjjigdnoiphbaa
