/-
  spec.l2ring.
-/
import Derived.Test.YtmjjigdnoiphbabRg0
import Derived.Deep.LoopGhost
import Derived.Deep.RegionHeld3
namespace Go.Proofs.Ytmjjigdnoiphbab
open Go.RowKit Go.Deep
set_option linter.unusedVariables false

theorem own_one (w : World) (x : Value) (t : TypeId) {B : Nat} (hB : B ≤ w.heap.size) : (w.alloc (.cells #[x] t)).ownsRow B t 1 (.slice (some ⟨w.heap.size, 0, none⟩) 1 1) 1 [x] :=
  ⟨rfl, Or.inr ⟨w.heap.size, 1, #[x], rfl, hB, heap_alloc_new _ _, Nat.le_refl _, by decide, rfl, rfl⟩⟩
theorem Ways.one (w : World) (B : Nat) (s : Int) (hB : B ≤ w.heap.size) : Ways B ((w.alloc (.cells #[.int .i64 s] 3)).alloc (.cells #[.slice (some ⟨w.heap.size, 0, none⟩) 1 1] 22)) (.slice (some ⟨w.heap.size + 1, 0, none⟩) 1 1) [.slice (some ⟨w.heap.size, 0, none⟩) 1 1] [[s]] := by
  have h1 : (w.alloc (.cells #[.int .i64 s] 3)).ownsRow B 3 1 (.slice (some ⟨w.heap.size, 0, none⟩) 1 1) 1 [.int .i64 s] := own_one w (.int .i64 s) 3 hB
  have h2 : ((w.alloc (.cells #[.int .i64 s] 3)).alloc (.cells #[.slice (some ⟨w.heap.size, 0, none⟩) 1 1] 22)).ownsRow B 22 1 (.slice (some ⟨(w.alloc (.cells #[.int .i64 s] 3)).heap.size, 0, none⟩) 1 1) 1 [.slice (some ⟨w.heap.size, 0, none⟩) 1 1] := own_one (w.alloc (.cells #[.int .i64 s] 3)) (.slice (some ⟨w.heap.size, 0, none⟩) 1 1) 22 (by simp; omega)
  refine ⟨by simpa using h2, rfl, fun i u hu => ?_, fun u hu k hk e => ?_⟩
  · have hi : i = 0 := by
      have := (List.getElem?_eq_some_iff.1 hu).1
      simp at this
      exact this
    subst hi
    simp at hu
    subst hu
    exact ownsRow_below (show OwnInts B _ _ [s] from h1) (Joins.below_alloc1 _ _)
  · simp at hu
    subst hu
    simp [Value.ownBlock] at hk e
    omega

set_option maxRecDepth 4000 in
set_option maxHeartbeats 16000000 in
theorem l2ring_any (v : Value) (st : St) (s : Int) (w : World) (h : StateAt w v st) (hr : RightSt st) (hs : s ∈ st.2.2) :
    Calls Try.prog 52 #[v, .int .i64 s] w fun e w' => ∃ r, e = .returned r ∧ OwnInts w.heap.size w' r (ringFromF st s) ∧ Below w.heap.size w w' := by
  have HS := hide h
  have HR := hide hr
  obtain ⟨a1, q1, a2, q2, a3, q3, rfl⟩ := h.form
  obtain ⟨l1, l2, l3, l4⟩ := hr.lens
  have HL4 := hide l4
  clear h hr l4 hs
  have hmk : ∀ w : World, (Instr.makeSlice 81 (.int .i64 (1001 : Int)) (.int .i64 (1001 : Int))).run Try.prog w = .ok (.slice (some ⟨w.heap.size, 0, none⟩) 1001 1001) (w.alloc (.cells (madeCells #[.bool false] 1001) 4)) := fun w => run_make_row' (P := Try.prog) 81 4 (.bool false) 1 Try.underlying81 Try.infoBool rfl .i64 .i64 1001 (by omega) (by omega) w
  go_enter Try.func52, Try.ntmps52
  go_wp2_with fail
  clear hmk
  obtain ⟨z, hz⟩ : ∃ z, z = w.heap.size := ⟨_, rfl⟩
  obtain ⟨V, hV⟩ : ∃ V, V = (((w.alloc (.cells #[.slice a1 st.1.length q1, .slice a2 st.2.1.length q2, .slice a3 st.2.2.length q3] 30)).alloc (.cells #[.int .i64 s] 3)).alloc (.cells #[.slice (some ⟨w.heap.size + 1, 0, none⟩) 1 1] 22)).alloc (.cells (madeCells #[.bool false] 1001) 4) := ⟨_, rfl⟩
  rw [← hV]
  have hbV : Below w.heap.size w V := by rw [hV]; exact (Joins.below_alloc3 _ _ _ _).trans ((Joins.below_alloc1 _ _).mono (by simp; omega))
  have hzV : V.heap.size = w.heap.size + 4 := by rw [hV]; simp
  have hW0 : Ways (w.heap.size + 1) V (.slice (some ⟨w.heap.size + 2, 0, none⟩) 1 1) [.slice (some ⟨w.heap.size + 1, 0, none⟩) 1 1] [[s]] := by
    rw [hV]
    have := Ways.one (w.alloc (.cells #[.slice a1 st.1.length q1, .slice a2 st.2.1.length q2, .slice a3 st.2.2.length q3] 30)) (w.heap.size + 1) s (by simp)
    rw [show (w.alloc (.cells #[.slice a1 st.1.length q1, .slice a2 st.2.1.length q2, .slice a3 st.2.2.length q3] 30)).heap.size = w.heap.size + 1 by simp] at this
    exact this.below (Joins.below_alloc1 _ _)
  have hrow0 : V.rowIs (w.heap.size + 3) 4 1001 (fun j => .bool (decide ((j : Int) ∈ ([] : Wy)))) := by
    rw [hV]
    have := World.rowIs_made (((w.alloc (.cells #[.slice a1 st.1.length q1, .slice a2 st.2.1.length q2, .slice a3 st.2.2.length q3] 30)).alloc (.cells #[.int .i64 s] 3)).alloc (.cells #[.slice (some ⟨w.heap.size + 1, 0, none⟩) 1 1] 22)) (.bool false) 1001 4
    simpa using this
  have v0 : V.cell? ⟨w.heap.size, 0, none⟩ = some (.slice a1 st.1.length q1) := by rw [hV]; exact cell_later (Joins.below_alloc3 _ _ _ _) (by simp)
  have v1 : V.cell? ⟨w.heap.size, 1, none⟩ = some (.slice a2 st.2.1.length q2) := by rw [hV]; exact cell_later (Joins.below_alloc3 _ _ _ _) (by simp)
  have v2 : V.cell? ⟨w.heap.size, 2, none⟩ = some (.slice a3 st.2.2.length q3) := by rw [hV]; exact cell_later (Joins.below_alloc3 _ _ _ _) (by simp)
  rw [← hz] at hbV hzV hW0 hrow0 v0 v1 v2
  rw [← hz]
  rw [show z + 3 = z + 1 + 1 + 1 by omega] at hrow0
  obtain ⟨sb, hsb⟩ : ∃ sb, z + 1 + 1 + 1 = sb := ⟨_, rfl⟩
  rw [hsb] at hrow0 ⊢
  have HSB : Hid (sb = z + 3) := show sb = z + 3 by omega
  clear hsb
  have HV0 := hide v0
  have HV1 := hide v1
  have HV2 := hide v2
  have HBV := hide hbV
  have HZV := hide hzV
  have HZ := hide hz
  have HW0 := hide hW0
  have HR0 := hide hrow0
  clear hV hbV hzV hW0 hrow0 v0 v1 v2 hz
  go_loopg [5] 7 (fun f lv wr => ∃ ls seen lus, BF (z + 1) wr (fun k => k = sb) lv lus ls (.slice none 0 0) [] [] ∧ wr.rowIs sb 4 1001 (fun j => .bool (decide ((j : Int) ∈ seen))) ∧ Below (z + 1) V wr ∧ ringR st s f ls seen = ringFromF st s ∧ PInv st seen.length f (seen, []) ∧ (∀ y, y ∈ ls → 1 ≤ y.length ∧ y.length + f ≤ 8) ∧ (ls = [] ∨ 7 ≤ f + seen.length) ∧ ls.length ≤ 5)
  case atStart =>
    refine ⟨[[s]], [], _, ⟨HW0.out, Ways.nil _ _, fun k hk e => by simp [Value.ownBlock] at e, fun k hk e => ?_⟩, HR0.out, Below.refl _ _, rfl, ⟨by simp, fun x hx => by simp at hx, rfl, fun y hy => by simp at hy⟩, fun y hy => by simp at hy; subst hy; simp, Or.inr (by simp), by simp⟩
    have e3 := HSB.out
    have e4 : k = sb := e
    rcases hk with hk | hk
    · rcases hk with hk | ⟨u, hu, hk⟩
      · simp [Value.ownBlock] at hk; omega
      · simp at hu; subst hu; simp [Value.ownBlock] at hk; omega
    · rcases hk with hk | ⟨u, hu, _⟩
      · simp [Value.ownBlock] at hk
      · simp at hu
  case round =>
    obtain ⟨ls, seen, lus, hbf, hrow, hbz, hans, hpi, hys, hfu, hl5⟩ := hrel
    obtain ⟨la, lc, rfl⟩ := hbf.line.form
    by_cases hne : 0 < ls.length
    · have hs5 : seen.length ≤ 5 := by
        have h1 := hpi.small
        have h2 := HL4.out
        simp only at h1
        omega
      obtain ⟨f, rfl⟩ : ∃ f, gk = f + 1 := by
        rcases hfu with e | e
        · rw [e] at hne; simp at hne
        · exact ⟨gk - 1, by omega⟩
      have HBF := hide hbf
      have HROW := hide hrow
      have HBZ := hide hbz
      have HANS := hide hans
      have HPI := hide hpi
      have HYS := hide hys
      have HFU := hide hfu
      have HP := hide (fun i hi => lineUp_inv HR.out hpi (fun y hy => (hys y hy).2) i hi)
      clear hbf hrow hbz hans hpi hys hfu
      go_wp2_with fail
      go_loopw [7, 21] (fun nv j wr => ∃ i : Nat, i ≤ ls.length ∧ j = .int .i64 i ∧ ∃ nus, BF (z + 1) wr (fun k => k = sb) (.slice la ls.length lc) lus ls nv nus (lineUp st ls (seen, []) i).2 ∧ wr.rowIs sb 4 1001 (fun q => .bool (decide ((q : Int) ∈ (lineUp st ls (seen, []) i).1))) ∧ Below (z + 1) V wr ∧ ∀ q, q < i → hitB st s (wyAt ls q) = false) (fun _ j _ => ls.length - (intOf j).toNat)
      case atStart => exact ⟨0, Nat.zero_le _, rfl, [], HBF.out, HROW.out, HBZ.out, fun q hq => absurd hq (Nat.not_lt_zero _)⟩
      case round =>
        obtain ⟨i, hi, rfl, nus, hbf, hrow, hbz, hno⟩ := hrel
        by_cases hlt : i < ls.length
        · obtain ⟨g, cap, u, ua, uc, hv, hu, hue, hcell, hown⟩ := hbf.line.lies hlt
          simp only [Value.slice.injEq] at hv
          obtain ⟨rfl, -, rfl⟩ := hv
          subst hue
          have hyl := HYS.out _ (wyAt_mem hlt)
          have HPk := hide (HP.out i hi)
          have HLU := hide (show lineUp st ls (seen, []) (i + 1) = scanUp (wyAt ls i) (nextOf st (wyAt ls i)) (lineUp st ls (seen, []) i) (nextOf st (wyAt ls i)).length from rfl)
          have HHIT := hide (fun (h : hitB st s (wyAt ls i) = true) => ringR_hit (f := f) (seen := seen) hlt h hno)
          have HNO := hide hno
          have HSC := hide (fun k hk => scanUp_inv HR.out (HP.out i hi) hyl.2 k hk)
          obtain ⟨y, hy⟩ : ∃ y, wyAt ls i = y := ⟨_, rfl⟩
          have HY := hide hy
          rw [hy] at hyl hu hcell hown HLU HHIT HSC
          obtain ⟨m, hm⟩ : ∃ m, y.length = m + 1 := ⟨y.length - 1, by omega⟩
          obtain ⟨yb, yoff, rfl, yc⟩ := IntsAt.cellAt hown.at m (by omega)
          obtain ⟨xs, hxs⟩ : ∃ xs, waitsF st (el y m) = xs := ⟨_, rfl⟩
          have hnx : nextOf st y = xs := by unfold nextOf lastOf; rw [hm]; exact hxs
          have hx5 : xs.length ≤ 5 := by rw [← hxs]; exact waitsF_le _ _
          have HXM : Hid (∀ k, k < xs.length → 0 ≤ el xs k ∧ el xs k ≤ 1000) := fun k hk => HR.out.name (waitsF_mem HR.out (z := el y m) (by rw [hxs]; exact el_mem hk))
          rw [hnx] at HLU HSC
          have HH2 : Hid (∀ k, k < xs.length → el xs k = s → ringFromF st s = y) := fun k hk e => by
            rw [← HANS.out]
            refine HHIT.out (hitB_at (k := k) ?_ ?_)
            · rw [hnx]; exact hk
            · rw [hnx]; exact e
          have HH3 : Hid ((∀ k, k < xs.length → el xs k ≠ s) → hitB st s y = false) := fun h => hitB_not (by rw [hnx]; exact h)
          have d0 := (hbz.cell (p := ⟨z, 0, none⟩) (by simp)).trans HV0.out
          have d1 := (hbz.cell (p := ⟨z, 1, none⟩) (by simp)).trans HV1.out
          have d2 := (hbz.cell (p := ⟨z, 2, none⟩) (by simp)).trans HV2.out
          have HXS := hide hxs
          have HBFi := hide hbf
          have HROWi := hide hrow
          have HBZi := hide hbz
          have hwr : IntKind.i64.wrap ((y.length : Int) - 1) = (m : Int) := by rw [hm, IntKind.wrap_i64] <;> omega
          have hml : (m : Int) < (y.length : Int) := by omega
          have hm0 : (0 : Int) ≤ (m : Int) := by omega
          have hy8 : y.length ≤ 8 := by omega
          have HOWN := hide hown
          have HU := hide hu
          have HSW := hide (HS.out.below (by rw [← HZ.out]; exact HBV.out.trans (hbz.mono (by omega))))
          clear hy hnx hxs hbf hrow hbz hno hm hown hu HHIT HBF HROW HBZ
          go_wp2_with fail
          go_region_held3 (fun w' => w'.cell? ⟨z, 0, none⟩ = some (.slice a1 st.1.length q1) ∧ w'.cell? ⟨z, 1, none⟩ = some (.slice a2 st.2.1.length q2) ∧ w'.cell? ⟨z, 2, none⟩ = some (.slice a3 st.2.2.length q3) ∧ w'.cell? ⟨yb, yoff + m, none⟩ = some (.int .i64 (el y m)))
            (first | (exact ⟨cell_later hb2 (by exact d0), cell_later hb2 (by exact d1), cell_later hb2 (by exact d2), cell_later hb2 (by exact yc)⟩) | go_keep)
            (first | (go_at_call 17; refine (specWaits_any _ st (el y m) _ (StateAt.below HSW.out (Joins.below_draws _ _ 1))).mono ?_; rw [HXS.out]; rintro e w2 ⟨r, rfl, hr, hb2⟩; obtain ⟨ra, rc, rfl⟩ := hr.form))
          rename_i hh
          have hz3 : sb < wr.heap.size := HROWi.out.lt
          have hbD : Below wr.heap.size wr w2 := below_tail (Joins.below_draws _ _ 1) hb2
          have HBF2 := hide (HBFi.out.below hbD)
          have HROW2 := hide (rowIs_keep HROWi.out (hbD.block sb hz3))
          have HBZ2 := hide (HBZi.out.trans (hbD.mono (by have := HSB.out; omega)))
          have HOWN2 := hide (HOWN.out.below hbD)
          have HRX : Hid (OwnInts wr.heap.size w2 (.slice ra xs.length rc) xs) := hr
          have hw2 : wr.heap.size ≤ w2.heap.size := hbD.size
          have HNL : Hid (∀ k, u7.ownBlock = some k → k < wr.heap.size) := fun k hk => (HBFi.out.next.lo (Or.inl hk)).2
          obtain ⟨W1, hW1⟩ : ∃ W1, W1 = wr.heap.size := ⟨_, rfl⟩
          rw [← hW1] at HRX HNL hz3 hw2
          clear hh d0 d1 d2 yc hb2 hr hbD HBFi HROWi HBZi HOWN hW1
          obtain ⟨p, hp⟩ : ∃ p, lineUp st ls (seen, []) i = p := ⟨_, rfl⟩
          rw [hp] at HLU HSC HPk HBF2 HROW2
          clear hp
          go_wp2_with fail
          go_loopw [7, 34] (fun nv j wr => ∃ k : Nat, k ≤ xs.length ∧ j = .int .i64 k ∧ ∃ nus, BF (z + 1) wr (fun k => k = sb) (.slice (some ⟨g, 0, none⟩) ls.length lc) lus ls nv nus (scanUp y xs p k).2 ∧ wr.rowIs sb 4 1001 (fun q => .bool (decide ((q : Int) ∈ (scanUp y xs p k).1))) ∧ Below (z + 1) V wr ∧ OwnInts W1 wr (.slice ra xs.length rc) xs ∧ (∀ b, Value.ownBlock (.slice ra xs.length rc) = some b → nv.ownBlock ≠ some b) ∧ ∀ q, q < k → el xs q ≠ s) (fun _ j _ => xs.length - (intOf j).toNat)
          case atStart => exact ⟨0, Nat.zero_le _, rfl, nus, HBF2.out, HROW2.out, HBZ2.out, HRX.out, fun b hb e => by have u1 := (ownBlock_lt HRX.out hb).1; have u2 := HNL.out b e; omega, fun q hq => absurd hq (Nat.not_lt_zero _)⟩
          case round =>
            obtain ⟨k, hk, rfl, nus3, hbf, hrow, hbz, hrx, hsep, hno⟩ := hrel
            by_cases hlt3 : k < xs.length
            · obtain ⟨rb, roff, rfl, rx⟩ := IntsAt.cellAt hrx.at k hlt3
              obtain ⟨x0, x1⟩ := HXM.out k hlt3
              have HSK := hide (show scanUp y xs p (k + 1) = stepS y (el xs k) (scanUp y xs p k) from rfl)
              have HH2k := hide (HH2.out k hlt3)
              have hPI := HSC.out k (by omega)
              have hps := hPI.small
              have hpl := hPI.len
              have hl4 := HL4.out
              have hp5 : (scanUp y xs p k).1.length ≤ 5 := by omega
              have hn5 : (scanUp y xs p k).2.length ≤ 5 := by omega
              obtain ⟨x, hx⟩ : ∃ x, el xs k = x := ⟨_, rfl⟩
              have HX := hide hx
              rw [hx] at HSK HH2k x0 x1 rx
              obtain ⟨pk, hpk⟩ : ∃ pk, scanUp y xs p k = pk := ⟨_, rfl⟩
              rw [hpk] at HSK hbf hrow hp5 hn5
              have hxt : x.toNat < 1001 := by omega
              have hon := hrow.cell hxt
              have hfz := hrow.frozen x.toNat
              have hxi : ((x.toNat : Nat) : Int) = x := by omega
              simp only [hxi] at hon
              have hx2 : x < 1001 := by omega
              have HBF3 := hide hbf
              have HROW3 := hide hrow
              have HBZ3 := hide hbz
              have HRX3 := hide hrx
              have HSEP3 := hide hsep
              have HNO3 := hide hno
              clear hbf hrow hbz hrx hsep hno hPI hps hpl hl4 hx hpk hxi
              cases hxs : (x == s) with
              | true =>
                have HANSy := hide (HH2k.out (by simpa using hxs))
                go_wp2_with fail
                go_ret
                have hfin : OwnInts (z + 1) wr (.slice (some ⟨yb, yoff, none⟩) y.length uc) y := by
                  have := HBF3.out.line.each i _ HU.out
                  rw [HY.out] at this
                  exact this
                refine ⟨_, rfl, ?_, ?_⟩
                · rw [HANSy.out, ← HZ.out]
                  exact hfin.le (by omega)
                · rw [← HZ.out]
                  exact HBV.out.trans (HBZ3.out.mono (by omega))
              | false =>
                have HNE : Hid (x ≠ s) := show x ≠ s by simpa using hxs
                cases hin : decide (x ∈ pk.1) with
                | true =>
                  rw [hin] at hon
                  have HST := hide (show stepS y x pk = pk by unfold stepS; rw [if_pos (by simpa using hin)])
                  clear hin
                  go_wp2_with fail
                  go_roundw
                  case rel => exact ⟨k + 1, by omega, by go_num, nus3, by rw [HSK.out, HST.out]; exact HBF3.out, by rw [HSK.out, HST.out]; exact HROW3.out, HBZ3.out, HRX3.out, HSEP3.out, fun q hq => by
                    by_cases e : q = k
                    · subst e; rw [HX.out]; exact HNE.out
                    · exact HNO3.out q (by omega)⟩
                  case measure => simp [intOf]; omega
                | false =>
                  rw [hin] at hon
                  have HST := hide (show stepS y x pk = (pk.1 ++ [x], pk.2 ++ [y ++ [x]]) by unfold stepS; rw [if_neg (by simpa using hin)])
                  clear hin
                  have HW0 : Hid (∃ W0 : World, W0 = wr.setCell ⟨sb, x.toNat, none⟩ (.bool true)) := ⟨_, rfl⟩
                  obtain ⟨W0, hW0⟩ := HW0.out
                  have hsz0 : W0.heap.size = wr.heap.size := by rw [hW0]; simp [World.setCell]
                  have hblk : ∀ q, q ≠ sb → W0.heap[q]? = wr.heap[q]? := fun q hq => by rw [hW0]; exact Below.heap_setCell _ _ _ _ hq
                  have HBF4 : Hid (BF (z + 1) W0 (fun k => k = sb) (.slice (some ⟨g, 0, none⟩) ls.length lc) lus ls u7 nus3 pk.2) := HBF3.out.met (fun q _ hq => hblk q hq) (fun q hq => Or.inl hq)
                  have HROW4 : Hid (W0.rowIs sb 4 1001 (fun q => .bool (decide ((q : Int) ∈ pk.1 ++ [x])))) := by
                    rw [hW0]
                    refine (HROW3.out.set x.toNat (.bool true)).congr (fun q hq => ?_)
                    by_cases e : q = x.toNat
                    · subst e
                      rw [if_pos rfl]
                      have : ((x.toNat : Nat) : Int) = x := by omega
                      simp [this]
                    · rw [if_neg e]
                      have : ¬ (q : Int) = x := by omega
                      simp [this]
                  have HBZ4 : Hid (Below (z + 1) V W0) := by rw [hW0]; exact HBZ3.out.setCell (show z + 1 ≤ sb by have := HSB.out; omega) _
                  have HRX4 : Hid (OwnInts W1 W0 (.slice (some ⟨rb, roff, none⟩) xs.length rc) xs) := ownsRow_keep HRX3.out (fun q hq => hblk q (by have := (ownBlock_lt HRX3.out hq).1; omega))
                  have HYV : Hid (OwnInts (z + 1) W0 (.slice (some ⟨yb, yoff, none⟩) y.length uc) y) := by
                    have := HBF4.out.line.each i _ HU.out
                    rw [HY.out] at this
                    exact this
                  have hsz1 : z + 1 ≤ W0.heap.size := by have := HROW4.out.lt; have := HSB.out; omega
                  have hsbl : sb < W0.heap.size := HROW4.out.lt
                  have HSZ0 := hide hsz0
                  have HW0e := hide hW0
                  clear hW0 hsz0 hblk HBF3 HROW3 HBZ3 HRX3 HW0
                  have hy20 : y.length ≤ 1048576 := by omega
                  obtain ⟨i0, hi0, hz0, hz1, hz2⟩ := info_parts Try.infoInt
                  have HI0 := hide hi0
                  have HZ0 := hide hz0
                  have HZ1 := hide hz1
                  have HZ2 := hide hz2
                  obtain ⟨i1, hi1, hy0, hy1, hy2⟩ := info_parts Try.infoInts
                  have HI1 := hide hi1
                  have HY0 := hide hy0
                  have HY1 := hide hy1
                  have HY2 := hide hy2
                  clear hi0 hz0 hz1 hz2 hi1 hy0 hy1 hy2
                  have hE : OwnInts W0.heap.size (W0.alloc (.cells #[] 3)) (.slice (some ⟨wr.heap.size, 0, none⟩) 0 0) [] := by
                    rw [← HSZ0.out]
                    exact ownInts_made W0 _ (Nat.le_refl _)
                  have HE := hide hE
                  clear hE
                  go_wp2_with (first | (at_builtin; rw [← HW0e.out]; refine wpList_append_ints rfl _ _ rfl W0.heap.size _ _ y rfl rfl HE.out (HYV.out.below (Joins.below_alloc1 _ _)).at hy20 ?c1 ?_))
                  case c1 => simp
                  intro uv w4 hu4 hg4
                  have hb4 : Below W0.heap.size W0 w4 := below_grown (Joins.below_alloc1 W0 (.cells #[] 3)) HE.out hg4 (by simp) (Nat.le_refl _)
                  obtain ⟨ub, ucap, rfl⟩ := hu4.form
                  have HU4 := hide hu4
                  have HB4 := hide hb4
                  have hs4 : W0.heap.size ≤ w4.heap.size := hb4.size
                  clear hu4 hg4 hb4 HE
                  go_wp2_with (first | (at_builtin; refine wpList_append_lies _ rfl _ _ 22 rfl W0.heap.size 3 i0 (.int .i64 0) 1 8 Try.underlying22 HI0.out HZ0.out HZ1.out HZ2.out rfl (by decide) _ _ _ rfl (HU4.out.alloc _) ⟨w4.heap.size, 0, none⟩ 1 1 [.int .i64 x] rfl rfl ?c1 ?c2 (by decide) ?c3 ?c4 ?c5 _ rfl ?_))
                  case c1 => exact cell_one_new _ _ _
                  case c2 => intro u hu; simp at hu; subst hu; rfl
                  case c3 => unfold maxLen; omega
                  case c4 => omega
                  case c5 => simp; omega
                  intro g5 cap5 w5 hown5 hgrow5 _ _
                  have hO5 := OwnInts.snoc hown5
                  have hb5 : Below W0.heap.size W0 w5 := below_grown (HB4.out.alloc HB4.out.size (.cells #[.int .i64 x] 3)) (HU4.out.alloc (.cells #[.int .i64 x] 3)) hgrow5 (by simp; omega) (Nat.le_refl _)
                  have HO5 := hide hO5
                  have HB5 := hide hb5
                  have hs5' : W0.heap.size ≤ w5.heap.size := hb5.size
                  have HBF5 := hide (HBF4.out.below hb5)
                  clear hown5 hgrow5 hO5 hb5 HU4 HB4 hs4
                  have hnl : nus3.length ≤ 5 := by rw [HBF5.out.next.len]; exact hn5
                  go_wp2_with (first | (at_builtin; refine wpList_append_lies _ rfl _ _ 99 rfl (z + 1) 22 i1 (.slice none 0 0) 1 24 Try.underlying99 HI1.out HY0.out HY1.out HY2.out rfl (by decide) u7 _ _ rfl (HBF5.out.next.row.alloc _) ⟨w5.heap.size, 0, none⟩ 1 1 [.slice (some ⟨g5, 0, none⟩) (y.length + 1) cap5] rfl rfl ?c1 ?c2 (by decide) ?c3 ?c4 ?c5 _ rfl ?_))
                  case c1 => exact cell_one_new _ _ _
                  case c2 => intro u hu; simp at hu; subst hu; rfl
                  case c3 => unfold maxLen; omega
                  case c4 => omega
                  case c5 => simp; omega
                  intro g6 cap6 w6 hown6 hgrow6 hat6 _
                  have hba := Joins.below_alloc1 w5 (.cells #[.slice (some ⟨g5, 0, none⟩) (y.length + 1) cap5] 22)
                  have hlo5 := fun q (hq : Value.ownBlock (.slice (some ⟨g5, 0, none⟩) (y.length + 1) cap5) = some q) => (ownBlock_lt HO5.out hq).1
                  have hnlo := fun q (hq : u7.ownBlock = some q) => (HBF4.out.next.lo (Or.inl hq)).2
                  have HBF6 := hide (HBF5.out.snoc (y := y ++ [x]) hba (HO5.out.le hsz1) (fun q hq => ⟨fun e => by have := hlo5 q hq; have e' : q = sb := e; omega, fun e => by have := hlo5 q hq; have := hnlo q e; omega⟩) (fun q hq => by have e' : q = sb := hq; omega) hown6 hgrow6 (hat6.imp id (fun e => by rw [e]; simp)))
                  have HBZ6 : Hid (Below (z + 1) V w6) := (HBZ4.out.trans (HB5.out.mono hsz1)).trans (below_grown (hba.mono (by omega)) (HBF5.out.next.row.alloc _) hgrow6 (by simp; omega) (Nat.le_refl _))
                  have hfar6 : ∀ q, q < W0.heap.size → u7.ownBlock ≠ some q → w6.heap[q]? = W0.heap[q]? := fun q hq hne => by
                    rw [hgrow6.block q (by simp; omega) (fun e => hne e.symm), hba.block q (by omega), HB5.out.block q hq]
                  have HROW6 : Hid (w6.rowIs sb 4 1001 (fun q => .bool (decide ((q : Int) ∈ pk.1 ++ [x])))) := rowIs_keep HROW4.out (hfar6 sb hsbl (fun e => HBF4.out.sepM sb (Or.inr (Or.inl e)) rfl))
                  have HRX6 : Hid (OwnInts W1 w6 (.slice (some ⟨rb, roff, none⟩) xs.length rc) xs) := ownsRow_keep HRX4.out (fun q hq => hfar6 q (ownBlock_lt HRX4.out hq).2 (HSEP3.out q hq))
                  have HSEP6 : Hid (∀ b, Value.ownBlock (.slice (some ⟨rb, roff, none⟩) xs.length rc) = some b → Value.ownBlock (.slice (some ⟨g6, 0, none⟩) (nus3.length + 1) cap6) ≠ some b) := fun b hb e => by
                    have u1 := (ownBlock_lt HRX4.out hb).2
                    have u2 := HSEP3.out b hb
                    simp [Value.ownBlock] at e
                    subst e
                    rcases hat6 with h6 | h6
                    · exact u2 h6
                    · have u3 := HB5.out.size
                      first | omega | (simp at h6; omega)
                  clear hown6 hgrow6 hat6 hba hlo5 hnlo hfar6
                  go_wp2_with fail
                  go_roundw
                  case rel => exact ⟨k + 1, by omega, by go_num, _, by rw [HSK.out, HST.out]; exact HBF6.out, by rw [HSK.out, HST.out]; exact HROW6.out, HBZ6.out, HRX6.out, HSEP6.out, fun q hq => by
                    by_cases e : q = k
                    · subst e; rw [HX.out]; exact HNE.out
                    · exact HNO3.out q (by omega)⟩
                  case measure => simp [intOf]; omega
            · obtain rfl : k = xs.length := by omega
              have HBFe := hide hbf
              have HROWe := hide hrow
              have HBZe := hide hbz
              have HHe := hide (HH3.out (fun q hq => hno q hq))
              clear hbf hrow hbz hrx hsep hno
              go_wp2_with fail
              go_roundw
              case rel => exact ⟨i + 1, by omega, by go_num, nus3, by rw [HLU.out]; exact HBFe.out, by rw [HLU.out]; exact HROWe.out, HBZe.out, fun q hq => by
                by_cases e : q = i
                · subst e; rw [HY.out]; exact HHe.out
                · exact HNO.out q (by omega)⟩
              case measure => simp [intOf]; omega
        · obtain rfl : i = ls.length := by omega
          have HBFe := hide hbf
          have HROWe := hide hrow
          have HBZe := hide hbz
          have HANS2 := hide (ringR_none (f := f) (seen := seen) hno)
          have HPe := hide (HP.out ls.length (Nat.le_refl _))
          clear hbf hrow hbz hno
          go_wp2_with fail
          go_roundg f
          case measure => omega
          case rel =>
            have h1 := HPe.out.small
            have h2 := HL4.out
            have h3 := HPe.out.len
            refine ⟨_, _, nus, HBFe.out.turn, HROWe.out, HBZe.out, by rw [← HANS.out, HANS2.out], ⟨HPe.out.nodup, HPe.out.sub, by simp, fun y hy => by simp at hy⟩, fun y hy => ?_, ?_, by omega⟩
            · have := HPe.out.ways y hy
              omega
            · by_cases e : (lineUp st ls (seen, []) ls.length).2 = []
              · exact Or.inl e
              · right
                have e2 : 0 < (lineUp st ls (seen, []) ls.length).2.length := List.length_pos_iff.2 e
                rcases HFU.out with e3 | e3
                · rw [e3] at hne; simp at hne
                · omega
    · have hl0 : ls = [] := by
        cases ls with
        | nil => rfl
        | cons y r => exact absurd (by simp) hne
      have HA : Hid (ringFromF st s = []) := by rw [← hans, hl0]; exact ringR_nil _ _ _ _
      have HBZe := hide hbz
      clear hbf hrow hbz hans hpi hys hfu hl0
      go_wp2_with fail
      go_ret
      refine ⟨_, rfl, ?_, ?_⟩
      · rw [HA.out]
        exact OwnInts.nil _ _
      · rw [← HZ.out]
        exact HBV.out.trans (HBZe.out.mono (by omega))
end Go.Proofs.Ytmjjigdnoiphbab
