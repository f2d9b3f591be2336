/-
  Law Never.
-/
import Derived.Test.YtmjjigdnoiphbaaGreatDoorJ7
import Derived.Test.YtmjjigdnoiphbaaGreatDoorGu
import Derived.Test.YtmjjigdnoiphbaaGreatDoorJ9
import Derived.Test.YtmjjigdnoiphbaaGreatDoorSf7
import Derived.Test.YtmjjigdnoiphbaaGreatDoorStk
import Derived.Test.YtmjjigdnoiphbaaGreatDoorW23c
import Derived.Deep.RegionHeld3
import Derived.Deep.DrawnRows
namespace Go.Proofs.YtmjjigdnoiphbaaGreatDoor
open Go.RowKit Go.Deep
set_option linter.unusedVariables false

theorem stuck_not {st : St} (h : safeF st = true) (hz : ¬ st.2.1.length = 0) : stuckF st = false := by
  have := moves_some h hz
  unfold stuckF
  rw [decide_eq_false (show ¬ (movesF st).length = 0 by omega)]
  simp

set_option maxHeartbeats 40000000 in
set_option maxRecDepth 8000 in
theorem fnNever_walk (a : Option Addr) (B : List Int) (q : Nat) (a2 : Option Addr) (B2 : List Int) (q2 : Nat) (w : World) (hl : B.length ≤ 9223372036854775807) (hl2 : B2.length ≤ 9223372036854775807) (h : B.length ≤ 1048576 → BytesF w a B) (ha : ∀ b off s, a = some ⟨b, off, s⟩ → 0 < B.length → b < w.heap.size) (h2 : B2.length ≤ 1048576 → BytesF w a2 B2) (ha2 : ∀ b off s, a2 = some ⟨b, off, s⟩ → 0 < B2.length → b < w.heap.size) :
    Calls Tryz.prog 3 #[.slice a B.length q, .slice a2 B2.length q2] w fun e w' => e = .returned (.bool true) ∧ Below w.heap.size w w' := by
  have HB1 := hide h
  have HB2 := hide h2
  have HA := hide ha
  have HA2 := hide ha2
  have HD := hide (stD_drawn B)
  have HP := hide (stD_paths B)
  have HST : Hid (∀ (W : World), BytesF W a B → (∀ b off s, a = some ⟨b, off, s⟩ → 0 < B.length → b < W.heap.size) → Calls Tryz.prog 4 #[.slice a B.length q] W fun e w' => ∃ L : Lies, e = .returned (L.val (stD B)) ∧ DrawnAt W w' L (stD B)) := fun W h1 h2 => states_f h1 h2
  have HASK : Hid (∀ (W : World) (v : Value) (st' : St), BytesF W a2 B2 → (∀ b off s, a2 = some ⟨b, off, s⟩ → 0 < B2.length → b < W.heap.size) → StateAt W v st' → st'.2.2.length ≤ 1000 → Calls Tryz.prog 8 #[v, .slice a2 B2.length q2] W fun e w' => ∃ (r : Option Addr) (n m : Nat), e = .returned (.slice r n m) ∧ n ≤ 40 ∧ Below W.heap.size W w') := fun W v st' h1 h2 h3 h4 => specAsks_f h1 h2 v st' h3 h4
  clear h h2 ha ha2
  generalize stD B = st at *
  generalize hn1 : B.length = n1 at *
  generalize hn2 : B2.length = n2 at *
  by_cases hbig : (n1 : Int) > 1048576
  · go_enter Tryz.func3, Tryz.ntmps3
    go_wp2_with fail
    go_ret
    exact ⟨rfl, Below.refl _ _⟩
  have hb1 : ¬ (1048576 : Int) < (n1 : Int) := by omega
  by_cases hbig2 : (n2 : Int) > 1048576
  · go_enter Tryz.func3, Tryz.ntmps3
    go_wp2_with fail
    go_ret
    exact ⟨rfl, Below.refl _ _⟩
  have hb2 : ¬ (1048576 : Int) < (n2 : Int) := by omega
  have HY1 := hide (HB1.out (by omega))
  have HY2 := hide (HB2.out (by omega))
  have HN1 := hide hn1
  have HN2 := hide hn2
  clear HB1 HB2 hbig hbig2 hn1 hn2 hl hl2
  go_enter Tryz.func3, Tryz.ntmps3
  go_wp2_with fail
  clear hb1 hb2
  refine (HST.out _ HY1.out HA.out).mono ?_
  rintro e w1 ⟨L, rfl, hd⟩
  have HD1 := hide hd
  have HS1 := hide hd.own.at
  have HC1 := hide (hd.own.capSt hd.pc)
  have HW1 := hide hd.below
  obtain ⟨ra, rc, ta, tc, na, nc, pa, pc⟩ := L
  simp only [Lies.val] at HS1 HC1 ⊢
  have HV1 := hide (Joins.below_alloc1 w1 (.cells #[.slice ra st.1.length rc, .slice ta st.2.1.length tc, .slice na st.2.2.length nc] 26))
  clear hd
  go_wp2_with fail
  obtain ⟨V, hV⟩ : ∃ V, V = w1.alloc (.cells #[.slice ra st.1.length rc, .slice ta st.2.1.length tc, .slice na st.2.2.length nc] 26) := ⟨_, rfl⟩
  rw [← hV]
  have hbV : Below w1.heap.size w1 V := by rw [hV]; exact HV1.out
  have HXV : Hid (V.heap[w1.heap.size]? = some (.cells #[.slice ra st.1.length rc, .slice ta st.2.1.length tc, .slice na st.2.2.length nc] 26 (0, 0))) := by rw [hV]; exact heap_alloc_new _ _
  obtain ⟨c0, c1, c2, -⟩ := block3 HXV.out
  have HSX : Hid (∀ w'', Below w1.heap.size w1 w'' → StateAt w'' (.agg #[.slice ra st.1.length rc, .slice ta st.2.1.length tc, .slice na st.2.2.length nc]) st ∧ CapSt w'' (.agg #[.slice ra st.1.length rc, .slice ta st.2.1.length tc, .slice na st.2.2.length nc]) st.2.1.length) := fun w'' hb => ⟨HS1.out.below hb, HC1.out.below HS1.out hb⟩
  have HBX1 := hide hbV
  have HSV := hide (HS1.out.below hbV)
  have HCV := hide (HC1.out.below HS1.out hbV)
  have HWV := hide (below_tail HW1.out hbV)
  have HYV := hide (HY2.out.below HWV.out)
  have hsV : w1.heap.size < V.heap.size := World.block_lt_of_cell? _ _ c0
  have hsw : w.heap.size ≤ w1.heap.size := HW1.out.size
  clear hV hbV HS1 HC1 HV1 HW1 HD1 HY1 HY2
  generalize w1.heap.size = sb at *
  go_region_held3 (fun w' => w'.cell? ⟨sb, 0, none⟩ = some (.slice ra st.1.length rc) ∧ w'.cell? ⟨sb, 1, none⟩ = some (.slice ta st.2.1.length tc) ∧ w'.cell? ⟨sb, 2, none⟩ = some (.slice na st.2.2.length nc))
    (first | (exact ⟨cell_later hb4 (by exact k0), cell_later hb4 (by exact k1), cell_later hb4 (by exact k2)⟩) | (exact ⟨k0, k1, k2⟩) | go_keep)
    (first | (go_at_call 5; refine (implSafe_any _ st _ (HSV.out.below ((Below.refl _ V).drew)) (HCV.out.below HSV.out ((Below.refl _ V).drew)) HP.out).mono ?_; rintro e w3 ⟨rfl, hb3⟩; have hb3' := below_tail ((Below.refl _ V).drew) hb3; have k0 := cell_later hb3' c0; have k1 := cell_later hb3' c1; have k2 := cell_later hb3' c2; have HB3 := hide hb3'; clear hb3 hb3') | (go_at_call 6; refine (specSafe_any _ st _ (HSV.out.below HB3.out)).mono ?_; rintro e w4 ⟨rfl, hb4⟩))
  all_goals
    have HB4 := hide (below_tail HB3.out hb4)
    replace c0 := cell_later HB4.out c0
    replace c1 := cell_later HB4.out c1
    replace c2 := cell_later HB4.out c2
    have HS4 := hide (HSV.out.below HB4.out)
    have HC4 := hide (HCV.out.below HSV.out HB4.out)
    have HY4 := hide (HYV.out.below HB4.out)
    have HW4 := hide (below_tail HWV.out HB4.out)
    have HX4 := hide (blockLater HB4.out HXV.out)
    have HBX4 : Hid (Below sb w1 w4) := HBX1.out.trans (HB4.out.mono (by omega))
    have hs4 : sb < w4.heap.size := World.block_lt_of_cell? _ _ c0
    clear hb4 k0 k1 k2 HB3 HB4 HSV HCV HYV HWV hsV HXV
    cases hsf : safeF st
    · have HSF := hide hsf
      clear hsf
      go_wp2_with fail
      refine (specSafe_any _ st _ HS4.out).mono ?_
      rintro e w5 ⟨rfl, hb5⟩
      rw [HSF.out]
      replace c0 := cell_later hb5 c0
      replace c1 := cell_later hb5 c1
      replace c2 := cell_later hb5 c2
      have HS5 := hide (HS4.out.below hb5)
      have HC5 := hide (HC4.out.below HS4.out hb5)
      have HY5 := hide (HY4.out.below hb5)
      have HW5 := hide (below_tail HW4.out hb5)
      clear hb5
      have HNM : Hid (st.2.2.length ≤ 1000) := by
        show st.2.2.length ≤ 1000
        have := HD.out.few.same
        have := HD.out.few.len
        omega
      go_wp2_with fail
      go_region_held3 (fun w' => w'.cell? ⟨sb, 0, none⟩ = some (.slice ra st.1.length rc) ∧ w'.cell? ⟨sb, 1, none⟩ = some (.slice ta st.2.1.length tc) ∧ w'.cell? ⟨sb, 2, none⟩ = some (.slice na st.2.2.length nc))
        (first | (exact ⟨cell_later hb8 (by exact l0), cell_later hb8 (by exact l1), cell_later hb8 (by exact l2)⟩) | (exact ⟨l0, l1, l2⟩) | (exact ⟨k0, k1, k2⟩) | go_keep)
        (first | (go_at_call 8; refine (HASK.out _ _ st (HY5.out.below ((Below.refl _ w5).drew)) (fun b off s e h0 => Nat.lt_of_lt_of_le (HA2.out b off s e h0) HW5.out.size) (HS5.out.below ((Below.refl _ w5).drew)) HNM.out).mono ?_; rintro e w6 ⟨r6, n6, m6, rfl, h40, hb6⟩; have hb6' := below_tail ((Below.refl _ w5).drew) hb6; have k0 := cell_later hb6' c0; have k1 := cell_later hb6' c1; have k2 := cell_later hb6' c2; have HB6 := hide hb6'; have H40 := hide h40; clear hb6 hb6' h40) | (go_at_call 7; refine (implGuard_no _ st r6 n6 m6 _ (HS5.out.below HB6.out) (HC5.out.below HS5.out HB6.out) HP.out HSF.out (Nat.le_trans H40.out (by decide))).mono ?_; rintro e w7 ⟨rfl, hb7⟩; have hb7' := below_tail HB6.out hb7; have l0 := cell_later hb7' c0; have l1 := cell_later hb7' c1; have l2 := cell_later hb7' c2; have HB7 := hide hb7'; clear hb7 hb7') | (go_at_call 9; refine (implAllowed_any _ st _ (HS5.out.below HB7.out) (HC5.out.below HS5.out HB7.out) HP.out).mono ?_; rintro e w8 ⟨r8, rfl, ho8, hb8⟩; rw [allowed_unsafe HSF.out] at ho8; obtain ⟨x8, y8, e8⟩ := ho8.form; subst e8))
      all_goals
        have HB8 := hide (below_tail HB7.out hb8)
        clear hb8 ho8
        go_wp2_with fail
        go_ret
        exact ⟨rfl, below_tail HW5.out HB8.out⟩
    · have HSF := hide hsf
      clear hsf
      go_wp2_with fail
      refine (specSafe_any _ st _ HS4.out).mono ?_
      rintro e w5 ⟨rfl, hb5⟩
      rw [HSF.out]
      have HS5 := hide (HS4.out.below hb5)
      have HC5 := hide (HC4.out.below HS4.out hb5)
      have HY5 := hide (HY4.out.below hb5)
      have HW5 := hide (below_tail HW4.out hb5)
      have HX5 := hide (blockLater hb5 HX4.out)
      have HBX5 : Hid (Below sb w1 w5) := HBX4.out.trans (hb5.mono (by omega))
      have h5z : sb < w5.heap.size := (Array.getElem?_eq_some_iff.1 HX5.out).1
      have HREM : Hid (remOf st + 0 ≤ 45) := rem_le (safeF_iff.1 HSF.out).1.so
      clear hb5 c0 c1 c2
      go_wp2_with fail
      go_loopw [6] (fun u6 wx => ∃ (k : Nat) (cu : St) (b1 : Option Addr) (p1 : Nat) (b2 : Option Addr) (p2 : Nat) (b3 : Option Addr) (p3 : Nat), u6 = .int .i64 (k : Int) ∧ safeF cu = true ∧ remOf cu + k ≤ 45 ∧ wx.heap[sb]? = some (.cells #[.slice b1 cu.1.length p1, .slice b2 cu.2.1.length p2, .slice b3 cu.2.2.length p3] 26 (0, 0)) ∧ (∀ w'', Chg (fun q => q = sb) wx w'' → StateAt w'' (.agg #[.slice b1 cu.1.length p1, .slice b2 cu.2.1.length p2, .slice b3 cu.2.2.length p3]) cu ∧ CapSt w'' (.agg #[.slice b1 cu.1.length p1, .slice b2 cu.2.1.length p2, .slice b3 cu.2.2.length p3]) cu.2.1.length) ∧ Below w.heap.size w wx ∧ BytesF wx a2 B2) (fun u6 _ => 60 - (intOf u6).toNat)
      case atStart => exact ⟨0, st, ra, rc, ta, tc, na, nc, rfl, HSF.out, HREM.out, HX5.out, fun w'' hc => HSX.out w'' (HBX5.out.trans (hc.below (by omega) (fun k hk e => by omega))), HW5.out, HY5.out⟩
      case round =>
        obtain ⟨k, cu, b1, p1, b2, p2, b3, p3, rfl, hsc, hrk, hx, hk, hbx, hyx⟩ := hrel
        have HSC := hide hsc
        have HK := hide hk
        have HBX := hide hbx
        have HX := hide hx
        have HYX : Hid (BytesAt wr a2 n2) := by
          show BytesAt wr a2 n2
          rw [← HN2.out]
          exact hyx.any
        obtain ⟨t0, t1, t2, -⟩ := block3 hx
        have hTx : sb < wr.heap.size := (Array.getElem?_eq_some_iff.1 hx).1
        obtain ⟨hrc, hvc⟩ := safeF_iff.1 hsc
        have HRC := hide hrc
        have HYF := hide hyx
        have HPC : Hid (∀ i, i < cu.2.1.length → (tPath cu.2.1 i).length ≤ 4611686018427387904) := fun i hi => by have := (HRC.out.train i hi).2.2.1; omega
        have HSA := hide (hk wr (Chg.refl _ _)).1
        have HCA := hide (hk wr (Chg.refl _ _)).2
        have hk60 : (k : Int) < 60 := by omega
        clear hsc hk hbx hx hyx hrc hvc HSX HX5 HW5 HY5
        by_cases hz : cu.2.1.length = 0
        · have hzb : ((cu.2.1.length : Int) == 0) = true := by rw [beq_iff_eq]; omega
          have HAE := hide (allowed_end hz)
          clear hz
          go_wp2_with fail
          refine (implAllowed_any _ cu _ HSA.out HCA.out HPC.out).mono ?_
          rintro e w6 ⟨r6, rfl, ho6, hb6⟩
          rw [HAE.out] at ho6
          obtain ⟨x6, y6, e6⟩ := ho6.form
          subst e6
          have HB6 := hide (below_tail HBX.out hb6)
          clear ho6 hb6
          go_wp2_with fail
          go_ret
          exact ⟨rfl, HB6.out⟩
        · have hzb : ((cu.2.1.length : Int) == 0) = false := by rw [beq_eq_false_iff_ne]; omega
          have hal := allowed_some HSC.out hz
          have HST := hide (stuck_not HSC.out hz)
          have hl5 := allowedF_le cu
          have HN5 : Hid (cu.2.1.length ≤ 4611686018427387904) := show _ ≤ _ by have := HRC.out.lens; omega
          clear hz
          go_wp2_with fail
          refine (implAllowed_any _ cu _ HSA.out HCA.out HPC.out).mono ?_
          rintro e w6 ⟨r6, rfl, ho6, hb6⟩
          obtain ⟨la, lc, e6⟩ := ho6.form
          subst e6
          replace t0 := cell_later hb6 t0
          replace t1 := cell_later hb6 t1
          replace t2 := cell_later hb6 t2
          have HO6 := hide ho6.at
          have HB6 := hide hb6
          clear ho6 hb6
          go_wp2_with fail
          refine (specAllowed_any _ cu _ (HSA.out.below HB6.out)).mono ?_
          rintro e w7 ⟨r7, rfl, ho7, hb7⟩
          obtain ⟨da, dc, e7⟩ := ho7.form
          subst e7
          replace t0 := cell_later hb7 t0
          replace t1 := cell_later hb7 t1
          replace t2 := cell_later hb7 t2
          have hwi := wInts_any (.slice la (allowedF cu).length lc) (.slice da (allowedF cu).length dc) (allowedF cu) (allowedF cu) w7 (HO6.out.below hb7) ho7.at (by omega)
          rw [decide_eq_true (rfl : allowedF cu = allowedF cu)] at hwi
          have HWI := hide hwi
          have HB7 := hide (below_tail HB6.out hb7)
          have HO7 := hide (HO6.out.below hb7)
          have hanil : ¬ allowedF cu = [] := fun e => by rw [e] at hal; simp at hal
          have hab : (((allowedF cu).length : Int) == 0) = false := by rw [beq_eq_false_iff_ne]; omega
          have hai : ¬ ((allowedF cu).length : Int) = 0 := by omega
          clear hwi ho7 hb7 HO6 HB6
          go_wp2_with fail
          refine HWI.out.mono ?_
          rintro e w8 ⟨rfl, m8, rfl⟩
          have hb8 := Joins.below_draws w7.heap.size w7 m8
          replace t0 := cell_later hb8 t0
          replace t1 := cell_later hb8 t1
          replace t2 := cell_later hb8 t2
          have HB8 := hide (below_tail HB7.out hb8)
          have HO8 := hide (HO7.out.below hb8)
          clear hb8 HB7 HO7 HWI
          generalize w7.drewN m8 = w8 at *
          go_wp2_with fail
          refine (implStuck_any _ cu _ (HSA.out.below HB8.out) (HCA.out.below HSA.out HB8.out) HPC.out HN5.out).mono ?_
          rintro e w9 ⟨rfl, hb9⟩
          rw [HST.out]
          replace t0 := cell_later hb9 t0
          replace t1 := cell_later hb9 t1
          replace t2 := cell_later hb9 t2
          have HB9 := hide (below_tail HB8.out hb9)
          have HO9 := hide (HO8.out.below hb9)
          have hT9 : sb < w9.heap.size := World.block_lt_of_cell? _ _ t0
          clear hb9 HB8 HO8 HST
          obtain ⟨mb, moff, hma, -⟩ := HO9.out.cellAt 0 hal
          subst hma
          have hk9 : k ≤ 1000 := by omega
          have hkw : IntKind.i64.wrap (k : Int) = (k : Int) := by rw [IntKind.wrap_i64]; omega
          have HY9 := hide (BytesAt.below HYX.out HB9.out)
          have HARM : Hid (∀ W9, Below w9.heap.size w9 W9 → ∀ u, u < (allowedF cu).length → (W9.cell? ⟨sb, 0, none⟩ = some (.slice b1 cu.1.length p1) ∧ W9.cell? ⟨sb, 1, none⟩ = some (.slice b2 cu.2.1.length p2) ∧ W9.cell? ⟨sb, 2, none⟩ = some (.slice b3 cu.2.2.length p3)) ∧ W9.cell? ⟨mb, moff + u, none⟩ = some (.int .i64 (el (allowedF cu) u)) ∧ (0 : Int) ≤ (u : Int) ∧ (u : Int) < ((allowedF cu).length : Int) ∧ el (allowedF cu) u ∈ allowedF cu) := fun W9 hb10 u hu => by
            obtain ⟨mb', moff', hmm, hmc⟩ := (HO9.out.below hb10).cellAt u hu
            simp only [Option.some.injEq, Addr.mk.injEq, and_true] at hmm
            obtain ⟨rfl, rfl⟩ := hmm
            have h9 : (allowedF cu)[u]? = some (el (allowedF cu) u) := by simp [el, hu]
            exact ⟨⟨cell_later hb10 t0, cell_later hb10 t1, cell_later hb10 t2⟩, hmc, by omega, by omega, List.mem_of_getElem? h9⟩
          clear hzb hl5 hk60
          go_wp2_with fail
          go_region_law (first | (go_simp; go_at_call 14; refine (wByte_any (BytesAt.below HY9.out ((Below.refl _ w9).drew)) k hk9).mono ?_; rintro e w10 ⟨xb, rfl, hxb0, hxb1, m10, rfl⟩; obtain ⟨u, hu, hul⟩ := tmod_nat hxb0 hal; have hb10 := below_tail ((Below.refl _ w9).drew) (Joins.below_draws _ _ m10); obtain ⟨⟨k0, k1, k2⟩, k3, k4, k5, k6⟩ := HARM.out _ hb10 u hul; have HXM := hide k6; have HB10 := hide (below_tail HB9.out hb10); clear hb10 k6 hxb0 hxb1; generalize (w9.drew).drewN m10 = w10 at *) | (go_simp; go_at_call 13; refine (implStep_cap _ cu (el (allowedF cu) u) _ (HSA.out.below HB10.out) (HCA.out.below HSA.out HB10.out) HPC.out).mono ?_; rintro e w11 ⟨L, rfl, hO, hF, hb11, hpc⟩; have HX11 := hide (blockLater hb11 (blockLater HB10.out HX.out)); obtain ⟨y0, y1, y2, yf⟩ := block3 HX11.out; have yf0 := yf 0; have yf1 := yf 1; have yf2 := yf 2; have HO11 := hide hO; have HF11 := hide hF; have HPC11 := hide hpc; have HB11 := hide (below_tail HB10.out hb11); have hT11 : sb < w11.heap.size := World.block_lt_of_cell? _ _ y0; have hT10 : sb < w10.heap.size := World.block_lt_of_cell? _ _ k0; clear hO hF hb11 hpc yf; obtain ⟨ga, gc, gta, gtc, gna, gnc, gpa, gpc⟩ := L; simp only [Lies.val]))
          all_goals
            obtain ⟨v1, v2, v3⟩ := allowed_step HXM.out
            have HV := hide (And.intro v1 (And.intro v2 v3))
            have HNF : Hid (∀ q, Lies.F ⟨ga, gc, gta, gtc, gna, gnc, gpa, gpc⟩ (stepF cu (el (allowedF cu) u)).2.1.length q → q ≠ sb) := fun q e => by have := HF11.out q e; omega
            clear v1 v2 v3
            generalize stepF cu (el (allowedF cu) u) = cu' at *
            have hc : Chg (fun q => q = sb) w11 (((w11.setCell ⟨sb, 0, none⟩ (.slice ga cu'.1.length gc)).setCell ⟨sb, 1, none⟩ (.slice gta cu'.2.1.length gtc)).setCell ⟨sb, 2, none⟩ (.slice gna cu'.2.2.length gnc)) :=
              Chg.setCell (F := fun q => q = sb) (Chg.setCell (F := fun q => q = sb) (Chg.setCell (F := fun q => q = sb) (Chg.refl _ _) rfl _) rfl _) rfl _
            have hvar := block3_set2 (block3_set1 (block3_set0 HX11.out (.slice ga cu'.1.length gc)) (.slice gta cu'.2.1.length gtc)) (.slice gna cu'.2.2.length gnc)
            have HKS : Hid (∀ w'', Chg (fun q => q = sb) w11 w'' → StateAt w'' (.agg #[.slice ga cu'.1.length gc, .slice gta cu'.2.1.length gtc, .slice gna cu'.2.2.length gnc]) cu' ∧ CapSt w'' (.agg #[.slice ga cu'.1.length gc, .slice gta cu'.2.1.length gtc, .slice gna cu'.2.2.length gnc]) cu'.2.1.length) := fun w'' h'' => by
              have hO := HO11.out.keep h''.size (fun q hq e => h''.block q hq (HNF.out q e))
              exact ⟨hO.at, hO.capSt HPC11.out⟩
            have HCH := hide hc
            have HVAR := hide hvar
            have hrc' := (safeF_iff.1 HV.out.1).1
            have HPC' : Hid (∀ i, i < cu'.2.1.length → (tPath cu'.2.1 i).length ≤ 4611686018427387904) := fun i hi => by have := (hrc'.train i hi).2.2.1; omega
            have HB12 : Hid (Below w.heap.size w (((w11.setCell ⟨sb, 0, none⟩ (.slice ga cu'.1.length gc)).setCell ⟨sb, 1, none⟩ (.slice gta cu'.2.1.length gtc)).setCell ⟨sb, 2, none⟩ (.slice gna cu'.2.2.length gnc))) := (below_tail HBX.out HB11.out).trans (hc.below (by have := (below_tail HBX.out HB11.out).size; exact this) (fun q hq e => by omega))
            have HYF12 : Hid (BytesF (((w11.setCell ⟨sb, 0, none⟩ (.slice ga cu'.1.length gc)).setCell ⟨sb, 1, none⟩ (.slice gta cu'.2.1.length gtc)).setCell ⟨sb, 2, none⟩ (.slice gna cu'.2.2.length gnc)) a2 B2) := (HYF.out.below HB11.out).chg hc (fun b off s e h0 hb => by have := HA2.out b off s e (by have := HN2.out; omega); omega)
            clear hc hvar hrc' y0 y1 y2 yf0 yf1 yf2 k0 k1 k2 k3 t0 t1 t2
            generalize ((w11.setCell ⟨sb, 0, none⟩ (.slice ga cu'.1.length gc)).setCell ⟨sb, 1, none⟩ (.slice gta cu'.2.1.length gtc)).setCell ⟨sb, 2, none⟩ (.slice gna cu'.2.2.length gnc) = W12 at *
            obtain ⟨z0, z1, z2, -⟩ := block3 HVAR.out
            have hT12 : sb < W12.heap.size := (Array.getElem?_eq_some_iff.1 HVAR.out).1
            go_wp2_with fail
            refine (implStateOk_any _ cu' _ (HKS.out _ HCH.out).1 HPC'.out).mono ?_
            rintro e w13 ⟨rfl, hb13⟩
            rw [HV.out.2.1]
            replace z0 := cell_later hb13 z0
            replace z1 := cell_later hb13 z1
            replace z2 := cell_later hb13 z2
            have HB13 := hide hb13
            clear hb13
            go_wp2_with fail
            refine (implSafe_any _ cu' _ ((HKS.out _ HCH.out).1.below HB13.out) ((HKS.out _ HCH.out).2.below (HKS.out _ HCH.out).1 HB13.out) HPC'.out).mono ?_
            rintro e w14 ⟨rfl, hb14⟩
            rw [HV.out.1]
            have HB14 := hide (below_tail HB13.out hb14)
            clear hb14
            go_wp2_with fail
            go_roundw
            case rel => exact ⟨k + 1, cu', ga, gc, gta, gtc, gna, gnc, by go_num, HV.out.1, by have := HV.out.2.2; omega, blockLater HB14.out HVAR.out, fun w'' h'' => HKS.out w'' ((HCH.out.trans (Chg.of_below HB14.out)).trans h''), below_tail HB12.out HB14.out, HYF12.out.below HB14.out⟩
            case measure => simp [intOf]; omega
end Go.Proofs.YtmjjigdnoiphbaaGreatDoor
