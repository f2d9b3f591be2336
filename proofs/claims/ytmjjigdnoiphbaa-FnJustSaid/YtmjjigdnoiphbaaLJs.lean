/-
  Law Just.
-/
import Derived.Test.YtmjjigdnoiphbaaJ7
import Derived.Test.YtmjjigdnoiphbaaJ3
import Derived.Test.YtmjjigdnoiphbaaSo6
import Derived.Test.YtmjjigdnoiphbaaSr7
import Derived.Test.YtmjjigdnoiphbaaJ6
import Derived.Deep.RegionHeld3
import Derived.Deep.DrawnRows
namespace Go.Proofs.Ytmjjigdnoiphbaa
open Go.RowKit Go.Deep
set_option linter.unusedVariables false
set_option linter.unusedSimpArgs false

theorem run_fieldOk (o : Bool) (x : Int) (u : Value) (w : World) : (Instr.field 32 (.agg #[.bool o, .int .i64 x, u]) 0).run Try.prog w = .ok (.bool o) w := by
  obtain ⟨i0, hi, hz0, hz1, hz2⟩ := info_parts Try.infoInt
  obtain ⟨i1, hi1, -, hy1, -⟩ := info_parts Try.infoBool
  simp [Instr.field, run_underlying Try.underlying32, run_underlying Try.underlying3, run_underlying Try.underlying4, part, isAgg, sizeOf, typeInfo, hi, hz1, hi1, hy1, asAgg, go_sem]

set_option maxHeartbeats 40000000 in
set_option maxRecDepth 8000 in
theorem fnJust_walk (a : Option Addr) (B : List Int) (q : Nat) (a2 : Option Addr) (n2 q2 : Nat) (w : World) (hl : B.length ≤ 9223372036854775807) (hl2 : n2 ≤ 9223372036854775807) (h : B.length ≤ 1048576 → BytesF w a B) (ha : ∀ b off s, a = some ⟨b, off, s⟩ → 0 < B.length → b < w.heap.size) (h2 : n2 ≤ 1048576 → BytesAt w a2 n2) :
    Calls Try.prog 3 #[.slice a B.length q, .slice a2 n2 q2] w fun e w' => e = .returned (.bool true) ∧ Below w.heap.size w w' := by
  have HB1 := hide h
  have HB2 := hide h2
  have HA := hide ha
  have HD := hide (stD_drawn B)
  have HP := hide (stD_paths B)
  have HST : Hid (∀ (W : World), BytesF W a B → (∀ b off s, a = some ⟨b, off, s⟩ → 0 < B.length → b < W.heap.size) → Calls Try.prog 12 #[.slice a B.length q] W fun e w' => ∃ L : Lies, e = .returned (L.val (stD B)) ∧ DrawnAt W w' L (stD B)) := fun W h1 h2 => states_f h1 h2
  clear h h2 ha
  generalize stD B = st at *
  generalize hn1 : B.length = n1 at *
  by_cases hbig : (n1 : Int) > 1048576
  · go_enter Try.func3, Try.ntmps3
    go_wp2_with fail
    go_ret
    exact ⟨rfl, Below.refl _ _⟩
  have hb1 : ¬ (1048576 : Int) < (n1 : Int) := by omega
  by_cases hbig2 : (n2 : Int) > 1048576
  · go_enter Try.func3, Try.ntmps3
    go_wp2_with fail
    go_ret
    exact ⟨rfl, Below.refl _ _⟩
  have hb2 : ¬ (1048576 : Int) < (n2 : Int) := by omega
  have HY1 := hide (HB1.out (by omega))
  have HY2 := hide (HB2.out (by omega))
  have HN1 := hide hn1
  clear HB1 HB2 hbig hbig2 hn1 hl hl2
  go_enter Try.func3, Try.ntmps3
  go_wp2_with fail
  clear hb1 hb2
  refine (HST.out _ HY1.out HA.out).mono ?_
  rintro e w1 ⟨L, rfl, hd⟩
  have HD1 := hide hd
  have HS1 := hide hd.own.at
  have HC1 := hide (hd.own.capSt hd.pc)
  have HW1 := hide hd.below
  obtain ⟨ra, rc, ta, tc, na, nc, pa, pc⟩ := L
  simp only [Lies.val] at HS1 HC1 ⊢
  have HV1 := hide (Joins.below_alloc1 w1 (.cells #[.slice ra st.1.length rc, .slice ta st.2.1.length tc, .slice na st.2.2.length nc] 26))
  clear hd
  go_wp2_with fail
  refine (implMoves_any _ st _ (HS1.out.below HV1.out) (HC1.out.below HS1.out HV1.out) HP.out).mono ?_
  rintro e w2 ⟨r2, rfl, ho2, hb2⟩
  obtain ⟨ca, cc, hr2⟩ := ho2.form
  subst hr2
  have HW2 := hide (below_tail (below_tail HW1.out HV1.out) hb2)
  have c0 := cell_later hb2 (show _ = some (Value.slice ra st.1.length rc) from (block3 (heap_alloc_new w1 (.cells #[.slice ra st.1.length rc, .slice ta st.2.1.length tc, .slice na st.2.2.length nc] 26))).1)
  have c1 := cell_later hb2 (show _ = some (Value.slice ta st.2.1.length tc) from (block3 (heap_alloc_new w1 (.cells #[.slice ra st.1.length rc, .slice ta st.2.1.length tc, .slice na st.2.2.length nc] 26))).2.1)
  have c2 := cell_later hb2 (show _ = some (Value.slice na st.2.2.length nc) from (block3 (heap_alloc_new w1 (.cells #[.slice ra st.1.length rc, .slice ta st.2.1.length tc, .slice na st.2.2.length nc] 26))).2.2.1)
  have HS2 := hide (HS1.out.below (below_tail HV1.out hb2))
  have HC2 := hide ((HC1.out.below HS1.out HV1.out).below (HS1.out.below HV1.out) hb2)
  have HI2 := hide ho2.at
  have HY22 := hide (BytesAt.below HY2.out HW2.out)
  have hlt2 : w1.heap.size < w2.heap.size := World.block_lt_of_cell? _ _ c0
  clear HS1 HC1 HV1 HW1 hb2 ho2 HD1 HY1 HY2
  generalize w1.heap.size = sb at *
  go_wp2_with fail
  refine (implAllowed_any _ st _ HS2.out HC2.out HP.out).mono ?_
  rintro e w3 ⟨r3, rfl, ho3, hb3⟩
  obtain ⟨ya, yc, hr3⟩ := ho3.form
  subst hr3
  replace c0 := cell_later hb3 c0
  replace c1 := cell_later hb3 c1
  replace c2 := cell_later hb3 c2
  have HS3 := hide (HS2.out.below hb3)
  have HC3 := hide (HC2.out.below HS2.out hb3)
  have HI3 := hide (HI2.out.below hb3)
  have HJ3 := hide ho3.at
  have HY3 := hide (BytesAt.below HY22.out hb3)
  have HW3 := hide (below_tail HW2.out hb3)
  have hlt3 : sb < w3.heap.size := World.block_lt_of_cell? _ _ c0
  have HL5 := hide (movesF_le st)
  have HA5 := hide (allowedF_le st)
  clear hb3 ho3 HS2 HC2 HI2 HY22 HW2 hlt2
  go_wp2_with fail
  refine (specMoves_any _ st _ HS3.out).mono ?_
  rintro e w4 ⟨r4, rfl, ho4, hb4⟩
  obtain ⟨da, dc, hr4⟩ := ho4.form
  subst hr4
  have hwi := wInts_any (.slice ca (movesF st).length cc) (.slice da (movesF st).length dc) (movesF st) (movesF st) w4 (HI3.out.below hb4) ho4.at (by have := HL5.out; omega)
  rw [decide_eq_true (rfl : movesF st = movesF st)] at hwi
  have HWI := hide hwi
  have HB4 := hide hb4
  clear hb4 ho4 hwi
  go_wp2_with fail
  refine HWI.out.mono ?_
  rintro e w5 ⟨rfl, m5, rfl⟩
  have hb5 := below_tail HB4.out (Joins.below_draws _ _ m5)
  replace c0 := cell_later hb5 c0
  replace c1 := cell_later hb5 c1
  replace c2 := cell_later hb5 c2
  have HS5 := hide (HS3.out.below hb5)
  have HI5 := hide (HI3.out.below hb5)
  have HJ5 := hide (HJ3.out.below hb5)
  have HY5 := hide (BytesAt.below HY3.out hb5)
  have HW5 := hide (below_tail HW3.out hb5)
  have HMV : Hid (∀ x, x ∈ movesF st → (stOk (stepF st x) = 0 ∧ remOf (stepF st x) ≤ 45) ∧ (x ∈ allowedF st ↔ 0 ≤ val (stepF st x))) := fun x hx => by
    obtain ⟨h1, h2, _⟩ := moves_step hx
    have h3 := rem_le (mem_moves.1 hx).1.so
    exact ⟨⟨h1, by omega⟩, moves_allowed hx⟩
  clear hb5 HB4 HWI HS3 HC3 HI3 HJ3 HY3 HW3 hlt3
  generalize w4.drewN m5 = w5 at *
  generalize movesF st = mvs at *
  generalize allowedF st = alw at *
  have ha5 : alw.length ≤ 5 := HA5.out
  have hm5 : mvs.length ≤ 5 := HL5.out
  go_wp2_with fail
  go_loopw [37] (fun u wr => ∃ i : Nat, u = .int .i64 (i : Int) ∧ i ≤ mvs.length ∧ Below w5.heap.size w5 wr) (fun u _ => mvs.length - (intOf u).toNat)
  case atStart => exact ⟨0, rfl, Nat.zero_le _, Below.refl _ _⟩
  case round =>
    obtain ⟨i, rfl, hi, hbr⟩ := hrel
    obtain ⟨R0, hR0⟩ : ∃ R0, R0 = wr := ⟨_, rfl⟩
    subst hR0
    have HBR := hide hbr
    by_cases hil : i < mvs.length
    · obtain ⟨cb, coff, hca, hcc⟩ := (HI5.out.below hbr).cellAt i hil
      subst hca
      have hili : (i : Int) < (mvs.length : Int) := by omega
      have hi0 : (0 : Int) ≤ (i : Int) := by omega
      have f0 := cell_later hbr c0
      have f1 := cell_later hbr c1
      have f2 := cell_later hbr c2
      have HSR := hide (HS5.out.below hbr)
      have HJR := hide (HJ5.out.below hbr)
      have HYR := hide (BytesAt.below HY5.out hbr)
      have hsr : sb < R0.heap.size := World.block_lt_of_cell? _ _ f0
      obtain ⟨x, hxe⟩ : ∃ x, x = el mvs i := ⟨_, rfl⟩
      have hxm : x ∈ mvs := by
        have h9 : mvs[i]? = some (el mvs i) := by simp [el, hil]
        rw [hxe]
        exact List.mem_of_getElem? h9
      obtain ⟨⟨hx1, hx2⟩, hx3⟩ := HMV.out x hxm
      have HX123 := hide (And.intro hx1 (And.intro hx2 hx3))
      rw [← hxe] at hcc
      have hi5 : i ≤ 5 := by have := HL5.out; omega
      clear hbr c0 c1 c2 hxe hxm hx1 hx2 hx3
      go_wp2_with fail
      go_loopw [10, 44] (fun u10 u44 wx => ∃ (j : Nat) (b : Bool), u44 = .int .i64 (j : Int) ∧ u10 = .bool b ∧ j ≤ alw.length ∧ (b = true ↔ ∃ q, q < j ∧ el alw q = x) ∧ wx = R0) (fun _ u44 _ => alw.length - (intOf u44).toNat)
      case atStart => exact ⟨0, false, rfl, rfl, Nat.zero_le _, ⟨fun h => (by cases h), fun ⟨q, hq, _⟩ => absurd hq (Nat.not_lt_zero _)⟩, rfl⟩
      case round =>
        obtain ⟨j, b, rfl, rfl, hj, hb, hwr⟩ := hrel
        have hwr' := hwr.symm
        subst hwr'
        have HBB := hide hb
        clear hb
        by_cases hjl : j < alw.length
        · obtain ⟨yb, yoff, hya, hyc⟩ := HJR.out.cellAt j hjl
          subst hya
          have hjli : (j : Int) < (alw.length : Int) := by omega
          have hj0 : (0 : Int) ≤ (j : Int) := by omega
          cases b with
          | true =>
            go_wp2_with fail
            go_roundw
            case rel => exact ⟨j + 1, true, by go_num, rfl, by omega, ⟨fun _ => by obtain ⟨q, h1, h2⟩ := HBB.out.1 rfl; exact ⟨q, by omega, h2⟩, fun _ => rfl⟩, by trivial⟩
            case measure => simp [intOf]; omega
          | false =>
            go_wp2_with fail
            go_roundw
            case rel => exact ⟨j + 1, (el alw j == x), by go_num, rfl, by omega, ⟨fun h => ⟨j, by omega, by simpa using h⟩, fun ⟨q, h1, h2⟩ => by
              by_cases e : q = j
              · subst e; simpa using h2
              · have := HBB.out.2 ⟨q, by omega, h2⟩; cases this⟩, by trivial⟩
            case measure => simp [intOf]; omega
        · have hjli : ¬ ((j : Int) < (alw.length : Int)) := by omega
          have HBI : Hid (b = true ↔ 0 ≤ val (stepF st x)) := by
            show b = true ↔ _
            rw [HBB.out, ← HX123.out.2.2]
            constructor
            · rintro ⟨q, h1, h2⟩
              have h9 : alw[q]? = some (el alw q) := by simp [el, show q < alw.length by omega]
              rw [← h2]
              exact List.mem_of_getElem? h9
            · intro h
              obtain ⟨q, hq, e⟩ := List.getElem_of_mem h
              exact ⟨q, by omega, by simp [el, hq, e]⟩
          obtain ⟨bl, hbl⟩ : ∃ bl, bl = b := ⟨_, rfl⟩
          subst hbl
          clear HBB
          go_wp2_with fail
          refine (specStep_C _ st x _ HSR.out).mono ?_
          rintro e w6 ⟨r6, rfl, hk6, hb6⟩
          obtain ⟨q1, o1, q2', o2, q3, o3, hr6⟩ := (hk6 _ (Chg.refl _ _)).1.form
          subst hr6
          have HK6 := hide hk6
          have HB6 := hide hb6
          clear hk6 hb6
          obtain ⟨tt, htt⟩ : ∃ tt, tt = stepF st x := ⟨_, rfl⟩
          rw [← htt] at HK6 HBI HX123 ⊢
          have hRW : R0.heap.size ≤ w6.heap.size := HB6.out.size
          have HTT : Hid (stOk tt = 0 ∧ remOf tt ≤ 45 ∧ (0 ≤ val tt → bl = true)) := ⟨HX123.out.1, HX123.out.2.1, HBI.out.2⟩
          have hokt := HX123.out.1
          clear htt
          have hbA := Joins.below_alloc1 w6 (.cells #[.slice q1 tt.1.length o1, .slice q2' tt.2.1.length o2, .slice q3 tt.2.2.length o3] 26)
          by_cases hz : tt.2.1.length = 0
          · have hzb : ((tt.2.1.length : Int) == 0) = true := by rw [beq_iff_eq]; omega
            have hbt : bl = true := HTT.out.2.2 (by rw [val_zero hz]; exact Int.le_refl _)
            have HX7 : Hid ((w6.alloc (.cells #[.slice q1 tt.1.length o1, .slice q2' tt.2.1.length o2, .slice q3 tt.2.2.length o3] 26)).heap[w6.heap.size]? = some (.cells #[.slice q1 tt.1.length o1, .slice q2' tt.2.1.length o2, .slice q3 tt.2.2.length o3] 26 (0, 0))) := heap_alloc_new _ _
            have HK7 : Hid (∀ w'', Chg (fun q => q = w6.heap.size) (w6.alloc (.cells #[.slice q1 tt.1.length o1, .slice q2' tt.2.1.length o2, .slice q3 tt.2.2.length o3] 26)) w'' → StateAt w'' (.agg #[.slice q1 tt.1.length o1, .slice q2' tt.2.1.length o2, .slice q3 tt.2.2.length o3]) tt) := fun w'' hc => (HK6.out w'' (Chg.of_below (hbA.trans (hc.below (by have := hbA.size; exact this) (fun k hk e => by omega))))).1
            have HB7 : Hid (Below R0.heap.size R0 (w6.alloc (.cells #[.slice q1 tt.1.length o1, .slice q2' tt.2.1.length o2, .slice q3 tt.2.2.length o3] 26))) := below_tail HB6.out hbA
            have HTR : Hid (R0.heap.size ≤ w6.heap.size) := hRW
            have HZ := hide hz
            clear hbA hz hokt HK6 HB6 hRW
            rw [hbt]
            go_wp2_with fail
            generalize w6.alloc (.cells #[.slice q1 tt.1.length o1, .slice q2' tt.2.1.length o2, .slice q3 tt.2.2.length o3] 26) = W7 at *
            generalize w6.heap.size = T at *
            have hT1 := (block3 HX7.out).2.1
            go_loopw [14] (fun u14 wx => u14 = .int .i64 0 ∧ wx = W7) (fun _ _ => 0)
            case atStart => exact ⟨rfl, rfl⟩
            case round =>
              obtain ⟨rfl, hwr7⟩ := hrel
              subst hwr7
              have hz0 := HZ.out
              have hz1 : ¬ ((0 : Int) < (tt.2.1.length : Int)) := by omega
              go_wp2_with fail
              go_roundw
              case rel => exact ⟨i + 1, by go_num, by omega, below_tail HBR.out HB7.out⟩
              case measure => simp [intOf]; omega
          · have hzb : ((tt.2.1.length : Int) == 0) = false := by rw [beq_eq_false_iff_ne]; omega
            obtain ⟨hsA, hcA⟩ := HK6.out _ (Chg.of_below hbA)
            have hsok : (solveF tt).1 = bl := by
              rw [solve_ok]
              have h1 := HBI.out
              have h2 : safeF tt = true ↔ 0 ≤ val tt := ⟨fun h => (safeF_iff.1 h).2, fun h => safeF_iff.2 ⟨right_of_ok hokt, h⟩⟩
              cases bl <;> cases hh : safeF tt <;> simp [hh] at h1 h2 ⊢ <;> omega
            have HSOK := hide hsok
            have hptt : ∀ i, i < tt.2.1.length → (tPath tt.2.1 i).length ≤ 4611686018427387904 := fun i hi => by have := ((right_of_ok hokt).train i hi).2.2.1; omega
            have HPT := hide hptt
            have HSA := hide hsA
            have HCA := hide hcA
            have HTR : Hid (R0.heap.size ≤ w6.heap.size) := hRW
            have HTA := hide (heap_alloc_new w6 (.cells #[.slice q1 tt.1.length o1, .slice q2' tt.2.1.length o2, .slice q3 tt.2.2.length o3] 26))
            have HBA := hide hbA
            have hfo := run_fieldOk bl
            clear hbA hz hokt hRW hsA hcA hsok hptt
            go_wp2_with fail
            refine (implSolve_any _ tt _ HSA.out HCA.out HPT.out).mono ?_
            rintro e W7 ⟨r7, rfl, ho7, hb7⟩
            rw [HSOK.out]
            have HX7 := hide (blockLater hb7 HTA.out)
            have HK7 : Hid (∀ w'', Chg (fun q => q = w6.heap.size) W7 w'' → StateAt w'' (.agg #[.slice q1 tt.1.length o1, .slice q2' tt.2.1.length o2, .slice q3 tt.2.2.length o3]) tt) := fun w'' hc => (HK6.out w'' (Chg.of_below ((below_tail HBA.out hb7).trans (hc.below (by have := (below_tail HBA.out hb7).size; exact this) (fun k hk e => by omega))))).1
            have HB7 : Hid (Below R0.heap.size R0 W7) := below_tail (below_tail HB6.out HBA.out) hb7
            clear hb7 ho7 HK6 HB6 HBA HTA HSA HCA
            generalize w6.heap.size = T at *
            go_wp2_with fail
            go_loopw [14] (fun u14 wx => ∃ (k : Nat) (cu : St) (b1 : Option Addr) (p1 : Nat) (b2 : Option Addr) (p2 : Nat) (b3 : Option Addr) (p3 : Nat), u14 = .int .i64 (k : Int) ∧ stOk cu = 0 ∧ remOf cu + k ≤ 45 ∧ (0 ≤ val cu → bl = true) ∧ wx.heap[T]? = some (.cells #[.slice b1 cu.1.length p1, .slice b2 cu.2.1.length p2, .slice b3 cu.2.2.length p3] 26 (0, 0)) ∧ (∀ w'', Chg (fun q => q = T) wx w'' → StateAt w'' (.agg #[.slice b1 cu.1.length p1, .slice b2 cu.2.1.length p2, .slice b3 cu.2.2.length p3]) cu) ∧ Below R0.heap.size R0 wx) (fun u14 _ => 50 - (intOf u14).toNat)
            case atStart => exact ⟨0, tt, q1, o1, q2', o2, q3, o3, rfl, HTT.out.1, by have := HTT.out.2.1; omega, HTT.out.2.2, HX7.out, HK7.out, HB7.out⟩
            case round =>
              obtain ⟨k, cu, b1, p1, b2, p2, b3, p3, rfl, hok, hrk, hval, hx, hk, hbx⟩ := hrel
              have HOK := hide hok
              have HVAL := hide hval
              have HX := hide hx
              have HK := hide hk
              have HBX := hide hbx
              obtain ⟨t0, t1, t2, -⟩ := block3 hx
              have hTx : T < wr.heap.size := (Array.getElem?_eq_some_iff.1 hx).1
              clear hok hval hx hk hbx HX7 HK7 HB7
              by_cases hz : cu.2.1.length = 0
              · have hbt : bl = true := HVAL.out (by rw [val_zero hz]; exact Int.le_refl _)
                have hk50 : (k : Int) < 50 := by omega
                subst hbt
                go_wp2_with fail
                go_roundw
                case rel => exact ⟨i + 1, by go_num, by omega, below_tail HBR.out HBX.out⟩
                case measure => simp [intOf]; omega
              · have hrp : 0 < remOf cu := by have := remUp_pos cu.2.1 cu.2.1.length; unfold remOf; omega
                have hk50 : (k : Int) < 50 := by omega
                have hpos : (0 : Int) < (cu.2.1.length : Int) := by omega
                have hne : ¬ cu.2.1 = [] := fun e => hz (by rw [e]; rfl)
                have hzb : ((cu.2.1.length : Int) == 0) = false := by rw [beq_eq_false_iff_ne]; omega
                have HS8 := hide (HK.out wr (Chg.refl _ _))
                clear hz
                go_wp2_with fail
                refine (specMoves_any _ cu _ HS8.out).mono ?_
                rintro e w8 ⟨r8, rfl, ho8, hb8⟩
                obtain ⟨ma, mc, hr8⟩ := ho8.form
                subst hr8
                replace t0 := cell_later hb8 t0
                replace t1 := cell_later hb8 t1
                replace t2 := cell_later hb8 t2
                have hT8 : T < w8.heap.size := World.block_lt_of_cell? _ _ t0
                have HO8 := hide ho8
                have HB8 := hide hb8
                have HX8 := hide (blockLater hb8 HX.out)
                clear ho8 hb8
                by_cases hm0 : (movesF cu).length = 0
                · have hmb : (((movesF cu).length : Int) == 0) = true := by rw [beq_iff_eq]; omega
                  clear hm0
                  go_wp2_with fail
                  go_roundw
                  case rel => exact ⟨i + 1, by go_num, by omega, below_tail HBR.out (below_tail HBX.out HB8.out)⟩
                  case measure => simp [intOf]; omega
                · have hmb : (((movesF cu).length : Int) == 0) = false := by rw [beq_eq_false_iff_ne]; omega
                  have hmnil : ¬ movesF cu = [] := fun e => hm0 (by rw [e]; rfl)
                  have hmi : ¬ ((movesF cu).length : Int) = 0 := by omega
                  have hmpos : 0 < (movesF cu).length := by omega
                  obtain ⟨mb, moff, hma, -⟩ := HO8.out.at.cellAt 0 hmpos
                  subst hma
                  obtain ⟨ix, hix⟩ : ∃ ix : Nat, (i : Int) + (k : Int) = (ix : Int) := ⟨i + k, by omega⟩
                  have hix9 : ix ≤ 1000 := by omega
                  have hixw : IntKind.i64.wrap (ix : Int) = (ix : Int) := by rw [IntKind.wrap_i64]; omega
                  have HY8 := hide (BytesAt.below HYR.out (below_tail HBX.out HB8.out))
                  have HARM : Hid (∀ W9, Below w8.heap.size w8 W9 → ∀ u, u < (movesF cu).length → (W9.cell? ⟨T, 0, none⟩ = some (.slice b1 cu.1.length p1) ∧ W9.cell? ⟨T, 1, none⟩ = some (.slice b2 cu.2.1.length p2) ∧ W9.cell? ⟨T, 2, none⟩ = some (.slice b3 cu.2.2.length p3)) ∧ W9.cell? ⟨mb, moff + u, none⟩ = some (.int .i64 (el (movesF cu) u)) ∧ (0 : Int) ≤ (u : Int) ∧ (u : Int) < ((movesF cu).length : Int) ∧ el (movesF cu) u ∈ movesF cu ∧ StateAt W9 (.agg #[.slice b1 cu.1.length p1, .slice b2 cu.2.1.length p2, .slice b3 cu.2.2.length p3]) cu) := fun W9 hb9 u hu => by
                    obtain ⟨mb', moff', hmm, hmc⟩ := (HO8.out.at.below hb9).cellAt u hu
                    simp only [Option.some.injEq, Addr.mk.injEq, and_true] at hmm
                    obtain ⟨rfl, rfl⟩ := hmm
                    have h9 : (movesF cu)[u]? = some (el (movesF cu) u) := by simp [el, hu]
                    exact ⟨⟨cell_later hb9 t0, cell_later hb9 t1, cell_later hb9 t2⟩, hmc, by omega, by omega, List.mem_of_getElem? h9, (HS8.out.below HB8.out).below hb9⟩
                  clear hm0
                  go_wp2_with fail
                  clear hfo hjl hjli hcc f0 f1 f2 hzb hpos hne
                  go_region_law (first | (go_simp; go_at_call 19; refine (wByte_any (BytesAt.below HY8.out ((Below.refl _ w8).drew)) ix hix9).mono ?_; rintro e w9 ⟨xb, rfl, hxb0, hxb1, m9, rfl⟩; obtain ⟨u, hu, hul⟩ := tmod_nat hxb0 hmpos; have hb9 := below_tail ((Below.refl _ w8).drew) (Joins.below_draws _ _ m9); obtain ⟨⟨k0, k1, k2⟩, k3, k4, k5, k6, k7⟩ := HARM.out _ hb9 u hul; have HXM := hide k6; have HST9 := hide k7; have HB9 := hide hb9; clear hb9 k6 k7 hxb0 hxb1; generalize (w8.drew).drewN m9 = w9 at *) | (go_simp; go_at_call 17; refine (specStep_C _ cu (el (movesF cu) u) _ HST9.out).mono ?_; rintro e w10 ⟨r10, rfl, hk10, hb10⟩; obtain ⟨g1, s1, g2, s2, g3, s3, hr10⟩ := (hk10 _ (Chg.refl _ _)).1.form; subst hr10; have HX10 := hide (blockLater hb10 (blockLater HB9.out HX8.out)); obtain ⟨y0, y1, y2, yf⟩ := block3 HX10.out; have yf0 := yf 0; have yf1 := yf 1; have yf2 := yf 2; have HK10 := hide hk10; have HB10 := hide hb10; have hT10 : T < w10.heap.size := World.block_lt_of_cell? _ _ y0; clear hk10 hb10 yf))
                  all_goals
                    obtain ⟨v1, v2, v3⟩ := moves_step HXM.out
                    have HV := hide (And.intro v1 (And.intro v2 v3))
                    clear v1 v2 v3
                    generalize stepF cu (el (movesF cu) u) = cu' at *
                    go_wp2_with fail
                    go_roundw
                    case rel =>
                      have hc : Chg (fun q => q = T) w10 (((w10.setCell ⟨T, 0, none⟩ (.slice g1 cu'.1.length s1)).setCell ⟨T, 1, none⟩ (.slice g2 cu'.2.1.length s2)).setCell ⟨T, 2, none⟩ (.slice g3 cu'.2.2.length s3)) :=
                        Chg.setCell (F := fun q => q = T) (Chg.setCell (F := fun q => q = T) (Chg.setCell (F := fun q => q = T) (Chg.refl _ _) rfl _) rfl _) rfl _
                      have hvar := block3_set2 (block3_set1 (block3_set0 HX10.out (.slice g1 cu'.1.length s1)) (.slice g2 cu'.2.1.length s2)) (.slice g3 cu'.2.2.length s3)
                      have h9z := HB9.out.size
                      obtain ⟨v1, v2, v3⟩ := HV.out
                      refine ⟨k + 1, cu', g1, s1, g2, s2, g3, s3, by go_num, v1, by omega, fun h => HVAL.out (v3 h), hvar, fun w'' h'' => (HK10.out w'' ((hc.mono (fun q e => by omega)).trans (h''.mono (fun q e => by omega)))).1, ?_⟩
                      exact (below_tail (below_tail (below_tail HBX.out HB8.out) HB9.out) HB10.out).trans (hc.below (by have := (below_tail (below_tail (below_tail HBX.out HB8.out) HB9.out) HB10.out).size; exact this) (fun k hk e => by have := HTR.out; omega))
                    case measure => simp [intOf]; omega
    · have hili : ¬ ((i : Int) < (mvs.length : Int)) := by omega
      clear hbr
      go_wp2_with fail
      go_ret
      exact ⟨rfl, below_tail HW5.out HBR.out⟩
end Go.Proofs.Ytmjjigdnoiphbaa
