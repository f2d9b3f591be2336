/-
  Law FnRing.
-/
import Derived.Test.YtmjjigdnoiphbaaK2
import Derived.Test.YtmjjigdnoiphbaaJ7
import Derived.Test.YtmjjigdnoiphbaaSr7
import Derived.Test.YtmjjigdnoiphbaaStk
import Derived.Test.YtmjjigdnoiphbaaK9
import Derived.Test.YtmjjigdnoiphbaaK1
import Derived.Test.YtmjjigdnoiphbaaWt
import Derived.Test.YtmjjigdnoiphbaaJ4
import Derived.Test.YtmjjigdnoiphbaaK0
import Derived.Deep.DrawnRows
import Derived.Deep.RegionHeld3
namespace Go.Proofs.Ytmjjigdnoiphbaa
open Go.RowKit Go.Deep
set_option linter.unusedVariables false
attribute [local go_sem ↓] Go.wp_at_zero Go.wp_at_succ

set_option maxHeartbeats 40000000 in
set_option maxRecDepth 100000 in
theorem fnRing_walk (a : Option Addr) (B : List Int) (q : Nat) (w : World) (hl : B.length ≤ 9223372036854775807) (h : B.length ≤ 1048576 → BytesF w a B) (ha : ∀ b off s, a = some ⟨b, off, s⟩ → 0 < B.length → b < w.heap.size) :
    Calls Try.prog 5 #[.slice a B.length q] w fun e w' => e = .returned (.bool true) ∧ Below w.heap.size w w' := by
  have HB1 := hide h
  have HA := hide ha
  clear h ha
  generalize hn1 : B.length = n1 at *
  by_cases hbig : (n1 : Int) > 1048576
  · go_enter Try.func5, Try.ntmps5
    go_wp2_with fail
    go_ret
    exact ⟨rfl, Below.refl _ _⟩
  have hb1 : ¬ (1048576 : Int) < (n1 : Int) := by omega
  have HY1 := hide (HB1.out (by omega))
  have HWB : Hid (∀ (W : World) (i : Nat), BytesF W a B → i ≤ 1000 → Calls Try.prog 19 #[.slice a n1 q, .int .i64 (i : Int)] W fun e w' => (e = .returned (.int .i64 (wb B i)) ∧ 0 ≤ wb B i ∧ wb B i ≤ 255) ∧ ∃ m, w' = W.drewN m) := fun W i h1 h2 => by rw [← hn1]; exact wByte_f h1 i h2
  have HN1 := hide hn1
  clear HB1 hbig hn1 hl
  go_enter Try.func5, Try.ntmps5
  go_wp2_with fail
  clear hb1
  refine (HWB.out _ 0 HY1.out (by omega)).mono ?_
  rintro e w1 ⟨⟨rfl, hx0, hx1⟩, m1, rfl⟩
  generalize wb B 0 = x at *
  obtain ⟨r, hr, hr4⟩ := tmod_nat (d := 4) hx0 (by omega)
  obtain ⟨n, hn⟩ : ∃ n : Nat, n = r + 2 := ⟨_, rfl⟩
  have hr' : x.tmod 4 = (r : Int) := hr
  have hn1 : (2 : Int) + (r : Int) = (n : Int) := by omega
  have hn2 : wrap64 (2 + (r : Int)) = (n : Int) := by unfold wrap64; omega
  have hN2 : 2 ≤ n := by omega
  have hN5 : n ≤ 5 := by omega
  have HBW := hide (Joins.below_draws w.heap.size w m1)
  have HY11 : Hid (BytesF (w.drewN m1) a B) := HY1.out
  clear hn hr4 hr HY1
  generalize w.drewN m1 = w1 at *
  go_wp2_with fail
  clear hr' hn1 hn2 hx0 hx1
  obtain ⟨mb, hmb⟩ : ∃ mb, mb = w1.heap.size := ⟨_, rfl⟩
  have hbA := Joins.below_alloc1 w1 (.cells #[.slice none 0 0, .slice none 0 0, .slice none 0 0] 26)
  have HY2 : Hid (BytesF (w1.alloc (.cells #[.slice none 0 0, .slice none 0 0, .slice none 0 0] 26)) a B) := HY11.out.below hbA
  have HD0 : Hid (Drw mb (.slice none 0 0) [] [] [] (w1.alloc (.cells #[.slice none 0 0, .slice none 0 0, .slice none 0 0] 26)) (.slice none 0 0) (.slice none 0 0) (fun _ => none) (fun _ => 0)) :=
    ⟨⟨by rw [hmb]; exact heap_alloc_new _ _, Gath.nil _ _ _ _, OwnInts.nil _ _, fun k hk => by simp [Value.ownBlock] at hk, Chg.refl _ _⟩, OwnInts.nil _ _, fun k hk e => by simp [Value.ownBlock] at hk, fun k hk e => by simp [Value.ownBlock] at hk⟩
  have HB0 : Hid (Below mb w1 (w1.alloc (.cells #[.slice none 0 0, .slice none 0 0, .slice none 0 0] 26))) := by rw [hmb]; exact hbA
  obtain ⟨b, hb⟩ : ∃ b : Int, wb B 1 = b := ⟨_, rfl⟩
  have HWB1 : Hid (∀ W : World, BytesF W a B → Calls Try.prog 19 #[.slice a n1 q, .int .i64 1] W fun e w' => (e = .returned (.int .i64 b) ∧ 0 ≤ b ∧ b ≤ 255) ∧ Below W.heap.size W w') := fun W h => by
    rw [← hb]
    exact (HWB.out W 1 h (by omega)).mono (fun e w' ⟨h1, m, h2⟩ => ⟨h1, by rw [h2]; exact Joins.below_draws _ _ m⟩)
  have HMB := hide hmb
  rw [← hmb]
  clear hb hbA HWB hmb
  generalize w1.alloc (.cells #[.slice none 0 0, .slice none 0 0, .slice none 0 0] 26) = w2 at *
  go_loopw [5] (fun u wr => ∃ (i : Nat) (rv tv nv : Value) (pa : Nat → Option Addr) (pc : Nat → Nat), u = .int .i64 (i : Int) ∧ i ≤ n ∧ (0 < i → 0 ≤ b ∧ b ≤ 255) ∧ Drw mb rv (ringUp n b i).1 (ringUp n b i).2.1 (ringUp n b i).2.2 wr tv nv pa pc ∧ Below mb w1 wr) (fun u _ => n - (intOf u).toNat)
  case atStart => exact ⟨0, _, _, _, _, _, rfl, Nat.zero_le _, fun h => absurd h (Nat.lt_irrefl _), HD0.out, HB0.out⟩
  case round =>
    obtain ⟨i, rv, tv, nv, pa, pc, rfl, hi, hbb, hdr, hbl⟩ := hrel
    obtain ⟨l1, l2, l3⟩ := ringUp_len n b i
    obtain ⟨a1, c1, a2, c2, a3, c3, e1, e2, e3, hat0⟩ := hdr.at
    rw [l1] at e1
    rw [l2] at e2
    rw [l3] at e3
    subst e1 e2 e3
    have HDR := hide hdr
    have HBL := hide hbl
    have HBB := hide hbb
    have hmw := hdr.lt
    obtain ⟨s0, s1, s2, sf⟩ := block3 hdr.mov.var
    by_cases hin : i < n
    · have hini : (i : Int) < (n : Int) := by omega
      have HL := hide (And.intro l1 (And.intro l2 l3))
      clear hdr hbl hat0 HD0 HB0 l1 l2 l3 hbb
      go_wp2_with (first | (at_builtin; refine wpList_push rfl _ _ rfl (mb + 1) _ _ 1 wr.heap.size rfl rfl (HDR.out.rm.below (Joins.below_alloc1 _ _)) (heap_alloc_new _ _) (by rw [HL.out.1]; omega) (by simp; omega) ?_))
      intro g cap w3 hown hgrow hat hlt
      obtain ⟨hd3, hb3⟩ := HDR.out.snocR (Joins.below_alloc1 wr _) hown hgrow (hat.imp id (fun e => by rw [e]; simp))
      have hrow3 := pushed_row HDR.out.mov.var HDR.out.rm (by omega) hgrow
      obtain ⟨z0, z1, z2, zf⟩ := block3 hrow3
      have zf0 := zf 0
      rw [HL.out.1] at hd3 hb3 ⊢
      have HD3 := hide hd3
      have HB3 := hide hb3
      have hm3 : mb < w3.heap.size := (Array.getElem?_eq_some_iff.1 hrow3).1
      clear hown hgrow hat hlt hd3 hb3 hrow3 zf s0 s1 s2 sf
      go_wp2_with fail
      generalize hW3 : w3.setCell ⟨mb, 0, none⟩ (.slice (some ⟨g, 0, none⟩) (i + 1) cap) = W3 at *
      have hm3 : mb < W3.heap.size := HD3.out.lt
      obtain ⟨t0, t1, t2, tf⟩ := block3 HD3.out.mov.var
      have tf1 := tf 1
      obtain ⟨y, hy⟩ : ∃ y : Nat, (i + 1) % n = y := ⟨_, rfl⟩
      have hyI : ((i : Int) + 1) % (n : Int) = (y : Int) := by rw [← hy]; simp
      have hyl : y < n := by rw [← hy]; exact Nat.mod_lt _ (by omega)
      have hyT : ((i : Int) + 1).tmod (n : Int) = (y : Int) := by rw [Int.tmod_eq_emod_of_nonneg (by omega)]; exact hyI
      have hyw : IntKind.i64.wrap (y : Int) = (y : Int) := by rw [IntKind.wrap_i64]; omega
      have hiw : IntKind.i64.wrap ((i : Int) + 1) = (i : Int) + 1 := by rw [IntKind.wrap_i64]; omega
      have hn0 : ¬ (n : Int) = 0 := by omega
      have hn0b : ((n : Int) == 0) = false := by rw [beq_eq_false_iff_ne]; omega
      have hn0n : ¬ n = 0 := by omega
      have HYR : Hid ((i + 1) % n = y) := hy
      obtain ⟨i1, hi1, hz0, hz1', hz2⟩ := info_parts Try.infoTrain
      have HI1 := hide hi1
      have HZ0 := hide hz0
      have HZ1 := hide hz1'
      have HZ2 := hide hz2
      obtain ⟨W4, hW4⟩ : ∃ W4, W4 = W3.alloc (.cells #[.int .i64 (y : Int)] 3) := ⟨_, rfl⟩
      have hb34 : Below W3.heap.size W3 W4 := by rw [hW4]; exact Joins.below_alloc1 _ _
      have HD4 := hide (HD3.out.below hb34)
      have hz4 : W4.heap.size = W3.heap.size + 1 := by rw [hW4]; simp
      have hp4 : OwnF W4 (some ⟨W3.heap.size, 0, none⟩) 1 (el [(y : Int)]) := fun k hk => ⟨W3.heap.size, 0, rfl, by
        obtain rfl : k = 0 := by omega
        rw [hW4, cell_of_row _ _ 0 _ _ (0, 0) (heap_alloc_new W3 _)]
        rfl, by
        rw [hW4]
        exact frozen_of_row _ _ _ _ _ (heap_alloc_new W3 _)⟩
      have HP4 := hide hp4
      have HTR : Hid ((W3.alloc (.cells #[.int .i64 (y : Int)] 3)).ownsRow (mb + 1) 39 3 (.slice a2 i c2) i (trVals (ringUp n b i).2.1 pa pc)) := by
        have := HD4.out.mov.tr.row
        rw [HL.out.2.1, hW4] at this
        exact this
      have HPA : Hid (∀ k, FA (some ⟨W3.heap.size, 0, none⟩) k → mb + 1 ≤ k ∧ k < W4.heap.size ∧ ¬ FG (.slice a2 i c2) pa (ringUp n b i).2.1.length k ∧ Value.ownBlock (.slice a3 i c3) ≠ some k ∧ Value.ownBlock (.slice (some ⟨g, 0, none⟩) (i + 1) cap) ≠ some k) := fun k e => by
        rw [FA_some e]
        refine ⟨by omega, by omega, fun e' => ?_, fun e' => ?_, fun e' => ?_⟩
        · have := (HD3.out.mov.tr.FG_lo e').2; omega
        · have := (HD3.out.mov.nm.own e').2; omega
        · have := (HD3.out.rm.own e').2; omega
      have hc3 : i + 1 ≤ maxLen := by unfold maxLen; omega
      have hc4 : (i + 1) * 40 ≤ 140737488355328 := by omega
      have HC3 := hide hc3
      have HC4 := hide hc4
      have hnm3 : ¬ mb = W3.heap.size := by omega
      have hnm4 : ¬ mb = W3.heap.size + 1 := by omega
      have HW4 := hide hW4
      have HZ4 := hide hz4
      have t1' := cell_later (Joins.below_alloc1 W3 (.cells #[.int .i64 (y : Int)] 3)) t1
      have t1'' := cell_later (Joins.below_alloc2 W3 (.cells #[.int .i64 (y : Int)] 3) (.cells #[.int .i64 (i : Int), .slice (some ⟨W3.heap.size, 0, none⟩) 1 1, .int .i64 1] 39)) t1
      have HGR : Hid (∀ V : World, ((W3.alloc (.cells #[.int .i64 (y : Int)] 3)).alloc (.cells #[.int .i64 (i : Int), .slice (some ⟨W3.heap.size, 0, none⟩) 1 1, .int .i64 1] 39)).drew.grownBy V (Value.ownBlock (.slice a2 i c2)) → V.cell? ⟨mb, 1, none⟩ = some (.slice a2 i c2) ∧ V.frozen? ⟨mb, 1, none⟩ = false) := fun V hg => by
        have h9 : V.heap[mb]? = _ := (hg.block mb (by simp; omega) (fun e => HD4.out.mov.tvNe e.symm)).trans ((Joins.below_alloc2 W3 _ _).block mb hm3)
        rw [HD3.out.mov.var] at h9
        obtain ⟨-, x1, -, xf⟩ := block3 h9
        exact ⟨x1, xf 1⟩
      clear hW3 hy hi1 hz0 hz1' hz2 hb34 hp4 hc3 hc4 hW4 hz4 tf z0 z1 z2 zf0
      go_region_law (first | (refine step_append_lies _ (by rfl) _ _ _ (by rfl) (mb + 1) 39 i1 _ 3 40 Try.underlying24 HI1.out HZ0.out HZ1.out HZ2.out rfl (by omega) (.slice a2 i c2) _ _ (by rfl) (HTR.out.alloc _) ⟨W3.heap.size + 1, 0, none⟩ 1 1 [.int .i64 (i : Int), .slice (some ⟨W3.heap.size, 0, none⟩) 1 1, .int .i64 1] (by rfl) (by rfl) (World.news_of_block (cs := #[.int .i64 (i : Int), .slice (some ⟨W3.heap.size, 0, none⟩) 1 1, .int .i64 1]) (t := 39) (fr := (0, 0)) (heap_alloc2_new W3 _ _)) (by simp [Value.oneCell']) (by omega) HC3.out HC4.out (by simp; omega) (W3.heap.size + 1 + 1) (by simp) ?_; intro g2 cap2 w5 hown hgrow hat hlt5; obtain ⟨y1, yf1⟩ := HGR.out w5 hgrow))
      all_goals
        have hba : Below W4.heap.size W4 ((W4.alloc (.cells #[.int .i64 (i : Int), .slice (some ⟨W3.heap.size, 0, none⟩) 1 1, .int .i64 1] 39)).drew) := (Joins.below_alloc1 W4 _).drew
        obtain ⟨hd5, hb5⟩ := HD4.out.snocT hba (t := ((i : Int), [(y : Int)], (1 : Int))) (a := some ⟨W3.heap.size, 0, none⟩) (c := 1) (g := g2) (cap := cap2) (w' := w5) HP4.out (by simp) HPA.out (by
          rw [HL.out.2.1]
          exact hown) (by rw [HW4.out]; exact hgrow) (by
          rcases hat with e | e
          · exact Or.inl e
          · exact Or.inr (by rw [e, HW4.out]; simp))
        rw [HL.out.2.1] at hd5 hb5
        generalize hW5 : w5.setCell ⟨mb, 1, none⟩ (.slice (some ⟨g2, 0, none⟩) (i + 1) cap2) = W5 at *
        have HD5 := hide hd5
        have hbw5 : Below mb w1 W5 := (HBL.out.trans (HB3.out.mono (Nat.le_refl _))).trans (((show Below W3.heap.size W3 W4 by rw [HW4.out]; exact Joins.below_alloc1 _ _).mono (by omega)).trans hb5)
        have HB5 := hide hbw5
        have hm5 : mb < W5.heap.size := hd5.lt
        obtain ⟨q0, q1, q2, qf⟩ := block3 hd5.mov.var
        have HY5 : Hid (BytesF W5 a B) := HY11.out.below (by rw [← HMB.out]; exact hbw5)
        have hw3 : IntKind.i64.wrap (3 * (i : Int)) = 3 * (i : Int) := by rw [IntKind.wrap_i64]; omega
        obtain ⟨z, hz⟩ : ∃ z : Int, 3 * (i : Int) + b = z := ⟨_, rfl⟩
        have HZE := hide hz
        obtain ⟨i0, hi0, hz0, hz1', hz2⟩ := info_parts Try.infoInt
        have HJ1 := hide hi0
        have HJ2 := hide hz0
        have HJ3 := hide hz1'
        have HJ4 := hide hz2
        have HNN : Hid (∀ W : World, Below W5.heap.size W5 W → Drw mb (.slice (some ⟨g, 0, none⟩) (i + 1) cap) ((ringUp n b i).1 ++ [1]) ((ringUp n b i).2.1 ++ [((i : Int), [(y : Int)], (1 : Int))]) (ringUp n b i).2.2 W (.slice (some ⟨g2, 0, none⟩) (i + 1) cap2) (.slice a3 i c3) (upd pa i (some ⟨W3.heap.size, 0, none⟩)) (upd pc i 1) ∧ W.ownsRow (mb + 1) 3 1 (.slice a3 i c3) i ((ringUp n b i).2.2.map (Value.int .i64))) := fun W hW => by
          have h1 := HD5.out.below hW
          refine ⟨h1, ?_⟩
          have h2 := h1.mov.nm
          unfold OwnInts at h2
          rw [HL.out.2.2] at h2
          exact h2
        have HNG : Hid (∀ w6 V : World, Below W5.heap.size W5 w6 → (w6.alloc (.cells #[.int .i64 z] 3)).grownBy V (Value.ownBlock (.slice a3 i c3)) → V.cell? ⟨mb, 2, none⟩ = some (.slice a3 i c3) ∧ V.frozen? ⟨mb, 2, none⟩ = false) := fun w6 V h6 hg => by
          have hd6 := (HNN.out w6 h6).1
          have h9 : V.heap[mb]? = _ := (hg.block mb (by have := hd6.lt; simp; omega) (fun e => hd6.mov.nvNe e.symm)).trans ((Joins.below_alloc1 w6 _).block mb hd6.lt)
          rw [hd6.mov.var] at h9
          obtain ⟨-, -, x2, xf⟩ := block3 h9
          exact ⟨x2, xf 2⟩
        have HC8 : Hid ((i + 1) * 8 ≤ 140737488355328) := show _ ≤ _ by omega
        clear hd5 hb5 hown hgrow hat hlt5 y1 yf1 hba hW5 hbw5 qf hi0 hz0 hz1' hz2 HGR HTR HPA HP4 HD3 HD4 HI1 HZ0 HZ1 HZ2 t0 t1 t2 t1' t1'' tf1 HW4 HZ4
        go_wp2_with fail
        go_region_law (first | (have hGuard := HO6.out; clear hGuard; refine step_append_lies _ (by rfl) _ _ _ (by rfl) (mb + 1) 3 i0 _ 1 8 Try.underlying23 HJ1.out HJ2.out HJ3.out HJ4.out rfl (by omega) (.slice a3 i c3) _ _ (by rfl) (HO6.out.alloc _) ⟨w6.heap.size, 0, none⟩ 1 1 [.int .i64 z] (by rfl) (by rfl) (World.news_of_block (cs := #[.int .i64 z]) (t := 3) (fr := (0, 0)) (heap_alloc_new w6 _)) (by simp [Value.oneCell']) (by omega) HC3.out HC8.out (by simp; omega) (w6.heap.size + 1) (by simp) ?_; intro g3 cap3 w7 hown hgrow hat hlt7; obtain ⟨y1, yf1⟩ := HNG.out w6 w7 HB6 hgrow) | (go_simp; go_at_call 19; refine (HWB1.out _ (HY5.out.below ((Below.refl _ _).drew))).mono ?_; rintro e w6 ⟨⟨rfl, hb0, hb1⟩, hb6⟩; have HB6 : Below W5.heap.size W5 w6 := below_tail ((Below.refl _ W5).drew) hb6; have hbw : IntKind.i64.wrap z = z := (by rw [IntKind.wrap_i64]; omega); have k2 := cell_later HB6 q2; obtain ⟨hd6, ho6⟩ := HNN.out w6 HB6; have HO6 := hide ho6; have hm6 := hd6.lt; have k2' := cell_later (Joins.below_alloc1 w6 (.cells #[.int .i64 z] 3)) k2; clear ho6 hd6))
        all_goals
          obtain ⟨hd6, -⟩ := HNN.out w6 HB6
          obtain ⟨hd7, hb7⟩ := hd6.snocN (Joins.below_alloc1 w6 (.cells #[.int .i64 z] 3)) (x := z) (g := g3) (cap := cap3) (w' := w7) (by
            rw [HL.out.2.2]
            exact hown) hgrow (by
            rcases hat with e | e
            · exact Or.inl e
            · exact Or.inr (by rw [e]; simp))
          rw [HL.out.2.2] at hd7 hb7
          have HD7 := hide hd7
          have HB7 : Hid (Below mb w1 (w7.setCell ⟨mb, 2, none⟩ (.slice (some ⟨g3, 0, none⟩) (i + 1) cap3))) := (HB5.out.trans (HB6.mono (by omega))).trans hb7
          have HBD : Hid (0 ≤ b ∧ b ≤ 255) := ⟨hb0, hb1⟩
          clear hd6 hd7 hb7 hown hgrow hat hlt7 y1 yf1 k2 k2' HB6 hb6 HO6 HNN HNG q0 q1 q2
          go_wp2_with fail
          go_roundw
          case rel =>
            have hD : Drw mb (.slice (some ⟨g, 0, none⟩) (i + 1) cap) (ringUp n b (i + 1)).1 (ringUp n b (i + 1)).2.1 (ringUp n b (i + 1)).2.2 (w7.setCell ⟨mb, 2, none⟩ (.slice (some ⟨g3, 0, none⟩) (i + 1) cap3)) (.slice (some ⟨g2, 0, none⟩) (i + 1) cap2) (.slice (some ⟨g3, 0, none⟩) (i + 1) cap3) (upd pa i (some ⟨W3.heap.size, 0, none⟩)) (upd pc i 1) := by
              rw [ringUp_succ, HYR.out, HZE.out]
              exact HD7.out
            exact ⟨i + 1, _, _, _, _, _, by go_num, by omega, fun _ => HBD.out, hD, HB7.out⟩
          case measure => simp [intOf]; omega
    · have hini : ¬ ((i : Int) < (n : Int)) := by omega
      obtain rfl : i = n := by omega
      have hb9 := hbb (by omega)
      have hzr := ringSt_all hN2 hN5 hb9.1 hb9.2
      have hzp := ringSt_paths i b
      rw [ringUp_all] at hdr hat0 l1 l2 l3
      obtain ⟨L, hLv, hLo, -, -, -, hLp, -⟩ := hdr.own
      have hcap := hLo.capSt hLp
      rw [hLv] at hcap
      generalize ringSt i b = R at *
      have HR0 := hide hzr
      have HRP := hide hzp
      have HRS := hide hat0
      have HRC : Hid (CapSt wr (.agg #[.slice a1 i c1, .slice a2 i c2, .slice a3 i c3]) R.2.1.length) := hcap
      have HRN := hide hdr.mov.nm.at
      have HRV := hide hdr.mov.var
      have HLL := hide (And.intro l1 (And.intro l2 l3))
      have HBW : Hid (Below w.heap.size w wr) := below_tail HBW.out (by rw [← HMB.out]; exact hbl)
      have HYW : Hid (BytesF wr a B) := HY11.out.below (by rw [← HMB.out]; exact hbl)
      clear hdr hbl hat0 hbb hb9 hzr hzp hcap l1 l2 l3 hLv hLo hLp HDR HBL HBB HD0 HB0 HY2 HY11 HWB1 sf
      have hrf : (.agg #[.slice a1 i c1, .slice a2 i c2, .slice a3 i c3] : Value) = .agg #[.slice a1 i c1, .slice a2 i c2, .slice a3 i c3] := rfl
      have HST : Hid (∀ W, Below wr.heap.size wr W → Calls Try.prog 24 #[.agg #[.slice a1 i c1, .slice a2 i c2, .slice a3 i c3]] W fun e w' => e = .returned (.bool true) ∧ Below wr.heap.size wr w') := fun W hW => by
        have := implStuck_any _ R W (HRS.out.below hW) (HRC.out.below HRS.out hW) HRP.out (by rw [HLL.out.2.1]; omega)
        rw [HR0.out.1] at this
        exact this.mono (fun e w' ⟨h1, h2⟩ => ⟨h1, below_tail hW h2⟩)
      have HSA : Hid (∀ W, Below wr.heap.size wr W → Calls Try.prog 21 #[.agg #[.slice a1 i c1, .slice a2 i c2, .slice a3 i c3]] W fun e w' => e = .returned (.bool false) ∧ Below wr.heap.size wr w') := fun W hW => by
        have := implSafe_any _ R W (HRS.out.below hW) (HRC.out.below HRS.out hW) HRP.out
        rw [HR0.out.2.1] at this
        exact this.mono (fun e w' ⟨h1, h2⟩ => ⟨h1, below_tail hW h2⟩)
      have HRI : Hid (∀ W, Below wr.heap.size wr W → Calls Try.prog 25 #[.agg #[.slice a1 i c1, .slice a2 i c2, .slice a3 i c3]] W fun e w' => ∃ (ya : Option Addr) (yl yc : Nat), e = .returned (.slice ya yl yc) ∧ IntsAt w' (.slice ya yl yc) R.2.2 ∧ Below wr.heap.size wr w') := fun W hW => by
        have := implRing_any _ R W (HRS.out.below hW) (HRC.out.below HRS.out hW) HRP.out
        rw [HR0.out.2.2] at this
        refine this.mono (fun e w' ⟨r, h1, h2, h3⟩ => ?_)
        obtain ⟨ya, yc, hr⟩ := h2.form
        subst hr
        exact ⟨ya, _, yc, h1, h2.at, below_tail hW h3⟩
      have HWI : Hid (∀ (W : World) (v : Value), Below wr.heap.size wr W → IntsAt W v R.2.2 → Calls Try.prog 15 #[v, .slice a3 i c3] W fun e w' => e = .returned (.bool true) ∧ Below wr.heap.size wr w') := fun W v hW hv => by
        have := wInts_any v _ R.2.2 R.2.2 W hv (HRN.out.below hW) (by rw [HLL.out.2.2]; omega)
        exact this.mono (fun e w' ⟨h1, m, h2⟩ => ⟨by rw [h1]; simp, below_tail hW (by rw [h2]; exact Joins.below_draws _ _ m)⟩)
      clear hrf
      go_wp2_with fail
      go_region_held3 (fun W => W.cell? ⟨mb, 0, none⟩ = some (.slice a1 i c1) ∧ W.cell? ⟨mb, 1, none⟩ = some (.slice a2 i c2) ∧ W.cell? ⟨mb, 2, none⟩ = some (.slice a3 i c3))
        (first | (exact ⟨cell_later HB6 s0, cell_later HB6 s1, cell_later HB6 s2⟩) | (exact ⟨cell_later HB5 s0, cell_later HB5 s1, cell_later HB5 s2⟩) | (exact ⟨cell_later HB4 s0, cell_later HB4 s1, cell_later HB4 s2⟩) | (exact ⟨cell_later HB3 s0, cell_later HB3 s1, cell_later HB3 s2⟩) | go_keep)
        (first | (go_at_call 24; refine (HST.out _ ((Below.refl _ _).drew)).mono ?_; rintro e w3 ⟨rfl, HB3⟩) | (go_at_call 21; refine (HSA.out _ HB3).mono ?_; rintro e w4 ⟨rfl, HB4⟩) | (go_at_call 25; refine (HRI.out _ HB4).mono ?_; rintro e w5 ⟨ya, yl, yc, rfl, hI5, HB5⟩) | (go_at_call 15; refine (HWI.out _ _ HB5 hI5).mono ?_; rintro e w6 ⟨rfl, HB6⟩))
      all_goals
        have HB6' : Hid (Below w.heap.size w w6) := below_tail HBW.out HB6
        have HY6 : Hid (BytesF w6 a B) := HYW.out.below HB6
        clear HB3 HB4 HB5 HB6 hI5 HST HSA HRI HWI HRS HRC HRP HRN HRV HLL HR0 HBW HYW s0 s1 s2
        go_wp2_with fail
        have HDW : Hid (∀ W : World, BytesF W a B → (∀ b off s, a = some ⟨b, off, s⟩ → 0 < n1 → b < W.heap.size) → Calls Try.prog 26 #[.slice a n1 q] W fun e w' => ∃ (r : Value) (st : St), e = .returned r ∧ Sz 6 17 st ∧ StateAt w' r st ∧ CapSt w' r st.2.1.length ∧ Below W.heap.size W w') := fun W h1 h2 => by
          rw [← HN1.out] at h2 ⊢
          exact drawRing_any h1 h2
        refine (HDW.out _ HY6.out (fun b off s e h => Nat.lt_of_lt_of_le (HA.out b off s e h) HB6'.out.size)).mono ?_
        rintro e w7 ⟨rr, st, rfl, hsz, hs7, hc7, hb7⟩
        obtain ⟨q1, o1, q2, o2, q3, o3, hrr⟩ := hs7.form
        subst hrr
        have HP : Hid (∀ j, j < st.2.1.length → (tPath st.2.1 j).length ≤ 4611686018427387904) := fun j hj => by have := hsz.p j hj; omega
        have HT6 : Hid (st.2.1.length ≤ 6) := hsz.t
        have HS7 := hide hs7
        have HC7 := hide hc7
        have HB7 := hide (below_tail HB6'.out hb7)
        clear hsz hs7 hc7 hb7 HDW HB6' HY6
        obtain ⟨sb, hsb⟩ : ∃ sb, sb = w7.heap.size := ⟨_, rfl⟩
        have hbA := Joins.below_alloc1 w7 (.cells #[.slice q1 st.1.length o1, .slice q2 st.2.1.length o2, .slice q3 st.2.2.length o3] 26)
        obtain ⟨s0, s1, s2, -⟩ := block3 (heap_alloc_new w7 (.cells #[.slice q1 st.1.length o1, .slice q2 st.2.1.length o2, .slice q3 st.2.2.length o3] 26))
        have HS8 := hide (HS7.out.below hbA)
        have HC8 := hide (HC7.out.below HS7.out hbA)
        have HB8 := hide (below_tail HB7.out hbA)
        clear HS7 HC7 HB7 hbA
        go_wp2_with fail
        rw [← hsb] at s0 s1 s2 ⊢
        clear hsb
        generalize w7.alloc (.cells #[.slice q1 st.1.length o1, .slice q2 st.2.1.length o2, .slice q3 st.2.2.length o3] 26) = w8 at *
        refine (implRing_any _ st _ HS8.out HC8.out HP.out).mono ?_
        rintro e w9 ⟨r, rfl, ho9, hb9⟩
        obtain ⟨ya, yc, hr⟩ := ho9.form
        subst hr
        have HI9 := hide ho9.at
        have HL9 := hide ho9.len
        have HS9 := hide (HS8.out.below hb9)
        have HC9 := hide (HC8.out.below HS8.out hb9)
        have HB9 := hide (below_tail HB8.out hb9)
        replace s0 := cell_later hb9 s0
        replace s1 := cell_later hb9 s1
        replace s2 := cell_later hb9 s2
        clear ho9 hb9 HS8 HC8 HB8
        go_wp2_with fail
        refine (specRing_any _ st _ HS9.out).mono ?_
        rintro e w10 ⟨r', rfl, ho10, hb10⟩
        have hwi := hide (wInts_any (.slice ya (ringF st).length yc) r' (ringF st) (ringF st) w10 (HI9.out.below hb10) ho10.at ho10.len)
        obtain ⟨xa, xc, hr⟩ := ho10.form
        subst hr
        have HS10 := hide (HS9.out.below hb10)
        have HC10 := hide (HC9.out.below HS9.out hb10)
        have HB10 := hide (below_tail HB9.out hb10)
        have HI10 := hide (HI9.out.below hb10)
        replace s0 := cell_later hb10 s0
        replace s1 := cell_later hb10 s1
        replace s2 := cell_later hb10 s2
        clear ho10 hb10 HS9 HC9 HB9 HI9
        go_wp2_with fail
        refine hwi.out.mono ?_
        rintro e w11 ⟨rfl, m11, rfl⟩
        have hb11 := Joins.below_draws w10.heap.size w10 m11
        have HS11 := hide (HS10.out.below hb11)
        have HC11 := hide (HC10.out.below HS10.out hb11)
        have HB11 := hide (below_tail HB10.out hb11)
        have HI11 := hide (HI10.out.below hb11)
        replace s0 := cell_later hb11 s0
        replace s1 := cell_later hb11 s1
        replace s2 := cell_later hb11 s2
        have HRN : Hid (∀ j, j < (ringF st).length → el (ringF st) ((j + 1) % (ringF st).length) ∈ waitsF st (el (ringF st) j)) := fun j hj => ringF_next st j hj
        have HSR : Hid ((stuckF st = true → (ringF st).length ≠ 0 ∧ safeF st = false) ∧ ((movesF st).length = st.2.1.length → (ringF st).length = 0)) := ⟨fun h => ⟨fun e => stuck_ring h (List.length_eq_zero_iff.1 e), stuck_unsafe h⟩, fun h => by rw [moves_ring h]; rfl⟩
        clear hb11 HS10 HC10 HB10 HI10 hwi
        generalize w10.drewN m11 = w11 at *
        generalize hrg : ringF st = rg at *
        have HL8 : Hid (rg.length ≤ 9223372036854775807) := HL9.out
        go_wp2_with fail
        have HRG := hide hrg
        clear hrg
        generalize hrl : rg.length = rl at *
        have HRL := hide hrl
        clear hrl
        go_loopw [79] (fun u wr => ∃ j : Nat, u = .int .i64 (j : Int) ∧ j ≤ rl ∧ Below w11.heap.size w11 wr) (fun u _ => rl - (intOf u).toNat)
        case atStart => exact ⟨0, rfl, Nat.zero_le _, Below.refl _ _⟩
        case round =>
          obtain ⟨j, rfl, hj, hbr⟩ := hrel
          obtain ⟨R1, hR1⟩ : ∃ R1, R1 = wr := ⟨_, rfl⟩
          subst hR1
          have HBR := hide hbr
          have HSR1 := hide (HS11.out.below hbr)
          have HCR1 := hide (HC11.out.below HS11.out hbr)
          have HIR1 := hide (HI11.out.below hbr)
          have f0 := cell_later hbr s0
          have f1 := cell_later hbr s1
          have f2 := cell_later hbr s2
          have hl8 := HL8.out
          by_cases hjl : j < rl
          · have hjli : (j : Int) < (rl : Int) := by omega
            have hj0 : (0 : Int) ≤ (j : Int) := by omega
            obtain ⟨cb, coff, hca, hcc⟩ := HIR1.out.cellAt j (by rw [HRL.out]; exact hjl)
            subst hca
            obtain ⟨k, hk⟩ : ∃ k : Nat, (j + 1) % rl = k := ⟨_, rfl⟩
            have hkl : k < rl := by rw [← hk]; exact Nat.mod_lt _ (by omega)
            obtain ⟨cb', coff', hca', hcc'⟩ := HIR1.out.cellAt k (by rw [HRL.out]; exact hkl)
            simp only [Option.some.injEq, Addr.mk.injEq, and_true] at hca'
            obtain ⟨rfl, rfl⟩ := hca'
            have hkI : ((j : Int) + 1) % (rl : Int) = (k : Int) := by rw [← hk]; simp
            have hkT : ((j : Int) + 1).tmod (rl : Int) = (k : Int) := by rw [Int.tmod_eq_emod_of_nonneg (by omega)]; exact hkI
            have hjw : wrap64 ((j : Int) + 1) = (j : Int) + 1 := by unfold wrap64; omega
            have hk0 : (0 : Int) ≤ (k : Int) := by omega
            have hkli : (k : Int) < (rl : Int) := by omega
            have hrl0 : ¬ (rl : Int) = 0 := by omega
            have hrlb : ((rl : Int) == 0) = false := by rw [beq_eq_false_iff_ne]; omega
            have HNX := hide (HRN.out j hjl)
            rw [hk] at HNX
            generalize el rg j = x' at *
            generalize el rg k = nx at *
            clear hbr hk
            go_wp2_with fail
            refine (implWaits_any _ st x' _ HSR1.out HCR1.out HP.out).mono ?_
            rintro e w12 ⟨r, rfl, ho12, hb12⟩
            obtain ⟨wa, wc, hr⟩ := ho12.form
            subst hr
            have HI12 := hide ho12.at
            have hwl := ho12.len
            have HB12 := hide (below_tail HBR.out hb12)
            generalize hwv : waitsF st x' = wv at *
            clear ho12 hb12 hwv hkI hkT hjw hk0 hkli hrl0 hrlb hcc hcc' f0 f1 f2 HSR1 HCR1
            obtain ⟨R0, hR0⟩ : ∃ R0, R0 = w12 := ⟨_, rfl⟩
            subst hR0
            have hjw : wrap64 ((j : Int) + 1) = (j : Int) + 1 := by unfold wrap64; omega
            generalize hwvl : wv.length = wl at *
            have HWL := hide hwvl
            clear hwvl
            go_wp2_with fail
            go_loopw [11, 96] (fun u11 u96 wx => ∃ (p : Nat) (bl : Bool), u96 = .int .i64 (p : Int) ∧ u11 = .bool bl ∧ p ≤ wl ∧ (bl = true ↔ ∃ q, q < p ∧ el wv q = nx) ∧ wx = R0) (fun _ u96 _ => wl - (intOf u96).toNat)
            case atStart => exact ⟨0, false, rfl, rfl, Nat.zero_le _, ⟨fun h => (by cases h), fun ⟨q, hq, _⟩ => absurd hq (Nat.not_lt_zero _)⟩, rfl⟩
            case round =>
              obtain ⟨p, bl, rfl, rfl, hp, hbl, hwr⟩ := hrel
              have hwr' := hwr.symm
              subst hwr'
              have HBB := hide hbl
              clear hbl
              by_cases hpl : p < wl
              · obtain ⟨yb, yoff, hya, hyc⟩ := HI12.out.cellAt p (by rw [HWL.out]; exact hpl)
                subst hya
                have hpli : (p : Int) < (wl : Int) := by omega
                have hp0 : (0 : Int) ≤ (p : Int) := by omega
                cases bl with
                | true =>
                  go_wp2_with fail
                  go_roundw
                  case rel => exact ⟨p + 1, true, by go_num, rfl, by omega, ⟨fun _ => by obtain ⟨q, h1, h2⟩ := HBB.out.1 rfl; exact ⟨q, by omega, h2⟩, fun _ => rfl⟩, by trivial⟩
                  case measure => simp [intOf]; omega
                | false =>
                  go_wp2_with fail
                  go_roundw
                  case rel => exact ⟨p + 1, (el wv p == nx), by go_num, rfl, by omega, ⟨fun h => ⟨p, by omega, by simpa using h⟩, fun ⟨q, h1, h2⟩ => by
                    by_cases e : q = p
                    · subst e; simpa using h2
                    · have := HBB.out.2 ⟨q, by omega, h2⟩; cases this⟩, by trivial⟩
                  case measure => simp [intOf]; omega
              · have hpli : ¬ ((p : Int) < (wl : Int)) := by omega
                have hblt : bl = true := by
                  rw [HBB.out]
                  obtain ⟨q, hq, e⟩ := List.getElem_of_mem HNX.out
                  exact ⟨q, by have := HWL.out; omega, by simp [el, hq, e]⟩
                subst hblt
                clear HBB
                go_wp2_with fail
                go_roundw
                case rel => exact ⟨j + 1, by go_num, by omega, HB12.out⟩
                case measure => simp [intOf]; omega
          · have hjli : ¬ ((j : Int) < (rl : Int)) := by omega
            clear hbr
            go_wp2_with fail
            refine (implStuck_any _ st _ HSR1.out HCR1.out HP.out (by have := HT6.out; omega)).mono ?_
            rintro e w12 ⟨rfl, hb12⟩
            have HS12 := hide (HSR1.out.below hb12)
            have HC12 := hide (HCR1.out.below HSR1.out hb12)
            have HB12 := hide (below_tail HB11.out (below_tail HBR.out hb12))
            replace f0 := cell_later hb12 f0
            replace f1 := cell_later hb12 f1
            replace f2 := cell_later hb12 f2
            clear hb12 HSR1 HCR1
            cases hstk : stuckF st with
            | true =>
              obtain ⟨hne, hsf⟩ := HSR.out.1 hstk
              have hrp : (0 : Int) < (rl : Int) := by omega
              go_wp2_with fail
              refine (implSafe_any _ st _ HS12.out HC12.out HP.out).mono ?_
              rintro e w13 ⟨rfl, hb13⟩
              rw [hsf]
              have HB13 := hide (below_tail HB12.out hb13)
              clear hb13
              go_wp2_with fail
              go_ret
              exact ⟨rfl, HB13.out⟩
            | false =>
              have HMO : Hid (∀ W, Below w12.heap.size w12 W → Calls Try.prog 13 #[.agg #[.slice q1 st.1.length o1, .slice q2 st.2.1.length o2, .slice q3 st.2.2.length o3]] W fun e w' => ∃ (ma : Option Addr) (mc : Nat), e = .returned (.slice ma (movesF st).length mc) ∧ Below w12.heap.size w12 w') := fun W hW => by
                refine (implMoves_any _ st W (HS12.out.below hW) (HC12.out.below HS12.out hW) HP.out).mono (fun e w' ⟨r, h1, h2, h3⟩ => ?_)
                obtain ⟨ya', yc', hr⟩ := h2.form
                subst hr
                exact ⟨ya', yc', h1, below_tail hW h3⟩
              have hsr := HSR.out.2
              clear HSR hstk
              generalize (movesF st).length = ml at *
              generalize hlt : st.2.1.length = lt at *
              by_cases hm : ml = lt
              · have hrl0 := hsr hm
                subst hm
                subst hrl0
                have HLT := hide hlt
                clear hsr hlt
                go_wp2_with fail
                go_region_held3 (fun W => W.cell? ⟨sb, 0, none⟩ = some (.slice q1 st.1.length o1) ∧ W.cell? ⟨sb, 1, none⟩ = some (.slice q2 ml o2) ∧ W.cell? ⟨sb, 2, none⟩ = some (.slice q3 st.2.2.length o3))
                  (first | (exact ⟨cell_later HB13 f0, cell_later HB13 f1, cell_later HB13 f2⟩) | go_keep)
                  (first | (go_at_call 13; refine (HMO.out _ ((Below.refl _ _).drew)).mono ?_; rintro e w13 ⟨ma, mc, rfl, HB13⟩))
                all_goals
                  have HB14 := hide (below_tail HB12.out HB13)
                  clear HB13
                  go_wp2_with fail
                  go_ret
                  exact ⟨rfl, HB14.out⟩
              · have hm1 : ¬ (ml : Int) = (lt : Int) := by omega
                have hm2 : ((ml : Int) == (lt : Int)) = false := by rw [beq_eq_false_iff_ne]; omega
                have hm3 : ((ml : Int) != (lt : Int)) = true := by simp [bne, hm2]
                have hm4 : (ml == lt) = false := by rw [beq_eq_false_iff_ne]; exact hm
                have hm5 : (ml != lt) = true := by simp [bne, hm4]
                have hm6 : decide (ml = lt) = false := decide_eq_false hm
                have HLT := hide hlt
                clear hsr hlt
                go_wp2_with fail
                first | (go_region_law (first | (go_simp; go_at_call 13; refine (HMO.out _ ((Below.refl _ _).drew)).mono ?_; rintro e w13 ⟨ma, mc, rfl, HB13⟩; have k1 := cell_later HB13 f1))) | fail
                all_goals
                  have HB14 := hide (below_tail HB12.out HB13)
                  clear HB13
                  go_wp2_with fail
                  go_ret
                  exact ⟨rfl, HB14.out⟩
end Go.Proofs.Ytmjjigdnoiphbaa
