/-
  A HEAP OF WAYS IN MEMORY: a way written; impl: push.
-/
import Derived.Test.YtmjjigdnoiphbaaHp0
namespace Go.Proofs.Ytmjjigdnoiphbaa
open Go.RowKit Go.Deep Go.Maps
set_option linter.unusedVariables false

set_option maxRecDepth 4000 in
set_option maxHeartbeats 4000000 in
theorem hpush_any {B : Nat} {w : World} {ob : Nat} {tv : Value} {n : Nat} {f : Nat → Way} (h : HeapAt B w ob tv n f) (hk : HeapOk wkey f n) (x : Way) (hx : 0 ≤ x.2.1 ∧ x.2.1 ≤ 23000 ∧ x.2.2 < 5) (hB : B ≤ w.heap.size) (hn : n ≤ 90000000000) :
    Calls Try.prog 89 #[.pointer (some ⟨ob, 0, none⟩), wv x] w fun e w' => (∃ u, e = .returned u) ∧ ∃ tv' f', HeapAt B w' ob tv' (n + 1) f' ∧ HeapOk wkey f' (n + 1) ∧ (∀ y, Has f' (n + 1) y ↔ y = x ∨ Has f n y) ∧ Chg (fun q => q = ob ∨ tv.ownBlock = some q) w w' ∧ ∀ q, tv'.ownBlock = some q → tv.ownBlock = some q ∨ w.heap.size ≤ q := by
  obtain ⟨xs, hown, hxs⟩ := h.owns
  have HH := hide h
  have HK := hide hk
  have HXS := hide hxs
  have hob : ob < w.heap.size := (Array.getElem?_eq_some_iff.1 h.var).1
  have hobB := h.lo
  have hne : tv.ownBlock ≠ some ob := fun e => by have := (ownBlock_lt hown e).1; omega
  have b0 : w.cell? ⟨ob, 0, none⟩ = some tv := by rw [cell_of_row w ob 0 _ _ (0, 0) h.var]; rfl
  have bf : w.frozen? ⟨ob, 0, none⟩ = false := frozen_of_row w ob 0 _ _ h.var
  have HXL : Hid (xs.length = n * 7) := hown.1
  have HOWN := hide hown
  clear h hk hxs hown
  unfold wv wc7
  go_enter Try.func89, Try.ntmps89
  go_wp2_with fail
  obtain ⟨W5, hW5⟩ : ∃ W5, W5 = w.alloc (.cells #[.int .i8 (x.1 0), .int .i8 (x.1 1), .int .i8 (x.1 2), .int .i8 (x.1 3), .int .i8 (x.1 4), .int .i64 x.2.1, .int .i64 (x.2.2 : Int)] 72) := ⟨_, rfl⟩
  rw [← hW5]
  have HB5 : Hid (Below w.heap.size w W5) := by rw [hW5]; exact Joins.below_alloc1 _ _
  have hs5 : W5.heap.size = w.heap.size + 1 := by rw [hW5]; simp
  have hi5 : W5.heap[w.heap.size]? = some (.cells #[.int .i8 (x.1 0), .int .i8 (x.1 1), .int .i8 (x.1 2), .int .i8 (x.1 3), .int .i8 (x.1 4), .int .i64 x.2.1, .int .i64 (x.2.2 : Int)] 72 (0, 0)) := by rw [hW5]; exact heap_alloc_new _ _
  clear hW5
  obtain ⟨x0, x1, x2, x3, x4, x5, x6⟩ := cells7 hi5
  have c0 := cell_later HB5.out b0
  have cf : W5.frozen? ⟨ob, 0, none⟩ = false := by rw [HB5.out.frozen (p := ⟨ob, 0, none⟩) hob]; exact bf
  have HO5 := hide (ownsRow_below HOWN.out HB5.out)
  clear b0 bf hi5
  obtain ⟨i0, hi, hz0, hz1, hz2⟩ := info_parts Try.infoWay
  have HJ1 := hide hi
  have HJ2 := hide hz0
  have HJ3 := hide hz1
  have HJ4 := hide hz2
  have hc3 : n + 1 ≤ maxLen := by unfold maxLen; omega
  have hc4 : (n + 1) * 24 ≤ 140737488355328 := by omega
  have hc5 : B ≤ (W5.alloc (.cells (wc7 x) 72)).drew.heap.size := by show _ ≤ (W5.alloc _).heap.size; simp; omega
  have HK6 : Hid (∀ w6, (W5.alloc (.cells (wc7 x) 72)).drew.grownBy w6 tv.ownBlock → (w6.cell? ⟨ob, 0, none⟩ = some tv ∧ w6.frozen? ⟨ob, 0, none⟩ = false)) := fun w6 hg6 => by
    have hbA : Below W5.heap.size W5 (W5.alloc (.cells (wc7 x) 72)).drew := (Joins.below_alloc1 W5 _).drew
    have hl : ∀ q, q < W5.heap.size → q < (W5.alloc (.cells (wc7 x) 72)).drew.heap.size := fun q hq => Nat.lt_of_lt_of_le hq hbA.size
    have ho5 : ob < W5.heap.size := by omega
    refine ⟨?_, ?_⟩
    · rw [hg6.cell_far ⟨ob, 0, none⟩ (hl _ ho5) (Ne.symm hne)]; exact cell_later hbA c0
    · rw [hg6.frozen_far ⟨ob, 0, none⟩ (hl _ ho5) (Ne.symm hne), hbA.frozen (p := ⟨ob, 0, none⟩) ho5]; exact cf
  have HS5 := hide hs5
  have c0' := cell_later (Joins.below_alloc1 W5 (.cells #[.int .i8 (x.1 0), .int .i8 (x.1 1), .int .i8 (x.1 2), .int .i8 (x.1 3), .int .i8 (x.1 4), .int .i64 x.2.1, .int .i64 (x.2.2 : Int)] 72)) c0
  clear hi hz0 hz1 hz2 hs5
  go_region_law ((refine step_append_lies _ (by rfl) _ _ _ (by rfl) B 72 i0 _ 7 24 Try.underlying109 HJ1.out HJ2.out HJ3.out HJ4.out rfl (by omega) tv _ _ (by rfl) ((HO5.out.alloc _).drew) ⟨W5.heap.size, 0, none⟩ 1 1 (wc7 x).toList (by rfl) (by rfl) (World.news_of_block (cs := wc7 x) (t := 72) (fr := (0, 0)) (heap_alloc_new W5 _)) (by simp [wc7, Value.oneCell']) (by omega) hc3 hc4 hc5 (W5.heap.size + 1) (by simp) ?_; intro g2 cap2 w6 hown2 hgrow2 hat2 hlt2; obtain ⟨k61, k62⟩ := HK6.out _ hgrow2))
  all_goals
    have hbA : Below w.heap.size w (W5.alloc (.cells (wc7 x) 72)).drew := (below_tail HB5.out (Joins.below_alloc1 W5 _)).drew
    have hszA : w.heap.size ≤ (W5.alloc (.cells (wc7 x) 72)).drew.heap.size := hbA.size
    have hfar : ∀ q, q < w.heap.size → tv.ownBlock ≠ some q → w6.heap[q]? = w.heap[q]? := fun q hq hq2 => by
      rw [hgrow2.block q (Nat.lt_of_lt_of_le hq hszA) (Ne.symm hq2)]
      exact hbA.block q hq
    have hg2ob : g2 ≠ ob := by
      rcases hat2 with e | e
      · exact fun ee => hne (by rw [e, ee])
      · have := HS5.out
        omega
    have hg2w : tv.ownBlock = some g2 ∨ w.heap.size ≤ g2 := hat2.imp id (fun e => by have := HS5.out; omega)
    have HVAR : Hid ((w6.setCell ⟨ob, 0, none⟩ (.slice (some ⟨g2, 0, none⟩) (n + 1) cap2)).heap[ob]? = some (.cells #[.slice (some ⟨g2, 0, none⟩) (n + 1) cap2, beforeV] 111 (0, 0))) := by
      have := Joins.block_setCell (i := 0) ((hfar ob hob hne).trans HH.out.var) (.slice (some ⟨g2, 0, none⟩) (n + 1) cap2)
      simpa [Hid] using this
    have HROW : Hid (HRow (w6.setCell ⟨ob, 0, none⟩ (.slice (some ⟨g2, 0, none⟩) (n + 1) cap2)) B g2 cap2 (n + 1) (updA f n x)) := (HRow.of_owns hown2 HXL.out HXS.out).kept (Below.heap_setCell _ _ _ _ hg2ob)
    have HCHG : Hid (Chg (fun q => q = ob ∨ tv.ownBlock = some q) w (w6.setCell ⟨ob, 0, none⟩ (.slice (some ⟨g2, 0, none⟩) (n + 1) cap2))) := by
      show Chg (fun q => q = ob ∨ tv.ownBlock = some q) w _
      refine Chg.setCell (F := fun q => q = ob ∨ tv.ownBlock = some q) ⟨hgrow2.os.trans hbA.os, hgrow2.tape.trans hbA.tape, hgrow2.output.trans hbA.output, Nat.le_trans hszA hgrow2.size, fun q hq hq2 => hfar q hq (fun e => hq2 (Or.inr e))⟩ (p := ⟨ob, 0, none⟩) (Or.inl rfl) _
    have HG2 := hide hg2w
    clear hbA hszA hfar hg2w hown2 hgrow2 hat2 hlt2 k61 k62 c0 c0' cf x0 x1 x2 x3 x4 x5 x6
    generalize w6.setCell ⟨ob, 0, none⟩ (.slice (some ⟨g2, 0, none⟩) (n + 1) cap2) = W at *
    have c0 : W.cell? ⟨ob, 0, none⟩ = some (.slice (some ⟨g2, 0, none⟩) (n + 1) cap2) := by rw [cell_of_row W ob 0 _ _ (0, 0) HVAR.out]; rfl
    have hw1 : wrap64 (((n + 1 : Nat) : Int) - 1) = (n : Int) := by rw [w64] <;> omega
    have hw2 : ((n : Int) + 1 - 1) = (n : Int) := by omega
    have HUP := hide (HK.out.pushed x)
    have HOKX : Hid (WaysOk (updA f n x) (n + 1)) := fun i hi => by
      unfold updA
      split
      · exact hx
      · exact HH.out.ok i (by omega)
    have HHAS : Hid (∀ y, Has (updA f n x) (n + 1) y ↔ y = x ∨ Has f n y) := fun y => has_pushed
    generalize updA f n x = f0 at *
    go_wp2_with fail
    clear c0
    go_loopw [4] (fun u wr => ∃ (c : Nat) (f' : Nat → Way), u = .int .i64 c ∧ UpInv wkey f' (n + 1) c ∧ (∀ y, Has f' (n + 1) y ↔ y = x ∨ Has f n y) ∧ HRow wr B g2 cap2 (n + 1) f' ∧ WaysOk f' (n + 1) ∧ wr.heap[ob]? = some (.cells #[.slice (some ⟨g2, 0, none⟩) (n + 1) cap2, beforeV] 111 (0, 0)) ∧ Chg (fun q => q = g2) W wr) (fun u _ => (intOf u).toNat)
    case atStart => exact ⟨n, f0, by go_num, HUP.out, HHAS.out, HROW.out, HOKX.out, HVAR.out, Chg.refl _ _⟩
    case round =>
      obtain ⟨c, f', rfl, hup, hhas, hrow, hwok, hvar, hchg⟩ := hrel
      have hcn := hup.lt
      have HC : Hid (Chg (fun q => q = ob ∨ tv.ownBlock = some q) w wr) := ⟨hchg.os.trans HCHG.out.os, hchg.tape.trans HCHG.out.tape, hchg.output.trans HCHG.out.output, Nat.le_trans HCHG.out.size hchg.size, fun q hq hq2 => by
        rw [hchg.block q (Nat.lt_of_lt_of_le hq HCHG.out.size) (fun e => by
          subst e
          rcases HG2.out with e | e
          · exact hq2 (Or.inr e)
          · omega)]
        exact HCHG.out.block q hq hq2⟩
      have HDONE : Hid (HeapOk wkey f' (n + 1) → ∀ wz, Below wr.heap.size wr wz → ∃ tv' f', HeapAt B wz ob tv' (n + 1) f' ∧ HeapOk wkey f' (n + 1) ∧ (∀ y, Has f' (n + 1) y ↔ y = x ∨ Has f n y) ∧ Chg (fun q => q = ob ∨ tv.ownBlock = some q) w wz ∧ ∀ q, tv'.ownBlock = some q → tv.ownBlock = some q ∨ w.heap.size ≤ q) := fun hok wz hbz =>
        ⟨_, f', HeapAt.below ⟨hvar, Or.inr ⟨g2, cap2, rfl, hrow⟩, hobB, hwok⟩ hbz, hok, hhas, HC.out.trans (Chg.of_below hbz), fun q e => by simp [Value.ownBlock] at e; subst e; exact HG2.out⟩
      by_cases hc0 : c = 0
      · subst hc0
        have HD0 := hide (hup.done (Or.inl rfl))
        clear hup hhas hrow hwok hvar hchg
        go_wp2_with fail
        first | go_end0 | (refine bodyPost_ret (results_none rfl _ _ _) rfl ?_)
        exact ⟨⟨_, rfl⟩, HDONE.out HD0.out _ (Below.refl _ _)⟩
      · obtain ⟨p, hp⟩ : ∃ p, p = (c - 1) / 2 := ⟨_, rfl⟩
        have hpn : p < n + 1 := by omega
        have hpc : c ≠ p := by omega
        have hplt : p < c := by omega
        have HUP' := hide hup
        have HPP := hide hp
        obtain ⟨x0, x1, x2, x3, x4, x5, x6, xf⟩ := hrow.cells hcn
        obtain ⟨y0, y1, y2, y3, y4, y5, y6, yf⟩ := hrow.cells hpn
        have b0 : wr.cell? ⟨ob, 0, none⟩ = some (.slice (some ⟨g2, 0, none⟩) (n + 1) cap2) := by rw [cell_of_row wr ob 0 _ _ (0, 0) hvar]; rfl
        have b1 : wr.cell? ⟨ob, 1, none⟩ = some (.func (.func 88) #[] #[]) := by rw [cell_of_row wr ob 1 _ _ (0, 0) hvar]; rfl
        have hgt : (c : Int) > 0 := by omega
        have hci : (c : Int) < ((n + 1 : Nat) : Int) := by omega
        have hpi : (p : Int) < ((n + 1 : Nat) : Int) := by omega
        have hdv : ((c : Int) - 1).tdiv 2 = (p : Int) := by rw [Int.tdiv_eq_ediv_of_nonneg (by omega)]; omega
        have HCK := hide (cheaper_any (f' c) (f' p))
        have HO1 := hide (hwok c hcn)
        have HO2 := hide (hwok p hpn)
        have HROWr := hide hrow
        have HVARr := hide hvar
        have HWOK := hide hwok
        have HHAS' := hide hhas
        have HCHr := hide hchg
        clear xf yf hup hhas hrow hwok hvar hchg hp
        unfold wv wc7 at HCK
        by_cases hlt : wkey (f' c) < wkey (f' p)
        · have hbb : decide (wkey (f' c) < wkey (f' p)) = true := decide_eq_true hlt
          rw [hbb] at HCK
          have HLT := hide hlt
          clear hbb hlt
          have hci' : (c : Int) < (n : Int) + 1 := by omega
          have hpi' : (p : Int) < (n : Int) + 1 := by omega
          go_wp2_with fail
          go_region_held3 (fun w' => w'.cell? ⟨ob, 0, none⟩ = some (.slice (some ⟨g2, 0, none⟩) (n + 1) cap2) ∧ w'.cell? ⟨ob, 1, none⟩ = some (.func (.func 88) #[] #[]) ∧ w'.cell? ⟨g2, c * 7, none⟩ = some (.int .i8 ((f' c).1 0)) ∧ w'.cell? ⟨g2, c * 7 + 1, none⟩ = some (.int .i8 ((f' c).1 1)) ∧ w'.cell? ⟨g2, c * 7 + 2, none⟩ = some (.int .i8 ((f' c).1 2)) ∧ w'.cell? ⟨g2, c * 7 + 3, none⟩ = some (.int .i8 ((f' c).1 3)) ∧ w'.cell? ⟨g2, c * 7 + 4, none⟩ = some (.int .i8 ((f' c).1 4)) ∧ w'.cell? ⟨g2, c * 7 + 5, none⟩ = some (.int .i64 (f' c).2.1) ∧ w'.cell? ⟨g2, c * 7 + 6, none⟩ = some (.int .i64 ((f' c).2.2 : Int)) ∧ w'.cell? ⟨g2, p * 7, none⟩ = some (.int .i8 ((f' p).1 0)) ∧ w'.cell? ⟨g2, p * 7 + 1, none⟩ = some (.int .i8 ((f' p).1 1)) ∧ w'.cell? ⟨g2, p * 7 + 2, none⟩ = some (.int .i8 ((f' p).1 2)) ∧ w'.cell? ⟨g2, p * 7 + 3, none⟩ = some (.int .i8 ((f' p).1 3)) ∧ w'.cell? ⟨g2, p * 7 + 4, none⟩ = some (.int .i8 ((f' p).1 4)) ∧ w'.cell? ⟨g2, p * 7 + 5, none⟩ = some (.int .i64 (f' p).2.1) ∧ w'.cell? ⟨g2, p * 7 + 6, none⟩ = some (.int .i64 ((f' p).2.2 : Int)))
            (first | (exact ⟨cell_later hb2 (by exact b0), cell_later hb2 (by exact b1), cell_later hb2 (by exact x0), cell_later hb2 (by exact x1), cell_later hb2 (by exact x2), cell_later hb2 (by exact x3), cell_later hb2 (by exact x4), cell_later hb2 (by exact x5), cell_later hb2 (by exact x6), cell_later hb2 (by exact y0), cell_later hb2 (by exact y1), cell_later hb2 (by exact y2), cell_later hb2 (by exact y3), cell_later hb2 (by exact y4), cell_later hb2 (by exact y5), cell_later hb2 (by exact y6)⟩) | go_keep)
            (first | (go_at_call 88; refine (HCK.out _ HO1.out HO2.out).mono ?_; rintro e w2 ⟨rfl, hb2⟩))
          have hbz := below_tail (Joins.below_draws wr.heap.size wr 1) hb2
          rename_i hh
          clear b0 b1 x0 x1 x2 x3 x4 x5 x6 y0 y1 y2 y3 y4 y5 y6
          obtain ⟨b0, b1, x0, x1, x2, x3, x4, x5, x6, y0, y1, y2, y3, y4, y5, y6⟩ := hh
          have HROW2 := hide (HROWr.out.below hbz)
          have HVAR2 := hide (blockLater hbz HVARr.out)
          have HCH2 : Hid (Chg (fun q => q = g2) W w2) := HCHr.out.trans (Chg.of_below hbz)
          have HBZ := hide hbz
          have xf := (HROW2.out.cells hcn).2.2.2.2.2.2.2
          have f0' := xf (c * 7)
          have f1' := xf (c * 7 + 1)
          have f2' := xf (c * 7 + 2)
          have f3' := xf (c * 7 + 3)
          have f4' := xf (c * 7 + 4)
          have f5' := xf (c * 7 + 5)
          have f6' := xf (c * 7 + 6)
          have h0' := xf (p * 7)
          have h1' := xf (p * 7 + 1)
          have h2' := xf (p * 7 + 2)
          have h3' := xf (p * 7 + 3)
          have h4' := xf (p * 7 + 4)
          have h5' := xf (p * 7 + 5)
          have h6' := xf (p * 7 + 6)
          clear hb2 hbz xf
          go_wp2_with fail
          clear HCK HO1 HO2
          go_region
          have HROW3 : Hid (HRow (set7 (set7 w2 g2 (c * 7) (f' p)) g2 (p * 7) (f' c)).drew B g2 cap2 (n + 1) (swp f' c p)) := (HROW2.out.swap hcn hpn hpc).below (Joins.below_draws _ _ 1)
          have HVAR3 : Hid ((set7 (set7 w2 g2 (c * 7) (f' p)) g2 (p * 7) (f' c)).drew.heap[ob]? = some (.cells #[.slice (some ⟨g2, 0, none⟩) (n + 1) cap2, beforeV] 111 (0, 0))) := blockLater (Joins.below_draws _ _ 1) (((set7_far _ g2 _ _ (Ne.symm hg2ob)).trans (set7_far _ g2 _ _ (Ne.symm hg2ob))).trans HVAR2.out)
          have HCH3 : Hid (Chg (fun q => q = g2) W (set7 (set7 w2 g2 (c * 7) (f' p)) g2 (p * 7) (f' c)).drew) := (set7_chg (set7_chg HCH2.out rfl _ _) rfl _ _).trans (Chg.of_below (Joins.below_draws _ _ 1))
          change Exit.then _ _ _ _ (set7 (set7 w2 g2 (c * 7) (f' p)) g2 (p * 7) (f' c)).drew
          generalize (set7 (set7 w2 g2 (c * 7) (f' p)) g2 (p * 7) (f' c)).drew = W3 at *
          clear b0 b1 x0 x1 x2 x3 x4 x5 x6 y0 y1 y2 y3 y4 y5 y6 f0' f1' f2' f3' f4' f5' f6' h0' h1' h2' h3' h4' h5' h6'
          go_wp2_with fail
          go_roundw
          case rel =>
            have hu := HUP'.out.up (by omega) (by rw [← HPP.out]; exact HLT.out)
            rw [← HPP.out] at hu
            exact ⟨p, swp f' c p, rfl, hu, fun y => (has_swp hcn hpn).trans (HHAS'.out y), HROW3.out, HWOK.out.swp hcn hpn, HVAR3.out, HCH3.out⟩
          case measure => simp [intOf]; omega
        · have hbb : decide (wkey (f' c) < wkey (f' p)) = false := decide_eq_false hlt
          rw [hbb] at HCK
          have HD0 := hide (HUP'.out.done (Or.inr (by rw [← HPP.out]; omega)))
          clear hbb hlt
          have hci' : (c : Int) < (n : Int) + 1 := by omega
          have hpi' : (p : Int) < (n : Int) + 1 := by omega
          go_wp2_with fail
          go_region_held3 (fun w' => w'.cell? ⟨ob, 0, none⟩ = some (.slice (some ⟨g2, 0, none⟩) (n + 1) cap2) ∧ w'.cell? ⟨ob, 1, none⟩ = some (.func (.func 88) #[] #[]) ∧ w'.cell? ⟨g2, c * 7, none⟩ = some (.int .i8 ((f' c).1 0)) ∧ w'.cell? ⟨g2, c * 7 + 1, none⟩ = some (.int .i8 ((f' c).1 1)) ∧ w'.cell? ⟨g2, c * 7 + 2, none⟩ = some (.int .i8 ((f' c).1 2)) ∧ w'.cell? ⟨g2, c * 7 + 3, none⟩ = some (.int .i8 ((f' c).1 3)) ∧ w'.cell? ⟨g2, c * 7 + 4, none⟩ = some (.int .i8 ((f' c).1 4)) ∧ w'.cell? ⟨g2, c * 7 + 5, none⟩ = some (.int .i64 (f' c).2.1) ∧ w'.cell? ⟨g2, c * 7 + 6, none⟩ = some (.int .i64 ((f' c).2.2 : Int)) ∧ w'.cell? ⟨g2, p * 7, none⟩ = some (.int .i8 ((f' p).1 0)) ∧ w'.cell? ⟨g2, p * 7 + 1, none⟩ = some (.int .i8 ((f' p).1 1)) ∧ w'.cell? ⟨g2, p * 7 + 2, none⟩ = some (.int .i8 ((f' p).1 2)) ∧ w'.cell? ⟨g2, p * 7 + 3, none⟩ = some (.int .i8 ((f' p).1 3)) ∧ w'.cell? ⟨g2, p * 7 + 4, none⟩ = some (.int .i8 ((f' p).1 4)) ∧ w'.cell? ⟨g2, p * 7 + 5, none⟩ = some (.int .i64 (f' p).2.1) ∧ w'.cell? ⟨g2, p * 7 + 6, none⟩ = some (.int .i64 ((f' p).2.2 : Int)))
            (first | (exact ⟨cell_later hb2 (by exact b0), cell_later hb2 (by exact b1), cell_later hb2 (by exact x0), cell_later hb2 (by exact x1), cell_later hb2 (by exact x2), cell_later hb2 (by exact x3), cell_later hb2 (by exact x4), cell_later hb2 (by exact x5), cell_later hb2 (by exact x6), cell_later hb2 (by exact y0), cell_later hb2 (by exact y1), cell_later hb2 (by exact y2), cell_later hb2 (by exact y3), cell_later hb2 (by exact y4), cell_later hb2 (by exact y5), cell_later hb2 (by exact y6)⟩) | go_keep)
            (first | (go_at_call 88; refine (HCK.out _ HO1.out HO2.out).mono ?_; rintro e w2 ⟨rfl, hb2⟩))
          have hbz := below_tail (Joins.below_draws wr.heap.size wr 1) hb2
          have HBZ := hide hbz
          clear hb2 hbz
          go_wp2_with fail
          first | go_end0 | (refine bodyPost_ret (results_none rfl _ _ _) rfl ?_)
          exact ⟨⟨_, rfl⟩, HDONE.out HD0.out _ HBZ.out⟩
end Go.Proofs.Ytmjjigdnoiphbaa
