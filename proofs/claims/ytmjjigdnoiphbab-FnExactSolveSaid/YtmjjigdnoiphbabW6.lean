/-
  eqTrain, eqTrainS, eqState, where both sides read alike.
-/
import Derived.Test.YtmjjigdnoiphbabW5
import Derived.Deep.RegionHeld3
namespace Go.Proofs.Ytmjjigdnoiphbab
open Go.RowKit Go.Deep
set_option linter.unusedVariables false

theorem eqIntS_true (v u : Value) (xs : List Int) (w : World) (h : IntsAt w v xs) (h' : IntsAt w u xs) (hl : xs.length ≤ 9223372036854775807) :
    Calls Try.prog 19 #[v, u] w fun e w' => e = .returned (.bool true) ∧ Below w.heap.size w w' :=
  (eqIntS_any v u xs xs w h h' hl).mono fun e w' ⟨he, n, hw⟩ => ⟨by rw [he]; simp, by rw [hw]; exact Joins.below_draws _ _ _⟩

set_option maxHeartbeats 800000 in
theorem eqTrain_true (x y : Int) (a a' : Option Addr) (l c l' c' : Nat) (p : List Int) (w : World) (h : IntsAt w (.slice a l c) p) (h' : IntsAt w (.slice a' l' c') p) (hl : p.length ≤ 9223372036854775807) :
    Calls Try.prog 74 #[.agg #[.int .i64 x, .slice a l c, .int .i64 y], .agg #[.int .i64 x, .slice a' l' c', .int .i64 y]] w fun e w' => e = .returned (.bool true) ∧ Below w.heap.size w w' := by
  have hx : (x != x) = false := by simp
  have hy : (y != y) = false := by simp
  go_enter Try.func74, Try.ntmps74
  go_wp2_with fail
  refine (eqIntS_true _ _ p _ (h.below (Joins.below_alloc2 _ _ _)) (h'.below (Joins.below_alloc2 _ _ _)) hl).mono ?_
  rintro e w1 ⟨rfl, hb⟩
  have hbw := below_tail (Joins.below_alloc2 w (.cells #[.int .i64 x, .slice a l c, .int .i64 y] 63) (.cells #[.int .i64 x, .slice a' l' c', .int .i64 y] 63)) hb
  simp only [World.size_alloc] at hb
  obtain ⟨hc, hf⟩ := bcell hb
  clear hb h h'
  go_wp2_with fail
  go_ret
  exact ⟨rfl, hbw⟩

set_option maxHeartbeats 800000 in
theorem eqTrainS_true (v u : Value) (ts : List Tr) (w : World) (h : TrainsAt w v ts) (h' : TrainsAt w u ts) (hl : ts.length ≤ 9223372036854775807) (hp : ∀ i, i < ts.length → (tPath ts i).length ≤ 9223372036854775807) :
    Calls Try.prog 44 #[v, u] w fun e w' => e = .returned (.bool true) ∧ Below w.heap.size w w' := by
  obtain ⟨a, cap, rfl, h⟩ := h
  obtain ⟨a', cap', rfl, h'⟩ := h'
  generalize ts.length = n at *
  have hnn : ((n : Int) != (n : Int)) = false := by simp
  go_enter Try.func44, Try.ntmps44
  go_wp2
  clear hnn
  go_loopw [5] (fun i wr => ∃ k : Nat, k ≤ n ∧ i = .int .i64 k ∧ Below w.heap.size w wr) (fun i _ => n - (intOf i).toNat)
  case atStart => exact ⟨0, Nat.zero_le _, rfl, Below.refl _ _⟩
  case round =>
    obtain ⟨k, hk, rfl, hb⟩ := hrel
    by_cases hlt : k < n
    · obtain ⟨b, off, rfl, vp, hc1, hc2, hI, hc3⟩ := h k hlt
      obtain ⟨b', off', rfl, vp', hc1', hc2', hI', hc3'⟩ := h' k hlt
      have g1 := cell_later hb hc1
      have g2 := cell_later hb hc2
      have g3 := cell_later hb hc3
      have g1' := cell_later hb hc1'
      have g2' := cell_later hb hc2'
      have g3' := cell_later hb hc3'
      have hI := hI.below hb
      have hI' := hI'.below hb
      have hpk := hp k hlt
      have HI := hide hI
      have HI' := hide hI'
      obtain ⟨ap, cp, rfl, _⟩ := hI
      obtain ⟨ap', cp', rfl, _⟩ := hI'
      have HB := hide hb
      clear hc1 hc2 hc3 hc1' hc2' hc3' h h' hp hb
      go_wp2
      go_region_held3 (fun w' => w'.cell? ⟨b, off + k * 3, none⟩ = some (.int .i64 (tAt ts k)) ∧ w'.cell? ⟨b, off + k * 3 + 1, none⟩ = some (.slice ap (tPath ts k).length cp) ∧ w'.cell? ⟨b, off + k * 3 + 2, none⟩ = some (.int .i64 (tWt ts k)) ∧ w'.cell? ⟨b', off' + k * 3, none⟩ = some (.int .i64 (tAt ts k)) ∧ w'.cell? ⟨b', off' + k * 3 + 1, none⟩ = some (.slice ap' (tPath ts k).length cp') ∧ w'.cell? ⟨b', off' + k * 3 + 2, none⟩ = some (.int .i64 (tWt ts k))) (first | (exact ⟨cell_later hb1 (by exact g1), cell_later hb1 (by exact g2), cell_later hb1 (by exact g3), cell_later hb1 (by exact g1'), cell_later hb1 (by exact g2'), cell_later hb1 (by exact g3')⟩) | go_keep)
        (first | (go_at_call 74; refine (eqTrain_true _ _ _ _ _ _ _ _ (tPath ts k) _ ?_ ?_ hpk).mono ?_; exact HI.out; exact HI'.out; rintro e w1 ⟨rfl, hb1⟩))
      all_goals
        have HB1 := hide hb1
        clear hb1
        go_wp2
        go_roundw
        case rel => exact ⟨k + 1, by omega, by go_num, below_tail HB.out.drew HB1.out⟩
        case measure => simp [intOf]; omega
    · go_wp2
      go_ret
      exact ⟨rfl, hb⟩

set_option maxHeartbeats 800000 in
theorem eqState_true (v u : Value) (st : St) (w : World) (h : StateAt w v st) (h' : StateAt w u st) (hr : st.1.length ≤ 9223372036854775807) (hn : st.2.2.length ≤ 9223372036854775807) (hl : st.2.1.length ≤ 9223372036854775807) (hp : ∀ i, i < st.2.1.length → (tPath st.2.1 i).length ≤ 9223372036854775807) :
    Calls Try.prog 14 #[v, u] w fun e w' => e = .returned (.bool true) ∧ Below w.heap.size w w' := by
  obtain ⟨vr, vt, vn, rfl, hR, hT, hN⟩ := h
  obtain ⟨vr', vt', vn', rfl, hR', hT', hN'⟩ := h'
  obtain ⟨ar, cr, rfl, _⟩ := id hR
  obtain ⟨at1, ct, rfl, _⟩ := id hT
  obtain ⟨an, cn, rfl, _⟩ := id hN
  obtain ⟨ar', cr', rfl, _⟩ := id hR'
  obtain ⟨at1', ct', rfl, _⟩ := id hT'
  obtain ⟨an', cn', rfl, _⟩ := id hN'
  obtain ⟨rs, ts, ns⟩ := st
  simp only at *
  go_enter Try.func14, Try.ntmps14
  go_wp2_with fail
  refine (eqIntS_true _ _ rs _ (hR.below (Joins.below_alloc2 _ _ _)) (hR'.below (Joins.below_alloc2 _ _ _)) hr).mono ?_
  rintro e w1 ⟨rfl, hb⟩
  have hbw := below_tail (Joins.below_alloc2 w (.cells #[.slice ar rs.length cr, .slice at1 ts.length ct, .slice an ns.length cn] 30) (.cells #[.slice ar' rs.length cr', .slice at1' ts.length ct', .slice an' ns.length cn'] 30)) hb
  simp only [World.size_alloc] at hb
  obtain ⟨hc, hf⟩ := bcell hb
  have hz1 := hb.size
  simp only [World.size_alloc] at hz1
  have HT := hide (hT.below hbw)
  have HT' := hide (hT'.below hbw)
  have HN := hide hN
  have HN' := hide hN'
  have HB := hide hbw
  have HZ := hide hz1
  clear hb hR hR' hT hT' hN hN' hbw hz1
  go_wp2_with fail
  refine (eqTrainS_true _ _ ts _ HT.out HT'.out hl hp).mono ?_
  rintro e w2 ⟨rfl, hb2⟩
  have hbw2 := below_tail HB.out hb2
  obtain ⟨hc2, hf2⟩ := bcell (hb2.mono HZ.out)
  have HB2 := hide hbw2
  clear hb2 hbw2 HT HT'
  go_wp2_with fail
  refine (eqIntS_true _ _ ns _ (HN.out.below HB2.out) (HN'.out.below HB2.out) hn).mono ?_
  rintro e w3 ⟨rfl, hb3⟩
  go_wp2_with fail
  go_ret
  exact ⟨rfl, below_tail HB2.out hb3⟩
end Go.Proofs.Ytmjjigdnoiphbab
