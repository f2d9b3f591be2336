/-
  toTrain, toTrainS, toState.
-/
import Derived.Test.YtmjjigdnoiphbabW3
namespace Go.Proofs.Ytmjjigdnoiphbab
open Go.RowKit Go.Deep
set_option linter.unusedVariables false

set_option maxHeartbeats 800000 in
theorem toTrain_any (x y : Int) (a : Option Addr) (len cap : Nat) (p : List Int) (w : World) (h : IntsAt w (.slice a len cap) p) (hl : p.length ≤ 1048576) :
    Calls Try.prog 64 #[.agg #[.int .i64 x, .slice a len cap, .int .i64 y]] w fun e w' => e = .returned (.agg #[.int .i64 x, .slice (some ⟨w.heap.size + 3, 0, none⟩) p.length p.length, .int .i64 y]) ∧ w'.rowIs (w.heap.size + 3) 3 p.length (fun i => .int .i64 (el p i)) ∧ w'.heap.size = w.heap.size + 4 ∧ Below w.heap.size w w' := by
  go_enter Try.func64, Try.ntmps64
  go_wp2_with fail
  refine (toIntS_any _ p _ (h.below (Joins.below_alloc3 _ _ _ _)) hl).mono ?_
  rintro e w1 ⟨rfl, hrow, hsz, hb⟩
  have hbw := below_tail (Joins.below_alloc3 w (.cells #[.int .i64 x, .slice a len cap, .int .i64 y] 79) (.cells #[.int .i64 0, .slice none 0 0, .int .i64 0] 63) (.cells #[.int .i64 x, .slice none 0 0, .int .i64 0] 63)) hb
  simp only [World.size_alloc] at hrow hsz hb
  obtain ⟨hc, hf⟩ := bcell hb
  have HB := hide hbw
  have HR := hide hrow
  have HZ := hide hsz
  clear hb hrow hsz hbw h
  go_wp2_with fail
  refine bodyPost_ret (v := .agg #[.int .i64 x, .slice (some ⟨w.heap.size + 3, 0, none⟩) p.length p.length, .int .i64 y]) (by simp [results, Try.results64, go_sem, hc]) rfl ⟨rfl, ?_, ?_, ?_⟩
  · exact ((((HR.out.setOther (by simp) _).setOther (by simp) _).setOther (by simp; omega) _).setOther (by simp; omega) _).setOther (by simp; omega) _
  · simpa using HZ.out
  · exact ((((HB.out.setCell (by simp; omega) _).setCell (by simp; omega) _).setCell (by simp) _).setCell (by simp) _).setCell (by simp) _

theorem Try.infoTrain : (Try.prog.info? 63).map (fun i => (i.zero, i.size, i.bytes)) = some (some (.agg #[.int .i64 0, .slice none 0 0, .int .i64 0]), 3, 40) := by kernel_rfl

/-- the cells of a row of trains of the call's own, whose paths lie in every fourth block behind it -/
def trCell (B : Nat) (ts : List Tr) (j : Nat) : Value :=
  if j % 3 = 0 then .int .i64 (tAt ts (j / 3)) else if j % 3 = 1 then .slice (some ⟨B + 4 * (j / 3 + 1), 0, none⟩) (tPath ts (j / 3)).length (tPath ts (j / 3)).length else .int .i64 (tWt ts (j / 3))
def zCell (j : Nat) : Value := if j % 3 = 1 then .slice none 0 0 else .int .i64 0

theorem trCell0 (B : Nat) (ts : List Tr) (k : Nat) : trCell B ts (k * 3) = .int .i64 (tAt ts k) := by
  unfold trCell; rw [if_pos (by omega), show k * 3 / 3 = k by omega]
theorem trCell1 (B : Nat) (ts : List Tr) (k : Nat) : trCell B ts (k * 3 + 1) = .slice (some ⟨B + 4 * (k + 1), 0, none⟩) (tPath ts k).length (tPath ts k).length := by
  unfold trCell; rw [if_neg (by omega), if_pos (by omega), show (k * 3 + 1) / 3 = k by omega]
theorem trCell2 (B : Nat) (ts : List Tr) (k : Nat) : trCell B ts (k * 3 + 2) = .int .i64 (tWt ts k) := by
  unfold trCell; rw [if_neg (by omega), if_neg (by omega), show (k * 3 + 2) / 3 = k by omega]

theorem rowIs_madeTrains (w : World) (n : Nat) : (w.alloc (.cells (madeCells #[.int .i64 0, .slice none 0 0, .int .i64 0] (n * 3)) 63)).rowIs w.heap.size 63 (n * 3) zCell :=
  ⟨_, blk_alloc_new _ _, size_madeCells _ _, fun i hi => by
    have h3 : i % 3 = 0 ∨ i % 3 = 1 ∨ i % 3 = 2 := by omega
    rcases h3 with h | h | h <;> simp [madeCells, hi, zCell, h]⟩

/-- where toTrainS stands behind k rounds -/
def TsMade (B n k : Nat) (ts : List Tr) (w : World) : Prop :=
  w.rowIs B 63 (n * 3) (fun j => if j < k * 3 then trCell B ts j else zCell j) ∧ w.heap.size = B + 1 + 4 * k ∧
    ∀ i, i < k → w.rowIs (B + 4 * (i + 1)) 3 (tPath ts i).length (fun j => .int .i64 (el (tPath ts i) j))

theorem TsMade.step {B n k : Nat} {ts : List Tr} {wr w1 : World} (h : TsMade B n k ts wr) (hk : k < n) (hb : Below wr.heap.size wr w1) (hz : w1.heap.size = wr.heap.size + 4)
    (hp : w1.rowIs (wr.heap.size + 3) 3 (tPath ts k).length (fun j => .int .i64 (el (tPath ts k) j))) :
    TsMade B n (k + 1) ts (((w1.setCell ⟨B, k * 3, none⟩ (.int .i64 (tAt ts k))).setCell ⟨B, k * 3 + 1, none⟩ (.slice (some ⟨wr.heap.size + 3, 0, none⟩) (tPath ts k).length (tPath ts k).length)).setCell ⟨B, k * 3 + 2, none⟩ (.int .i64 (tWt ts k))) := by
  obtain ⟨h1, h2, h3⟩ := h
  have e4 : wr.heap.size + 3 = B + 4 * (k + 1) := by omega
  rw [e4] at hp ⊢
  refine ⟨?_, by simp [World.setCell]; omega, fun i hi => ?_⟩
  · have h1' : w1.rowIs B 63 (n * 3) (fun j => if j < k * 3 then trCell B ts j else zCell j) := h1.of_block (hb.block B (by omega))
    refine (((h1'.set (k * 3) _).set (k * 3 + 1) _).set (k * 3 + 2) _).congr (fun j _ => ?_)
    by_cases e2 : j = k * 3 + 2
    · subst e2; rw [if_pos rfl, if_pos (by omega), trCell2]
    · rw [if_neg e2]
      by_cases e1 : j = k * 3 + 1
      · subst e1; rw [if_pos rfl, if_pos (by omega), trCell1]
      · rw [if_neg e1]
        by_cases e0 : j = k * 3
        · subst e0; rw [if_pos rfl, if_pos (by omega), trCell0]
        · rw [if_neg e0]
          by_cases e : j < k * 3
          · rw [if_pos e, if_pos (by omega)]
          · rw [if_neg e, if_neg (by omega)]
  · by_cases e : i = k
    · subst e
      exact ((hp.setOther (by simp) _).setOther (by simp) _).setOther (by simp) _
    · have := (h3 i (by omega)).of_block (hb.block _ (by omega))
      exact ((this.setOther (by simp) _).setOther (by simp) _).setOther (by simp) _

set_option maxHeartbeats 800000 in
theorem toTrainS_any (v : Value) (ts : List Tr) (w : World) (h : TrainsAt w v ts) (hl : ts.length ≤ 1048576) (hp : ∀ i, i < ts.length → (tPath ts i).length ≤ 1048576) :
    Calls Try.prog 40 #[v] w fun e w' => e = .returned (.slice (some ⟨w.heap.size, 0, none⟩) ts.length ts.length) ∧ TsMade w.heap.size ts.length ts.length ts w' ∧ Below w.heap.size w w' := by
  obtain ⟨a, cap, rfl, h⟩ := h
  generalize ts.length = n at *
  have hmk : ∀ u : World, (Instr.makeSlice 28 (.int .i64 (n : Int)) (.int .i64 (n : Int))).run Try.prog u = .ok (.slice (some ⟨u.heap.size, 0, none⟩) n n) (u.alloc (.cells (madeCells #[.int .i64 0, .slice none 0 0, .int .i64 0] (n * 3)) 63)) := fun u => by
    obtain ⟨i0, hi, hz0, hz1, hz2⟩ := info_parts Try.infoTrain
    have := run_make (P := Try.prog) u 28 63 i0 _ Try.underlying28 hi hz0 .i64 .i64 (n : Int) (n : Int) (by omega) (Int.le_refl _) (by rw [hz2]; omega) (by omega)
    simpa [hz1, Value.cells] using this
  go_enter Try.func40, Try.ntmps40
  go_wp2
  clear hmk
  go_loopw [4] (fun i wr => ∃ k : Nat, k ≤ n ∧ i = .int .i64 k ∧ TsMade w.heap.size n k ts wr ∧ Below w.heap.size w wr) (fun i _ => n - (intOf i).toNat)
  case atStart => exact ⟨0, Nat.zero_le _, rfl, ⟨by simpa using rowIs_madeTrains w n, by simp, fun i hi => absurd hi (Nat.not_lt_zero _)⟩, Joins.below_alloc1 _ _⟩
  case round =>
    obtain ⟨k, hk, rfl, hm, hb⟩ := hrel
    by_cases hlt : k < n
    · obtain ⟨b, off, rfl, vp, hc1, hc2, ⟨ap, cp, rfl, hpp⟩, hc3⟩ := h k hlt
      have hI : IntsAt w (.slice ap (tPath ts k).length cp) (tPath ts k) := ⟨ap, cp, rfl, hpp⟩
      have g1 := cell_later hb hc1
      have g2 := cell_later hb hc2
      have g3 := cell_later hb hc3
      have hpk := hp k hlt
      have hbl := World.block_lt_of_cell? _ _ hc1
      have HM := hide hm
      have HBW := hide hb
      have hI' := hI.below hb
      clear hc1 hc2 hc3 h hp hpp hm hb hI
      go_wp2_with fail
      refine (toTrain_any _ _ _ _ _ (tPath ts k) _ hI' hpk).mono ?_
      rintro e w1 ⟨rfl, hrow, hsz, hb1⟩
      have hBlt : w.heap.size < wr.heap.size := by have := HM.out.2.1; omega
      obtain ⟨c0, k0⟩ : ∃ c, w1.cell? ⟨w.heap.size, k * 3, none⟩ = some c := ⟨_, cell_later hb1 (HM.out.1.cell (i := k * 3) (by omega))⟩
      obtain ⟨c1, k1⟩ : ∃ c, w1.cell? ⟨w.heap.size, k * 3 + 1, none⟩ = some c := ⟨_, cell_later hb1 (HM.out.1.cell (i := k * 3 + 1) (by omega))⟩
      obtain ⟨c2, k2⟩ : ∃ c, w1.cell? ⟨w.heap.size, k * 3 + 2, none⟩ = some c := ⟨_, cell_later hb1 (HM.out.1.cell (i := k * 3 + 2) (by omega))⟩
      have f0 : ∀ o, w1.frozen? ⟨w.heap.size, o, none⟩ = false := fun o => (hb1.frozen (p := ⟨w.heap.size, o, none⟩) hBlt).trans (HM.out.1.frozen o)
      have HR := hide hrow
      have HZ := hide hsz
      have HB1 := hide hb1
      clear hrow hsz hb1 hBlt
      go_wp2_with fail
      go_roundw
      case rel => exact ⟨k + 1, by omega, by go_num, HM.out.step hlt HB1.out HZ.out HR.out, (((below_tail HBW.out HB1.out).setCell (Nat.le_refl _) _).setCell (Nat.le_refl _) _).setCell (Nat.le_refl _) _⟩
      case measure => simp [intOf]; omega
    · go_wp2
      go_ret
      obtain rfl : k = n := by omega
      exact ⟨rfl, hm, hb⟩
end Go.Proofs.Ytmjjigdnoiphbab
