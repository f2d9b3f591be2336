/-
  spec.l1there, spec.StateOk.
-/
import Derived.Test.YtmjjigdnoiphbabW6
namespace Go.Proofs.Ytmjjigdnoiphbab
open Go.RowKit Go.Deep
set_option linter.unusedVariables false

set_option maxHeartbeats 800000 in
theorem l1there_any (v : Value) (st : St) (s : Int) (w : World) (h : StateAt w v st) (hl : st.2.1.length ≤ 4611686018427387904) :
    Calls Try.prog 62 #[v, .int .i64 s] w fun e w' => e = .returned (.int .i64 (there st.2.1 s)) ∧ Below w.heap.size w w' := by
  obtain ⟨vr, vt, vn, rfl, hR, hT, hN⟩ := h
  obtain ⟨rs, ts, ns⟩ := st
  obtain ⟨ar, cr, rfl, _⟩ := hR
  obtain ⟨an, cn, rfl, _⟩ := hN
  obtain ⟨a, cap, rfl, h⟩ := hT
  simp only at *
  unfold there
  generalize ts.length = n at *
  go_enter Try.func62, Try.ntmps62
  go_wp2
  go_loopw [5, 11] (fun c i wr => ∃ k : Nat, k ≤ n ∧ i = .int .i64 k ∧ c = .int .i64 (thereUp ts s k) ∧ Below w.heap.size w wr) (fun _ i _ => n - (intOf i).toNat)
  case atStart => exact ⟨0, Nat.zero_le _, rfl, rfl, Joins.below_alloc1 _ _⟩
  case round =>
    obtain ⟨k, hk, rfl, rfl, hb⟩ := hrel
    have hle := thereUp_le ts s k
    by_cases hlt : k < n
    · obtain ⟨b, off, rfl, vp, hc1, hc2, ⟨ap, cp, rfl, _⟩, hc3⟩ := h k hlt
      have g1 := cell_later hb hc1
      have g2 := cell_later hb hc2
      have g3 := cell_later hb hc3
      have HB := hide hb
      clear hc1 hc2 hc3 h hb
      by_cases he : tAt ts k = s
      · have hu : thereUp ts s (k + 1) = thereUp ts s k + 1 := by simp [thereUp, he]
        have HU := hide hu
        have heb : (tAt ts k == s) = true := by simp [he]
        clear he hu
        go_wp2
        go_roundw
        case rel => exact ⟨k + 1, by omega, by go_num, by rw [HU.out]; go_num, HB.out.alloc (by have := HB.out.size; omega) _⟩
        case measure => simp [intOf]; omega
      · have hu : thereUp ts s (k + 1) = thereUp ts s k := by simp [thereUp, he]
        have HU := hide hu
        have heb : (tAt ts k == s) = false := by simp [he]
        clear he hu
        go_wp2
        go_roundw
        case rel => exact ⟨k + 1, by omega, by go_num, by rw [HU.out], HB.out.alloc (by have := HB.out.size; omega) _⟩
        case measure => simp [intOf]; omega
    · go_wp2
      go_ret
      obtain rfl : k = n := by omega
      exact ⟨rfl, hb⟩
end Go.Proofs.Ytmjjigdnoiphbab
