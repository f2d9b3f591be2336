/-
  impl: isSection, sizesOk, roomsOk, pathOk, trainsOk, namesOk.
-/
import Derived.Test.YtmjjigdnoiphbabW9
namespace Go.Proofs.Ytmjjigdnoiphbab
open Go.RowKit Go.Deep
set_option linter.unusedVariables false

theorem isSection_any (x n : Int) (w : World) (h0 : 0 ≤ n) (h1 : n ≤ 4611686018427387904) : Calls Try.prog 86 #[.int .i64 x, .int .i64 n] w fun e w' => e = .returned (.bool (inR x 0 (n - 1))) ∧ w = w' := by
  go_enter Try.func86, Try.ntmps86
  go_wp2_with (go_at_call 85; refine (inRange_any _ _ _ _).mono ?_; rintro e w' ⟨rfl, rfl⟩)
  go_ret
  exact ⟨rfl, rfl⟩

set_option maxHeartbeats 800000 in
theorem sizesOk_any (v : Value) (st : St) (w : World) (h : StateAt w v st) :
    Calls Try.prog 65 #[v] w fun e w' => e = .returned (.bool (sizesB st)) ∧ Below w.heap.size w w' := by
  obtain ⟨vr, vt, vn, rfl, hR, hT, hN⟩ := h
  obtain ⟨rs, ts, ns⟩ := st
  obtain ⟨ar, cr, rfl, _⟩ := hR
  obtain ⟨an, cn, rfl, _⟩ := hN
  obtain ⟨a, cap, rfl, _⟩ := hT
  simp only at *
  by_cases h1 : inR rs.length 1 40 = true
  · by_cases h2 : ts.length ≤ 5
    · by_cases h3 : ns.length = ts.length
      · have h3b : ((ns.length : Int) == (ts.length : Int)) = true := by simp; omega
        have HF : Hid (sizesB (rs, ts, ns) = true) := by simp [sizesB, h1, h2, h3, Hid]
        clear h3
        generalize hS : sizesB (rs, ts, ns) = S at *
        clear hS
        generalize ts.length = nt at *
        generalize ns.length = nn at *
        go_enter Try.func65, Try.ntmps65
        go_wp2_with (go_at_call 85; refine (inRange_any _ _ _ _).mono ?_; rintro e w' ⟨rfl, rfl⟩)
        go_ret
        exact ⟨by rw [HF.out]; rfl, Joins.below_alloc1 _ _⟩
      · have h3b : ((ns.length : Int) == (ts.length : Int)) = false := by simp; omega
        have HF : Hid (sizesB (rs, ts, ns) = false) := by simp [sizesB, h1, h2, h3, Hid]
        clear h3
        generalize hS : sizesB (rs, ts, ns) = S at *
        clear hS
        generalize ts.length = nt at *
        generalize ns.length = nn at *
        go_enter Try.func65, Try.ntmps65
        go_wp2_with (go_at_call 85; refine (inRange_any _ _ _ _).mono ?_; rintro e w' ⟨rfl, rfl⟩)
        go_ret
        exact ⟨by rw [HF.out]; rfl, Joins.below_alloc1 _ _⟩
    · have h2b : decide ((ts.length : Int) ≤ 5) = false := by simp; omega
      have HF : Hid (sizesB (rs, ts, ns) = false) := by simp [sizesB, h1, h2, Hid]
      clear h2
      generalize hS : sizesB (rs, ts, ns) = S at *
      clear hS
      generalize ts.length = nt at *
      go_enter Try.func65, Try.ntmps65
      go_wp2_with (go_at_call 85; refine (inRange_any _ _ _ _).mono ?_; rintro e w' ⟨rfl, rfl⟩)
      go_ret
      exact ⟨by rw [HF.out]; rfl, Joins.below_alloc1 _ _⟩
  · have h1' : inR rs.length 1 40 = false := by simpa using h1
    have HF : Hid (sizesB (rs, ts, ns) = false) := by simp [sizesB, h1', Hid]
    clear h1
    generalize hS : sizesB (rs, ts, ns) = S at *
    clear hS
    go_enter Try.func65, Try.ntmps65
    go_wp2_with (go_at_call 85; refine (inRange_any _ _ _ _).mono ?_; rintro e w' ⟨rfl, rfl⟩)
    go_ret
    exact ⟨by rw [HF.out]; rfl, Joins.below_alloc1 _ _⟩

set_option maxHeartbeats 800000 in
theorem roomsOk_any (v : Value) (rs : List Int) (w : World) (h : IntsAt w v rs) (hl : rs.length ≤ 4611686018427387904) :
    Calls Try.prog 66 #[v] w fun e w' => e = .returned (.bool (roomsB rs)) ∧ w = w' := by
  obtain ⟨a, cap, rfl, h⟩ := h
  unfold roomsB
  generalize rs.length = n at *
  go_enter Try.func66, Try.ntmps66
  go_wp2
  go_loop [7] (fun i => ∃ k : Nat, k ≤ n ∧ i = .int .i64 k ∧ Hid (∀ j, j < k → inR (el rs j) 1 5 = true)) (fun i => n - (intOf i).toNat)
  case atStart => exact ⟨0, Nat.zero_le _, rfl, fun j hj => absurd hj (Nat.not_lt_zero _)⟩
  case round =>
    obtain ⟨k, hk, rfl, hall⟩ := hrel
    by_cases hlt : k < n
    · obtain ⟨b, off, rfl, hc⟩ := h k hlt
      clear h
      by_cases hg : inR (el rs k) 1 5 = true
      · go_wp2_with (go_at_call 85; refine (inRange_any _ _ _ _).mono ?_; rintro e w' ⟨rfl, rfl⟩)
        go_round
        case rel => exact ⟨k + 1, by omega, by go_num, fun j hj => by
          by_cases e : j = k
          · subst e; exact hg
          · exact hall.out j (by omega)⟩
        case measure => simp [intOf]; omega
      · have hg' : inR (el rs k) 1 5 = false := by simpa using hg
        clear hg
        go_wp2_with (go_at_call 85; refine (inRange_any _ _ _ _).mono ?_; rintro e w' ⟨rfl, rfl⟩)
        go_ret
        exact ⟨by rw [allUp_false k hlt hg']; rfl, rfl⟩
    · go_wp2
      go_ret
      exact ⟨by rw [allUp_true (fun j hj => hall.out j (by omega))]; rfl, rfl⟩

set_option maxHeartbeats 800000 in
theorem pathOk_any (x y nn : Int) (p : List Int) (a : Option Addr) (l c : Nat) (w : World) (h : IntsAt w (.slice a l c) p) (hl : p.length ≤ 4611686018427387904) (h0 : 0 ≤ nn) (h1 : nn ≤ 4611686018427387904) :
    Calls Try.prog 87 #[.agg #[.int .i64 x, .slice a l c, .int .i64 y], .int .i64 nn] w fun e w' => e = .returned (.bool (decide (p.length ≤ 8) && pathB nn x p)) ∧ Below w.heap.size w w' := by
  have HP := hide h
  obtain ⟨a', c', hv, _⟩ := h
  simp only [Value.slice.injEq] at hv
  obtain ⟨rfl, rfl, rfl⟩ := hv
  by_cases h8 : p.length ≤ 8
  · have h8b : decide ((8 : Int) < (p.length : Int)) = false := by simp; omega
    have HT : Hid ((∀ j, j < p.length → stepB nn x p j = true) → (decide (p.length ≤ 8) && pathB nn x p) = true) := fun hh => by
      have : pathB nn x p = true := allUp_true hh
      simp [this, h8]
    have HF : Hid (∀ j, j < p.length → stepB nn x p j = false → (decide (p.length ≤ 8) && pathB nn x p) = false) := fun j hj hh => by
      have : pathB nn x p = false := allUp_false j hj hh
      simp [this]
    generalize (decide (p.length ≤ 8) && pathB nn x p) = R at *
    go_enter Try.func87, Try.ntmps87
    go_wp2
    go_loop [17, 5] (fun i q => ∃ j : Nat, j ≤ p.length ∧ i = .int .i64 j ∧ q = .int .i64 (prev x p j) ∧ Hid (∀ m, m < j → stepB nn x p m = true)) (fun i _ => p.length - (intOf i).toNat)
    case atStart => exact ⟨0, Nat.zero_le _, rfl, rfl, fun m hm => absurd hm (Nat.not_lt_zero _)⟩
    case round =>
      obtain ⟨j, hj, rfl, rfl, hst⟩ := hrel
      by_cases hjl : j < p.length
      · obtain ⟨a2, c2, hv2, hP2⟩ := HP.out
        obtain ⟨b, off, e2, hcx⟩ := hP2 j hjl
        simp only [Value.slice.injEq] at hv2
        obtain ⟨rfl, _, rfl⟩ := hv2
        subst e2
        have hbl := World.block_lt_of_cell? _ _ hcx
        simp only at hbl
        clear hP2
        by_cases hi1 : inR (el p j) 0 (nn - 1) = true
        · by_cases hi2 : el p j = prev x p j
          · have HQ := hide (HF.out j hjl (by simp [stepB, hi2]))
            have hi2b : (el p j == prev x p j) = true := by simp [hi2]
            clear hi2
            go_wp2_with (go_at_call 86; refine (isSection_any _ _ _ h0 h1).mono ?_; rintro e w' ⟨rfl, rfl⟩)
            go_ret
            exact ⟨by rw [HQ.out]; rfl, Joins.below_alloc1 _ _⟩
          · have HQ := hide (show stepB nn x p j = true by simp [stepB, hi1, hi2])
            have hi2b : (el p j == prev x p j) = false := by simp [hi2]
            clear hi2
            go_wp2_with (go_at_call 86; refine (isSection_any _ _ _ h0 h1).mono ?_; rintro e w' ⟨rfl, rfl⟩)
            go_round
            case rel => exact ⟨j + 1, by omega, by go_num, rfl, fun m hm => by
              by_cases e : m = j
              · subst e; exact HQ.out
              · exact hst.out m (by omega)⟩
            case measure => simp [intOf]; omega
        · have hi1' : inR (el p j) 0 (nn - 1) = false := by simpa using hi1
          have HQ := hide (HF.out j hjl (by simp [stepB, hi1']))
          clear hi1
          go_wp2_with (go_at_call 86; refine (isSection_any _ _ _ h0 h1).mono ?_; rintro e w' ⟨rfl, rfl⟩)
          go_ret
          exact ⟨by rw [HQ.out]; rfl, Joins.below_alloc1 _ _⟩
      · have HQ := hide (HT.out (fun m hm => hst.out m (by omega)))
        go_wp2
        go_ret
        exact ⟨by rw [HQ.out]; rfl, Joins.below_alloc1 _ _⟩
  · have h8b : decide ((8 : Int) < (p.length : Int)) = true := by simp; omega
    have HF : Hid ((decide (p.length ≤ 8) && pathB nn x p) = false) := by simp [h8, Hid]
    generalize (decide (p.length ≤ 8) && pathB nn x p) = R at *
    go_enter Try.func87, Try.ntmps87
    go_wp2
    go_ret
    exact ⟨by rw [HF.out]; rfl, Joins.below_alloc1 _ _⟩
end Go.Proofs.Ytmjjigdnoiphbab
