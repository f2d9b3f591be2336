/-
  THE LAWS' OWN SMALL FUNCTIONS: wInts, wByte.
-/
import Derived.Test.YtmjjigdnoiphbaaCu2
namespace Go.Proofs.Ytmjjigdnoiphbaa
open Go.RowKit Go.Deep
set_option linter.unusedVariables false

set_option maxHeartbeats 400000 in
theorem wInts_any (v u : Value) (xs ys : List Int) (w : World) (h : IntsAt w v xs) (h' : IntsAt w u ys) (hl' : ys.length ≤ 9223372036854775807) :
    Calls Try.prog 15 #[v, u] w fun e w' => e = .returned (.bool (decide (xs = ys))) ∧ ∃ n, w' = w.drewN n := by
  obtain ⟨a, cap, rfl, h⟩ := h
  obtain ⟨a', cap', rfl, h'⟩ := h'
  have HX : Hid (xs.length = xs.length) := rfl
  have HY : Hid (ys.length = ys.length) := rfl
  by_cases hlen : xs.length = ys.length
  · rw [hlen] at h
    have HL : Hid (xs.length = ys.length) := hlen
    rw [hlen]
    have HE : Hid ((∀ j, j < ys.length → el xs j = el ys j) → xs = ys) := el_ext hlen
    generalize ys.length = n at h h' hl' HE ⊢
    clear hlen HX HY HL
    go_enter Try.func15, Try.ntmps15
    go_wp2
    go_loopw [13] (fun i wr => ∃ k : Nat, k ≤ n ∧ i = .int .i64 k ∧ Hid (∀ j, j < k → el xs j = el ys j) ∧ ∃ m, wr = w.drewN m) (fun i _ => n - (intOf i).toNat)
    case atStart => exact ⟨0, Nat.zero_le _, rfl, fun j hj => absurd hj (Nat.not_lt_zero _), 0, rfl⟩
    case round =>
      obtain ⟨k, hk, rfl, hall, m, rfl⟩ := hrel
      by_cases hlt : k < n
      · obtain ⟨b, off, rfl, hc⟩ := h k hlt
        obtain ⟨b', off', rfl, hc'⟩ := h' k hlt
        clear h h'
        by_cases he : el xs k = el ys k
        · have heb : (el xs k != el ys k) = false := by simp [he]
          have HE2 : Hid (el xs k = el ys k) := he
          clear he
          go_wp2
          go_quiet (fail)
          go_wp2
          go_roundw
          case rel => exact ⟨k + 1, by omega, by go_num, fun j hj => by
            by_cases e : j = k
            · subst e; exact HE2.out
            · exact hall.out j (by omega), _, rfl⟩
          case measure => simp [intOf]; omega
        · have heb : (el xs k != el ys k) = true := by simp [he]
          have HE2 : Hid (¬ el xs k = el ys k) := he
          clear he
          go_wp2
          go_quiet (fail)
          go_wp2
          go_ret
          exact ⟨by simp; intro e; subst e; exact HE2.out rfl, _, drewN_drewN _ _ _⟩
      · go_wp2
        go_ret
        have : xs = ys := HE.out (fun j hj => hall.out j (by omega))
        exact ⟨by simp [this], _, rfl⟩
  · have hlb : ((xs.length : Int) != (ys.length : Int)) = true := by simp; omega
    have HN : Hid (¬ xs = ys) := fun e => hlen (by rw [e])
    clear HX HY
    generalize xs.length = n at *
    go_enter Try.func15, Try.ntmps15
    go_wp2
    go_ret
    exact ⟨by simp [HN.out], 0, rfl⟩

theorem wByte_any {w : World} {a : Option Addr} {n q : Nat} (h : BytesAt w a n) (i : Nat) (hi : i ≤ 1000) :
    Calls Try.prog 19 #[.slice a n q, .int .i64 (i : Int)] w fun e w' => ∃ x : Int, e = .returned (.int .i64 x) ∧ 0 ≤ x ∧ x ≤ 255 ∧ ∃ m, w' = w.drewN m := by
  obtain ⟨hn, hb⟩ := h
  by_cases h0 : n = 0
  · subst h0
    go_enter Try.func19, Try.ntmps19
    go_wp2_with fail
    go_ret
    exact ⟨0, rfl, by omega, by omega, 0, rfl⟩
  · have hn0 : ((n : Int) == 0) = false := by simp [h0]
    have hlt : i % n < n := Nat.mod_lt _ (by omega)
    obtain ⟨b, off, x, rfl, hc, hx0, hx1⟩ := hb (i % n) hlt
    have hne : (n : Int) ≠ 0 := by omega
    have hlt' : (i : Int) % (n : Int) < (n : Int) := Int.emod_lt_of_pos _ (by omega)
    have hge' : 0 ≤ (i : Int) % (n : Int) := Int.emod_nonneg _ hne
    have htn : ((i : Int) % (n : Int)).toNat = i % n := by omega
    clear hb
    go_enter Try.func19, Try.ntmps19
    go_wp2_with fail
    go_ret
    exact ⟨x, rfl, hx0, hx1, 0, rfl⟩
end Go.Proofs.Ytmjjigdnoiphbaa
