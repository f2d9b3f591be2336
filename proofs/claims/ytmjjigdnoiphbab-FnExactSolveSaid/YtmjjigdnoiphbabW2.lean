/-
  toIntS, eqIntS.
-/
import Derived.Test.YtmjjigdnoiphbabW1
import Derived.Deep.OwnRows
import Derived.LoopTactic
namespace Go.Proofs.Ytmjjigdnoiphbab
open Go.RowKit Go.Deep
set_option linter.unusedVariables false

theorem Try.infoInt : (Try.prog.info? 3).map (fun i => (i.zero, i.size, i.bytes)) = some (some (.int .i64 0), 1, 8) := by kernel_rfl

set_option maxHeartbeats 400000 in
theorem toIntS_any (v : Value) (xs : List Int) (w : World) (h : IntsAt w v xs) (hl : xs.length ≤ 1048576) :
    Calls Try.prog 33 #[v] w fun e w' => e = .returned (.slice (some ⟨w.heap.size, 0, none⟩) xs.length xs.length) ∧ w'.rowIs w.heap.size 3 xs.length (fun i => .int .i64 (el xs i)) ∧ w'.heap.size = w.heap.size + 1 ∧ Below w.heap.size w w' := by
  obtain ⟨a, cap, rfl, h⟩ := h
  generalize hn : xs.length = n at *
  clear hn
  have hmk := run_make_row' (P := Try.prog) 22 3 (.int .i64 0) 8 Try.underlying22 Try.infoInt rfl .i64 .i64 n (by omega) (by omega)
  go_enter Try.func33, Try.ntmps33
  go_wp2
  clear hmk
  go_loopw [4] (fun i wr => ∃ k : Nat, k ≤ n ∧ i = .int .i64 k ∧ wr.rowIs w.heap.size 3 n (fun j => .int .i64 (if j < k then el xs j else 0)) ∧ wr.heap.size = w.heap.size + 1 ∧ Below w.heap.size w wr) (fun i _ => n - (intOf i).toNat)
  case atStart => exact ⟨0, Nat.zero_le _, rfl, by simpa using World.rowIs_made w (.int .i64 0) n 3, by simp, (Below.refl _ _).alloc (Nat.le_refl _) _⟩
  case round =>
    obtain ⟨k, hk, rfl, hrow, hsz, hb⟩ := hrel
    by_cases hlt : k < n
    · obtain ⟨b, off, rfl, hc⟩ := h k hlt
      have hc1 := cell_later hb hc
      have hfr := hrow.frozen k
      have hold := hrow.cell hlt
      have HR : Hid (wr.rowIs w.heap.size 3 n (fun j => .int .i64 (if j < k then el xs j else 0))) := hrow
      have HZ : Hid (wr.heap.size = w.heap.size + 1) := hsz
      clear hrow hsz h hc
      go_wp2
      go_roundw
      case rel =>
        refine ⟨k + 1, by omega, by go_num, (HR.out.set k _).congr (fun j _ => ?_), by simpa using HZ.out, hb.setCell (Nat.le_refl _) _⟩
        by_cases e : j = k
        · subst e; simp
        · have : (j < k + 1) = (j < k) := by simp only [eq_iff_iff]; omega
          simp [e, this]
      case measure => simp [intOf]; omega
    · go_wp2
      go_ret
      exact ⟨rfl, hrow.congr (fun j hj => by rw [if_pos (by omega)]), hsz, hb⟩

theorem el_ext {xs ys : List Int} (hl : xs.length = ys.length) (h : ∀ j, j < ys.length → el xs j = el ys j) : xs = ys := by
  apply List.ext_getElem hl
  intro i h1 h2
  have := h i h2
  simpa [el, h1, h2] using this

theorem drewN_drewN (w : World) (m n : Nat) : (w.drewN m).drewN n = w.drewN (m + n) := by simp [World.drewN, Nat.add_assoc]

set_option maxHeartbeats 400000 in
theorem eqIntS_any (v u : Value) (xs ys : List Int) (w : World) (h : IntsAt w v xs) (h' : IntsAt w u ys) (hl' : ys.length ≤ 9223372036854775807) :
    Calls Try.prog 19 #[v, u] w fun e w' => e = .returned (.bool (decide (xs = ys))) ∧ ∃ n, w' = w.drewN n := by
  obtain ⟨a, cap, rfl, h⟩ := h
  obtain ⟨a', cap', rfl, h'⟩ := h'
  have HX : Hid (xs.length = xs.length) := rfl
  have HY : Hid (ys.length = ys.length) := rfl
  by_cases hlen : xs.length = ys.length
  · rw [hlen] at h
    have HL : Hid (xs.length = ys.length) := hlen
    rw [hlen]
    have HE : Hid ((∀ j, j < ys.length → el xs j = el ys j) → xs = ys) := el_ext hlen
    generalize ys.length = n at h h' hl' HE ⊢
    clear hlen HX HY HL
    go_enter Try.func19, Try.ntmps19
    go_wp2
    go_loopw [5] (fun i wr => ∃ k : Nat, k ≤ n ∧ i = .int .i64 k ∧ Hid (∀ j, j < k → el xs j = el ys j) ∧ ∃ m, wr = w.drewN m) (fun i _ => n - (intOf i).toNat)
    case atStart => exact ⟨0, Nat.zero_le _, rfl, fun j hj => absurd hj (Nat.not_lt_zero _), 0, rfl⟩
    case round =>
      obtain ⟨k, hk, rfl, hall, m, rfl⟩ := hrel
      by_cases hlt : k < n
      · obtain ⟨b, off, rfl, hc⟩ := h k hlt
        obtain ⟨b', off', rfl, hc'⟩ := h' k hlt
        clear h h'
        by_cases he : el xs k = el ys k
        · have heb : (el xs k != el ys k) = false := by simp [he]
          have HE2 : Hid (el xs k = el ys k) := he
          clear he
          go_wp2
          go_quiet (fail)
          go_wp2
          go_roundw
          case rel => exact ⟨k + 1, by omega, by go_num, fun j hj => by
            by_cases e : j = k
            · subst e; exact HE2.out
            · exact hall.out j (by omega), _, rfl⟩
          case measure => simp [intOf]; omega
        · have heb : (el xs k != el ys k) = true := by simp [he]
          have HE2 : Hid (¬ el xs k = el ys k) := he
          clear he
          go_wp2
          go_quiet (fail)
          go_wp2
          go_ret
          exact ⟨by simp; intro e; subst e; exact HE2.out rfl, _, drewN_drewN _ _ _⟩
      · go_wp2
        go_ret
        have : xs = ys := HE.out (fun j hj => hall.out j (by omega))
        exact ⟨by simp [this], _, rfl⟩
  · have hlb : ((xs.length : Int) != (ys.length : Int)) = true := by simp; omega
    have HN : Hid (¬ xs = ys) := fun e => hlen (by rw [e])
    clear HX HY
    generalize xs.length = n at *
    go_enter Try.func19, Try.ntmps19
    go_wp2
    go_ret
    exact ⟨by simp [HN.out], 0, rfl⟩
end Go.Proofs.Ytmjjigdnoiphbab
