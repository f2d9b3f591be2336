import Derived.Test.YtmjjigdnoiphbaaDoorJ4
import Derived.Test.YtmjjigdnoiphbaaDoorL1
import Derived.Test.YtmjjigdnoiphbaaDoorL2
/-
  THE DRAWS: pick.
-/
namespace Go.Proofs.YtmjjigdnoiphbaaDoor
open Go.RowKit Go.Deep
set_option linter.unusedVariables false

set_option maxHeartbeats 1000000 in
theorem pick_any {w : World} {cb : Nat} {a : Option Addr} {n q k : Nat} (h : CurAt w cb a n q k) (hk : k ≤ 900000) (m : Int) (hm : m ≤ 1000000) :
    Calls Tryd.prog 37 #[.pointer (some ⟨cb, 0, none⟩), .int .i64 m] w fun e w' => ∃ x : Int, ∃ k' : Nat, e = .returned (.int .i64 x) ∧ 0 ≤ x ∧ (m ≤ 1 → x = 0) ∧ (1 < m → x < m) ∧ k ≤ k' ∧ k' ≤ k + 2 ∧ CurAt w' cb a n q k' ∧ Chg (fun b => b = cb) w w' := by
  have HH := hide h
  by_cases h1 : m ≤ 1
  · clear h
    go_enter Tryd.func37, Tryd.ntmps37
    go_wp2_with fail
    go_ret
    exact ⟨0, k, rfl, by omega, fun _ => rfl, fun h => by omega, Nat.le_refl _, by omega, HH.out, Chg.refl _ _⟩
  · have h1' : ¬ m ≤ 1 := h1
    by_cases h2 : 200 < m
    · clear h
      go_enter Tryd.func37, Tryd.ntmps37
      go_wp2_with (go_at_call 88; refine (next_any HH.out ?_).mono ?_; (omega); rintro e w1 ⟨x, rfl, hx0, hx1, hcu1, hch1⟩)
      refine (next_any hcu1 (by omega)).mono ?_
      rintro e w2 ⟨y, rfl, hy0, hy1, hcu2, hch2⟩
      go_wp2_with fail
      go_ret
      have e1 := Int.emod_nonneg (x * 256 + y) (show m ≠ 0 by omega)
      have e2 := Int.emod_lt_of_pos (x * 256 + y) (show 0 < m by omega)
      exact ⟨(x * 256 + y) % m, k + 2, rfl, e1, fun h => by omega, fun _ => e2, by omega, by omega, hcu2, hch1.trans hch2⟩
    · clear h
      go_enter Tryd.func37, Tryd.ntmps37
      go_wp2_with (go_at_call 88; refine (next_any HH.out ?_).mono ?_; (omega); rintro e w1 ⟨x, rfl, hx0, hx1, hcu1, hch1⟩)
      go_ret
      have e1 := Int.emod_nonneg x (show m ≠ 0 by omega)
      have e2 := Int.emod_lt_of_pos x (show 0 < m by omega)
      exact ⟨x % m, k + 1, rfl, e1, fun h => by omega, fun _ => e2, by omega, by omega, hcu1, hch1⟩
end Go.Proofs.YtmjjigdnoiphbaaDoor

/-
  THE LAWS' OWN SMALL FUNCTIONS: wInts, wByte.
-/
namespace Go.Proofs.YtmjjigdnoiphbaaDoor
open Go.RowKit Go.Deep
set_option linter.unusedVariables false

set_option maxHeartbeats 400000 in
theorem wInts_any (v u : Value) (xs ys : List Int) (w : World) (h : IntsAt w v xs) (h' : IntsAt w u ys) (hl' : ys.length ≤ 9223372036854775807) :
    Calls Tryd.prog 36 #[v, u] w fun e w' => e = .returned (.bool (decide (xs = ys))) ∧ ∃ n, w' = w.drewN n := by
  obtain ⟨a, cap, rfl, h⟩ := h
  obtain ⟨a', cap', rfl, h'⟩ := h'
  have HX : Hid (xs.length = xs.length) := rfl
  have HY : Hid (ys.length = ys.length) := rfl
  by_cases hlen : xs.length = ys.length
  · rw [hlen] at h
    have HL : Hid (xs.length = ys.length) := hlen
    rw [hlen]
    have HE : Hid ((∀ j, j < ys.length → el xs j = el ys j) → xs = ys) := el_ext hlen
    generalize ys.length = n at h h' hl' HE ⊢
    clear hlen HX HY HL
    go_enter Tryd.func36, Tryd.ntmps36
    go_wp2
    go_loopw [13] (fun i wr => ∃ k : Nat, k ≤ n ∧ i = .int .i64 k ∧ Hid (∀ j, j < k → el xs j = el ys j) ∧ ∃ m, wr = w.drewN m) (fun i _ => n - (intOf i).toNat)
    case atStart => exact ⟨0, Nat.zero_le _, rfl, fun j hj => absurd hj (Nat.not_lt_zero _), 0, rfl⟩
    case round =>
      obtain ⟨k, hk, rfl, hall, m, rfl⟩ := hrel
      by_cases hlt : k < n
      · obtain ⟨b, off, rfl, hc⟩ := h k hlt
        obtain ⟨b', off', rfl, hc'⟩ := h' k hlt
        clear h h'
        by_cases he : el xs k = el ys k
        · have heb : (el xs k != el ys k) = false := by simp [he]
          have HE2 : Hid (el xs k = el ys k) := he
          clear he
          go_wp2
          go_quiet (fail)
          go_wp2
          go_roundw
          case rel => exact ⟨k + 1, by omega, by go_num, fun j hj => by
            by_cases e : j = k
            · subst e; exact HE2.out
            · exact hall.out j (by omega), _, rfl⟩
          case measure => simp [intOf]; omega
        · have heb : (el xs k != el ys k) = true := by simp [he]
          have HE2 : Hid (¬ el xs k = el ys k) := he
          clear he
          go_wp2
          go_quiet (fail)
          go_wp2
          go_ret
          exact ⟨by simp; intro e; subst e; exact HE2.out rfl, _, drewN_drewN _ _ _⟩
      · go_wp2
        go_ret
        have : xs = ys := HE.out (fun j hj => hall.out j (by omega))
        exact ⟨by simp [this], _, rfl⟩
  · have hlb : ((xs.length : Int) != (ys.length : Int)) = true := by simp; omega
    have HN : Hid (¬ xs = ys) := fun e => hlen (by rw [e])
    clear HX HY
    generalize xs.length = n at *
    go_enter Tryd.func36, Tryd.ntmps36
    go_wp2
    go_ret
    exact ⟨by simp [HN.out], 0, rfl⟩

end Go.Proofs.YtmjjigdnoiphbaaDoor

/-
  SMALL THINGS THAT THE LAWS SHARE: the room of paths, a field of a Best, bytes that stay.
-/
namespace Go.Proofs.YtmjjigdnoiphbaaDoor
open Go.RowKit Go.Deep
set_option linter.unusedVariables false
set_option linter.unusedSimpArgs false

theorem run_fieldBest (o : Bool) (x : Int) (u : Value) (w : World) : (Instr.field 42 (.agg #[.bool o, .int .i64 x, u]) 1).run Tryd.prog w = .ok (.int .i64 x) w := by
  obtain ⟨i0, hi, hz0, hz1, hz2⟩ := info_parts Tryd.infoInt
  obtain ⟨i1, hi1, -, hy1, -⟩ := info_parts Tryd.infoBool
  simp [Instr.field, run_underlying Tryd.underlying42, run_underlying Tryd.underlying3, run_underlying Tryd.underlying4, part, isAgg, sizeOf, typeInfo, hi, hz1, hi1, hy1, asAgg, go_sem]
theorem OwnS.capSt {w : World} {L : Lies} {st : St} (h : OwnS w L st) (hpc : ∀ i, i < st.2.1.length → (tPath st.2.1 i).length ≤ L.pc i) : CapSt w (L.val st) st.2.1.length := by
  intro a1 l1 q1 a2 l2 q2 a3 l3 q3 hv i b off p q c hi ha hc
  simp only [Lies.val, Value.agg.injEq, Array.mk.injEq, List.cons.injEq, Value.slice.injEq, and_true] at hv
  obtain ⟨_, ⟨rfl, _, _⟩, _⟩ := hv
  obtain ⟨b', off', e, _, h1, _⟩ := h.t.row i hi
  rw [e] at ha
  simp only [Option.some.injEq, Addr.mk.injEq, and_true] at ha
  obtain ⟨rfl, rfl⟩ := ha
  rw [h1] at hc
  simp only [Option.some.injEq, Value.slice.injEq] at hc
  obtain ⟨_, rfl, rfl⟩ := hc
  exact hpc i hi
theorem BytesAt.below {w w' : World} {a : Option Addr} {n : Nat} (h : BytesAt w a n) (hb : Below w.heap.size w w') : BytesAt w' a n :=
  ⟨h.1, fun i hi => by
    obtain ⟨b, off, x, e, hc, h0, h1⟩ := h.2 i hi
    exact ⟨b, off, x, e, cell_later hb hc, h0, h1⟩⟩
theorem tmod_nat {y : Int} {d : Nat} (hy : 0 ≤ y) (hd : 0 < d) : ∃ u : Nat, y.tmod (d : Int) = (u : Int) ∧ u < d := by
  have h0 : (d : Int) ≠ 0 := by omega
  have h1 := Int.emod_nonneg y h0
  have h2 := Int.emod_lt_of_pos y (show (0 : Int) < (d : Int) by omega)
  rw [Int.tmod_eq_emod_of_nonneg hy]
  generalize y % (d : Int) = z at *
  exact ⟨z.toNat, by omega, by omega⟩
end Go.Proofs.YtmjjigdnoiphbaaDoor
