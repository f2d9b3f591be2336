/-
  impl: trainsOk, namesOk.
-/
import Derived.Test.YtmjjigdnoiphbabW10
namespace Go.Proofs.Ytmjjigdnoiphbab
open Go.RowKit Go.Deep
set_option linter.unusedVariables false

theorem trainB_pathF {n x y : Int} {p : List Int} (h : (decide (p.length ≤ 8) && pathB n x p) = false) : trainB n x p y = false := by
  rw [Bool.and_eq_false_iff] at h
  rcases h with h | h <;> simp [trainB, h]
theorem trainB_pathT {n x y : Int} {p : List Int} (h1 : inR x 0 (n - 1) = true) (h : (decide (p.length ≤ 8) && pathB n x p) = true) (h3 : inR y 1 100 = true) : trainB n x p y = true := by
  simp only [Bool.and_eq_true] at h
  simp [trainB, h.1, h.2, h1, h3]

set_option maxHeartbeats 800000 in
theorem trainsOk_any (v : Value) (nr : Int) (ts : List Tr) (w : World) (h : TrainsAt w v ts) (hl : ts.length ≤ 4611686018427387904) (hp : ∀ i, i < ts.length → (tPath ts i).length ≤ 4611686018427387904) (h0 : 0 ≤ nr) (h1 : nr ≤ 4611686018427387904) :
    Calls Try.prog 67 #[v, .int .i64 nr] w fun e w' => e = .returned (.bool (trainsB nr ts)) ∧ Below w.heap.size w w' := by
  obtain ⟨a, cap, rfl, h⟩ := h
  unfold trainsB
  generalize ts.length = n at *
  go_enter Try.func67, Try.ntmps67
  go_wp2
  go_loopw [9] (fun i wr => ∃ k : Nat, k ≤ n ∧ i = .int .i64 k ∧ Hid (∀ j, j < k → trainB nr (tAt ts j) (tPath ts j) (tWt ts j) = true) ∧ Below w.heap.size w wr) (fun i _ => n - (intOf i).toNat)
  case atStart => exact ⟨0, Nat.zero_le _, rfl, fun j hj => absurd hj (Nat.not_lt_zero _), Below.refl _ _⟩
  case round =>
    obtain ⟨k, hk, rfl, hall, hb⟩ := hrel
    by_cases hlt : k < n
    · obtain ⟨b, off, rfl, vp, hc1, hc2, hI, hc3⟩ := h k hlt
      have g1 := cell_later hb hc1
      have g2 := cell_later hb hc2
      have g3 := cell_later hb hc3
      have hI := hI.below hb
      have HI := hide hI
      have hpk := hp k hlt
      obtain ⟨ap, cp, rfl, _⟩ := hI
      have HB := hide hb
      clear hc1 hc2 hc3 h hp hb
      go_wp2_with fail
      obtain ⟨V, hV⟩ : ∃ V, V = wr.alloc (.cells #[.int .i64 (tAt ts k), .slice ap (tPath ts k).length cp, .int .i64 (tWt ts k)] 63) := ⟨_, rfl⟩
      rw [← hV]
      have e0 : V.cell? ⟨wr.heap.size, 0, none⟩ = some (.int .i64 (tAt ts k)) := by rw [hV]; simp
      have e1 : V.cell? ⟨wr.heap.size, 1, none⟩ = some (.slice ap (tPath ts k).length cp) := by rw [hV]; simp
      have e2 : V.cell? ⟨wr.heap.size, 2, none⟩ = some (.int .i64 (tWt ts k)) := by rw [hV]; simp
      have hbV : Below wr.heap.size wr V := by rw [hV]; exact Joins.below_alloc1 _ _
      clear hV g1 g2 g3
      have HBV := hide (below_tail HB.out hbV)
      have HIV := hide (HI.out.below hbV)
      clear hbV HI HB
      refine (isSection_any _ _ _ h0 h1).mono ?_
      rintro e w' ⟨rfl, rfl⟩
      by_cases hA : inR (tAt ts k) 0 (nr - 1) = true
      · cases hPB : (decide ((tPath ts k).length ≤ 8) && pathB nr (tAt ts k) (tPath ts k)) with
        | false =>
          have HF := hide (allUp_false (f := fun i => trainB nr (tAt ts i) (tPath ts i) (tWt ts i)) k hlt (trainB_pathF hPB))
          have HPB := hide hPB
          clear hPB
          go_wp2_with fail
          refine (pathOk_any _ _ nr (tPath ts k) _ _ _ _ HIV.out hpk h0 h1).mono ?_
          rintro e w1 ⟨rfl, hb1⟩
          rw [HPB.out]
          go_wp2_with fail
          go_ret
          exact ⟨by rw [HF.out]; rfl, below_tail HBV.out hb1⟩
        | true =>
          cases hW : inR (tWt ts k) 1 100 with
          | false =>
            have HF := hide (allUp_false (f := fun i => trainB nr (tAt ts i) (tPath ts i) (tWt ts i)) k hlt (trainB_false3 hW))
            have HPB := hide hPB
            clear hPB
            go_wp2_with fail
            refine (pathOk_any _ _ nr (tPath ts k) _ _ _ _ HIV.out hpk h0 h1).mono ?_
            rintro e w1 ⟨rfl, hb1⟩
            rw [HPB.out]
            have e2' := cell_later hb1 e2
            have HB1 := hide hb1
            clear hb1
            go_wp2_with (go_at_call 85; refine (inRange_any _ _ _ _).mono ?_; rintro e w' ⟨rfl, rfl⟩)
            go_ret
            exact ⟨by rw [HF.out]; rfl, below_tail HBV.out HB1.out⟩
          | true =>
            have HQ := hide (trainB_pathT hA hPB hW)
            have HPB := hide hPB
            clear hPB
            go_wp2_with fail
            refine (pathOk_any _ _ nr (tPath ts k) _ _ _ _ HIV.out hpk h0 h1).mono ?_
            rintro e w1 ⟨rfl, hb1⟩
            rw [HPB.out]
            have e2' := cell_later hb1 e2
            have HB1 := hide hb1
            clear hb1
            go_wp2_with (go_at_call 85; refine (inRange_any _ _ _ _).mono ?_; rintro e w' ⟨rfl, rfl⟩)
            go_roundw
            case rel => exact ⟨k + 1, by omega, by go_num, fun m hm => by
              by_cases e : m = k
              · subst e; exact HQ.out
              · exact hall.out m (by omega), below_tail HBV.out HB1.out⟩
            case measure => simp [intOf]; omega
      · have hA' : inR (tAt ts k) 0 (nr - 1) = false := by simpa using hA
        have HF := hide (allUp_false (f := fun i => trainB nr (tAt ts i) (tPath ts i) (tWt ts i)) k hlt (trainB_false1 hA'))
        clear hA
        go_wp2_with fail
        go_ret
        exact ⟨by rw [HF.out]; rfl, HBV.out⟩
    · go_wp2
      go_ret
      exact ⟨by rw [allUp_true (fun j hj => hall.out j (by omega))]; rfl, hb⟩

set_option maxHeartbeats 800000 in
theorem namesOk_any (v : Value) (ns : List Int) (w : World) (h : IntsAt w v ns) (hl : ns.length ≤ 4611686018427387904) :
    Calls Try.prog 68 #[v] w fun e w' => e = .returned (.bool (namesB ns)) ∧ w = w' := by
  obtain ⟨a, cap, rfl, h⟩ := h
  unfold namesB
  generalize ns.length = n at *
  go_enter Try.func68, Try.ntmps68
  go_wp2
  go_loop [7] (fun i => ∃ k : Nat, k ≤ n ∧ i = .int .i64 k ∧ Hid (∀ j, j < k → nameB ns j = true)) (fun i => n - (intOf i).toNat)
  case atStart => exact ⟨0, Nat.zero_le _, rfl, fun j hj => absurd hj (Nat.not_lt_zero _)⟩
  case round =>
    obtain ⟨k', hk', rfl, hall⟩ := hrel
    by_cases hlt' : k' < n
    · by_cases hi1 : inR (el ns k') 0 1000 = true
      · by_cases hk0 : k' = 0
        · subst hk0
          obtain ⟨b, off, rfl, hc⟩ := h 0 hlt'
          rw [Nat.add_zero] at hc
          clear h
          have HQ : Hid (nameB ns 0 = true) := by simp [nameB, hi1, Hid]
          go_wp2_with (go_at_call 85; refine (inRange_any _ _ _ _).mono ?_; rintro e w' ⟨rfl, rfl⟩)
          go_round
          case rel => exact ⟨1, by omega, by go_num, fun m hm => by
            obtain rfl : m = 0 := by omega
            exact HQ.out⟩
          case measure => simp [intOf]; omega
        · have hkp : 0 < k' := by omega
          obtain ⟨b, off, rfl, hc⟩ := h k' hlt'
          obtain ⟨b2, off2, e2, hc2⟩ := h (k' - 1) (by omega)
          simp only [Option.some.injEq, Addr.mk.injEq, and_true] at e2
          obtain ⟨rfl, rfl⟩ := e2
          clear h
          by_cases hi2 : el ns (k' - 1) < el ns k'
          · have HQ : Hid (nameB ns k' = true) := by simp [nameB, hi1, hi2, Hid]
            have hi2b : decide (el ns k' ≤ el ns (k' - 1)) = false := by simp; omega
            clear hi2 hk0
            go_wp2_with (go_at_call 85; refine (inRange_any _ _ _ _).mono ?_; rintro e w' ⟨rfl, rfl⟩)
            go_round
            case rel => exact ⟨k' + 1, by omega, by go_num, fun m hm => by
              by_cases e : m = k'
              · subst e; exact HQ.out
              · exact hall.out m (by omega)⟩
            case measure => simp [intOf]; omega
          · have HQ : Hid (nameB ns k' = false) := by simp [nameB, hi1, hi2, Hid, hk0]
            have hi2b : decide (el ns k' ≤ el ns (k' - 1)) = true := by simp; omega
            clear hi2 hk0
            go_wp2_with (go_at_call 85; refine (inRange_any _ _ _ _).mono ?_; rintro e w' ⟨rfl, rfl⟩)
            go_ret
            exact ⟨by rw [allUp_false k' hlt' HQ.out]; rfl, rfl⟩
      · have hi1' : inR (el ns k') 0 1000 = false := by simpa using hi1
        have HQ : Hid (nameB ns k' = false) := by simp [nameB, hi1', Hid]
        obtain ⟨b, off, rfl, hc⟩ := h k' hlt'
        clear h hi1
        go_wp2_with (go_at_call 85; refine (inRange_any _ _ _ _).mono ?_; rintro e w' ⟨rfl, rfl⟩)
        go_ret
        exact ⟨by rw [allUp_false k' hlt' HQ.out]; rfl, rfl⟩
    · go_wp2
      go_ret
      exact ⟨by rw [allUp_true (fun j hj => hall.out j (by omega))]; rfl, rfl⟩
end Go.Proofs.Ytmjjigdnoiphbab
