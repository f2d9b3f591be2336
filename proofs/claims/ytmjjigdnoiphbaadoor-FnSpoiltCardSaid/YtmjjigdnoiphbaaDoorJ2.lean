import Derived.Test.YtmjjigdnoiphbaaDoorW9
import Derived.ProofKit
import Derived.OpenShut
import Derived.ChangeOld
/-
  impl: isSection, sizesOk, roomsOk, pathOk, trainsOk, namesOk.
-/
namespace Go.Proofs.YtmjjigdnoiphbaaDoor
open Go.RowKit Go.Deep
set_option linter.unusedVariables false

theorem isSection_any (x n : Int) (w : World) (h0 : 0 ≤ n) (h1 : n ≤ 4611686018427387904) : Calls Tryd.prog 59 #[.int .i64 x, .int .i64 n] w fun e w' => e = .returned (.bool (inR x 0 (n - 1))) ∧ w = w' := by
  go_enter Tryd.func59, Tryd.ntmps59
  go_wp2_with (go_at_call 89; refine (inRange_any _ _ _ _).mono ?_; rintro e w' ⟨rfl, rfl⟩)
  go_ret
  exact ⟨rfl, rfl⟩

set_option maxHeartbeats 800000 in
theorem sizesOk_any (v : Value) (st : St) (w : World) (h : StateAt w v st) :
    Calls Tryd.prog 39 #[v] w fun e w' => e = .returned (.bool (sizesB st)) ∧ Below w.heap.size w w' := by
  obtain ⟨vr, vt, vn, rfl, hR, hT, hN⟩ := h
  obtain ⟨rs, ts, ns⟩ := st
  obtain ⟨ar, cr, rfl, _⟩ := hR
  obtain ⟨an, cn, rfl, _⟩ := hN
  obtain ⟨a, cap, rfl, _⟩ := hT
  simp only at *
  by_cases h1 : inR rs.length 1 40 = true
  · by_cases h2 : ts.length ≤ 5
    · by_cases h3 : ns.length = ts.length
      · have h3b : ((ns.length : Int) == (ts.length : Int)) = true := by simp; omega
        have HF : Hid (sizesB (rs, ts, ns) = true) := by simp [sizesB, h1, h2, h3, Hid]
        clear h3
        generalize hS : sizesB (rs, ts, ns) = S at *
        clear hS
        generalize ts.length = nt at *
        generalize ns.length = nn at *
        go_enter Tryd.func39, Tryd.ntmps39
        go_wp2_with (go_at_call 89; refine (inRange_any _ _ _ _).mono ?_; rintro e w' ⟨rfl, rfl⟩)
        go_ret
        exact ⟨by rw [HF.out]; rfl, Joins.below_alloc1 _ _⟩
      · have h3b : ((ns.length : Int) == (ts.length : Int)) = false := by simp; omega
        have HF : Hid (sizesB (rs, ts, ns) = false) := by simp [sizesB, h1, h2, h3, Hid]
        clear h3
        generalize hS : sizesB (rs, ts, ns) = S at *
        clear hS
        generalize ts.length = nt at *
        generalize ns.length = nn at *
        go_enter Tryd.func39, Tryd.ntmps39
        go_wp2_with (go_at_call 89; refine (inRange_any _ _ _ _).mono ?_; rintro e w' ⟨rfl, rfl⟩)
        go_ret
        exact ⟨by rw [HF.out]; rfl, Joins.below_alloc1 _ _⟩
    · have h2b : decide ((ts.length : Int) ≤ 5) = false := by simp; omega
      have HF : Hid (sizesB (rs, ts, ns) = false) := by simp [sizesB, h1, h2, Hid]
      clear h2
      generalize hS : sizesB (rs, ts, ns) = S at *
      clear hS
      generalize ts.length = nt at *
      go_enter Tryd.func39, Tryd.ntmps39
      go_wp2_with (go_at_call 89; refine (inRange_any _ _ _ _).mono ?_; rintro e w' ⟨rfl, rfl⟩)
      go_ret
      exact ⟨by rw [HF.out]; rfl, Joins.below_alloc1 _ _⟩
  · have h1' : inR rs.length 1 40 = false := by simpa using h1
    have HF : Hid (sizesB (rs, ts, ns) = false) := by simp [sizesB, h1', Hid]
    clear h1
    generalize hS : sizesB (rs, ts, ns) = S at *
    clear hS
    go_enter Tryd.func39, Tryd.ntmps39
    go_wp2_with (go_at_call 89; refine (inRange_any _ _ _ _).mono ?_; rintro e w' ⟨rfl, rfl⟩)
    go_ret
    exact ⟨by rw [HF.out]; rfl, Joins.below_alloc1 _ _⟩

set_option maxHeartbeats 800000 in
theorem roomsOk_any (v : Value) (rs : List Int) (w : World) (h : IntsAt w v rs) (hl : rs.length ≤ 4611686018427387904) :
    Calls Tryd.prog 40 #[v] w fun e w' => e = .returned (.bool (roomsB rs)) ∧ w = w' := by
  obtain ⟨a, cap, rfl, h⟩ := h
  unfold roomsB
  generalize rs.length = n at *
  go_enter Tryd.func40, Tryd.ntmps40
  go_wp2
  go_loop [7] (fun i => ∃ k : Nat, k ≤ n ∧ i = .int .i64 k ∧ Hid (∀ j, j < k → inR (el rs j) 1 5 = true)) (fun i => n - (intOf i).toNat)
  case atStart => exact ⟨0, Nat.zero_le _, rfl, fun j hj => absurd hj (Nat.not_lt_zero _)⟩
  case round =>
    obtain ⟨k, hk, rfl, hall⟩ := hrel
    by_cases hlt : k < n
    · obtain ⟨b, off, rfl, hc⟩ := h k hlt
      clear h
      by_cases hg : inR (el rs k) 1 5 = true
      · go_wp2_with (go_at_call 89; refine (inRange_any _ _ _ _).mono ?_; rintro e w' ⟨rfl, rfl⟩)
        go_round
        case rel => exact ⟨k + 1, by omega, by go_num, fun j hj => by
          by_cases e : j = k
          · subst e; exact hg
          · exact hall.out j (by omega)⟩
        case measure => simp [intOf]; omega
      · have hg' : inR (el rs k) 1 5 = false := by simpa using hg
        clear hg
        go_wp2_with (go_at_call 89; refine (inRange_any _ _ _ _).mono ?_; rintro e w' ⟨rfl, rfl⟩)
        go_ret
        exact ⟨by rw [allUp_false k hlt hg']; rfl, rfl⟩
    · go_wp2
      go_ret
      exact ⟨by rw [allUp_true (fun j hj => hall.out j (by omega))]; rfl, rfl⟩

set_option maxHeartbeats 800000 in
theorem pathOk_any (x y nn : Int) (p : List Int) (a : Option Addr) (l c : Nat) (w : World) (h : IntsAt w (.slice a l c) p) (hl : p.length ≤ 4611686018427387904) (h0 : 0 ≤ nn) (h1 : nn ≤ 4611686018427387904) :
    Calls Tryd.prog 90 #[.agg #[.int .i64 x, .slice a l c, .int .i64 y], .int .i64 nn] w fun e w' => e = .returned (.bool (decide (p.length ≤ 8) && pathB nn x p)) ∧ Below w.heap.size w w' := by
  have HP := hide h
  obtain ⟨a', c', hv, _⟩ := h
  simp only [Value.slice.injEq] at hv
  obtain ⟨rfl, rfl, rfl⟩ := hv
  by_cases h8 : p.length ≤ 8
  · have h8b : decide ((8 : Int) < (p.length : Int)) = false := by simp; omega
    have HT : Hid ((∀ j, j < p.length → stepB nn x p j = true) → (decide (p.length ≤ 8) && pathB nn x p) = true) := fun hh => by
      have : pathB nn x p = true := allUp_true hh
      simp [this, h8]
    have HF : Hid (∀ j, j < p.length → stepB nn x p j = false → (decide (p.length ≤ 8) && pathB nn x p) = false) := fun j hj hh => by
      have : pathB nn x p = false := allUp_false j hj hh
      simp [this]
    generalize (decide (p.length ≤ 8) && pathB nn x p) = R at *
    go_enter Tryd.func90, Tryd.ntmps90
    go_wp2
    go_loop [17, 5] (fun i q => ∃ j : Nat, j ≤ p.length ∧ i = .int .i64 j ∧ q = .int .i64 (prev x p j) ∧ Hid (∀ m, m < j → stepB nn x p m = true)) (fun i _ => p.length - (intOf i).toNat)
    case atStart => exact ⟨0, Nat.zero_le _, rfl, rfl, fun m hm => absurd hm (Nat.not_lt_zero _)⟩
    case round =>
      obtain ⟨j, hj, rfl, rfl, hst⟩ := hrel
      by_cases hjl : j < p.length
      · obtain ⟨a2, c2, hv2, hP2⟩ := HP.out
        obtain ⟨b, off, e2, hcx⟩ := hP2 j hjl
        simp only [Value.slice.injEq] at hv2
        obtain ⟨rfl, _, rfl⟩ := hv2
        subst e2
        have hbl := World.block_lt_of_cell? _ _ hcx
        simp only at hbl
        clear hP2
        by_cases hi1 : inR (el p j) 0 (nn - 1) = true
        · by_cases hi2 : el p j = prev x p j
          · have HQ := hide (HF.out j hjl (by simp [stepB, hi2]))
            have hi2b : (el p j == prev x p j) = true := by simp [hi2]
            clear hi2
            go_wp2_with (go_at_call 59; refine (isSection_any _ _ _ h0 h1).mono ?_; rintro e w' ⟨rfl, rfl⟩)
            go_ret
            exact ⟨by rw [HQ.out]; rfl, Joins.below_alloc1 _ _⟩
          · have HQ := hide (show stepB nn x p j = true by simp [stepB, hi1, hi2])
            have hi2b : (el p j == prev x p j) = false := by simp [hi2]
            clear hi2
            go_wp2_with (go_at_call 59; refine (isSection_any _ _ _ h0 h1).mono ?_; rintro e w' ⟨rfl, rfl⟩)
            go_round
            case rel => exact ⟨j + 1, by omega, by go_num, rfl, fun m hm => by
              by_cases e : m = j
              · subst e; exact HQ.out
              · exact hst.out m (by omega)⟩
            case measure => simp [intOf]; omega
        · have hi1' : inR (el p j) 0 (nn - 1) = false := by simpa using hi1
          have HQ := hide (HF.out j hjl (by simp [stepB, hi1']))
          clear hi1
          go_wp2_with (go_at_call 59; refine (isSection_any _ _ _ h0 h1).mono ?_; rintro e w' ⟨rfl, rfl⟩)
          go_ret
          exact ⟨by rw [HQ.out]; rfl, Joins.below_alloc1 _ _⟩
      · have HQ := hide (HT.out (fun m hm => hst.out m (by omega)))
        go_wp2
        go_ret
        exact ⟨by rw [HQ.out]; rfl, Joins.below_alloc1 _ _⟩
  · have h8b : decide ((8 : Int) < (p.length : Int)) = true := by simp; omega
    have HF : Hid ((decide (p.length ≤ 8) && pathB nn x p) = false) := by simp [h8, Hid]
    generalize (decide (p.length ≤ 8) && pathB nn x p) = R at *
    go_enter Tryd.func90, Tryd.ntmps90
    go_wp2
    go_ret
    exact ⟨by rw [HF.out]; rfl, Joins.below_alloc1 _ _⟩
end Go.Proofs.YtmjjigdnoiphbaaDoor

/-
  impl: trainsOk, namesOk.
-/
namespace Go.Proofs.YtmjjigdnoiphbaaDoor
open Go.RowKit Go.Deep
set_option linter.unusedVariables false

theorem trainB_pathF {n x y : Int} {p : List Int} (h : (decide (p.length ≤ 8) && pathB n x p) = false) : trainB n x p y = false := by
  rw [Bool.and_eq_false_iff] at h
  rcases h with h | h <;> simp [trainB, h]
theorem trainB_pathT {n x y : Int} {p : List Int} (h1 : inR x 0 (n - 1) = true) (h : (decide (p.length ≤ 8) && pathB n x p) = true) (h3 : inR y 1 100 = true) : trainB n x p y = true := by
  simp only [Bool.and_eq_true] at h
  simp [trainB, h.1, h.2, h1, h3]

set_option maxHeartbeats 800000 in
theorem trainsOk_any (v : Value) (nr : Int) (ts : List Tr) (w : World) (h : TrainsAt w v ts) (hl : ts.length ≤ 4611686018427387904) (hp : ∀ i, i < ts.length → (tPath ts i).length ≤ 4611686018427387904) (h0 : 0 ≤ nr) (h1 : nr ≤ 4611686018427387904) :
    Calls Tryd.prog 41 #[v, .int .i64 nr] w fun e w' => e = .returned (.bool (trainsB nr ts)) ∧ Below w.heap.size w w' := by
  obtain ⟨a, cap, rfl, h⟩ := h
  unfold trainsB
  generalize ts.length = n at *
  go_enter Tryd.func41, Tryd.ntmps41
  go_wp2
  go_loopw [9] (fun i wr => ∃ k : Nat, k ≤ n ∧ i = .int .i64 k ∧ Hid (∀ j, j < k → trainB nr (tAt ts j) (tPath ts j) (tWt ts j) = true) ∧ Below w.heap.size w wr) (fun i _ => n - (intOf i).toNat)
  case atStart => exact ⟨0, Nat.zero_le _, rfl, fun j hj => absurd hj (Nat.not_lt_zero _), Below.refl _ _⟩
  case round =>
    obtain ⟨k, hk, rfl, hall, hb⟩ := hrel
    by_cases hlt : k < n
    · obtain ⟨b, off, rfl, vp, hc1, hc2, hI, hc3⟩ := h k hlt
      have g1 := cell_later hb hc1
      have g2 := cell_later hb hc2
      have g3 := cell_later hb hc3
      have hI := hI.below hb
      have HI := hide hI
      have hpk := hp k hlt
      obtain ⟨ap, cp, rfl, _⟩ := hI
      have HB := hide hb
      clear hc1 hc2 hc3 h hp hb
      go_wp2_with fail
      obtain ⟨V, hV⟩ : ∃ V, V = wr.alloc (.cells #[.int .i64 (tAt ts k), .slice ap (tPath ts k).length cp, .int .i64 (tWt ts k)] 35) := ⟨_, rfl⟩
      rw [← hV]
      have e0 : V.cell? ⟨wr.heap.size, 0, none⟩ = some (.int .i64 (tAt ts k)) := by rw [hV]; simp
      have e1 : V.cell? ⟨wr.heap.size, 1, none⟩ = some (.slice ap (tPath ts k).length cp) := by rw [hV]; simp
      have e2 : V.cell? ⟨wr.heap.size, 2, none⟩ = some (.int .i64 (tWt ts k)) := by rw [hV]; simp
      have hbV : Below wr.heap.size wr V := by rw [hV]; exact Joins.below_alloc1 _ _
      clear hV g1 g2 g3
      have HBV := hide (below_tail HB.out hbV)
      have HIV := hide (HI.out.below hbV)
      clear hbV HI HB
      refine (isSection_any _ _ _ h0 h1).mono ?_
      rintro e w' ⟨rfl, rfl⟩
      by_cases hA : inR (tAt ts k) 0 (nr - 1) = true
      · cases hPB : (decide ((tPath ts k).length ≤ 8) && pathB nr (tAt ts k) (tPath ts k)) with
        | false =>
          have HF := hide (allUp_false (f := fun i => trainB nr (tAt ts i) (tPath ts i) (tWt ts i)) k hlt (trainB_pathF hPB))
          have HPB := hide hPB
          clear hPB
          go_wp2_with fail
          refine (pathOk_any _ _ nr (tPath ts k) _ _ _ _ HIV.out hpk h0 h1).mono ?_
          rintro e w1 ⟨rfl, hb1⟩
          rw [HPB.out]
          go_wp2_with fail
          go_ret
          exact ⟨by rw [HF.out]; rfl, below_tail HBV.out hb1⟩
        | true =>
          cases hW : inR (tWt ts k) 1 100 with
          | false =>
            have HF := hide (allUp_false (f := fun i => trainB nr (tAt ts i) (tPath ts i) (tWt ts i)) k hlt (trainB_false3 hW))
            have HPB := hide hPB
            clear hPB
            go_wp2_with fail
            refine (pathOk_any _ _ nr (tPath ts k) _ _ _ _ HIV.out hpk h0 h1).mono ?_
            rintro e w1 ⟨rfl, hb1⟩
            rw [HPB.out]
            have e2' := cell_later hb1 e2
            have HB1 := hide hb1
            clear hb1
            go_wp2_with (go_at_call 89; refine (inRange_any _ _ _ _).mono ?_; rintro e w' ⟨rfl, rfl⟩)
            go_ret
            exact ⟨by rw [HF.out]; rfl, below_tail HBV.out HB1.out⟩
          | true =>
            have HQ := hide (trainB_pathT hA hPB hW)
            have HPB := hide hPB
            clear hPB
            go_wp2_with fail
            refine (pathOk_any _ _ nr (tPath ts k) _ _ _ _ HIV.out hpk h0 h1).mono ?_
            rintro e w1 ⟨rfl, hb1⟩
            rw [HPB.out]
            have e2' := cell_later hb1 e2
            have HB1 := hide hb1
            clear hb1
            go_wp2_with (go_at_call 89; refine (inRange_any _ _ _ _).mono ?_; rintro e w' ⟨rfl, rfl⟩)
            go_roundw
            case rel => exact ⟨k + 1, by omega, by go_num, fun m hm => by
              by_cases e : m = k
              · subst e; exact HQ.out
              · exact hall.out m (by omega), below_tail HBV.out HB1.out⟩
            case measure => simp [intOf]; omega
      · have hA' : inR (tAt ts k) 0 (nr - 1) = false := by simpa using hA
        have HF := hide (allUp_false (f := fun i => trainB nr (tAt ts i) (tPath ts i) (tWt ts i)) k hlt (trainB_false1 hA'))
        clear hA
        go_wp2_with fail
        go_ret
        exact ⟨by rw [HF.out]; rfl, HBV.out⟩
    · go_wp2
      go_ret
      exact ⟨by rw [allUp_true (fun j hj => hall.out j (by omega))]; rfl, hb⟩

set_option maxHeartbeats 800000 in
theorem namesOk_any (v : Value) (ns : List Int) (w : World) (h : IntsAt w v ns) (hl : ns.length ≤ 4611686018427387904) :
    Calls Tryd.prog 42 #[v] w fun e w' => e = .returned (.bool (namesB ns)) ∧ w = w' := by
  obtain ⟨a, cap, rfl, h⟩ := h
  unfold namesB
  generalize ns.length = n at *
  go_enter Tryd.func42, Tryd.ntmps42
  go_wp2
  go_loop [7] (fun i => ∃ k : Nat, k ≤ n ∧ i = .int .i64 k ∧ Hid (∀ j, j < k → nameB ns j = true)) (fun i => n - (intOf i).toNat)
  case atStart => exact ⟨0, Nat.zero_le _, rfl, fun j hj => absurd hj (Nat.not_lt_zero _)⟩
  case round =>
    obtain ⟨k', hk', rfl, hall⟩ := hrel
    by_cases hlt' : k' < n
    · by_cases hi1 : inR (el ns k') 0 1000 = true
      · by_cases hk0 : k' = 0
        · subst hk0
          obtain ⟨b, off, rfl, hc⟩ := h 0 hlt'
          rw [Nat.add_zero] at hc
          clear h
          have HQ : Hid (nameB ns 0 = true) := by simp [nameB, hi1, Hid]
          go_wp2_with (go_at_call 89; refine (inRange_any _ _ _ _).mono ?_; rintro e w' ⟨rfl, rfl⟩)
          go_round
          case rel => exact ⟨1, by omega, by go_num, fun m hm => by
            obtain rfl : m = 0 := by omega
            exact HQ.out⟩
          case measure => simp [intOf]; omega
        · have hkp : 0 < k' := by omega
          obtain ⟨b, off, rfl, hc⟩ := h k' hlt'
          obtain ⟨b2, off2, e2, hc2⟩ := h (k' - 1) (by omega)
          simp only [Option.some.injEq, Addr.mk.injEq, and_true] at e2
          obtain ⟨rfl, rfl⟩ := e2
          clear h
          by_cases hi2 : el ns (k' - 1) < el ns k'
          · have HQ : Hid (nameB ns k' = true) := by simp [nameB, hi1, hi2, Hid]
            have hi2b : decide (el ns k' ≤ el ns (k' - 1)) = false := by simp; omega
            clear hi2 hk0
            go_wp2_with (go_at_call 89; refine (inRange_any _ _ _ _).mono ?_; rintro e w' ⟨rfl, rfl⟩)
            go_round
            case rel => exact ⟨k' + 1, by omega, by go_num, fun m hm => by
              by_cases e : m = k'
              · subst e; exact HQ.out
              · exact hall.out m (by omega)⟩
            case measure => simp [intOf]; omega
          · have HQ : Hid (nameB ns k' = false) := by simp [nameB, hi1, hi2, Hid, hk0]
            have hi2b : decide (el ns k' ≤ el ns (k' - 1)) = true := by simp; omega
            clear hi2 hk0
            go_wp2_with (go_at_call 89; refine (inRange_any _ _ _ _).mono ?_; rintro e w' ⟨rfl, rfl⟩)
            go_ret
            exact ⟨by rw [allUp_false k' hlt' HQ.out]; rfl, rfl⟩
      · have hi1' : inR (el ns k') 0 1000 = false := by simpa using hi1
        have HQ : Hid (nameB ns k' = false) := by simp [nameB, hi1', Hid]
        obtain ⟨b, off, rfl, hc⟩ := h k' hlt'
        clear h hi1
        go_wp2_with (go_at_call 89; refine (inRange_any _ _ _ _).mono ?_; rintro e w' ⟨rfl, rfl⟩)
        go_ret
        exact ⟨by rw [allUp_false k' hlt' HQ.out]; rfl, rfl⟩
    · go_wp2
      go_ret
      exact ⟨by rw [allUp_true (fun j hj => hall.out j (by omega))]; rfl, rfl⟩
end Go.Proofs.YtmjjigdnoiphbaaDoor

/-
  impl: standingOf, allFit.
-/
namespace Go.Proofs.YtmjjigdnoiphbaaDoor
open Go.RowKit Go.Deep
set_option linter.unusedVariables false

theorem row40_first (w : World) (o : Obj) : ((w.alloc (.cells (Array.replicate 40 (.int .i64 0)) 107)).alloc o).rowIs w.heap.size 107 40 (fun _ => .int .i64 0) :=
  (World.rowIs_alloc w (Array.replicate 40 (.int .i64 0)) 107 (fun _ => .int .i64 0) (fun i hi => by simp at hi; simp [hi])).alloc o
theorem row40_second (w : World) (o : Obj) (ts : List Tr) : ((w.alloc o).alloc (.cells (Array.replicate 40 (.int .i64 0)) 107)).rowIs (w.heap.size + 1) 107 40 (fun j => .int .i64 (thereUp ts (j : Int) 0)) := by
  have := World.rowIs_alloc (w.alloc o) (Array.replicate 40 (.int .i64 0)) 107 (fun _ => .int .i64 0) (fun i hi => by simp at hi; simp [hi])
  simp at this
  exact this

theorem below_setRow {B : Nat} {a w : World} (h : Below B a w) {g : Nat} (hg : B ≤ g) (cs : Array Value) : Below B a (w.setRow g cs) :=
  h.trans ⟨rfl, rfl, rfl, by simp, fun k hk => by simp only [World.setRow, Array.getElem?_modify]; rw [if_neg (by omega)]⟩

theorem Tryd.size40 : (Tryd.prog.info? 107).map (·.size) = some 40 := by kernel_rfl

theorem there_step {ts : List Tr} {w : World} {b : Nat} {t : TypeId} {k : Nat} (h : w.rowIs b t 40 (fun j => .int .i64 (thereUp ts (j : Int) k))) (h0 : 0 ≤ tAt ts k) (h1 : tAt ts k < 40) :
    (w.setCell ⟨b, (tAt ts k).toNat, none⟩ (.int .i64 (thereUp ts ((tAt ts k).toNat : Int) k + 1))).rowIs b t 40 (fun j => .int .i64 (thereUp ts (j : Int) (k + 1))) :=
  (h.set (tAt ts k).toNat _).congr (fun j hj => by
    by_cases e : j = (tAt ts k).toNat
    · subst e
      rw [if_pos rfl]
      have : tAt ts k = ((tAt ts k).toNat : Int) := by omega
      simp only [thereUp]
      rw [if_pos this]
      simp
    · rw [if_neg e]
      have : ¬ tAt ts k = (j : Int) := by omega
      simp only [thereUp]
      rw [if_neg this]
      rfl)

set_option maxHeartbeats 800000 in
theorem standingOf_any (v : Value) (ts : List Tr) (w : World) (h : TrainsAt w v ts) (hl : ts.length ≤ 4611686018427387904) (ha : ∀ i, i < ts.length → 0 ≤ tAt ts i ∧ tAt ts i < 40) :
    Calls Tryd.prog 60 #[v] w fun e w' => ∃ A : Array Value, e = .returned (.agg A) ∧ A.size = 40 ∧ (∀ i, i < 40 → A[i]? = some (.int .i64 (there ts (i : Int)))) ∧ Below w.heap.size w w' := by
  obtain ⟨a, cap, rfl, h⟩ := h
  unfold there
  generalize ts.length = n at *
  go_enter Tryd.func60, Tryd.ntmps60
  go_wp2_with fail
  go_loopw [8] (fun i wr => ∃ k : Nat, k ≤ n ∧ i = .int .i64 k ∧ wr.rowIs (w.heap.size + 1) 107 40 (fun j => .int .i64 (thereUp ts (j : Int) k)) ∧ wr.rowIs w.heap.size 107 40 (fun _ => .int .i64 0) ∧ Below w.heap.size w wr) (fun i _ => n - (intOf i).toNat)
  case atStart => exact ⟨0, Nat.zero_le _, rfl, row40_second w _ ts, row40_first w _, Joins.below_alloc2 _ _ _⟩
  case round =>
    obtain ⟨k, hk, rfl, hrow, hrow0, hb⟩ := hrel
    by_cases hlt : k < n
    · obtain ⟨b, off, rfl, vp, hc1, hc2, ⟨ap, cp, rfl, _⟩, hc3⟩ := h k hlt
      obtain ⟨ha0, ha1⟩ := ha k hlt
      have g1 := cell_later hb hc1
      have g2 := cell_later hb hc2
      have g3 := cell_later hb hc3
      have hq : (tAt ts k).toNat < 40 := by omega
      have hon := hrow.cell hq
      have hfr := hrow.frozen (tAt ts k).toNat
      have hle := thereUp_le ts ((tAt ts k).toNat : Int) k
      obtain ⟨c, hcd⟩ : ∃ c : Nat, c = thereUp ts ((tAt ts k).toNat : Int) k := ⟨_, rfl⟩
      simp only [← hcd] at hon hle
      have HCD := hide hcd
      clear hcd
      have hsz := hrow.lt
      have HB := hide hb
      have HR := hide hrow
      have HR0 := hide hrow0
      clear hc1 hc2 hc3 h ha hb hrow hrow0
      go_wp2_with fail
      go_roundw
      case rel =>
        have hst := there_step HR.out ha0 ha1
        rw [← HCD.out] at hst
        exact ⟨k + 1, by omega, by go_num, hst.alloc _, (HR0.out.setOther (by simp) _).alloc _, ((HB.out.setCell (by simp) _).alloc (by have := HB.out.size; simpa using this) _)⟩
      case measure => simp [intOf]; omega
    · obtain rfl : k = n := by omega
      have HB := hide hb
      obtain ⟨A, hA, hAs, hAc⟩ := hrow
      obtain ⟨A0, hA0, hA0s, _⟩ := hrow0
      have hI : Hid ((Tryd.prog.info? 107).map (·.size) = some A.size) := by rw [hAs]; exact Tryd.size40
      have h1 : Hid (A.all (·.oneCell') = true) := by
        refine Array.all_eq_true_iff_forall_mem.2 (fun v hv => ?_)
        obtain ⟨i, hi, rfl⟩ := Array.mem_iff_getElem.1 hv
        have := hAc i (by omega)
        rw [Array.getElem?_eq_getElem hi] at this
        rw [Option.some.inj this]; rfl
      have HA := hide hA
      have HA0 := hide hA0
      have HAS := hide hAs
      have HAC := hide hAc
      have HA0S := hide hA0s
      clear hA hA0 hAs hAc hA0s h ha hb
      go_wp2_with (first | (refine wpList_load_row rfl 107 _ rfl (w.heap.size + 1) rfl 107 A (0, 0) _ HA.out Tryd.underlying107 rfl hI.out ?_) | (refine wpList_store_row rfl 107 _ _ rfl w.heap.size A rfl rfl 107 A0 HA0.out hI.out (HA0S.out.trans HAS.out.symm) h1.out ?_))
      exact bodyPost_ret (v := .agg A) (results_cell_row Tryd.results60 _ _ w.heap.size 107 A (0, 0) _ rfl (setRow_heap wr w.heap.size _ _ 107 _ HA0.out) Tryd.underlying107 rfl hI.out) rfl ⟨A, rfl, HAS.out, HAC.out, below_setRow HB.out (Nat.le_refl _) _⟩

set_option maxHeartbeats 800000 in
theorem allFit_any (v : Value) (st : St) (w : World) (h : StateAt w v st) (hr : st.1.length ≤ 40) (hl : st.2.1.length ≤ 4611686018427387904) (ha : ∀ i, i < st.2.1.length → 0 ≤ tAt st.2.1 i ∧ tAt st.2.1 i < 40) :
    Calls Tryd.prog 43 #[v] w fun e w' => e = .returned (.bool (fitsB st.1 st.2.1)) ∧ Below w.heap.size w w' := by
  obtain ⟨vr, vt, vn, rfl, hR, hT, hN⟩ := h
  obtain ⟨rs, ts, ns⟩ := st
  obtain ⟨ar, cr, rfl, hR⟩ := hR
  obtain ⟨an, cn, rfl, _⟩ := hN
  obtain ⟨a, cap, rfl, _⟩ := id hT
  simp only at *
  unfold fitsB
  generalize rs.length = nr at *
  have HT := hide hT
  clear hT
  go_enter Tryd.func43, Tryd.ntmps43
  go_wp2_with fail
  refine (standingOf_any _ ts _ (HT.out.below (Joins.below_alloc1 _ _)) hl ha).mono ?_
  rintro e w1 ⟨A, rfl, hAs, hAc, hb1⟩
  have hbw := below_tail (Joins.below_alloc1 w (.cells #[.slice ar nr cr, .slice a ts.length cap, .slice an ns.length cn] 26)) hb1
  have c0 : w1.cell? ⟨w.heap.size, 0, none⟩ = some (.slice ar nr cr) := cell_later hb1 (by simp)
  have hI : Hid ((Tryd.prog.info? 107).map (·.size) = some A.size) := by rw [hAs]; exact Tryd.size40
  have h1 : Hid (A.all (·.oneCell') = true) := by
    refine Array.all_eq_true_iff_forall_mem.2 (fun v hv => ?_)
    obtain ⟨i, hi, rfl⟩ := Array.mem_iff_getElem.1 hv
    have := hAc i (by omega)
    rw [Array.getElem?_eq_getElem hi] at this
    rw [Option.some.inj this]; rfl
  have hszw : w.heap.size < w1.heap.size := World.block_lt_of_cell? _ _ c0
  have HAS := hide hAs
  have HAC := hide hAc
  have HB := hide hbw
  have hbV : ∀ Z, Below w1.heap.size w1 ((w1.alloc Z).setRow w1.heap.size A) := fun Z => below_setRow (Joins.below_alloc1 _ _) (Nat.le_refl _) _
  have k0 : ∀ Z, ((w1.alloc Z).setRow w1.heap.size A).cell? ⟨w.heap.size, 0, none⟩ = some (.slice ar nr cr) := fun Z => cell_later (hbV Z) c0
  have k1 : ∀ old, ∀ i, i < 40 → ((w1.alloc (.cells old 107)).setRow w1.heap.size A).cell? ⟨w1.heap.size, i, none⟩ = some (.int .i64 (there ts (i : Int))) := fun old i hi => by
    rw [cell_of_row _ _ _ A 107 (0, 0) (setRow_heap _ _ old A 107 (0, 0) (heap_alloc_new _ _))]
    exact hAc i hi
  have HK1 := hide k1
  have HBV : Hid (∀ Z, Below w.heap.size w ((w1.alloc Z).setRow w1.heap.size A)) := fun Z => below_tail hbw (hbV Z)
  clear hAs hAc hb1 hbw HT ha k1 hbV
  go_wp2_with (first | (refine wpList_store_row rfl 107 _ _ rfl w1.heap.size A rfl rfl 107 _ (heap_alloc_new _ _) hI.out (by rw [HAS.out]; rfl) h1.out ?_))
  have hq1 := fun i hi => HK1.out (Array.replicate 40 (.int .i64 0)) i hi
  have HQ := hide (HBV.out (.cells (Array.replicate 40 (.int .i64 0)) 107))
  change Code.wp _ _ _ _ ((w1.alloc (.cells (Array.replicate 40 (.int .i64 0)) 107)).setRow w1.heap.size A)
  generalize (w1.alloc (.cells (Array.replicate 40 (.int .i64 0)) 107)).setRow w1.heap.size A = V at *
  have HQ1 := hide hq1
  clear hq1 HK1 HBV k0 c0
  go_loop [12] (fun i => ∃ k : Nat, k ≤ nr ∧ i = .int .i64 k ∧ Hid (∀ j, j < k → decide ((there ts (j : Int) : Int) ≤ el rs j) = true)) (fun i => nr - (intOf i).toNat)
  case atStart => exact ⟨0, Nat.zero_le _, rfl, fun j hj => absurd hj (Nat.not_lt_zero _)⟩
  case round =>
    obtain ⟨k, hk, rfl, hall⟩ := hrel
    by_cases hlt : k < nr
    · obtain ⟨b, off, rfl, hc⟩ := hR k hlt
      have g := cell_later HQ.out hc
      have g2 := HQ1.out k (by omega)
      have h40 : (k : Int) < 40 := by omega
      clear hR hc
      generalize hth : there ts (k : Int) = c at *
      have HTH := hide hth
      clear hth
      by_cases hi : (c : Int) ≤ el rs k
      · have hib : decide (el rs k < (c : Int)) = false := by simp; omega
        have HI := hide hi
        clear hi
        go_wp2_with fail
        go_round
        case rel => exact ⟨k + 1, by omega, by go_num, fun m hm => by
          by_cases e : m = k
          · subst e; rw [HTH.out]; simpa using HI.out
          · exact hall.out m (by omega)⟩
        case measure => simp [intOf]; omega
      · have hib : decide (el rs k < (c : Int)) = true := by simp; omega
        have HF := hide (allUp_false (f := fun i => decide ((there ts (i : Int) : Int) ≤ el rs i)) k hlt (by simp only [HTH.out]; simpa using hi))
        clear hi
        go_wp2_with fail
        go_ret
        exact ⟨by rw [HF.out]; rfl, HQ.out⟩
    · go_wp2_with fail
      go_ret
      exact ⟨by rw [allUp_true (fun j hj => hall.out j (by omega))]; rfl, HQ.out⟩
end Go.Proofs.YtmjjigdnoiphbaaDoor

/-
  impl.StateOk.
-/
namespace Go.Proofs.YtmjjigdnoiphbaaDoor
open Go.RowKit Go.Deep
set_option linter.unusedVariables false

theorem trainsB_at {nr : Nat} {ts : List Tr} (h : trainsB nr ts = true) (h40 : nr ≤ 40) : ∀ i, i < ts.length → 0 ≤ tAt ts i ∧ tAt ts i < 40 := fun i hi => by
  have := allUp_at h i hi
  simp only [trainB, inR, Bool.and_eq_true, decide_eq_true_eq] at this
  omega

set_option maxHeartbeats 2000000 in
theorem implStateOk_any (v : Value) (st : St) (w : World) (h : StateAt w v st) (hp : ∀ i, i < st.2.1.length → (tPath st.2.1 i).length ≤ 4611686018427387904) :
    Calls Tryd.prog 11 #[v] w fun e w' => e = .returned (.int .i64 (stOk st)) ∧ Below w.heap.size w w' := by
  have HS := hide h
  obtain ⟨vr, vt, vn, rfl, hR, hT, hN⟩ := h
  have HR := hide hR
  have HT := hide hT
  have HN := hide hN
  have HP := hide hp
  obtain ⟨rs, ts, ns⟩ := st
  obtain ⟨ar, cr, rfl, _⟩ := hR
  obtain ⟨an, cn, rfl, _⟩ := hN
  obtain ⟨a, cap, rfl, _⟩ := hT
  simp only at *
  clear hp
  go_enter Tryd.func11, Tryd.ntmps11
  go_wp2_with fail
  refine (sizesOk_any _ (rs, ts, ns) _ (HS.out.below (Joins.below_alloc1 _ _))).mono ?_
  rintro e w1 ⟨rfl, hb1⟩
  have hbw1 := below_tail (Joins.below_alloc1 w (.cells #[.slice ar rs.length cr, .slice a ts.length cap, .slice an ns.length cn] 26)) hb1
  have c0 : w1.cell? ⟨w.heap.size, 0, none⟩ = some (.slice ar rs.length cr) := cell_later hb1 (by simp)
  have c1 : w1.cell? ⟨w.heap.size, 1, none⟩ = some (.slice a ts.length cap) := cell_later hb1 (by simp)
  have c2 : w1.cell? ⟨w.heap.size, 2, none⟩ = some (.slice an ns.length cn) := cell_later hb1 (by simp)
  have HB1 := hide hbw1
  clear hb1 hbw1
  cases hs : sizesB (rs, ts, ns) with
  | false =>
    have HO := hide (stOk1 hs)
    clear hs
    go_wp2_with fail
    go_ret
    exact ⟨by rw [HO.out]; rfl, HB1.out⟩
  | true =>
    have hsz := hs
    simp only [sizesB, inR, Bool.and_eq_true, decide_eq_true_eq] at hsz
    obtain ⟨⟨_, hr40⟩, ht5, hnt⟩ := hsz
    have HSZ := hide hs
    have hr40' : rs.length ≤ 40 := by omega
    have hn5 : ns.length ≤ 5 := by omega
    clear hs hr40 hnt
    go_wp2_with fail
    refine (roomsOk_any _ rs _ (HR.out.below HB1.out) (by omega)).mono ?_
    rintro e w' ⟨rfl, rfl⟩
    cases hro : roomsB rs with
    | false =>
      have HO := hide (stOk2 HSZ.out hro)
      clear hro
      go_wp2_with fail
      go_ret
      exact ⟨by rw [HO.out]; rfl, HB1.out⟩
    | true =>
      have HRO := hide hro
      clear hro
      go_wp2_with fail
      refine (trainsOk_any _ _ ts _ (HT.out.below HB1.out) (by omega) HP.out (by omega) (by omega)).mono ?_
      rintro e w2 ⟨rfl, hb2⟩
      have d0 := cell_later hb2 c0
      have d1 := cell_later hb2 c1
      have d2 := cell_later hb2 c2
      have HB2 := hide (below_tail HB1.out hb2)
      clear hb2 c0 c1 c2
      cases htr : trainsB rs.length ts with
      | false =>
        have HO := hide (stOk3 HSZ.out HRO.out htr)
        clear htr
        go_wp2_with fail
        go_ret
        exact ⟨by rw [HO.out]; rfl, HB2.out⟩
      | true =>
        have HTR := hide htr
        clear htr
        go_wp2_with fail
        refine (namesOk_any _ ns _ (HN.out.below HB2.out) (by omega)).mono ?_
        rintro e w' ⟨rfl, rfl⟩
        cases hna : namesB ns with
        | false =>
          have HO := hide (stOk4 HSZ.out HRO.out HTR.out hna)
          clear hna
          go_wp2_with fail
          go_ret
          exact ⟨by rw [HO.out]; rfl, HB2.out⟩
        | true =>
          have HNA := hide hna
          clear hna
          go_wp2_with fail
          refine (allFit_any _ (rs, ts, ns) _ (HS.out.below HB2.out) hr40' (by simp only; omega) (trainsB_at HTR.out hr40')).mono ?_
          rintro e w3 ⟨rfl, hb3⟩
          have HB3 := hide (below_tail HB2.out hb3)
          clear hb3
          cases hfi : fitsB rs ts with
          | false =>
            have HO := hide (stOk5 HSZ.out HRO.out HTR.out HNA.out hfi)
            clear hfi
            go_wp2_with fail
            go_ret
            exact ⟨by rw [HO.out]; rfl, HB3.out⟩
          | true =>
            have HO := hide (stOk0 HSZ.out HRO.out HTR.out HNA.out hfi)
            clear hfi
            go_wp2_with fail
            go_ret
            exact ⟨by rw [HO.out]; rfl, HB3.out⟩
end Go.Proofs.YtmjjigdnoiphbaaDoor

/-
  laws.FnExactStateOk: the walk.
-/
namespace Go.Proofs.YtmjjigdnoiphbaaDoor
open Go.RowKit Go.Deep
set_option linter.unusedVariables false

/-- what a law asks of the state that comes in: it reads so, and no slice of it is longer than any slice can be -/
structure ArgSt (w : World) (v : Value) (st : St) : Prop where
  at_ : StateAt w v st
  rl : st.1.length ≤ 9223372036854775807
  tl : st.2.1.length ≤ 9223372036854775807
  nl : st.2.2.length ≤ 9223372036854775807
  pl : ∀ i, i < st.2.1.length → (tPath st.2.1 i).length ≤ 9223372036854775807

structure SmallSt (st : St) : Prop where
  rl : st.1.length ≤ 1048576
  nl : st.2.2.length ≤ 1048576
  tl : st.2.1.length ≤ 1048576
  pl : ∀ i, i < st.2.1.length → (tPath st.2.1 i).length ≤ 1048576

theorem StateAt.form {w : World} {v : Value} {st : St} (h : StateAt w v st) : ∃ a1 c1 a2 c2 a3 c3, v = .agg #[.slice a1 st.1.length c1, .slice a2 st.2.1.length c2, .slice a3 st.2.2.length c3] := by
  obtain ⟨vr, vt, vn, rfl, ⟨ar, cr, rfl, _⟩, ⟨a, cap, rfl, _⟩, ⟨an, cn, rfl, _⟩⟩ := h
  exact ⟨_, _, _, _, _, _, rfl⟩

end Go.Proofs.YtmjjigdnoiphbaaDoor

/-
  A STATE THAT CAME IN, OPENED.
-/
namespace Go.Proofs.YtmjjigdnoiphbaaDoor
set_option maxRecDepth 8000
open Go.ChangeShapes Go.WideShapes Go.ChangeAt Go.RowKit Go.Deep Go.Joins
set_option linter.unusedVariables false

theorem Tryd.own : ownKnob Tryd.prog.godebug = none := by kernel_rfl
theorem Tryd.laidOut : laidOutB Tryd.prog = true := by kernel_rfl
theorem Tryd.cellsInt : Tryd.prog.cellsOf 3 = 1 := by kernel_rfl
theorem Tryd.cellsInts : Tryd.prog.cellsOf 23 = 1 := by kernel_rfl
theorem add_of_spot {a : Addr} (h : a.spot = none) (i : Nat) : a.add i = ⟨a.block, a.off + i, none⟩ := by
  obtain ⟨b, o, s⟩ := a
  simp only at h
  subst h
  exact add_plain b o i

theorem spot_of_cell {w : World} {a : Addr} {v : Value} (h : w.cell? (a.add 0) = some v) : a.spot = none := by
  have := World.cell?_spot h
  simpa [Addr.add] using this

theorem open_intsAt {H : Type} {enc : TypeId × Value → H} {w : World} {base : Nat} {spare : Nat → Bool} {held : Bool} {fuel : Nat} {c : Value} {y : DataW H × List MemPlace} (hf : DataW.trod enc Tryd.prog w base spare held fuel 23 [c] = some y) : ∃ xs, IntsAt w c xs ∧ xs.length ≤ 9223372036854775807 := by
  rcases open_ints Tryd.underlying23 Tryd.underlying3 Tryd.cellsInt hf with ⟨hcs, _⟩ | ⟨x, l, cap, zs, hcs, _, hl, hm, hz, _, hcell, _⟩
  · simp only [List.cons.injEq, and_true] at hcs
    subst hcs
    exact ⟨[], ⟨none, 0, rfl, fun i hi => absurd hi (Nat.not_lt_zero _)⟩, by simp⟩
  · simp only [List.cons.injEq, and_true] at hcs
    subst hcs
    have hlz : l ≤ zs.length := by rw [hz]; split <;> omega
    have hlen : (zs.take l).length = l := by simp; omega
    refine ⟨zs.take l, ⟨some x, cap, by rw [hlen], fun i hi => ?_⟩, by unfold maxLen at hm; omega⟩
    rw [hlen] at hi
    have hc := hcell i (by omega)
    have hs := spot_of_cell (hcell 0 (by omega))
    rw [add_of_spot hs] at hc
    refine ⟨x.block, x.off, ?_, ?_⟩
    · obtain ⟨b, o, s⟩ := x
      simp only at hs
      subst hs
      rfl
    · rw [hc]
      congr 2
      simp [el, List.getD, hi]

end Go.Proofs.YtmjjigdnoiphbaaDoor
