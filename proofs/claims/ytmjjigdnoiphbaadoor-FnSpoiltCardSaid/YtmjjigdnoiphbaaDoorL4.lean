import Derived.Test.YtmjjigdnoiphbaaDoorJ1
import Derived.Lib.ItoaNum
import Derived.Deep.RegionHeld3
import Derived.Handy
import Derived.Test.YtmjjigdnoiphbaaDoorWt
import Derived.Test.YtmjjigdnoiphbaaDoorSf6
/-
  spec: a number as it is written (l4decimal).
-/
namespace Go.Proofs.YtmjjigdnoiphbaaDoor
open Go.RowKit Go.Deep
set_option linter.unusedVariables false

/-- a number as it is written -/
def dec (x : Int) : List UInt8 := Lib.decDigits x.toNat
/-- the first k of a list, a blank ahead of each -/
def decsUp (xs : List Int) : Nat → List UInt8
  | 0 => []
  | k + 1 => decsUp xs k ++ (32 :: dec (el xs k))
theorem decDigits_len : ∀ (k n : Nat), n < 10 ^ (k + 1) → (Lib.decDigits n).length ≤ k + 1
  | 0, n, h => by rw [Lib.decDigits, dif_pos (by omega)]; simp
  | k + 1, n, h => by
    rw [Lib.decDigits]
    split
    · simp
    · have := decDigits_len k (n / 10) (by rw [Nat.pow_succ] at h; omega)
      simp
      omega
theorem dec_len {x : Int} (h : x ≤ 1000) : (dec x).length ≤ 4 := by
  unfold dec
  exact decDigits_len 3 _ (by omega)
theorem decsUp_len {xs : List Int} (h : ∀ i, i < xs.length → el xs i ≤ 1000) : ∀ k, k ≤ xs.length → (decsUp xs k).length ≤ 5 * k
  | 0, _ => by simp [decsUp]
  | k + 1, hk => by
    have h1 := decsUp_len h k (by omega)
    have h2 := dec_len (h k (by omega))
    simp [decsUp]
    omega

/-- the digits of a number, none of 0 -/
def digs (m : Nat) : List UInt8 := if m = 0 then [] else Lib.decDigits m
theorem digs_step {m : Nat} (h : 0 < m) (acc : List UInt8) : digs (m / 10) ++ (UInt8.ofNat (48 + m % 10) :: acc) = digs m ++ acc := by
  unfold digs
  rw [if_neg (by omega : ¬ m = 0)]
  by_cases h10 : m < 10
  · rw [if_pos (by omega), Lib.decDigits, dif_pos h10]
    have : m % 10 = m := by omega
    rw [this]
    rfl
  · rw [if_neg (by omega)]
    conv => rhs; rw [Lib.decDigits, dif_neg h10]
    simp

set_option maxHeartbeats 4000000 in
set_option maxRecDepth 100000 in
theorem l4decimal_any (n : Nat) (hn : n ≤ 1000) (w : World) :
    Calls Tryd.prog 51 #[.int .i64 (n : Int)] w fun e w' => e = .returned (.string ⟨(dec (n : Int)).toArray⟩) ∧ Below w.heap.size w w' := by
  by_cases h0 : n = 0
  · subst h0
    go_enter Tryd.func51, Tryd.ntmps51
    go_wp2_with fail
    go_ret
    refine ⟨?_, Below.refl _ _⟩
    show _ = Ending.returned (Value.string ⟨(Lib.decDigits 0).toArray⟩)
    rw [Lib.decDigits, dif_pos (by omega)]
    rfl
  · have hne : ((n : Int) == 0) = false := by rw [beq_eq_false_iff_ne]; omega
    go_enter Tryd.func51, Tryd.ntmps51
    go_wp2_with fail
    go_loopw [0, 3] (fun u s wr => ∃ (m : Nat) (acc : List UInt8), u = .int .i64 (m : Int) ∧ s = .string ⟨acc.toArray⟩ ∧ digs m ++ acc = dec (n : Int) ∧ m ≤ 1000 ∧ acc.length + m ≤ n + 100 ∧ Below w.heap.size w wr) (fun u _ _ => (intOf u).toNat)
    case atStart =>
      refine ⟨n, [], rfl, rfl, ?_, hn, by simp, Below.refl _ _⟩
      unfold digs dec
      rw [if_neg h0]
      simp
    case round =>
      obtain ⟨m, acc, rfl, rfl, hd, hm, hl, hb⟩ := hrel
      have HD := hide hd
      have HB := hide hb
      clear hd hb
      by_cases hm0 : m = 0
      · subst hm0
        go_wp2_with fail
        go_ret
        refine ⟨?_, HB.out⟩
        have := HD.out
        simp [digs] at this
        rw [this]
        rfl
      · obtain ⟨q, hq⟩ : ∃ q, q = m / 10 := ⟨_, rfl⟩
        obtain ⟨r, hr⟩ : ∃ r, r = m % 10 := ⟨_, rfl⟩
        have hr9 : r < 10 := by omega
        have hmq : m = 10 * q + r := by omega
        have HS : Hid (digs q ++ (UInt8.ofNat (48 + r) :: acc) = dec (n : Int)) := by
          show digs q ++ (UInt8.ofNat (48 + r) :: acc) = dec (n : Int)
          rw [hq, hr, digs_step (by omega)]
          exact HD.out
        have hgt : (m : Int) > 0 := by omega
        have hw1 : (m : Int).tmod 10 = (r : Int) := by rw [Int.tmod_eq_emod_of_nonneg (by omega)]; omega
        have hw2 : (m : Int).tdiv 10 = (q : Int) := by rw [Int.tdiv_eq_ediv_of_nonneg (by omega)]; omega
        have hqm : q < m := by omega
        have hw3 : wrap64 (48 + (r : Int)) = 48 + (r : Int) := by unfold wrap64; omega
        have hw4 : (48 + (r : Int)) % 256 = 48 + (r : Int) := by omega
        have hconv : (convert 22 9 (.slice (some ⟨wr.heap.size, 0, none⟩) 1 1)).run Tryd.prog (wr.alloc (.cells #[.int .u8 (48 + (r : Int))] 5)) = .ok (.string ⟨#[UInt8.ofNat (48 + r)]⟩) (wr.alloc (.cells #[.int .u8 (48 + (r : Int))] 5)) := by
          have := run_convert_bytes_arg (P := Tryd.prog) (wr.alloc (.cells #[.int .u8 (48 + (r : Int))] 5)) 22 5 Tryd.underlying22 Tryd.underlying5 wr.heap.size 0 1 1 [48 + (r : Int)] rfl (fun i hi => by
            have : i = 0 := by omega
            subst this
            simp) 9 Tryd.underlying9
          rw [this]
          have e : (48 + (r : Int)).toNat = 48 + r := by omega
          simp [strOfNums, e]
        have hadd : ∀ w, (Op.stringOp .add ⟨#[UInt8.ofNat (48 + r)]⟩ ⟨acc.toArray⟩).run Tryd.prog w = .ok (.string ⟨(UInt8.ofNat (48 + r) :: acc).toArray⟩) w := fun w => run_string_add_lists w [UInt8.ofNat (48 + r)] acc (by simp) (by omega)
        have HM := hide hmq
        clear hq hr hmq
        go_wp2_with fail
        go_roundw
        case rel => exact ⟨q, UInt8.ofNat (48 + r) :: acc, rfl, by simp [ByteArray.ext_iff], HS.out, by omega, by simp; omega, below_tail HB.out (Joins.below_alloc1 _ _)⟩
        case measure => simp [intOf]; omega
end Go.Proofs.YtmjjigdnoiphbaaDoor

/-
  WHAT IS SHOWN, as mathematics. No program here.
-/
namespace Go.Proofs.YtmjjigdnoiphbaaDoor
open Go.RowKit Go.Deep
set_option linter.unusedVariables false

def atS : List UInt8 := [32, 97, 116, 32]
def waitS : List UInt8 := [32, 119, 97, 105, 116, 115, 32, 102, 111, 114]
def unsafeS : List UInt8 := [117, 110, 115, 97, 102, 101, 10]
/-- the first part of a line -/
def headF (st : St) (i : Nat) : List UInt8 := dec (el st.2.2 i) ++ atS ++ dec (tAt st.2.1 i)
def lineF (st : St) (i : Nat) : List UInt8 :=
  headF st i ++ decsUp (tPath st.2.1 i) (tPath st.2.1 i).length ++ (bif canB st i then [] else waitS ++ decsUp (waitsF st (el st.2.2 i)) (waitsF st (el st.2.2 i)).length) ++ [10]
def linesUp (st : St) : Nat → List UInt8
  | 0 => []
  | k + 1 => linesUp st k ++ lineF st k
def shownF (st : St) : List UInt8 :=
  bif decide (stOk st = 0) then linesUp st st.2.1.length ++ (bif safeF st then [] else unsafeS) else []

theorem thereUp_pos' (ts : List Tr) (s : Int) : ∀ k, 0 < thereUp ts s k → ∃ j, j < k ∧ tAt ts j = s
  | 0, h => by simp [thereUp] at h
  | k + 1, h => by
    by_cases e : tAt ts k = s
    · exact ⟨k, by omega, e⟩
    · obtain ⟨j, hj, e⟩ := thereUp_pos' ts s k (by simpa [thereUp, e] using h)
      exact ⟨j, by omega, e⟩
theorem waitsUp_pos (st : St) (i : Nat) {j : Nat} (e : tAt st.2.1 j = el (tPath st.2.1 i) 0) : ∀ k, j < k → 0 < (waitsUp st i k).length
  | 0, h => by omega
  | k + 1, h => by
    simp only [waitsUp, List.length_append]
    by_cases hj : j = k
    · subst hj
      simp [e]
    · have := waitsUp_pos st i e k (by omega)
      omega
theorem RightSt.name {st : St} (h : RightSt st) {i : Nat} (hi : i < st.2.2.length) : 0 ≤ el st.2.2 i ∧ el st.2.2 i ≤ 1000 := by
  have := allUp_at h.names i hi
  simp only [nameB, inR, Bool.and_eq_true, decide_eq_true_eq] at this
  exact this.1
theorem RightSt.nameIx_self {st : St} (h : RightSt st) {i : Nat} (hi : i < st.2.2.length) : nameIx st.2.2 (el st.2.2 i) = i :=
  nameIx_at hi rfl (fun j hj e => by have := h.inj (by omega) hi e; omega)
theorem waitsUp_names {st : St} (h : RightSt st) (i : Nat) : ∀ k, k ≤ st.2.1.length → ∀ x ∈ waitsUp st i k, 0 ≤ x ∧ x ≤ 1000
  | 0, _, x, hx => by simp [waitsUp] at hx
  | k + 1, hk, x, hx => by
    simp only [waitsUp, List.mem_append] at hx
    rcases hx with e | e
    · exact waitsUp_names h i k (by omega) x e
    · cases hc : (tAt st.2.1 k == el (tPath st.2.1 i) 0)
      · rw [hc] at e; simp at e
      · rw [hc] at e
        simp at e
        subst e
        exact h.name (by have := h.lens.2.2.2; omega)
theorem waitsF_at {st : St} (h : RightSt st) {i : Nat} (hi : i < st.2.1.length) : waitsF st (el st.2.2 i) = bif canB st i then [] else waitsUp st i st.2.1.length := by
  have hn := h.lens.2.2.2
  unfold waitsF
  rw [h.nameIx_self (by omega), ok_of_right h]
  have : decide (i < st.2.2.length) = true := by simp; omega
  rw [this]
  cases canB st i <;> simp
theorem waitsF_names {st : St} (h : RightSt st) {i : Nat} (hi : i < st.2.1.length) : ∀ j, j < (waitsF st (el st.2.2 i)).length → 0 ≤ el (waitsF st (el st.2.2 i)) j ∧ el (waitsF st (el st.2.2 i)) j ≤ 1000 := by
  rw [waitsF_at h hi]
  intro j hj
  cases hc : canB st i
  · rw [hc] at hj
    simp only [cond_false] at hj ⊢
    refine waitsUp_names h i _ (Nat.le_refl _) _ ?_
    unfold el
    rw [List.getElem?_eq_getElem hj]
    exact List.getElem_mem _
  · rw [hc] at hj; simp at hj
/-- who cannot move waits for somebody -/
theorem waits_some {st : St} (h : RightSt st) {i : Nat} (hi : i < st.2.1.length) (hc : canB st i = false) : 0 < (waitsF st (el st.2.2 i)).length := by
  rw [waitsF_at h hi, hc]
  simp only [cond_false]
  unfold canB at hc
  rw [Bool.or_eq_false_iff, decide_eq_false_iff_not, decide_eq_false_iff_not] at hc
  obtain ⟨k, hk1, hk2⟩ := h.first i hi hc.1
  rw [hk1] at hc
  have hr := (h.room k hk2).1
  have h2 := hc.2
  simp only [Int.toNat_natCast] at h2
  have hp : 0 < thereUp st.2.1 (k : Int) st.2.1.length := by
    show 0 < there st.2.1 (k : Int)
    omega
  obtain ⟨j, hj, e⟩ := thereUp_pos' _ _ _ hp
  exact waitsUp_pos st i (by rw [hk1]; exact e) _ hj
theorem waits_none {st : St} (h : RightSt st) {i : Nat} (hi : i < st.2.1.length) (hc : canB st i = true) : waitsF st (el st.2.2 i) = [] := by rw [waitsF_at h hi, hc]; rfl
theorem headF_len {st : St} (h : RightSt st) {i : Nat} (hi : i < st.2.1.length) : (headF st i).length ≤ 12 := by
  have hn := h.lens
  have h1 := dec_len (h.name (i := i) (by omega)).2
  have h3 := h.train i hi
  have h2 := dec_len (x := tAt st.2.1 i) (by omega)
  simp [headF, atS]
  omega
theorem pathS_len {st : St} (h : RightSt st) {i : Nat} (hi : i < st.2.1.length) (k : Nat) (hk : k ≤ (tPath st.2.1 i).length) : (decsUp (tPath st.2.1 i) k).length ≤ 40 := by
  have h3 := h.train i hi
  have hn := h.lens
  have := decsUp_len (xs := tPath st.2.1 i) (fun j hj => by have := h3.2.2.2.2.2 j hj; omega) k hk
  omega
theorem waitS_len {st : St} (h : RightSt st) {i : Nat} (hi : i < st.2.1.length) (k : Nat) (hk : k ≤ (waitsF st (el st.2.2 i)).length) : (decsUp (waitsF st (el st.2.2 i)) k).length ≤ 25 := by
  have h1 := waitsF_le st (el st.2.2 i)
  have := decsUp_len (xs := waitsF st (el st.2.2 i)) (fun j hj => (waitsF_names h hi j hj).2) k hk
  omega
theorem lineF_len {st : St} (h : RightSt st) {i : Nat} (hi : i < st.2.1.length) : (lineF st i).length ≤ 88 := by
  have h1 := headF_len h hi
  have h2 := pathS_len h hi _ (Nat.le_refl _)
  have h3 := waitS_len h hi _ (Nat.le_refl _)
  unfold lineF
  cases canB st i <;> simp [waitS] <;> omega
theorem linesUp_len {st : St} (h : RightSt st) : ∀ k, k ≤ st.2.1.length → (linesUp st k).length ≤ 88 * k
  | 0, _ => by simp [linesUp]
  | k + 1, hk => by
    have h1 := linesUp_len h k (by omega)
    have h2 := lineF_len h (i := k) (by omega)
    simp [linesUp]
    omega
end Go.Proofs.YtmjjigdnoiphbaaDoor

/-
  spec.Shown.
-/
namespace Go.Proofs.YtmjjigdnoiphbaaDoor
open Go.RowKit Go.Deep
set_option linter.unusedVariables false

set_option maxHeartbeats 40000000 in
set_option maxRecDepth 100000 in
theorem specShown_any (v : Value) (st : St) (w : World) (h : StateAt w v st) :
    Calls Tryd.prog 14 #[v] w fun e w' => e = .returned (.string ⟨(shownF st).toArray⟩) ∧ Below w.heap.size w w' := by
  have HS := hide h
  obtain ⟨a1, q1, a2, q2, a3, q3, rfl⟩ := h.form
  clear h
  go_enter Tryd.func14, Tryd.ntmps14
  go_wp2_with fail
  refine (specStateOk_any _ st _ (HS.out.below (Joins.below_alloc1 _ _))).mono ?_
  rintro e w1 ⟨rfl, hb1⟩
  have c0 : w1.cell? ⟨w.heap.size, 0, none⟩ = some (.slice a1 st.1.length q1) := cell_later hb1 (by simp)
  have c1 : w1.cell? ⟨w.heap.size, 1, none⟩ = some (.slice a2 st.2.1.length q2) := cell_later hb1 (by simp)
  have c2 : w1.cell? ⟨w.heap.size, 2, none⟩ = some (.slice a3 st.2.2.length q3) := cell_later hb1 (by simp)
  have HB1 := hide (below_tail (Joins.below_alloc1 w (.cells #[.slice a1 st.1.length q1, .slice a2 st.2.1.length q2, .slice a3 st.2.2.length q3] 26)) hb1)
  clear hb1
  by_cases hok : stOk st = 0
  · have HR := hide (right_of_ok hok)
    have hokb : (stOk st != 0) = false := by simp [hok]
    obtain ⟨l1, l2, l3, l4⟩ := HR.out.lens
    have HF : Hid (shownF st = linesUp st st.2.1.length ++ (bif safeF st then [] else unsafeS)) := by simp [shownF, hok, Hid]
    have HC0 := hide c0
    have HC1 := hide c1
    have HC2 := hide c2
    have hszw : w.heap.size < w1.heap.size := World.block_lt_of_cell? _ _ c1
    have HL4 := hide l4
    clear hok l4
    generalize stOk st = code at *
    go_wp2_with fail
    clear c0 c1 c2
    go_loopw [3, 16] (fun u j wr => ∃ k : Nat, k ≤ st.2.1.length ∧ j = .int .i64 k ∧ u = .string ⟨(linesUp st k).toArray⟩ ∧ Below w1.heap.size w1 wr) (fun _ j _ => st.2.1.length - (intOf j).toNat)
    case atStart => exact ⟨0, Nat.zero_le _, rfl, rfl, Below.refl _ _⟩
    case round =>
      obtain ⟨k, hk, rfl, rfl, hb⟩ := hrel
      have hbw := below_tail HB1.out hb
      by_cases hlt : k < st.2.1.length
      · have HSW := hide (HS.out.below hbw)
        obtain ⟨b, off, rfl, vp, t0, t1, hI, t2⟩ := HSW.out.parts.2.1.trainAt k hlt
        have HP := hide hI
        obtain ⟨ap, cp, rfl, -⟩ := hI
        obtain ⟨nb, noff, rfl, n0⟩ := HSW.out.parts.2.2.cellAt k (by have := HL4.out; omega)
        have d0 := cell_later hb HC0.out
        have d1 := cell_later hb HC1.out
        have d2 := cell_later hb HC2.out
        have HBW := hide hbw
        have HB := hide hb
        obtain ⟨nm, hnm⟩ : ∃ nm : Nat, el st.2.2 k = (nm : Int) := ⟨(el st.2.2 k).toNat, by have := (HR.out.name (i := k) (by have := HL4.out; omega)).1; omega⟩
        have hnm1 : nm ≤ 1000 := by have := (HR.out.name (i := k) (by have := HL4.out; omega)).2; omega
        obtain ⟨ta, hta⟩ : ∃ ta : Nat, tAt st.2.1 k = (ta : Int) := ⟨(tAt st.2.1 k).toNat, by have := (HR.out.train k hlt).1; omega⟩
        have hta1 : ta ≤ 1000 := by have := (HR.out.train k hlt).2.1; omega
        rw [hnm] at n0
        rw [hta] at t0
        have hkn : (k : Int) < (st.2.2.length : Int) := by have := HL4.out; omega
        have hkt : (k : Int) < (st.2.1.length : Int) := by omega
        have hk0 : (0 : Int) ≤ (k : Int) := by omega
        have HNM := hide hnm
        have HTA := hide hta
        have HLN := hide (linesUp_len HR.out k hk)
        clear hb hbw hnm hta
        go_wp2_with fail
        obtain ⟨V, hV⟩ : ∃ V, V = wr.alloc (.cells #[.int .i64 (ta : Int), .slice ap (tPath st.2.1 k).length cp, .int .i64 (tWt st.2.1 k)] 35) := ⟨_, rfl⟩
        rw [← hV]
        have HBV : Hid (Below wr.heap.size wr V) := by rw [hV]; exact Joins.below_alloc1 _ _
        have v0 : V.cell? ⟨wr.heap.size, 0, none⟩ = some (.int .i64 (ta : Int)) := by rw [hV]; simp
        have v1 : V.cell? ⟨wr.heap.size, 1, none⟩ = some (.slice ap (tPath st.2.1 k).length cp) := by rw [hV]; simp
        clear hV
        replace d2 := cell_later HBV.out d2
        replace n0 := cell_later HBV.out n0
        have HV1 := hide v1
        clear d0 d1 t0 t1 t2 v1
        have hAl : (dec (nm : Int)).length ≤ 4 := dec_len (by omega)
        have hTl : (dec (ta : Int)).length ≤ 4 := dec_len (by omega)
        have HHD : Hid (headF st k = (dec (nm : Int) ++ [32, 97, 116, 32]) ++ dec (ta : Int)) := by
          show headF st k = _
          unfold headF atS
          rw [HNM.out, HTA.out]
        have HLNL : Hid ((linesUp st k).length ≤ 440) := by show _ ≤ 440; have := HLN.out; omega
        have hLl : (linesUp st k).length ≤ 440 := HLNL.out
        have HLK : Hid (linesUp st (k + 1) = linesUp st k ++ lineF st k) := rfl
        generalize linesUp st k = L at *
        have z1 : ¬ 9223372036854775807 < (dec (nm : Int)).length + 4 := by omega
        have z2 : ¬ 9223372036854775807 < (dec (nm : Int)).length + 4 + (dec (ta : Int)).length := by omega
        have z3 : ¬ 9223372036854775807 < L.length + ((dec (nm : Int)).length + 4 + (dec (ta : Int)).length) := by omega
        go_region_held3 (fun w' => w'.cell? ⟨w.heap.size, 2, none⟩ = some (.slice (some ⟨nb, noff, none⟩) st.2.2.length q3) ∧ w'.cell? ⟨nb, noff + k, none⟩ = some (.int .i64 (nm : Int)) ∧ w'.cell? ⟨wr.heap.size, 0, none⟩ = some (.int .i64 (ta : Int)))
          (first | (exact ⟨cell_later hb2 (by exact d2), cell_later hb2 (by exact n0), cell_later hb2 (by exact v0)⟩) | ((have hS : _ ∧ _ ∧ _ := (by assumption)); exact ⟨cell_later hb2 (by exact hS.1), cell_later hb2 (by exact hS.2.1), cell_later hb2 (by exact hS.2.2)⟩) | go_keep)
          (first | (go_at_call 51; refine (l4decimal_any _ (by first | exact hnm1 | exact hta1) _).mono ?_; rintro e w2 ⟨rfl, hb2⟩))
        all_goals
          have hbA := (by assumption : Below V.drew.heap.size V.drew _)
          have hbv : Below V.heap.size V w2 := below_tail (below_tail (Joins.below_draws V.heap.size V 1) hbA) hb2
          have hbz : Below wr.heap.size wr w2 := below_tail HBV.out hbv
          have HBZ := hide (below_tail HBW.out hbz)
          have HBZ1 := hide (below_tail HB.out hbz)
          have HP2 := hide (HP.out.below hbz)
          have hstr : (⟨L.toArray⟩ ++ (⟨(dec (nm : Int)).toArray⟩ ++ ⟨#[32, 97, 116, 32]⟩ ++ ⟨(dec (ta : Int)).toArray⟩) : ByteArray) = ⟨(L ++ headF st k).toArray⟩ := by
            rw [HHD.out]
            apply ByteArray.ext
            simp
          rw [hstr]
          have c1 := cell_later hbv HV1.out
          have hHl : (L ++ headF st k).length ≤ 460 := by have := headF_len HR.out hlt; simp; omega
          have e0 := cell_later HBZ1.out HC0.out
          have e1 := cell_later HBZ1.out HC1.out
          have e2 := cell_later HBZ1.out HC2.out
          have HE0 := hide e0
          have HE1 := hide e1
          have HE2 := hide e2
          have HPT := hide ((HR.out.train k hlt).2.2)
          have hpl : (tPath st.2.1 k).length ≤ 8 := HPT.out.1
          have HPL := hide (pathS_len HR.out hlt)
          have HLE := hide (show L ++ lineF st k = ((L ++ headF st k) ++ decsUp (tPath st.2.1 k) (tPath st.2.1 k).length ++ (bif canB st k then [] else waitS ++ decsUp (waitsF st (el st.2.2 k)) (waitsF st (el st.2.2 k)).length)) ++ [10] by unfold lineF; simp)
          have HN2 := hide (cell_later hbv n0)
          clear hbA hb2 hbv hbz hstr e0 e1 e2 d2 n0 v0 z1 z2 z3
          generalize L ++ headF st k = H at *
          go_wp2_with fail
          clear c1
          go_loopw [3, 37] (fun u j wx => ∃ m : Nat, m ≤ (tPath st.2.1 k).length ∧ j = .int .i64 m ∧ u = .string ⟨(H ++ decsUp (tPath st.2.1 k) m).toArray⟩ ∧ Below w2.heap.size w2 wx) (fun _ j _ => (tPath st.2.1 k).length - (intOf j).toNat)
          case atStart => exact ⟨0, Nat.zero_le _, rfl, by simp [decsUp], Below.refl _ _⟩
          case round =>
            obtain ⟨m, hm, rfl, rfl, hbx⟩ := hrel
            by_cases hmt : m < (tPath st.2.1 k).length
            · obtain ⟨pb, poff, hpe, px⟩ := (HP2.out.below hbx).cellAt m hmt
              obtain rfl := hpe
              obtain ⟨x, hxe⟩ : ∃ x : Nat, el (tPath st.2.1 k) m = (x : Int) := ⟨(el (tPath st.2.1 k) m).toNat, by have := (HPT.out.2.2.2 m hmt).1; omega⟩
              have hx1 : x ≤ 1000 := by have := (HPT.out.2.2.2 m hmt).2; omega
              rw [hxe] at px
              have HBX := hide hbx
              have hpm := HPL.out m hm
              have hdx : (dec (x : Int)).length ≤ 4 := dec_len (by omega)
              have hHP : (H ++ decsUp (tPath st.2.1 k) m).length ≤ 500 := by simp; omega
              have HUP : Hid (H ++ decsUp (tPath st.2.1 k) (m + 1) = (H ++ decsUp (tPath st.2.1 k) m) ++ ((32 : UInt8) :: dec (x : Int))) := by
                show H ++ (decsUp (tPath st.2.1 k) m ++ (32 :: dec (el (tPath st.2.1 k) m))) = _
                rw [hxe]
                simp
              have hmi : (m : Int) < ((tPath st.2.1 k).length : Int) := by omega
              clear hbx hxe hpm
              generalize H ++ decsUp (tPath st.2.1 k) m = HP at *
              go_wp2_with fail
              refine (l4decimal_any x hx1 _).mono ?_
              rintro e w3 ⟨rfl, hb3⟩
              have HB3 := hide (below_tail HBX.out hb3)
              clear hb3
              go_wp2_with fail
              go_roundw
              case rel =>
                refine ⟨m + 1, by omega, by go_num, ?_, HB3.out⟩
                rw [HUP.out]
                exact congrArg Value.string (by apply ByteArray.ext; simp)
              case measure => simp [intOf]; omega
            · have hml : m = (tPath st.2.1 k).length := by omega
              subst hml
              have hmi : ¬ (((tPath st.2.1 k).length : Int) < ((tPath st.2.1 k).length : Int)) := by omega
              have HBX := hide (below_tail HBZ.out hbx)
              have HBX1 := hide (below_tail HBZ1.out hbx)
              have hpm := HPL.out _ (Nat.le_refl _)
              have hHP : (H ++ decsUp (tPath st.2.1 k) (tPath st.2.1 k).length).length ≤ 500 := by simp; omega
              have e0 := cell_later hbx HE0.out
              have e1 := cell_later hbx HE1.out
              have e2 := cell_later hbx HE2.out
              have n3 := cell_later hbx HN2.out
              clear hbx hpm
              generalize H ++ decsUp (tPath st.2.1 k) (tPath st.2.1 k).length = H2 at *
              go_wp2_with fail
              refine (l1can_any _ st k _ (HS.out.below HBX.out) HR.out hlt).mono ?_
              rintro e w3 ⟨rfl, hb3⟩
              have HBY := hide (below_tail HBX.out hb3)
              have HBY1 := hide (below_tail HBX1.out hb3)
              replace e0 := cell_later hb3 e0
              replace e1 := cell_later hb3 e1
              replace e2 := cell_later hb3 e2
              replace n3 := cell_later hb3 n3
              clear hb3
              cases hcan : canB st k with
              | true =>
                rw [hcan] at HLE
                clear hcan
                go_wp2_with fail
                go_roundw
                case rel =>
                  refine ⟨k + 1, by omega, by go_num, ?_, HBY1.out⟩
                  rw [HLK.out, HLE.out]
                  exact congrArg Value.string (by apply ByteArray.ext; simp)
                case measure => simp [intOf]; omega
              | false =>
                rw [hcan] at HLE
                clear hcan
                have HWN := hide (waitsF_names HR.out hlt)
                have HWL := hide (waitS_len HR.out hlt)
                have HW5 := hide (waitsF_le st (el st.2.2 k))
                have HWC : Hid (∀ (vv : Value) (W : World), StateAt W vv st → Calls Tryd.prog 52 #[vv, .int .i64 (nm : Int)] W fun e w' => ∃ a q, e = .returned (.slice a (waitsF st (el st.2.2 k)).length q) ∧ IntsAt w' (.slice a (waitsF st (el st.2.2 k)).length q) (waitsF st (el st.2.2 k)) ∧ Below W.heap.size W w') := fun vv W hW => by
                  rw [HNM.out]
                  refine (specWaits_any vv st (nm : Int) W hW).mono ?_
                  rintro e w' ⟨r, rfl, ho, hb⟩
                  obtain ⟨a, q, rfl⟩ := ho.form
                  exact ⟨a, q, rfl, ho.at, hb⟩
                have HSD := hide (HS.out.below (below_tail HBY.out (Joins.below_draws w3.heap.size w3 1)))
                generalize waitsF st (el st.2.2 k) = ws at *
                have hw5 := HW5.out
                have hkn' : (k : Int) < (st.2.2.length : Int) := hkn
                go_wp2_with fail
                go_region_held3 (fun w' => w'.cell? ⟨w.heap.size, 0, none⟩ = some (.slice a1 st.1.length q1) ∧ w'.cell? ⟨w.heap.size, 1, none⟩ = some (.slice (some ⟨b, off, none⟩) st.2.1.length q2) ∧ w'.cell? ⟨w.heap.size, 2, none⟩ = some (.slice (some ⟨nb, noff, none⟩) st.2.2.length q3) ∧ w'.cell? ⟨nb, noff + k, none⟩ = some (.int .i64 (nm : Int)))
                  (first | (exact ⟨cell_later hb4 (by exact e0), cell_later hb4 (by exact e1), cell_later hb4 (by exact e2), cell_later hb4 (by exact n3)⟩) | go_keep)
                  (first | (go_at_call 52; refine (HWC.out _ _ HSD.out).mono ?_; rintro e w4 ⟨ra, rq, rfl, hri, hb4⟩))
                have hstr : (⟨H2.toArray⟩ ++ ⟨#[32, 119, 97, 105, 116, 115, 32, 102, 111, 114]⟩ : ByteArray) = ⟨(H2 ++ waitS).toArray⟩ := by
                  apply ByteArray.ext
                  simp [waitS]
                rw [hstr]
                have hHW : (H2 ++ waitS).length ≤ 510 := by simp [waitS]; omega
                have HB4 := hide (below_tail (below_tail HBY1.out (Joins.below_draws w3.heap.size w3 1)) hb4)
                have HRI := hide hri
                have HLE2 : Hid (L ++ lineF st k = ((H2 ++ waitS) ++ decsUp ws ws.length) ++ [10]) := by
                  show L ++ lineF st k = _
                  rw [HLE.out]
                  simp
                clear hstr hb4 hri e0 e1 e2 n3
                generalize H2 ++ waitS = H3 at *
                go_wp2_with fail
                go_loopw [3, 61] (fun u j wx => ∃ m : Nat, m ≤ ws.length ∧ j = .int .i64 m ∧ u = .string ⟨(H3 ++ decsUp ws m).toArray⟩ ∧ Below w4.heap.size w4 wx) (fun _ j _ => ws.length - (intOf j).toNat)
                case atStart => exact ⟨0, Nat.zero_le _, rfl, by simp [decsUp], Below.refl _ _⟩
                case round =>
                  obtain ⟨m, hm, rfl, rfl, hbx⟩ := hrel
                  by_cases hmt : m < ws.length
                  · obtain ⟨pb, poff, hpe, px⟩ := (HRI.out.below hbx).cellAt m hmt
                    obtain rfl := hpe
                    obtain ⟨x, hxe⟩ : ∃ x : Nat, el ws m = (x : Int) := ⟨(el ws m).toNat, by have := (HWN.out m hmt).1; omega⟩
                    have hx1 : x ≤ 1000 := by have := (HWN.out m hmt).2; omega
                    rw [hxe] at px
                    have HBX := hide hbx
                    have hpm := HWL.out m hm
                    have hdx : (dec (x : Int)).length ≤ 4 := dec_len (by omega)
                    have hHP : (H3 ++ decsUp ws m).length ≤ 600 := by simp; omega
                    have HUP : Hid (H3 ++ decsUp ws (m + 1) = (H3 ++ decsUp ws m) ++ ((32 : UInt8) :: dec (x : Int))) := by
                      show H3 ++ (decsUp ws m ++ (32 :: dec (el ws m))) = _
                      rw [hxe]
                      simp
                    have hmi : (m : Int) < (ws.length : Int) := by omega
                    clear hbx hxe hpm
                    generalize H3 ++ decsUp ws m = HP at *
                    go_wp2_with fail
                    refine (l4decimal_any x hx1 _).mono ?_
                    rintro e w5 ⟨rfl, hb5⟩
                    have HB5 := hide (below_tail HBX.out hb5)
                    clear hb5
                    go_wp2_with fail
                    go_roundw
                    case rel =>
                      refine ⟨m + 1, by omega, by go_num, ?_, HB5.out⟩
                      rw [HUP.out]
                      exact congrArg Value.string (by apply ByteArray.ext; simp)
                    case measure => simp [intOf]; omega
                  · have hml : m = ws.length := by omega
                    subst hml
                    have hmi : ¬ ((ws.length : Int) < (ws.length : Int)) := by omega
                    have HBX := hide (below_tail HB4.out hbx)
                    have hpm := HWL.out _ (Nat.le_refl _)
                    have hHP : (H3 ++ decsUp ws ws.length).length ≤ 600 := by simp; omega
                    clear hbx hpm
                    generalize H3 ++ decsUp ws ws.length = H4 at *
                    go_wp2_with fail
                    go_roundw
                    case rel =>
                      refine ⟨k + 1, by omega, by go_num, ?_, HBX.out⟩
                      rw [HLK.out, HLE2.out]
                      exact congrArg Value.string (by apply ByteArray.ext; simp)
                    case measure => simp [intOf]; omega
      · have hkl : k = st.2.1.length := by omega
        subst hkl
        have hki : ¬ ((st.2.1.length : Int) < (st.2.1.length : Int)) := by omega
        have e0 := cell_later hb HC0.out
        have e1 := cell_later hb HC1.out
        have e2 := cell_later hb HC2.out
        have HBW := hide hbw
        have hLl : (linesUp st st.2.1.length).length ≤ 440 := by have := linesUp_len HR.out st.2.1.length (Nat.le_refl _); omega
        clear hb hbw
        generalize linesUp st st.2.1.length = L at *
        go_wp2_with fail
        refine (specSafe_any _ st _ (HS.out.below HBW.out)).mono ?_
        rintro e w3 ⟨rfl, hb3⟩
        have HBY := hide (below_tail HBW.out hb3)
        clear hb3
        cases hsf : safeF st with
        | true =>
          rw [hsf] at HF
          clear hsf
          go_wp2_with fail
          go_ret
          exact ⟨by rw [HF.out]; simp, HBY.out⟩
        | false =>
          rw [hsf] at HF
          clear hsf
          go_wp2_with fail
          go_ret
          refine ⟨?_, HBY.out⟩
          rw [HF.out]
          exact congrArg (fun b => Ending.returned (Value.string b)) (by apply ByteArray.ext; simp [unsafeS])
  · have hokb : (stOk st != 0) = true := by simp [hok]
    have HF : Hid (shownF st = []) := by simp [shownF, hok, Hid]
    clear hok
    generalize stOk st = code at *
    go_wp2_with fail
    go_ret
    exact ⟨by rw [HF.out]; rfl, HB1.out⟩
end Go.Proofs.YtmjjigdnoiphbaaDoor
