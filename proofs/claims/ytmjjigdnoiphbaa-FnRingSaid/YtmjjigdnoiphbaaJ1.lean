import Derived.WalkKit
import Derived.WalkSpells
import Derived.Lib.SmallJoins
import Derived.Test.YtmjjigdnoiphbaaProg
import Derived.BigQuiet
import Derived.Deep.QuietTactic
import Derived.Outline
import Derived.Deep.OwnRows
import Derived.LoopTactic
import Derived.Deep.RegionHeld3
/-
  THE WORDS OF THIS PROOF: how a slice of integers, a slice of trains and a state lie in memory. No program here.
-/
namespace Go.Proofs.Ytmjjigdnoiphbaa
open Go.RowKit Go.Deep

abbrev Tr : Type := Int × List Int × Int
abbrev St : Type := List Int × List Tr × List Int

def el (xs : List Int) (i : Nat) : Int := xs[i]?.getD 0
def tAt (ts : List Tr) (i : Nat) : Int := (ts[i]?.getD (0, [], 0)).1
def tPath (ts : List Tr) (i : Nat) : List Int := (ts[i]?.getD (0, [], 0)).2.1
def tWt (ts : List Tr) (i : Nat) : Int := (ts[i]?.getD (0, [], 0)).2.2

/-- the slice v reads in w as the integers xs -/
def IntsAt (w : World) (v : Value) (xs : List Int) : Prop :=
  ∃ a cap, v = .slice a xs.length cap ∧ ∀ i, i < xs.length → ∃ b off, a = some ⟨b, off, none⟩ ∧ w.cell? ⟨b, off + i, none⟩ = some (.int .i64 (el xs i))

/-- the three cells of a train -/
def TrainAt (w : World) (b o : Nat) (x : Int) (p : List Int) (y : Int) : Prop :=
  ∃ v, w.cell? ⟨b, o, none⟩ = some (.int .i64 x) ∧ w.cell? ⟨b, o + 1, none⟩ = some v ∧ IntsAt w v p ∧ w.cell? ⟨b, o + 2, none⟩ = some (.int .i64 y)

def TrainsAt (w : World) (v : Value) (ts : List Tr) : Prop :=
  ∃ a cap, v = .slice a ts.length cap ∧ ∀ i, i < ts.length → ∃ b off, a = some ⟨b, off, none⟩ ∧ TrainAt w b (off + i * 3) (tAt ts i) (tPath ts i) (tWt ts i)

def StateAt (w : World) (v : Value) (st : St) : Prop :=
  ∃ r t n, v = .agg #[r, t, n] ∧ IntsAt w r st.1 ∧ TrainsAt w t st.2.1 ∧ IntsAt w n st.2.2

theorem IntsAt.below {w w' : World} {v : Value} {xs : List Int} (h : IntsAt w v xs) (hb : Below w.heap.size w w') : IntsAt w' v xs := by
  obtain ⟨a, cap, rfl, h⟩ := h
  exact ⟨a, cap, rfl, fun i hi => let ⟨b, off, e, hc⟩ := h i hi; ⟨b, off, e, cell_later hb hc⟩⟩

theorem TrainAt.below {w w' : World} {b o : Nat} {x : Int} {p : List Int} {y : Int} (h : TrainAt w b o x p y) (hb : Below w.heap.size w w') : TrainAt w' b o x p y := by
  obtain ⟨v, h1, h2, h3, h4⟩ := h
  exact ⟨v, cell_later hb h1, cell_later hb h2, h3.below hb, cell_later hb h4⟩

theorem TrainsAt.below {w w' : World} {v : Value} {ts : List Tr} (h : TrainsAt w v ts) (hb : Below w.heap.size w w') : TrainsAt w' v ts := by
  obtain ⟨a, cap, rfl, h⟩ := h
  exact ⟨a, cap, rfl, fun i hi => let ⟨b, off, e, hc⟩ := h i hi; ⟨b, off, e, hc.below hb⟩⟩

theorem StateAt.below {w w' : World} {v : Value} {st : St} (h : StateAt w v st) (hb : Below w.heap.size w w') : StateAt w' v st := by
  obtain ⟨r, t, n, rfl, h1, h2, h3⟩ := h
  exact ⟨r, t, n, rfl, h1.below hb, h2.below hb, h3.below hb⟩

theorem hide {p : Prop} (h : p) : Hid p := h

theorem bcell {W w1 : World} {B : Nat} (hb : Below B W w1) : (∀ b o, b < B → w1.cell? ⟨b, o, none⟩ = W.cell? ⟨b, o, none⟩) ∧ (∀ b o, b < B → w1.frozen? ⟨b, o, none⟩ = W.frozen? ⟨b, o, none⟩) :=
  ⟨fun b o h => hb.cell (p := ⟨b, o, none⟩) h, fun b o h => hb.frozen (p := ⟨b, o, none⟩) h⟩

theorem below_tail {w w1 w2 : World} (h1 : Below w.heap.size w w1) (h2 : Below w1.heap.size w1 w2) : Below w.heap.size w w2 := h1.trans (h2.mono h1.size)
end Go.Proofs.Ytmjjigdnoiphbaa

/-
  CHAPTER 1 IN PLAIN MATHEMATICS: what a right state is. No program here.
-/
namespace Go.Proofs.Ytmjjigdnoiphbaa

def inR (x a b : Int) : Bool := decide (a ≤ x) && decide (x ≤ b)
/-- f holds of all below n -/
def allUp (n : Nat) (f : Nat → Bool) : Bool := (List.range n).all f
theorem allUp_true {n : Nat} {f : Nat → Bool} (h : ∀ i, i < n → f i = true) : allUp n f = true := by simpa [allUp] using h
theorem allUp_false {n : Nat} {f : Nat → Bool} (i : Nat) (hi : i < n) (h : f i = false) : allUp n f = false := by
  rw [Bool.eq_false_iff]; intro e
  have := (by simpa [allUp] using e : ∀ i, i < n → f i = true) i hi
  rw [h] at this; cases this
theorem allUp_at {n : Nat} {f : Nat → Bool} (h : allUp n f = true) (i : Nat) (hi : i < n) : f i = true := (by simpa [allUp] using h : ∀ i, i < n → f i = true) i hi

def roomsB (rs : List Int) : Bool := allUp rs.length (fun i => inR (el rs i) 1 5)
/-- the section ahead of the j-th of a path -/
def prev (x : Int) (p : List Int) : Nat → Int
  | 0 => x
  | j + 1 => el p j
def stepB (n : Int) (x : Int) (p : List Int) (j : Nat) : Bool := inR (el p j) 0 (n - 1) && !(el p j == prev x p j)
def pathB (n : Int) (x : Int) (p : List Int) : Bool := allUp p.length (stepB n x p)
def trainB (n : Int) (x : Int) (p : List Int) (y : Int) : Bool := inR x 0 (n - 1) && (decide (p.length ≤ 8) && (inR y 1 100 && pathB n x p))
def trainsB (n : Int) (ts : List Tr) : Bool := allUp ts.length (fun i => trainB n (tAt ts i) (tPath ts i) (tWt ts i))
def nameB (ns : List Int) (i : Nat) : Bool := inR (el ns i) 0 1000 && (decide (i = 0) || decide (el ns (i - 1) < el ns i))
def namesB (ns : List Int) : Bool := allUp ns.length (nameB ns)
def thereUp (ts : List Tr) (s : Int) : Nat → Nat
  | 0 => 0
  | k + 1 => thereUp ts s k + if tAt ts k = s then 1 else 0
/-- how many trains are on a section -/
def there (ts : List Tr) (s : Int) : Nat := thereUp ts s ts.length
theorem thereUp_le (ts : List Tr) (s : Int) : ∀ k, thereUp ts s k ≤ k
  | 0 => Nat.le_refl _
  | k + 1 => by have := thereUp_le ts s k; unfold thereUp; split <;> omega
def fitsB (rs : List Int) (ts : List Tr) : Bool := allUp rs.length (fun i => decide ((there ts (i : Int) : Int) ≤ el rs i))
def sizesB (st : St) : Bool := inR st.1.length 1 40 && (decide (st.2.1.length ≤ 5) && decide (st.2.2.length = st.2.1.length))
/-- StateOk -/
def stOk (st : St) : Int :=
  bif !sizesB st then 1 else bif !roomsB st.1 then 2 else bif !trainsB st.1.length st.2.1 then 3 else bif !namesB st.2.2 then 4 else bif !fitsB st.1 st.2.1 then 5 else 0
end Go.Proofs.Ytmjjigdnoiphbaa

/-
  THE SMALL WALKS.
-/
namespace Go.Proofs.Ytmjjigdnoiphbaa
open Go.RowKit Go.Deep
set_option linter.unusedVariables false

theorem l1in_any (x a b : Int) (w : World) : Calls Try.prog 65 #[.int .i64 x, .int .i64 a, .int .i64 b] w fun e w' => e = .returned (.bool (inR x a b)) ∧ w = w' := by
  unfold inR
  by_cases h1 : a ≤ x <;> by_cases h2 : x ≤ b
  all_goals
    go_enter Try.func65, Try.ntmps65
    go_wp2
    all_goals go_ret
    all_goals simp [h1, h2]

theorem inRange_any (x a b : Int) (w : World) : Calls Try.prog 100 #[.int .i64 x, .int .i64 a, .int .i64 b] w fun e w' => e = .returned (.bool (inR x a b)) ∧ w = w' := by
  unfold inR
  by_cases h1 : a ≤ x <;> by_cases h2 : x ≤ b
  all_goals
    go_enter Try.func100, Try.ntmps100
    go_wp2
    all_goals go_ret
    all_goals simp [h1, h2]

theorem szIntS_any (a : Option Addr) (len cap : Nat) (left : Int) (w : World) (hl : len ≤ 9223372036854775807) (h0 : 0 ≤ left) (h1 : left ≤ 1048576) :
    Calls Try.prog 63 #[.slice a len cap, .int .i64 left] w fun e w' => e = .returned (.int .i64 (if left - len < 0 then -1 else left - len)) ∧ w' = w := by
  by_cases h : left - len < 0
  all_goals
    go_enter Try.func63, Try.ntmps63
    go_wp2
    all_goals go_ret
    all_goals simp
end Go.Proofs.Ytmjjigdnoiphbaa

/-
  toIntS, eqIntS.
-/
namespace Go.Proofs.Ytmjjigdnoiphbaa
open Go.RowKit Go.Deep
set_option linter.unusedVariables false

theorem Try.infoInt : (Try.prog.info? 3).map (fun i => (i.zero, i.size, i.bytes)) = some (some (.int .i64 0), 1, 8) := by kernel_rfl

set_option maxHeartbeats 400000 in
theorem toIntS_any (v : Value) (xs : List Int) (w : World) (h : IntsAt w v xs) (hl : xs.length ≤ 1048576) :
    Calls Try.prog 67 #[v] w fun e w' => e = .returned (.slice (some ⟨w.heap.size, 0, none⟩) xs.length xs.length) ∧ w'.rowIs w.heap.size 3 xs.length (fun i => .int .i64 (el xs i)) ∧ w'.heap.size = w.heap.size + 1 ∧ Below w.heap.size w w' := by
  obtain ⟨a, cap, rfl, h⟩ := h
  generalize hn : xs.length = n at *
  clear hn
  have hmk := run_make_row' (P := Try.prog) 23 3 (.int .i64 0) 8 Try.underlying23 Try.infoInt rfl .i64 .i64 n (by omega) (by omega)
  go_enter Try.func67, Try.ntmps67
  go_wp2
  clear hmk
  go_loopw [4] (fun i wr => ∃ k : Nat, k ≤ n ∧ i = .int .i64 k ∧ wr.rowIs w.heap.size 3 n (fun j => .int .i64 (if j < k then el xs j else 0)) ∧ wr.heap.size = w.heap.size + 1 ∧ Below w.heap.size w wr) (fun i _ => n - (intOf i).toNat)
  case atStart => exact ⟨0, Nat.zero_le _, rfl, by simpa using World.rowIs_made w (.int .i64 0) n 3, by simp, (Below.refl _ _).alloc (Nat.le_refl _) _⟩
  case round =>
    obtain ⟨k, hk, rfl, hrow, hsz, hb⟩ := hrel
    by_cases hlt : k < n
    · obtain ⟨b, off, rfl, hc⟩ := h k hlt
      have hc1 := cell_later hb hc
      have hfr := hrow.frozen k
      have hold := hrow.cell hlt
      have HR : Hid (wr.rowIs w.heap.size 3 n (fun j => .int .i64 (if j < k then el xs j else 0))) := hrow
      have HZ : Hid (wr.heap.size = w.heap.size + 1) := hsz
      clear hrow hsz h hc
      go_wp2
      go_roundw
      case rel =>
        refine ⟨k + 1, by omega, by go_num, (HR.out.set k _).congr (fun j _ => ?_), by simpa using HZ.out, hb.setCell (Nat.le_refl _) _⟩
        by_cases e : j = k
        · subst e; simp
        · have : (j < k + 1) = (j < k) := by simp only [eq_iff_iff]; omega
          simp [e, this]
      case measure => simp [intOf]; omega
    · go_wp2
      go_ret
      exact ⟨rfl, hrow.congr (fun j hj => by rw [if_pos (by omega)]), hsz, hb⟩

theorem el_ext {xs ys : List Int} (hl : xs.length = ys.length) (h : ∀ j, j < ys.length → el xs j = el ys j) : xs = ys := by
  apply List.ext_getElem hl
  intro i h1 h2
  have := h i h2
  simpa [el, h1, h2] using this

theorem drewN_drewN (w : World) (m n : Nat) : (w.drewN m).drewN n = w.drewN (m + n) := by simp [World.drewN, Nat.add_assoc]

set_option maxHeartbeats 400000 in
theorem eqIntS_any (v u : Value) (xs ys : List Int) (w : World) (h : IntsAt w v xs) (h' : IntsAt w u ys) (hl' : ys.length ≤ 9223372036854775807) :
    Calls Try.prog 39 #[v, u] w fun e w' => e = .returned (.bool (decide (xs = ys))) ∧ ∃ n, w' = w.drewN n := by
  obtain ⟨a, cap, rfl, h⟩ := h
  obtain ⟨a', cap', rfl, h'⟩ := h'
  have HX : Hid (xs.length = xs.length) := rfl
  have HY : Hid (ys.length = ys.length) := rfl
  by_cases hlen : xs.length = ys.length
  · rw [hlen] at h
    have HL : Hid (xs.length = ys.length) := hlen
    rw [hlen]
    have HE : Hid ((∀ j, j < ys.length → el xs j = el ys j) → xs = ys) := el_ext hlen
    generalize ys.length = n at h h' hl' HE ⊢
    clear hlen HX HY HL
    go_enter Try.func39, Try.ntmps39
    go_wp2
    go_loopw [5] (fun i wr => ∃ k : Nat, k ≤ n ∧ i = .int .i64 k ∧ Hid (∀ j, j < k → el xs j = el ys j) ∧ ∃ m, wr = w.drewN m) (fun i _ => n - (intOf i).toNat)
    case atStart => exact ⟨0, Nat.zero_le _, rfl, fun j hj => absurd hj (Nat.not_lt_zero _), 0, rfl⟩
    case round =>
      obtain ⟨k, hk, rfl, hall, m, rfl⟩ := hrel
      by_cases hlt : k < n
      · obtain ⟨b, off, rfl, hc⟩ := h k hlt
        obtain ⟨b', off', rfl, hc'⟩ := h' k hlt
        clear h h'
        by_cases he : el xs k = el ys k
        · have heb : (el xs k != el ys k) = false := by simp [he]
          have HE2 : Hid (el xs k = el ys k) := he
          clear he
          go_wp2
          go_quiet (fail)
          go_wp2
          go_roundw
          case rel => exact ⟨k + 1, by omega, by go_num, fun j hj => by
            by_cases e : j = k
            · subst e; exact HE2.out
            · exact hall.out j (by omega), _, rfl⟩
          case measure => simp [intOf]; omega
        · have heb : (el xs k != el ys k) = true := by simp [he]
          have HE2 : Hid (¬ el xs k = el ys k) := he
          clear he
          go_wp2
          go_quiet (fail)
          go_wp2
          go_ret
          exact ⟨by simp; intro e; subst e; exact HE2.out rfl, _, drewN_drewN _ _ _⟩
      · go_wp2
        go_ret
        have : xs = ys := HE.out (fun j hj => hall.out j (by omega))
        exact ⟨by simp [this], _, rfl⟩
  · have hlb : ((xs.length : Int) != (ys.length : Int)) = true := by simp; omega
    have HN : Hid (¬ xs = ys) := fun e => hlen (by rw [e])
    clear HX HY
    generalize xs.length = n at *
    go_enter Try.func39, Try.ntmps39
    go_wp2
    go_ret
    exact ⟨by simp [HN.out], 0, rfl⟩
end Go.Proofs.Ytmjjigdnoiphbaa

/-
  szTrain, szTrainS, szState.
-/
namespace Go.Proofs.Ytmjjigdnoiphbaa
open Go.RowKit Go.Deep
set_option linter.unusedVariables false

theorem szIntS_yes (a : Option Addr) (len cap : Nat) (left : Int) (w : World) (hl : len ≤ 9223372036854775807) (h1 : left ≤ 1048576) (h : (len : Int) ≤ left) :
    Calls Try.prog 63 #[.slice a len cap, .int .i64 left] w fun e w' => e = .returned (.int .i64 (left - len)) ∧ w' = w :=
  (szIntS_any a len cap left w hl (by omega) h1).mono fun e w' ⟨he, hw⟩ => ⟨by rw [he, if_neg (by omega)], hw⟩

theorem szIntS_no (a : Option Addr) (len cap : Nat) (left : Int) (w : World) (hl : len ≤ 9223372036854775807) (h0 : 0 ≤ left) (h1 : left ≤ 1048576) (h : left < len) :
    Calls Try.prog 63 #[.slice a len cap, .int .i64 left] w fun e w' => e = .returned (.int .i64 (-1)) ∧ w' = w :=
  (szIntS_any a len cap left w hl h0 h1).mono fun e w' ⟨he, hw⟩ => ⟨by rw [he, if_pos (by omega)], hw⟩

theorem szTrain_yes (x y : Int) (a : Option Addr) (len cap : Nat) (left : Int) (w : World) (hl : len ≤ 9223372036854775807) (h1 : left ≤ 1048576) (h : (len : Int) ≤ left) :
    Calls Try.prog 98 #[.agg #[.int .i64 x, .slice a len cap, .int .i64 y], .int .i64 left] w fun e w' => e = .returned (.int .i64 (left - len)) ∧ Below w.heap.size w w' := by
  go_enter Try.func98, Try.ntmps98
  go_wp2_with (go_at_call 63; refine (szIntS_yes _ _ _ _ _ hl h1 h).mono ?_; rintro e w' ⟨rfl, rfl⟩)
  go_ret
  exact ⟨rfl, Joins.below_alloc1 _ _⟩

theorem szTrain_no (x y : Int) (a : Option Addr) (len cap : Nat) (left : Int) (w : World) (hl : len ≤ 9223372036854775807) (h0 : 0 ≤ left) (h1 : left ≤ 1048576) (h : left < len) :
    Calls Try.prog 98 #[.agg #[.int .i64 x, .slice a len cap, .int .i64 y], .int .i64 left] w fun e w' => e = .returned (.int .i64 (-1)) ∧ Below w.heap.size w w' := by
  go_enter Try.func98, Try.ntmps98
  go_wp2_with (go_at_call 63; refine (szIntS_no _ _ _ _ _ hl h0 h1 h).mono ?_; rintro e w' ⟨rfl, rfl⟩)
  go_ret
  exact ⟨rfl, Joins.below_alloc1 _ _⟩

set_option maxHeartbeats 800000 in
theorem szTrainS_any (v : Value) (ts : List Tr) (left : Int) (w : World) (h : TrainsAt w v ts) (hl : ts.length ≤ 9223372036854775807) (hp : ∀ i, i < ts.length → (tPath ts i).length ≤ 9223372036854775807) (h0 : 0 ≤ left) (h1 : left ≤ 1048576) :
    Calls Try.prog 64 #[v, .int .i64 left] w fun e w' => ∃ r, e = .returned (.int .i64 r) ∧ (r < 0 ∨ (0 ≤ r ∧ r ≤ left ∧ ts.length ≤ left ∧ ∀ i, i < ts.length → (tPath ts i).length ≤ left)) ∧ Below w.heap.size w w' := by
  obtain ⟨a, cap, rfl, h⟩ := h
  generalize ts.length = n at *
  by_cases hlt0 : left - n < 0
  · go_enter Try.func64, Try.ntmps64
    go_wp2
    go_ret
    exact ⟨_, rfl, Or.inl (by omega), Below.refl _ _⟩
  · go_enter Try.func64, Try.ntmps64
    go_wp2
    go_loopw [1, 5] (fun l i wr => ∃ k : Nat, ∃ lf : Int, k ≤ n ∧ i = .int .i64 k ∧ l = .int .i64 lf ∧ 0 ≤ lf ∧ lf ≤ left ∧ Hid (∀ j, j < k → (tPath ts j).length ≤ left) ∧ Below w.heap.size w wr) (fun _ i _ => n - (intOf i).toNat)
    case atStart => exact ⟨0, _, Nat.zero_le _, rfl, rfl, by omega, by omega, fun j hj => absurd hj (Nat.not_lt_zero _), Below.refl _ _⟩
    case round =>
      obtain ⟨k, lf, hk, rfl, rfl, hf0, hf1, hall, hb⟩ := hrel
      by_cases hlt : k < n
      · obtain ⟨b, off, rfl, vp, hc1, hc2, ⟨ap, cp, rfl, _⟩, hc3⟩ := h k hlt
        have g1 := cell_later hb hc1
        have g2 := cell_later hb hc2
        have g3 := cell_later hb hc3
        have hpk := hp k hlt
        clear hc1 hc2 hc3 h hp
        by_cases hneg : lf < (tPath ts k).length
        · go_wp2_with (go_at_call 98; refine (szTrain_no _ _ _ _ _ _ _ hpk hf0 (by omega) hneg).mono ?_; rintro e w' ⟨rfl, hb'⟩)
          go_ret
          exact ⟨-1, rfl, Or.inl (by omega), below_tail hb hb'⟩
        · have hyes : ((tPath ts k).length : Int) ≤ lf := by omega
          go_wp2_with (go_at_call 98; refine (szTrain_yes _ _ _ _ _ _ _ hpk (by omega) hyes).mono ?_; rintro e w' ⟨rfl, hb'⟩)
          go_roundw
          case rel => exact ⟨k + 1, lf - (tPath ts k).length, by omega, by go_num, rfl, by omega, by omega, fun j hj => by
            by_cases e : j = k
            · subst e; omega
            · exact hall.out j (by omega), below_tail hb hb'⟩
          case measure => simp [intOf]; omega
      · go_wp2
        go_ret
        exact ⟨_, rfl, Or.inr ⟨hf0, hf1, by omega, fun i hi => hall.out i (by omega)⟩, hb⟩

set_option maxHeartbeats 800000 in
theorem szState_any (v : Value) (st : St) (w : World) (h : StateAt w v st) (hr : st.1.length ≤ 9223372036854775807) (hl : st.2.1.length ≤ 9223372036854775807) (hn : st.2.2.length ≤ 9223372036854775807) (hp : ∀ i, i < st.2.1.length → (tPath st.2.1 i).length ≤ 9223372036854775807) :
    Calls Try.prog 32 #[v, .int .i64 1048576] w fun e w' => ∃ r, e = .returned (.int .i64 r) ∧ (r < 0 ∨ (0 ≤ r ∧ st.1.length ≤ 1048576 ∧ st.2.2.length ≤ 1048576 ∧ st.2.1.length ≤ 1048576 ∧ ∀ i, i < st.2.1.length → (tPath st.2.1 i).length ≤ 1048576)) ∧ Below w.heap.size w w' := by
  obtain ⟨vr, vt, vn, rfl, ⟨ar, cr, rfl, hR⟩, hT, ⟨an, cn, rfl, hN⟩⟩ := h
  obtain ⟨rs, ts, ns⟩ := st
  obtain ⟨at', ct, hvt, hT'⟩ := hT
  have hT : TrainsAt w vt ts := ⟨at', ct, hvt, hT'⟩
  subst hvt
  clear hT' hR hN
  simp only at *
  by_cases h1 : (1048576 : Int) < rs.length
  · go_enter Try.func32, Try.ntmps32
    go_wp2_with (go_at_call 63; refine (szIntS_no _ _ _ _ _ hr (by omega) (by omega) h1).mono ?_; rintro e w' ⟨rfl, rfl⟩)
    go_ret
    exact ⟨-1, rfl, Or.inl (by omega), Joins.below_alloc1 _ _⟩
  · have h1' : (rs.length : Int) ≤ 1048576 := by omega
    go_enter Try.func32, Try.ntmps32
    go_wp2_with fail
    refine (szIntS_yes _ _ _ _ _ hr (by omega) h1').mono ?_
    rintro e w' ⟨rfl, rfl⟩
    go_wp2_with fail
    refine (szTrainS_any _ ts _ _ (hT.below (Joins.below_alloc1 _ _)) hl hp (by omega) (by omega)).mono ?_
    rintro e w' ⟨r, rfl, hr', hb⟩
    have hbb := below_tail (Joins.below_alloc1 w (.cells #[.slice ar rs.length cr, .slice at' ts.length ct, .slice an ns.length cn] 45)) hb
    have hc3 : w'.cell? ⟨w.heap.size, 2, none⟩ = some (.slice an ns.length cn) := by
      rw [hb.cell (by simp)]; simp
    by_cases h2 : r < 0
    · go_wp2_with fail
      go_ret
      exact ⟨-1, rfl, Or.inl (by omega), hbb⟩
    · have h2' : 0 ≤ r := by omega
      by_cases h3 : r < ns.length
      · go_wp2_with fail
        refine (szIntS_no _ _ _ _ _ hn h2' (by omega) h3).mono ?_
        rintro e w' ⟨rfl, rfl⟩
        go_wp2_with fail
        go_ret
        exact ⟨-1, rfl, Or.inl (by omega), hbb⟩
      · have h3' : (ns.length : Int) ≤ r := by omega
        go_wp2_with fail
        refine (szIntS_yes _ _ _ _ _ hn (by omega) h3').mono ?_
        rintro e w' ⟨rfl, rfl⟩
        go_wp2_with fail
        go_ret
        rcases hr' with hr' | ⟨_, _, q1, q2⟩
        · omega
        · exact ⟨_, rfl, Or.inr ⟨by omega, by omega, by omega, by omega, fun i hi => by have := q2 i hi; omega⟩, hbb⟩
end Go.Proofs.Ytmjjigdnoiphbaa

/-
  toTrain, toTrainS, toState.
-/
namespace Go.Proofs.Ytmjjigdnoiphbaa
open Go.RowKit Go.Deep
set_option linter.unusedVariables false

set_option maxHeartbeats 800000 in
theorem toTrain_any (x y : Int) (a : Option Addr) (len cap : Nat) (p : List Int) (w : World) (h : IntsAt w (.slice a len cap) p) (hl : p.length ≤ 1048576) :
    Calls Try.prog 99 #[.agg #[.int .i64 x, .slice a len cap, .int .i64 y]] w fun e w' => e = .returned (.agg #[.int .i64 x, .slice (some ⟨w.heap.size + 3, 0, none⟩) p.length p.length, .int .i64 y]) ∧ w'.rowIs (w.heap.size + 3) 3 p.length (fun i => .int .i64 (el p i)) ∧ w'.heap.size = w.heap.size + 4 ∧ Below w.heap.size w w' := by
  go_enter Try.func99, Try.ntmps99
  go_wp2_with fail
  refine (toIntS_any _ p _ (h.below (Joins.below_alloc3 _ _ _ _)) hl).mono ?_
  rintro e w1 ⟨rfl, hrow, hsz, hb⟩
  have hbw := below_tail (Joins.below_alloc3 w (.cells #[.int .i64 x, .slice a len cap, .int .i64 y] 120) (.cells #[.int .i64 0, .slice none 0 0, .int .i64 0] 39) (.cells #[.int .i64 x, .slice none 0 0, .int .i64 0] 39)) hb
  simp only [World.size_alloc] at hrow hsz hb
  obtain ⟨hc, hf⟩ := bcell hb
  have HB := hide hbw
  have HR := hide hrow
  have HZ := hide hsz
  clear hb hrow hsz hbw h
  go_wp2_with fail
  refine bodyPost_ret (v := .agg #[.int .i64 x, .slice (some ⟨w.heap.size + 3, 0, none⟩) p.length p.length, .int .i64 y]) (by simp [results, Try.results99, go_sem, hc]) rfl ⟨rfl, ?_, ?_, ?_⟩
  · exact ((((HR.out.setOther (by simp) _).setOther (by simp) _).setOther (by simp; omega) _).setOther (by simp; omega) _).setOther (by simp; omega) _
  · simpa using HZ.out
  · exact ((((HB.out.setCell (by simp; omega) _).setCell (by simp; omega) _).setCell (by simp) _).setCell (by simp) _).setCell (by simp) _

theorem Try.infoTrain : (Try.prog.info? 39).map (fun i => (i.zero, i.size, i.bytes)) = some (some (.agg #[.int .i64 0, .slice none 0 0, .int .i64 0]), 3, 40) := by kernel_rfl

/-- the cells of a row of trains of the call's own, whose paths lie in every fourth block behind it -/
def trCell (B : Nat) (ts : List Tr) (j : Nat) : Value :=
  if j % 3 = 0 then .int .i64 (tAt ts (j / 3)) else if j % 3 = 1 then .slice (some ⟨B + 4 * (j / 3 + 1), 0, none⟩) (tPath ts (j / 3)).length (tPath ts (j / 3)).length else .int .i64 (tWt ts (j / 3))
def zCell (j : Nat) : Value := if j % 3 = 1 then .slice none 0 0 else .int .i64 0

theorem trCell0 (B : Nat) (ts : List Tr) (k : Nat) : trCell B ts (k * 3) = .int .i64 (tAt ts k) := by
  unfold trCell; rw [if_pos (by omega), show k * 3 / 3 = k by omega]
theorem trCell1 (B : Nat) (ts : List Tr) (k : Nat) : trCell B ts (k * 3 + 1) = .slice (some ⟨B + 4 * (k + 1), 0, none⟩) (tPath ts k).length (tPath ts k).length := by
  unfold trCell; rw [if_neg (by omega), if_pos (by omega), show (k * 3 + 1) / 3 = k by omega]
theorem trCell2 (B : Nat) (ts : List Tr) (k : Nat) : trCell B ts (k * 3 + 2) = .int .i64 (tWt ts k) := by
  unfold trCell; rw [if_neg (by omega), if_neg (by omega), show (k * 3 + 2) / 3 = k by omega]

theorem rowIs_madeTrains (w : World) (n : Nat) : (w.alloc (.cells (madeCells #[.int .i64 0, .slice none 0 0, .int .i64 0] (n * 3)) 39)).rowIs w.heap.size 39 (n * 3) zCell :=
  ⟨_, blk_alloc_new _ _, size_madeCells _ _, fun i hi => by
    have h3 : i % 3 = 0 ∨ i % 3 = 1 ∨ i % 3 = 2 := by omega
    rcases h3 with h | h | h <;> simp [madeCells, hi, zCell, h]⟩

/-- where toTrainS stands behind k rounds -/
def TsMade (B n k : Nat) (ts : List Tr) (w : World) : Prop :=
  w.rowIs B 39 (n * 3) (fun j => if j < k * 3 then trCell B ts j else zCell j) ∧ w.heap.size = B + 1 + 4 * k ∧
    ∀ i, i < k → w.rowIs (B + 4 * (i + 1)) 3 (tPath ts i).length (fun j => .int .i64 (el (tPath ts i) j))

theorem TsMade.step {B n k : Nat} {ts : List Tr} {wr w1 : World} (h : TsMade B n k ts wr) (hk : k < n) (hb : Below wr.heap.size wr w1) (hz : w1.heap.size = wr.heap.size + 4)
    (hp : w1.rowIs (wr.heap.size + 3) 3 (tPath ts k).length (fun j => .int .i64 (el (tPath ts k) j))) :
    TsMade B n (k + 1) ts (((w1.setCell ⟨B, k * 3, none⟩ (.int .i64 (tAt ts k))).setCell ⟨B, k * 3 + 1, none⟩ (.slice (some ⟨wr.heap.size + 3, 0, none⟩) (tPath ts k).length (tPath ts k).length)).setCell ⟨B, k * 3 + 2, none⟩ (.int .i64 (tWt ts k))) := by
  obtain ⟨h1, h2, h3⟩ := h
  have e4 : wr.heap.size + 3 = B + 4 * (k + 1) := by omega
  rw [e4] at hp ⊢
  refine ⟨?_, by simp [World.setCell]; omega, fun i hi => ?_⟩
  · have h1' : w1.rowIs B 39 (n * 3) (fun j => if j < k * 3 then trCell B ts j else zCell j) := h1.of_block (hb.block B (by omega))
    refine (((h1'.set (k * 3) _).set (k * 3 + 1) _).set (k * 3 + 2) _).congr (fun j _ => ?_)
    by_cases e2 : j = k * 3 + 2
    · subst e2; rw [if_pos rfl, if_pos (by omega), trCell2]
    · rw [if_neg e2]
      by_cases e1 : j = k * 3 + 1
      · subst e1; rw [if_pos rfl, if_pos (by omega), trCell1]
      · rw [if_neg e1]
        by_cases e0 : j = k * 3
        · subst e0; rw [if_pos rfl, if_pos (by omega), trCell0]
        · rw [if_neg e0]
          by_cases e : j < k * 3
          · rw [if_pos e, if_pos (by omega)]
          · rw [if_neg e, if_neg (by omega)]
  · by_cases e : i = k
    · subst e
      exact ((hp.setOther (by simp) _).setOther (by simp) _).setOther (by simp) _
    · have := (h3 i (by omega)).of_block (hb.block _ (by omega))
      exact ((this.setOther (by simp) _).setOther (by simp) _).setOther (by simp) _

set_option maxHeartbeats 800000 in
theorem toTrainS_any (v : Value) (ts : List Tr) (w : World) (h : TrainsAt w v ts) (hl : ts.length ≤ 1048576) (hp : ∀ i, i < ts.length → (tPath ts i).length ≤ 1048576) :
    Calls Try.prog 68 #[v] w fun e w' => e = .returned (.slice (some ⟨w.heap.size, 0, none⟩) ts.length ts.length) ∧ TsMade w.heap.size ts.length ts.length ts w' ∧ Below w.heap.size w w' := by
  obtain ⟨a, cap, rfl, h⟩ := h
  generalize ts.length = n at *
  have hmk : ∀ u : World, (Instr.makeSlice 24 (.int .i64 (n : Int)) (.int .i64 (n : Int))).run Try.prog u = .ok (.slice (some ⟨u.heap.size, 0, none⟩) n n) (u.alloc (.cells (madeCells #[.int .i64 0, .slice none 0 0, .int .i64 0] (n * 3)) 39)) := fun u => by
    obtain ⟨i0, hi, hz0, hz1, hz2⟩ := info_parts Try.infoTrain
    have := run_make (P := Try.prog) u 24 39 i0 _ Try.underlying24 hi hz0 .i64 .i64 (n : Int) (n : Int) (by omega) (Int.le_refl _) (by rw [hz2]; omega) (by omega)
    simpa [hz1, Value.cells] using this
  go_enter Try.func68, Try.ntmps68
  go_wp2
  clear hmk
  go_loopw [4] (fun i wr => ∃ k : Nat, k ≤ n ∧ i = .int .i64 k ∧ TsMade w.heap.size n k ts wr ∧ Below w.heap.size w wr) (fun i _ => n - (intOf i).toNat)
  case atStart => exact ⟨0, Nat.zero_le _, rfl, ⟨by simpa using rowIs_madeTrains w n, by simp, fun i hi => absurd hi (Nat.not_lt_zero _)⟩, Joins.below_alloc1 _ _⟩
  case round =>
    obtain ⟨k, hk, rfl, hm, hb⟩ := hrel
    by_cases hlt : k < n
    · obtain ⟨b, off, rfl, vp, hc1, hc2, ⟨ap, cp, rfl, hpp⟩, hc3⟩ := h k hlt
      have hI : IntsAt w (.slice ap (tPath ts k).length cp) (tPath ts k) := ⟨ap, cp, rfl, hpp⟩
      have g1 := cell_later hb hc1
      have g2 := cell_later hb hc2
      have g3 := cell_later hb hc3
      have hpk := hp k hlt
      have hbl := World.block_lt_of_cell? _ _ hc1
      have HM := hide hm
      have HBW := hide hb
      have hI' := hI.below hb
      clear hc1 hc2 hc3 h hp hpp hm hb hI
      go_wp2_with fail
      refine (toTrain_any _ _ _ _ _ (tPath ts k) _ hI' hpk).mono ?_
      rintro e w1 ⟨rfl, hrow, hsz, hb1⟩
      have hBlt : w.heap.size < wr.heap.size := by have := HM.out.2.1; omega
      obtain ⟨c0, k0⟩ : ∃ c, w1.cell? ⟨w.heap.size, k * 3, none⟩ = some c := ⟨_, cell_later hb1 (HM.out.1.cell (i := k * 3) (by omega))⟩
      obtain ⟨c1, k1⟩ : ∃ c, w1.cell? ⟨w.heap.size, k * 3 + 1, none⟩ = some c := ⟨_, cell_later hb1 (HM.out.1.cell (i := k * 3 + 1) (by omega))⟩
      obtain ⟨c2, k2⟩ : ∃ c, w1.cell? ⟨w.heap.size, k * 3 + 2, none⟩ = some c := ⟨_, cell_later hb1 (HM.out.1.cell (i := k * 3 + 2) (by omega))⟩
      have f0 : ∀ o, w1.frozen? ⟨w.heap.size, o, none⟩ = false := fun o => (hb1.frozen (p := ⟨w.heap.size, o, none⟩) hBlt).trans (HM.out.1.frozen o)
      have HR := hide hrow
      have HZ := hide hsz
      have HB1 := hide hb1
      clear hrow hsz hb1 hBlt
      go_wp2_with fail
      go_roundw
      case rel => exact ⟨k + 1, by omega, by go_num, HM.out.step hlt HB1.out HZ.out HR.out, (((below_tail HBW.out HB1.out).setCell (Nat.le_refl _) _).setCell (Nat.le_refl _) _).setCell (Nat.le_refl _) _⟩
      case measure => simp [intOf]; omega
    · go_wp2
      go_ret
      obtain rfl : k = n := by omega
      exact ⟨rfl, hm, hb⟩
end Go.Proofs.Ytmjjigdnoiphbaa

/-
  toState.
-/
namespace Go.Proofs.Ytmjjigdnoiphbaa
open Go.RowKit Go.Deep
set_option linter.unusedVariables false

/-- a row of trains of the call's own and their paths -/
def TsRow (B n : Nat) (ts : List Tr) (w : World) : Prop :=
  w.rowIs B 39 (n * 3) (trCell B ts) ∧ ∀ i, i < n → w.rowIs (B + 4 * (i + 1)) 3 (tPath ts i).length (fun j => .int .i64 (el (tPath ts i) j))

def intRow (xs : List Int) : Nat → Value := fun j => .int .i64 (el xs j)

/-- what toState makes at block s -/
def stVal (s : Nat) (st : St) : Value :=
  .agg #[.slice (some ⟨s + 3, 0, none⟩) st.1.length st.1.length, .slice (some ⟨s + 4, 0, none⟩) st.2.1.length st.2.1.length, .slice (some ⟨s + 5 + 4 * st.2.1.length, 0, none⟩) st.2.2.length st.2.2.length]
def StMade (s : Nat) (st : St) (w : World) : Prop :=
  w.rowIs (s + 3) 3 st.1.length (intRow st.1) ∧ TsRow (s + 4) st.2.1.length st.2.1 w ∧ w.rowIs (s + 5 + 4 * st.2.1.length) 3 st.2.2.length (intRow st.2.2)

theorem rowIs_below {w w' : World} {b n : Nat} {t : TypeId} {f : Nat → Value} (h : w.rowIs b t n f) (hb : Below w.heap.size w w') : w'.rowIs b t n f := h.of_block (hb.block _ h.lt)
theorem TsRow.below {B n : Nat} {ts : List Tr} {w w' : World} (h : TsRow B n ts w) (hb : Below w.heap.size w w') : TsRow B n ts w' := ⟨rowIs_below h.1 hb, fun i hi => rowIs_below (h.2 i hi) hb⟩
theorem StMade.below {s : Nat} {st : St} {w w' : World} (h : StMade s st w) (hb : Below w.heap.size w w') : StMade s st w' := ⟨rowIs_below h.1 hb, h.2.1.below hb, rowIs_below h.2.2 hb⟩

theorem intsAt_row {w : World} {b : Nat} {t : TypeId} {xs : List Int} (h : w.rowIs b t xs.length (intRow xs)) : IntsAt w (.slice (some ⟨b, 0, none⟩) xs.length xs.length) xs :=
  ⟨_, _, rfl, fun i hi => ⟨b, 0, rfl, by simpa [intRow] using h.cell hi⟩⟩

theorem TsRow.at {B : Nat} {ts : List Tr} {w : World} (h : TsRow B ts.length ts w) : TrainsAt w (.slice (some ⟨B, 0, none⟩) ts.length ts.length) ts :=
  ⟨_, _, rfl, fun i hi => ⟨B, 0, rfl, _, by
    have := h.1.cell (i := i * 3) (by omega)
    rw [trCell0] at this
    simpa using this, by
    have := h.1.cell (i := i * 3 + 1) (by omega)
    rw [trCell1] at this
    simpa using this, intsAt_row (h.2 i hi), by
    have := h.1.cell (i := i * 3 + 2) (by omega)
    rw [trCell2] at this
    simpa using this⟩⟩

theorem StMade.at {s : Nat} {st : St} {w : World} (h : StMade s st w) : StateAt w (stVal s st) st :=
  ⟨_, _, _, rfl, intsAt_row h.1, h.2.1.at, intsAt_row h.2.2⟩

set_option maxHeartbeats 800000 in
theorem toState_any (v : Value) (st : St) (w : World) (h : StateAt w v st) (hr : st.1.length ≤ 1048576) (hn : st.2.2.length ≤ 1048576) (hl : st.2.1.length ≤ 1048576) (hp : ∀ i, i < st.2.1.length → (tPath st.2.1 i).length ≤ 1048576) :
    Calls Try.prog 34 #[v] w fun e w' => e = .returned (stVal w.heap.size st) ∧ StMade w.heap.size st w' ∧ w'.heap.size = w.heap.size + 6 + 4 * st.2.1.length ∧ Below w.heap.size w w' := by
  unfold StMade stVal
  obtain ⟨vr, vt, vn, rfl, hR, hT, hN⟩ := h
  obtain ⟨rs, ts, ns⟩ := st
  have hR0 := hR
  have hT0 := hT
  have hN0 := hN
  obtain ⟨ar, cr, rfl, _⟩ := hR0
  obtain ⟨at', ct, rfl, _⟩ := hT0
  obtain ⟨an, cn, rfl, _⟩ := hN0
  simp only at *
  go_enter Try.func34, Try.ntmps34
  go_wp2_with fail
  refine (toIntS_any _ rs _ (hR.below (Joins.below_alloc3 _ _ _ _)) hr).mono ?_
  rintro e w1 ⟨rfl, hrow1, hsz1, hb1⟩
  have hbw1 := below_tail (Joins.below_alloc3 w (.cells #[.slice ar rs.length cr, .slice at' ts.length ct, .slice an ns.length cn] 45) (.cells #[.slice none 0 0, .slice none 0 0, .slice none 0 0] 26) (.cells #[.slice none 0 0, .slice none 0 0, .slice none 0 0] 26)) hb1
  simp only [World.size_alloc] at hrow1 hsz1 hb1
  obtain ⟨hc1, hf1⟩ := bcell hb1
  have HR1 := hide hrow1
  have HZ1 := hide hsz1
  have HB1 := hide hbw1
  clear hrow1 hsz1 hb1 hbw1
  go_wp2_with fail
  generalize hu1 : w1.setCell ⟨w.heap.size + 1 + 1, 0, none⟩ (.slice (some ⟨w.heap.size + 1 + 1 + 1, 0, none⟩) rs.length rs.length) = U1
  have e1 : U1.heap.size = w.heap.size + 4 := by rw [← hu1]; simpa [World.setCell] using HZ1.out
  have hbu1 : Below w.heap.size w U1 := by rw [← hu1]; exact HB1.out.setCell (by simp; omega) _
  have hru1 : U1.rowIs (w.heap.size + 3) 3 rs.length (intRow rs) := by rw [← hu1]; exact HR1.out.setOther (by simp) _
  refine (toTrainS_any _ ts _ (hT.below hbu1) hl hp).mono ?_
  rintro e w2 ⟨rfl, htm, hb2⟩
  rw [e1] at htm hb2 ⊢
  have hbu2 : Below w.heap.size w w2 := hbu1.trans (hb2.mono (by omega))
  have hru2 : w2.rowIs (w.heap.size + 3) 3 rs.length (intRow rs) := hru1.of_block (hb2.block _ (by omega))
  obtain ⟨hc2, hf2⟩ := bcell hb2
  subst hu1
  have HR2 := hide hru2
  have HT2 := hide htm
  have HB2 := hide hbu2
  clear hru1 hru2 htm hb2 hbu1 hbu2 e1 HR1 HZ1 HB1
  go_wp2_with fail
  generalize hu2 : w2.setCell ⟨w.heap.size + 1 + 1, 1, none⟩ (.slice (some ⟨w.heap.size + 4, 0, none⟩) ts.length ts.length) = U2
  have e2 : U2.heap.size = w.heap.size + 5 + 4 * ts.length := by
    have := HT2.out.2.1
    rw [← hu2]; simp [World.setCell]; omega
  have hbu2 : Below w.heap.size w U2 := by rw [← hu2]; exact HB2.out.setCell (by simp; omega) _
  have hru2 : U2.rowIs (w.heap.size + 3) 3 rs.length (intRow rs) := by rw [← hu2]; exact HR2.out.setOther (by simp) _
  have htu2 : TsRow (w.heap.size + 4) ts.length ts U2 := by
    obtain ⟨t1, _, t2⟩ := HT2.out
    rw [← hu2]
    exact ⟨(t1.setOther (by simp) _).congr fun j hj => if_pos hj, fun i hi => (t2 i hi).setOther (by simp; omega) _⟩
  refine (toIntS_any _ ns _ (hN.below hbu2) hn).mono ?_
  rintro e w3 ⟨rfl, hrow3, hsz3, hb3⟩
  rw [e2] at hrow3 hsz3 hb3 ⊢
  have hbw3 : Below w.heap.size w w3 := hbu2.trans (hb3.mono (by omega))
  have hr3 : w3.rowIs (w.heap.size + 3) 3 rs.length (intRow rs) := hru2.of_block (hb3.block _ (by omega))
  have ht3 : TsRow (w.heap.size + 4) ts.length ts w3 := ⟨htu2.1.of_block (hb3.block _ (by omega)), fun i hi => (htu2.2 i hi).of_block (hb3.block _ (by omega))⟩
  obtain ⟨hc3, hf3⟩ := bcell (hb3.mono (show w.heap.size + 4 ≤ _ by omega))
  subst hu2
  have HR3 := hide hr3
  have HT3 := hide ht3
  have HN3 := hide hrow3
  have HZ3 := hide hsz3
  have HB3 := hide hbw3
  clear hru2 htu2 hrow3 hsz3 hb3 hbu2 e2 hr3 ht3 hbw3 HR2 HT2 HB2 hR hT hN
  go_wp2_with fail
  refine bodyPost_ret (v := .agg #[.slice (some ⟨w.heap.size + 3, 0, none⟩) rs.length rs.length, .slice (some ⟨w.heap.size + 4, 0, none⟩) ts.length ts.length, .slice (some ⟨w.heap.size + 5 + 4 * ts.length, 0, none⟩) ns.length ns.length]) (by simp [results, Try.results34, go_sem, hc3, hc2, hc1]) rfl ⟨rfl, ⟨?_, ?_, ?_⟩, ?_, ?_⟩
  · exact (((HR3.out.setOther (by simp) _).setOther (by simp) _).setOther (by simp) _).setOther (by simp) _
  · refine ⟨(((HT3.out.1.setOther (by simp) _).setOther (by simp) _).setOther (by simp) _).setOther (by simp) _, fun i hi => ?_⟩
    exact ((((HT3.out.2 i hi).setOther (by simp; omega) _).setOther (by simp; omega) _).setOther (by simp; omega) _).setOther (by simp; omega) _
  · exact (((HN3.out.setOther (by simp; omega) _).setOther (by simp; omega) _).setOther (by simp; omega) _).setOther (by simp; omega) _
  · have := HZ3.out
    simp [World.setCell]; omega
  · exact (((HB3.out.setCell (by simp; omega) _).setCell (by simp) _).setCell (by simp) _).setCell (by simp) _
end Go.Proofs.Ytmjjigdnoiphbaa

/-
  eqTrain, eqTrainS, eqState, where both sides read alike.
-/
namespace Go.Proofs.Ytmjjigdnoiphbaa
open Go.RowKit Go.Deep
set_option linter.unusedVariables false

theorem eqIntS_true (v u : Value) (xs : List Int) (w : World) (h : IntsAt w v xs) (h' : IntsAt w u xs) (hl : xs.length ≤ 9223372036854775807) :
    Calls Try.prog 39 #[v, u] w fun e w' => e = .returned (.bool true) ∧ Below w.heap.size w w' :=
  (eqIntS_any v u xs xs w h h' hl).mono fun e w' ⟨he, n, hw⟩ => ⟨by rw [he]; simp, by rw [hw]; exact Joins.below_draws _ _ _⟩

set_option maxHeartbeats 800000 in
theorem eqTrain_true (x y : Int) (a a' : Option Addr) (l c l' c' : Nat) (p : List Int) (w : World) (h : IntsAt w (.slice a l c) p) (h' : IntsAt w (.slice a' l' c') p) (hl : p.length ≤ 9223372036854775807) :
    Calls Try.prog 102 #[.agg #[.int .i64 x, .slice a l c, .int .i64 y], .agg #[.int .i64 x, .slice a' l' c', .int .i64 y]] w fun e w' => e = .returned (.bool true) ∧ Below w.heap.size w w' := by
  have hx : (x != x) = false := by simp
  have hy : (y != y) = false := by simp
  go_enter Try.func102, Try.ntmps102
  go_wp2_with fail
  refine (eqIntS_true _ _ p _ (h.below (Joins.below_alloc2 _ _ _)) (h'.below (Joins.below_alloc2 _ _ _)) hl).mono ?_
  rintro e w1 ⟨rfl, hb⟩
  have hbw := below_tail (Joins.below_alloc2 w (.cells #[.int .i64 x, .slice a l c, .int .i64 y] 39) (.cells #[.int .i64 x, .slice a' l' c', .int .i64 y] 39)) hb
  simp only [World.size_alloc] at hb
  obtain ⟨hc, hf⟩ := bcell hb
  clear hb h h'
  go_wp2_with fail
  go_ret
  exact ⟨rfl, hbw⟩

set_option maxHeartbeats 800000 in
theorem eqTrainS_true (v u : Value) (ts : List Tr) (w : World) (h : TrainsAt w v ts) (h' : TrainsAt w u ts) (hl : ts.length ≤ 9223372036854775807) (hp : ∀ i, i < ts.length → (tPath ts i).length ≤ 9223372036854775807) :
    Calls Try.prog 74 #[v, u] w fun e w' => e = .returned (.bool true) ∧ Below w.heap.size w w' := by
  obtain ⟨a, cap, rfl, h⟩ := h
  obtain ⟨a', cap', rfl, h'⟩ := h'
  generalize ts.length = n at *
  have hnn : ((n : Int) != (n : Int)) = false := by simp
  go_enter Try.func74, Try.ntmps74
  go_wp2
  clear hnn
  go_loopw [5] (fun i wr => ∃ k : Nat, k ≤ n ∧ i = .int .i64 k ∧ Below w.heap.size w wr) (fun i _ => n - (intOf i).toNat)
  case atStart => exact ⟨0, Nat.zero_le _, rfl, Below.refl _ _⟩
  case round =>
    obtain ⟨k, hk, rfl, hb⟩ := hrel
    by_cases hlt : k < n
    · obtain ⟨b, off, rfl, vp, hc1, hc2, hI, hc3⟩ := h k hlt
      obtain ⟨b', off', rfl, vp', hc1', hc2', hI', hc3'⟩ := h' k hlt
      have g1 := cell_later hb hc1
      have g2 := cell_later hb hc2
      have g3 := cell_later hb hc3
      have g1' := cell_later hb hc1'
      have g2' := cell_later hb hc2'
      have g3' := cell_later hb hc3'
      have hI := hI.below hb
      have hI' := hI'.below hb
      have hpk := hp k hlt
      have HI := hide hI
      have HI' := hide hI'
      obtain ⟨ap, cp, rfl, _⟩ := hI
      obtain ⟨ap', cp', rfl, _⟩ := hI'
      have HB := hide hb
      clear hc1 hc2 hc3 hc1' hc2' hc3' h h' hp hb
      go_wp2
      go_region_held3 (fun w' => w'.cell? ⟨b, off + k * 3, none⟩ = some (.int .i64 (tAt ts k)) ∧ w'.cell? ⟨b, off + k * 3 + 1, none⟩ = some (.slice ap (tPath ts k).length cp) ∧ w'.cell? ⟨b, off + k * 3 + 2, none⟩ = some (.int .i64 (tWt ts k)) ∧ w'.cell? ⟨b', off' + k * 3, none⟩ = some (.int .i64 (tAt ts k)) ∧ w'.cell? ⟨b', off' + k * 3 + 1, none⟩ = some (.slice ap' (tPath ts k).length cp') ∧ w'.cell? ⟨b', off' + k * 3 + 2, none⟩ = some (.int .i64 (tWt ts k))) (first | (exact ⟨cell_later hb1 (by exact g1), cell_later hb1 (by exact g2), cell_later hb1 (by exact g3), cell_later hb1 (by exact g1'), cell_later hb1 (by exact g2'), cell_later hb1 (by exact g3')⟩) | go_keep)
        (first | (go_at_call 102; refine (eqTrain_true _ _ _ _ _ _ _ _ (tPath ts k) _ ?_ ?_ hpk).mono ?_; exact HI.out; exact HI'.out; rintro e w1 ⟨rfl, hb1⟩))
      all_goals
        have HB1 := hide hb1
        clear hb1
        go_wp2
        go_roundw
        case rel => exact ⟨k + 1, by omega, by go_num, below_tail HB.out.drew HB1.out⟩
        case measure => simp [intOf]; omega
    · go_wp2
      go_ret
      exact ⟨rfl, hb⟩

set_option maxHeartbeats 800000 in
theorem eqState_true (v u : Value) (st : St) (w : World) (h : StateAt w v st) (h' : StateAt w u st) (hr : st.1.length ≤ 9223372036854775807) (hn : st.2.2.length ≤ 9223372036854775807) (hl : st.2.1.length ≤ 9223372036854775807) (hp : ∀ i, i < st.2.1.length → (tPath st.2.1 i).length ≤ 9223372036854775807) :
    Calls Try.prog 36 #[v, u] w fun e w' => e = .returned (.bool true) ∧ Below w.heap.size w w' := by
  obtain ⟨vr, vt, vn, rfl, hR, hT, hN⟩ := h
  obtain ⟨vr', vt', vn', rfl, hR', hT', hN'⟩ := h'
  obtain ⟨ar, cr, rfl, _⟩ := id hR
  obtain ⟨at1, ct, rfl, _⟩ := id hT
  obtain ⟨an, cn, rfl, _⟩ := id hN
  obtain ⟨ar', cr', rfl, _⟩ := id hR'
  obtain ⟨at1', ct', rfl, _⟩ := id hT'
  obtain ⟨an', cn', rfl, _⟩ := id hN'
  obtain ⟨rs, ts, ns⟩ := st
  simp only at *
  go_enter Try.func36, Try.ntmps36
  go_wp2_with fail
  refine (eqIntS_true _ _ rs _ (hR.below (Joins.below_alloc2 _ _ _)) (hR'.below (Joins.below_alloc2 _ _ _)) hr).mono ?_
  rintro e w1 ⟨rfl, hb⟩
  have hbw := below_tail (Joins.below_alloc2 w (.cells #[.slice ar rs.length cr, .slice at1 ts.length ct, .slice an ns.length cn] 26) (.cells #[.slice ar' rs.length cr', .slice at1' ts.length ct', .slice an' ns.length cn'] 26)) hb
  simp only [World.size_alloc] at hb
  obtain ⟨hc, hf⟩ := bcell hb
  have hz1 := hb.size
  simp only [World.size_alloc] at hz1
  have HT := hide (hT.below hbw)
  have HT' := hide (hT'.below hbw)
  have HN := hide hN
  have HN' := hide hN'
  have HB := hide hbw
  have HZ := hide hz1
  clear hb hR hR' hT hT' hN hN' hbw hz1
  go_wp2_with fail
  refine (eqTrainS_true _ _ ts _ HT.out HT'.out hl hp).mono ?_
  rintro e w2 ⟨rfl, hb2⟩
  have hbw2 := below_tail HB.out hb2
  obtain ⟨hc2, hf2⟩ := bcell (hb2.mono HZ.out)
  have HB2 := hide hbw2
  clear hb2 hbw2 HT HT'
  go_wp2_with fail
  refine (eqIntS_true _ _ ns _ (HN.out.below HB2.out) (HN'.out.below HB2.out) hn).mono ?_
  rintro e w3 ⟨rfl, hb3⟩
  go_wp2_with fail
  go_ret
  exact ⟨rfl, below_tail HB2.out hb3⟩
end Go.Proofs.Ytmjjigdnoiphbaa

/-
  spec.l1there, spec.StateOk.
-/
namespace Go.Proofs.Ytmjjigdnoiphbaa
open Go.RowKit Go.Deep
set_option linter.unusedVariables false

set_option maxHeartbeats 800000 in
theorem l1there_any (v : Value) (st : St) (s : Int) (w : World) (h : StateAt w v st) (hl : st.2.1.length ≤ 4611686018427387904) :
    Calls Try.prog 66 #[v, .int .i64 s] w fun e w' => e = .returned (.int .i64 (there st.2.1 s)) ∧ Below w.heap.size w w' := by
  obtain ⟨vr, vt, vn, rfl, hR, hT, hN⟩ := h
  obtain ⟨rs, ts, ns⟩ := st
  obtain ⟨ar, cr, rfl, _⟩ := hR
  obtain ⟨an, cn, rfl, _⟩ := hN
  obtain ⟨a, cap, rfl, h⟩ := hT
  simp only at *
  unfold there
  generalize ts.length = n at *
  go_enter Try.func66, Try.ntmps66
  go_wp2
  go_loopw [5, 11] (fun c i wr => ∃ k : Nat, k ≤ n ∧ i = .int .i64 k ∧ c = .int .i64 (thereUp ts s k) ∧ Below w.heap.size w wr) (fun _ i _ => n - (intOf i).toNat)
  case atStart => exact ⟨0, Nat.zero_le _, rfl, rfl, Joins.below_alloc1 _ _⟩
  case round =>
    obtain ⟨k, hk, rfl, rfl, hb⟩ := hrel
    have hle := thereUp_le ts s k
    by_cases hlt : k < n
    · obtain ⟨b, off, rfl, vp, hc1, hc2, ⟨ap, cp, rfl, _⟩, hc3⟩ := h k hlt
      have g1 := cell_later hb hc1
      have g2 := cell_later hb hc2
      have g3 := cell_later hb hc3
      have HB := hide hb
      clear hc1 hc2 hc3 h hb
      by_cases he : tAt ts k = s
      · have hu : thereUp ts s (k + 1) = thereUp ts s k + 1 := by simp [thereUp, he]
        have HU := hide hu
        have heb : (tAt ts k == s) = true := by simp [he]
        clear he hu
        go_wp2
        go_roundw
        case rel => exact ⟨k + 1, by omega, by go_num, by rw [HU.out]; go_num, HB.out.alloc (by have := HB.out.size; omega) _⟩
        case measure => simp [intOf]; omega
      · have hu : thereUp ts s (k + 1) = thereUp ts s k := by simp [thereUp, he]
        have HU := hide hu
        have heb : (tAt ts k == s) = false := by simp [he]
        clear he hu
        go_wp2
        go_roundw
        case rel => exact ⟨k + 1, by omega, by go_num, by rw [HU.out], HB.out.alloc (by have := HB.out.size; omega) _⟩
        case measure => simp [intOf]; omega
    · go_wp2
      go_ret
      obtain rfl : k = n := by omega
      exact ⟨rfl, hb⟩
end Go.Proofs.Ytmjjigdnoiphbaa

/-
  spec.StateOk.
-/
namespace Go.Proofs.Ytmjjigdnoiphbaa
open Go.RowKit Go.Deep
set_option linter.unusedVariables false

theorem stOk1 {st : St} (h : sizesB st = false) : stOk st = 1 := by simp [stOk, h]
theorem stOk2 {st : St} (h : sizesB st = true) (h2 : roomsB st.1 = false) : stOk st = 2 := by simp [stOk, h, h2]
theorem stOk3 {st : St} (h : sizesB st = true) (h2 : roomsB st.1 = true) (h3 : trainsB st.1.length st.2.1 = false) : stOk st = 3 := by simp [stOk, h, h2, h3]
theorem stOk4 {st : St} (h : sizesB st = true) (h2 : roomsB st.1 = true) (h3 : trainsB st.1.length st.2.1 = true) (h4 : namesB st.2.2 = false) : stOk st = 4 := by simp [stOk, h, h2, h3, h4]
theorem stOk5 {st : St} (h : sizesB st = true) (h2 : roomsB st.1 = true) (h3 : trainsB st.1.length st.2.1 = true) (h4 : namesB st.2.2 = true) (h5 : fitsB st.1 st.2.1 = false) : stOk st = 5 := by simp [stOk, h, h2, h3, h4, h5]
theorem stOk0 {st : St} (h : sizesB st = true) (h2 : roomsB st.1 = true) (h3 : trainsB st.1.length st.2.1 = true) (h4 : namesB st.2.2 = true) (h5 : fitsB st.1 st.2.1 = true) : stOk st = 0 := by simp [stOk, h, h2, h3, h4, h5]

set_option maxHeartbeats 800000 in
theorem specStateOk_no (v : Value) (st : St) (w : World) (h : StateAt w v st) (hs : sizesB st = false) :
    Calls Try.prog 33 #[v] w fun e w' => e = .returned (.int .i64 1) ∧ Below w.heap.size w w' := by
  obtain ⟨vr, vt, vn, rfl, hR, hT, hN⟩ := h
  obtain ⟨rs, ts, ns⟩ := st
  obtain ⟨ar, cr, rfl, _⟩ := hR
  obtain ⟨an, cn, rfl, _⟩ := hN
  obtain ⟨a, cap, rfl, _⟩ := hT
  simp only [sizesB] at *
  by_cases h1 : inR rs.length 1 40 = true
  · by_cases h2 : ts.length ≤ 5
    · have h3 : ((ns.length : Int) != (ts.length : Int)) = true := by simp [h1, h2] at hs; simp; omega
      clear hs
      generalize ts.length = nt at *
      generalize ns.length = nn at *
      go_enter Try.func33, Try.ntmps33
      go_wp2_with (go_at_call 65; refine (l1in_any _ _ _ _).mono ?_; rintro e w' ⟨rfl, rfl⟩)
      go_ret
      exact ⟨rfl, Joins.below_alloc1 _ _⟩
    · have h2' : 5 < (ts.length : Int) := by omega
      clear hs
      go_enter Try.func33, Try.ntmps33
      go_wp2_with (go_at_call 65; refine (l1in_any _ _ _ _).mono ?_; rintro e w' ⟨rfl, rfl⟩)
      go_ret
      exact ⟨rfl, Joins.below_alloc1 _ _⟩
  · have h1' : inR rs.length 1 40 = false := by simpa using h1
    clear hs h1
    go_enter Try.func33, Try.ntmps33
    go_wp2_with (go_at_call 65; refine (l1in_any _ _ _ _).mono ?_; rintro e w' ⟨rfl, rfl⟩)
    go_ret
    exact ⟨rfl, Joins.below_alloc1 _ _⟩
end Go.Proofs.Ytmjjigdnoiphbaa
