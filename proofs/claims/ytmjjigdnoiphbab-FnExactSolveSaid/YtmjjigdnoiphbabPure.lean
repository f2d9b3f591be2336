/-
  CHAPTER 1 IN PLAIN MATHEMATICS: what a right state is. No program here.
-/
import Derived.Test.YtmjjigdnoiphbabBase
namespace Go.Proofs.Ytmjjigdnoiphbab

def inR (x a b : Int) : Bool := decide (a ≤ x) && decide (x ≤ b)
/-- f holds of all below n -/
def allUp (n : Nat) (f : Nat → Bool) : Bool := (List.range n).all f
theorem allUp_true {n : Nat} {f : Nat → Bool} (h : ∀ i, i < n → f i = true) : allUp n f = true := by simpa [allUp] using h
theorem allUp_false {n : Nat} {f : Nat → Bool} (i : Nat) (hi : i < n) (h : f i = false) : allUp n f = false := by
  rw [Bool.eq_false_iff]; intro e
  have := (by simpa [allUp] using e : ∀ i, i < n → f i = true) i hi
  rw [h] at this; cases this
theorem allUp_at {n : Nat} {f : Nat → Bool} (h : allUp n f = true) (i : Nat) (hi : i < n) : f i = true := (by simpa [allUp] using h : ∀ i, i < n → f i = true) i hi

def roomsB (rs : List Int) : Bool := allUp rs.length (fun i => inR (el rs i) 1 5)
/-- the section ahead of the j-th of a path -/
def prev (x : Int) (p : List Int) : Nat → Int
  | 0 => x
  | j + 1 => el p j
def stepB (n : Int) (x : Int) (p : List Int) (j : Nat) : Bool := inR (el p j) 0 (n - 1) && !(el p j == prev x p j)
def pathB (n : Int) (x : Int) (p : List Int) : Bool := allUp p.length (stepB n x p)
def trainB (n : Int) (x : Int) (p : List Int) (y : Int) : Bool := inR x 0 (n - 1) && (decide (p.length ≤ 8) && (inR y 1 100 && pathB n x p))
def trainsB (n : Int) (ts : List Tr) : Bool := allUp ts.length (fun i => trainB n (tAt ts i) (tPath ts i) (tWt ts i))
def nameB (ns : List Int) (i : Nat) : Bool := inR (el ns i) 0 1000 && (decide (i = 0) || decide (el ns (i - 1) < el ns i))
def namesB (ns : List Int) : Bool := allUp ns.length (nameB ns)
def thereUp (ts : List Tr) (s : Int) : Nat → Nat
  | 0 => 0
  | k + 1 => thereUp ts s k + if tAt ts k = s then 1 else 0
/-- how many trains are on a section -/
def there (ts : List Tr) (s : Int) : Nat := thereUp ts s ts.length
theorem thereUp_le (ts : List Tr) (s : Int) : ∀ k, thereUp ts s k ≤ k
  | 0 => Nat.le_refl _
  | k + 1 => by have := thereUp_le ts s k; unfold thereUp; split <;> omega
def fitsB (rs : List Int) (ts : List Tr) : Bool := allUp rs.length (fun i => decide ((there ts (i : Int) : Int) ≤ el rs i))
def sizesB (st : St) : Bool := inR st.1.length 1 40 && (decide (st.2.1.length ≤ 5) && decide (st.2.2.length = st.2.1.length))
/-- StateOk -/
def stOk (st : St) : Int :=
  bif !sizesB st then 1 else bif !roomsB st.1 then 2 else bif !trainsB st.1.length st.2.1 then 3 else bif !namesB st.2.2 then 4 else bif !fitsB st.1 st.2.1 then 5 else 0
end Go.Proofs.Ytmjjigdnoiphbab
