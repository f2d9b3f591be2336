/-
  impl.listed.
-/
import Derived.Test.YtmjjigdnoiphbaaDoorL1
import Derived.Test.YtmjjigdnoiphbaaDoorL4
import Derived.Test.YtmjjigdnoiphbaaDoorBl
namespace Go.Proofs.YtmjjigdnoiphbaaDoor
open Go.RowKit Go.Deep
set_option linter.unusedVariables false

/-- the library's table of powers, as its own text lays it -/
abbrev Tab10 (w : World) : Prop := Lib.TabIs Tryd.prog w "internal/strconv.uint64pow10" .u64 Lib.pow10Tab
theorem tab_glob : (Tryd.prog.globalNamed "internal/strconv.uint64pow10").isSome = true := by kernel_rfl
theorem Tab10.later {w w' : World} (h : Tab10 w) (hb : Below w.heap.size w w') : Tab10 w' := by
  obtain ⟨g, hg⟩ := Option.isSome_iff_exists.1 tab_glob
  exact Joins.tab_stays hg h hb (Nat.le_refl _)

set_option maxHeartbeats 4000000 in
set_option maxRecDepth 100000 in
theorem listed_any (v : Value) (xs : List Int) (w : World) (h : IntsAt w v xs) (hl : xs.length ≤ 8) (hx : ∀ i, i < xs.length → 0 ≤ el xs i ∧ el xs i ≤ 1000) (ht : Tab10 w) :
    Calls Tryd.prog 48 #[v] w fun e w' => e = .returned (.string ⟨(decsUp xs xs.length).toArray⟩) ∧ Below w.heap.size w w' := by
  have HN := hide h
  obtain ⟨a1, q1, rfl, _⟩ := h
  have HX := hide hx
  have HT := hide ht
  have HL : Hid (∀ k, k ≤ xs.length → (decsUp xs k).length ≤ 5 * k) := fun k hk => decsUp_len (fun i hi => (hx i hi).2) k hk
  clear hx ht
  go_enter Tryd.func48, Tryd.ntmps48
  go_wp2_with fail
  have HF : Hid (IsB w.heap.size w.heap.size [] (w.alloc (.cells #[.pointer none, .slice none 0 0] 86))) := Lib.IsBuilderF.of (Lib.fresh_isBuilder _ _ w)
  go_loopw [8] (fun i wr => ∃ k : Nat, k ≤ xs.length ∧ i = .int .i64 k ∧ IsB w.heap.size w.heap.size (decsUp xs k) wr ∧ Below w.heap.size w wr) (fun i _ => xs.length - (intOf i).toNat)
  case atStart => exact ⟨0, Nat.zero_le _, rfl, HF.out, Joins.below_alloc1 _ _⟩
  case round =>
    obtain ⟨k, hk, rfl, hI, hb⟩ := hrel
    have HI := hide hI
    have HB := hide hb
    have hsz := hb.size
    clear hI hb
    by_cases hlt : k < xs.length
    · obtain ⟨b, off, rfl, hc⟩ := HN.out.cellAt k hlt
      have c0 := cell_later HB.out hc
      have hlti : (k : Int) < (xs.length : Int) := by omega
      obtain ⟨x, hxe⟩ : ∃ x : Nat, el xs k = (x : Int) := ⟨(el xs k).toNat, by have := (HX.out k hlt).1; omega⟩
      have hx1 : x ≤ 1000 := by have := (HX.out k hlt).2; omega
      rw [hxe] at c0
      clear hc
      go_wp2_with fail
      refine (itoa_any hx1 (HT.out.later HB.out)).mono ?_
      rintro e w2 ⟨rfl, hb2⟩
      have hdl := decDigits_len 3 x (by omega)
      have HL1 := HL.out k hk
      have hadd : ∀ w, (Op.stringOp .add ⟨#[32]⟩ ⟨(Lib.decDigits x).toArray⟩).run Tryd.prog w = .ok (.string ⟨((32 : UInt8) :: Lib.decDigits x).toArray⟩) w := fun w => run_string_add_lists w [32] (Lib.decDigits x) (by simp) (by omega)
      have HI2 : Hid (IsB w.heap.size w.heap.size (decsUp xs k) w2) := isB_below HI.out hb2
      have hs2 := hb2.size
      go_wp2_with fail
      refine (writeString_any HI2.out ((32 : UInt8) :: Lib.decDigits x) (by simp; omega) (by omega)).mono ?_
      rintro e w3 ⟨⟨r, rfl⟩, hI3, hb3, hk3⟩
      have HI3 := hide hI3
      have HB3 := hide ((below_tail HB.out hb2).trans hb3)
      clear hI3 hb3 hk3
      go_wp2_with fail
      go_roundw
      case rel =>
        refine ⟨k + 1, by omega, by go_num, ?_, HB3.out⟩
        have e : decsUp xs (k + 1) = decsUp xs k ++ ((32 : UInt8) :: Lib.decDigits x) := by
          show decsUp xs k ++ (32 :: Lib.decDigits (el xs k).toNat) = _
          rw [hxe]
          simp
        rw [e]
        exact HI3.out
      case measure => simp [intOf]; omega
    · have hlti : ¬ ((k : Int) < (xs.length : Int)) := by omega
      have hke : k = xs.length := by omega
      subst hke
      go_wp2_with fail
      refine (bString_any HI.out (by omega)).mono ?_
      rintro e w2 ⟨rfl, hb2⟩
      have HB2 := hide (HB.out.trans hb2)
      clear hb2
      go_wp2_with fail
      go_ret
      exact ⟨rfl, HB2.out⟩
end Go.Proofs.YtmjjigdnoiphbaaDoor
