/-
  toState.
-/
import Derived.Test.YtmjjigdnoiphbabW4
namespace Go.Proofs.Ytmjjigdnoiphbab
open Go.RowKit Go.Deep
set_option linter.unusedVariables false

/-- a row of trains of the call's own and their paths -/
def TsRow (B n : Nat) (ts : List Tr) (w : World) : Prop :=
  w.rowIs B 63 (n * 3) (trCell B ts) ∧ ∀ i, i < n → w.rowIs (B + 4 * (i + 1)) 3 (tPath ts i).length (fun j => .int .i64 (el (tPath ts i) j))

def intRow (xs : List Int) : Nat → Value := fun j => .int .i64 (el xs j)

/-- what toState makes at block s -/
def stVal (s : Nat) (st : St) : Value :=
  .agg #[.slice (some ⟨s + 3, 0, none⟩) st.1.length st.1.length, .slice (some ⟨s + 4, 0, none⟩) st.2.1.length st.2.1.length, .slice (some ⟨s + 5 + 4 * st.2.1.length, 0, none⟩) st.2.2.length st.2.2.length]
def StMade (s : Nat) (st : St) (w : World) : Prop :=
  w.rowIs (s + 3) 3 st.1.length (intRow st.1) ∧ TsRow (s + 4) st.2.1.length st.2.1 w ∧ w.rowIs (s + 5 + 4 * st.2.1.length) 3 st.2.2.length (intRow st.2.2)

theorem rowIs_below {w w' : World} {b n : Nat} {t : TypeId} {f : Nat → Value} (h : w.rowIs b t n f) (hb : Below w.heap.size w w') : w'.rowIs b t n f := h.of_block (hb.block _ h.lt)
theorem TsRow.below {B n : Nat} {ts : List Tr} {w w' : World} (h : TsRow B n ts w) (hb : Below w.heap.size w w') : TsRow B n ts w' := ⟨rowIs_below h.1 hb, fun i hi => rowIs_below (h.2 i hi) hb⟩
theorem StMade.below {s : Nat} {st : St} {w w' : World} (h : StMade s st w) (hb : Below w.heap.size w w') : StMade s st w' := ⟨rowIs_below h.1 hb, h.2.1.below hb, rowIs_below h.2.2 hb⟩

theorem intsAt_row {w : World} {b : Nat} {t : TypeId} {xs : List Int} (h : w.rowIs b t xs.length (intRow xs)) : IntsAt w (.slice (some ⟨b, 0, none⟩) xs.length xs.length) xs :=
  ⟨_, _, rfl, fun i hi => ⟨b, 0, rfl, by simpa [intRow] using h.cell hi⟩⟩

theorem TsRow.at {B : Nat} {ts : List Tr} {w : World} (h : TsRow B ts.length ts w) : TrainsAt w (.slice (some ⟨B, 0, none⟩) ts.length ts.length) ts :=
  ⟨_, _, rfl, fun i hi => ⟨B, 0, rfl, _, by
    have := h.1.cell (i := i * 3) (by omega)
    rw [trCell0] at this
    simpa using this, by
    have := h.1.cell (i := i * 3 + 1) (by omega)
    rw [trCell1] at this
    simpa using this, intsAt_row (h.2 i hi), by
    have := h.1.cell (i := i * 3 + 2) (by omega)
    rw [trCell2] at this
    simpa using this⟩⟩

theorem StMade.at {s : Nat} {st : St} {w : World} (h : StMade s st w) : StateAt w (stVal s st) st :=
  ⟨_, _, _, rfl, intsAt_row h.1, h.2.1.at, intsAt_row h.2.2⟩

set_option maxHeartbeats 800000 in
theorem toState_any (v : Value) (st : St) (w : World) (h : StateAt w v st) (hr : st.1.length ≤ 1048576) (hn : st.2.2.length ≤ 1048576) (hl : st.2.1.length ≤ 1048576) (hp : ∀ i, i < st.2.1.length → (tPath st.2.1 i).length ≤ 1048576) :
    Calls Try.prog 12 #[v] w fun e w' => e = .returned (stVal w.heap.size st) ∧ StMade w.heap.size st w' ∧ w'.heap.size = w.heap.size + 6 + 4 * st.2.1.length ∧ Below w.heap.size w w' := by
  unfold StMade stVal
  obtain ⟨vr, vt, vn, rfl, hR, hT, hN⟩ := h
  obtain ⟨rs, ts, ns⟩ := st
  have hR0 := hR
  have hT0 := hT
  have hN0 := hN
  obtain ⟨ar, cr, rfl, _⟩ := hR0
  obtain ⟨at', ct, rfl, _⟩ := hT0
  obtain ⟨an, cn, rfl, _⟩ := hN0
  simp only at *
  go_enter Try.func12, Try.ntmps12
  go_wp2_with fail
  refine (toIntS_any _ rs _ (hR.below (Joins.below_alloc3 _ _ _ _)) hr).mono ?_
  rintro e w1 ⟨rfl, hrow1, hsz1, hb1⟩
  have hbw1 := below_tail (Joins.below_alloc3 w (.cells #[.slice ar rs.length cr, .slice at' ts.length ct, .slice an ns.length cn] 25) (.cells #[.slice none 0 0, .slice none 0 0, .slice none 0 0] 30) (.cells #[.slice none 0 0, .slice none 0 0, .slice none 0 0] 30)) hb1
  simp only [World.size_alloc] at hrow1 hsz1 hb1
  obtain ⟨hc1, hf1⟩ := bcell hb1
  have HR1 := hide hrow1
  have HZ1 := hide hsz1
  have HB1 := hide hbw1
  clear hrow1 hsz1 hb1 hbw1
  go_wp2_with fail
  generalize hu1 : w1.setCell ⟨w.heap.size + 1 + 1, 0, none⟩ (.slice (some ⟨w.heap.size + 1 + 1 + 1, 0, none⟩) rs.length rs.length) = U1
  have e1 : U1.heap.size = w.heap.size + 4 := by rw [← hu1]; simpa [World.setCell] using HZ1.out
  have hbu1 : Below w.heap.size w U1 := by rw [← hu1]; exact HB1.out.setCell (by simp; omega) _
  have hru1 : U1.rowIs (w.heap.size + 3) 3 rs.length (intRow rs) := by rw [← hu1]; exact HR1.out.setOther (by simp) _
  refine (toTrainS_any _ ts _ (hT.below hbu1) hl hp).mono ?_
  rintro e w2 ⟨rfl, htm, hb2⟩
  rw [e1] at htm hb2 ⊢
  have hbu2 : Below w.heap.size w w2 := hbu1.trans (hb2.mono (by omega))
  have hru2 : w2.rowIs (w.heap.size + 3) 3 rs.length (intRow rs) := hru1.of_block (hb2.block _ (by omega))
  obtain ⟨hc2, hf2⟩ := bcell hb2
  subst hu1
  have HR2 := hide hru2
  have HT2 := hide htm
  have HB2 := hide hbu2
  clear hru1 hru2 htm hb2 hbu1 hbu2 e1 HR1 HZ1 HB1
  go_wp2_with fail
  generalize hu2 : w2.setCell ⟨w.heap.size + 1 + 1, 1, none⟩ (.slice (some ⟨w.heap.size + 4, 0, none⟩) ts.length ts.length) = U2
  have e2 : U2.heap.size = w.heap.size + 5 + 4 * ts.length := by
    have := HT2.out.2.1
    rw [← hu2]; simp [World.setCell]; omega
  have hbu2 : Below w.heap.size w U2 := by rw [← hu2]; exact HB2.out.setCell (by simp; omega) _
  have hru2 : U2.rowIs (w.heap.size + 3) 3 rs.length (intRow rs) := by rw [← hu2]; exact HR2.out.setOther (by simp) _
  have htu2 : TsRow (w.heap.size + 4) ts.length ts U2 := by
    obtain ⟨t1, _, t2⟩ := HT2.out
    rw [← hu2]
    exact ⟨(t1.setOther (by simp) _).congr fun j hj => if_pos hj, fun i hi => (t2 i hi).setOther (by simp; omega) _⟩
  refine (toIntS_any _ ns _ (hN.below hbu2) hn).mono ?_
  rintro e w3 ⟨rfl, hrow3, hsz3, hb3⟩
  rw [e2] at hrow3 hsz3 hb3 ⊢
  have hbw3 : Below w.heap.size w w3 := hbu2.trans (hb3.mono (by omega))
  have hr3 : w3.rowIs (w.heap.size + 3) 3 rs.length (intRow rs) := hru2.of_block (hb3.block _ (by omega))
  have ht3 : TsRow (w.heap.size + 4) ts.length ts w3 := ⟨htu2.1.of_block (hb3.block _ (by omega)), fun i hi => (htu2.2 i hi).of_block (hb3.block _ (by omega))⟩
  obtain ⟨hc3, hf3⟩ := bcell (hb3.mono (show w.heap.size + 4 ≤ _ by omega))
  subst hu2
  have HR3 := hide hr3
  have HT3 := hide ht3
  have HN3 := hide hrow3
  have HZ3 := hide hsz3
  have HB3 := hide hbw3
  clear hru2 htu2 hrow3 hsz3 hb3 hbu2 e2 hr3 ht3 hbw3 HR2 HT2 HB2 hR hT hN
  go_wp2_with fail
  refine bodyPost_ret (v := .agg #[.slice (some ⟨w.heap.size + 3, 0, none⟩) rs.length rs.length, .slice (some ⟨w.heap.size + 4, 0, none⟩) ts.length ts.length, .slice (some ⟨w.heap.size + 5 + 4 * ts.length, 0, none⟩) ns.length ns.length]) (by simp [results, Try.results12, go_sem, hc3, hc2, hc1]) rfl ⟨rfl, ⟨?_, ?_, ?_⟩, ?_, ?_⟩
  · exact (((HR3.out.setOther (by simp) _).setOther (by simp) _).setOther (by simp) _).setOther (by simp) _
  · refine ⟨(((HT3.out.1.setOther (by simp) _).setOther (by simp) _).setOther (by simp) _).setOther (by simp) _, fun i hi => ?_⟩
    exact ((((HT3.out.2 i hi).setOther (by simp; omega) _).setOther (by simp; omega) _).setOther (by simp; omega) _).setOther (by simp; omega) _
  · exact (((HN3.out.setOther (by simp; omega) _).setOther (by simp; omega) _).setOther (by simp; omega) _).setOther (by simp; omega) _
  · have := HZ3.out
    simp [World.setCell]; omega
  · exact (((HB3.out.setCell (by simp; omega) _).setCell (by simp) _).setCell (by simp) _).setCell (by simp) _
end Go.Proofs.Ytmjjigdnoiphbab
