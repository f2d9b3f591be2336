/-
  impl.Shown.
-/
import Derived.Test.YtmjjigdnoiphbaaDoorL4
import Derived.Test.YtmjjigdnoiphbaaDoorLs
import Derived.Test.YtmjjigdnoiphbaaDoorSr7
namespace Go.Proofs.YtmjjigdnoiphbaaDoor
open Go.RowKit Go.Deep
set_option linter.unusedVariables false

theorem chain2 {V A B : World} (h1 : Below V.heap.size V A) (h2 : Below A.heap.size A B) : Below V.heap.size V B := below_tail h1 h2
theorem chain3 {V A B C : World} (h1 : Below V.heap.size V A) (h2 : Below A.heap.size A B) (h3 : Below B.heap.size B C) : Below V.heap.size V C := below_tail (below_tail h1 h2) h3
theorem cell_below {B : Nat} {w w' : World} (hb : Below B w w') {p : Addr} {v : Value} (hp : p.block < B) (hB : B ≤ w.heap.size) (h : w.cell? p = some v) : w'.cell? p = some v := by
  rw [hb.cell (p := p) hp]
  exact h

set_option maxHeartbeats 40000000 in
set_option maxRecDepth 100000 in
theorem implShown_any (v : Value) (st : St) (w : World) (h : StateAt w v st) (hcap : CapSt w v st.2.1.length) (hp : ∀ i, i < st.2.1.length → (tPath st.2.1 i).length ≤ 4611686018427387904) (ht : Tab10 w) :
    Calls Tryd.prog 13 #[v] w fun e w' => e = .returned (.string ⟨(shownF st).toArray⟩) ∧ Below w.heap.size w w' := by
  have HS := hide h
  have HP := hide hp
  have HC := hide hcap
  have HT := hide ht
  clear hp hcap ht
  obtain ⟨a1, q1, a2, q2, a3, q3, rfl⟩ := h.form
  clear h
  go_enter Tryd.func13, Tryd.ntmps13
  go_wp2_with fail
  refine (implStateOk_any _ st _ (HS.out.below (Joins.below_alloc1 _ _)) HP.out).mono ?_
  rintro e w1 ⟨rfl, hb1⟩
  have c0 : w1.cell? ⟨w.heap.size, 0, none⟩ = some (.slice a1 st.1.length q1) := cell_later hb1 (by simp)
  have c1 : w1.cell? ⟨w.heap.size, 1, none⟩ = some (.slice a2 st.2.1.length q2) := cell_later hb1 (by simp)
  have c2 : w1.cell? ⟨w.heap.size, 2, none⟩ = some (.slice a3 st.2.2.length q3) := cell_later hb1 (by simp)
  have HB1 := hide (below_tail (Joins.below_alloc1 w (.cells #[.slice a1 st.1.length q1, .slice a2 st.2.1.length q2, .slice a3 st.2.2.length q3] 26)) hb1)
  clear hb1
  by_cases hok : stOk st = 0
  · have HR := hide (right_of_ok hok)
    have hokb : (stOk st != 0) = false := by simp [hok]
    obtain ⟨l1, l2, l3, l4⟩ := HR.out.lens
    have HF : Hid (shownF st = linesUp st st.2.1.length ++ (bif safeF st then [] else unsafeS)) := by simp [shownF, hok, Hid]
    have HC0 := hide c0
    have HC1 := hide c1
    have HC2 := hide c2
    have hszw : w.heap.size < w1.heap.size := World.block_lt_of_cell? _ _ c1
    have HL4 := hide l4
    have HISB : Hid (IsB w1.heap.size w1.heap.size [] (w1.alloc (.cells #[.pointer none, .slice none 0 0] 86))) := Lib.IsBuilderF.of (Lib.fresh_isBuilder _ _ w1)
    have c1' : (w1.alloc (.cells #[.pointer none, .slice none 0 0] 86)).cell? ⟨w.heap.size, 1, none⟩ = some (.slice a2 st.2.1.length q2) := cell_later (Joins.below_alloc1 _ _) c1
    clear hok l4
    generalize stOk st = code at *
    go_wp2_with fail
    clear c0 c1 c2 c1'
    go_loopw [13] (fun j wr => ∃ k : Nat, k ≤ st.2.1.length ∧ j = .int .i64 k ∧ IsB w1.heap.size w1.heap.size (linesUp st k) wr ∧ Below w1.heap.size w1 wr) (fun j _ => st.2.1.length - (intOf j).toNat)
    case atStart => exact ⟨0, Nat.zero_le _, rfl, HISB.out, Joins.below_alloc1 _ _⟩
    case round =>
      obtain ⟨k, hk, rfl, hI, hb⟩ := hrel
      have hbw := below_tail HB1.out hb
      have hszr := hb.size
      have HI := hide hI
      have HB := hide hb
      have HBW := hide hbw
      by_cases hlt : k < st.2.1.length
      · have HSW := hide (HS.out.below hbw)
        obtain ⟨b, off, rfl, vp, t0, t1, hI, t2⟩ := HSW.out.parts.2.1.trainAt k hlt
        have HPI := hide hI
        obtain ⟨ap, cp, rfl, -⟩ := hI
        obtain ⟨nb, noff, rfl, n0⟩ := HSW.out.parts.2.2.cellAt k (by have := HL4.out; omega)
        have d0 := cell_later hb HC0.out
        have d1 := cell_later hb HC1.out
        have d2 := cell_later hb HC2.out
        obtain ⟨nm, hnm⟩ : ∃ nm : Nat, el st.2.2 k = (nm : Int) := ⟨(el st.2.2 k).toNat, by have := (HR.out.name (i := k) (by have := HL4.out; omega)).1; omega⟩
        have hnm1 : nm ≤ 1000 := by have := (HR.out.name (i := k) (by have := HL4.out; omega)).2; omega
        obtain ⟨ta, hta⟩ : ∃ ta : Nat, tAt st.2.1 k = (ta : Int) := ⟨(tAt st.2.1 k).toNat, by have := (HR.out.train k hlt).1; omega⟩
        have hta1 : ta ≤ 1000 := by have := (HR.out.train k hlt).2.1; omega
        rw [hnm] at n0
        rw [hta] at t0
        have hkn : (k : Int) < (st.2.2.length : Int) := by have := HL4.out; omega
        have hkt : (k : Int) < (st.2.1.length : Int) := by omega
        have hk0 : (0 : Int) ≤ (k : Int) := by omega
        have HNM := hide hnm
        have HTA := hide hta
        have HLN := hide (linesUp_len HR.out k hk)
        have nlt : nb < w.heap.size := by
          obtain ⟨nb', noff', e', n0'⟩ := HS.out.parts.2.2.cellAt k (by have := HL4.out; omega)
          simp only [Option.some.injEq, Addr.mk.injEq, and_true] at e'
          rw [e'.1]
          exact World.block_lt_of_cell? _ _ n0'
        clear hb hbw hnm hta
        go_wp2_with fail
        obtain ⟨V, hV⟩ : ∃ V, V = wr.alloc (.cells #[.int .i64 (ta : Int), .slice ap (tPath st.2.1 k).length cp, .int .i64 (tWt st.2.1 k)] 35) := ⟨_, rfl⟩
        rw [← hV]
        have HBV : Hid (Below wr.heap.size wr V) := by rw [hV]; exact Joins.below_alloc1 _ _
        have HVR : Hid (V.heap[wr.heap.size]? = some (.cells #[.int .i64 (ta : Int), .slice ap (tPath st.2.1 k).length cp, .int .i64 (tWt st.2.1 k)] 35 (0, 0))) := by rw [hV]; exact heap_alloc_new _ _
        have v0 : V.cell? ⟨wr.heap.size, 0, none⟩ = some (.int .i64 (ta : Int)) := by rw [hV]; simp
        have v1 : V.cell? ⟨wr.heap.size, 1, none⟩ = some (.slice ap (tPath st.2.1 k).length cp) := by rw [hV]; simp
        clear hV
        replace d2 := cell_later HBV.out d2
        replace n0 := cell_later HBV.out n0
        have HD2 := hide d2
        have HN0 := hide n0
        have HIV := hide (isB_below HI.out HBV.out)
        have hbl : w1.heap.size < wr.heap.size := by
          rcases HI.out with ⟨_, v, h, _⟩ | ⟨_, v, h, _⟩
          · exact (Array.getElem?_eq_some_iff.1 h).1
          · exact (Array.getElem?_eq_some_iff.1 h).1
        have hVs : wr.heap.size < V.heap.size := World.block_lt_of_cell? _ _ v0
        clear d0 d1 t0 t1 t2
        have hAl : (dec (nm : Int)).length ≤ 4 := dec_len (by omega)
        have hTl : (dec (ta : Int)).length ≤ 4 := dec_len (by omega)
        have hPl := pathS_len HR.out hlt _ (Nat.le_refl _)
        have HHD : Hid (headF st k = (dec (nm : Int) ++ [32, 97, 116, 32]) ++ dec (ta : Int)) := by
          show headF st k = _
          unfold headF atS
          rw [HNM.out, HTA.out]
        have hHl : (headF st k ++ decsUp (tPath st.2.1 k) (tPath st.2.1 k).length).length ≤ 60 := by have := headF_len HR.out hlt; simp; omega
        have hLl : (linesUp st k).length ≤ 440 := by have := HLN.out; omega
        have HTV : Hid (∀ W, Below V.drew.heap.size V.drew W → Tab10 W) := fun W hW => HT.out.later (below_tail (below_tail (below_tail HBW.out HBV.out) (Joins.below_draws V.heap.size V 1)) hW)
        have HCI : Hid (∀ (x : Nat), x ≤ 1000 → ∀ W, Below V.drew.heap.size V.drew W → Calls Tryd.prog 47 #[.int .i64 (x : Int)] W fun e w' => e = .returned (.string ⟨(dec (x : Int)).toArray⟩) ∧ Below W.heap.size W w') := fun x hx W hW => itoa_any hx (HTV.out W hW)
        have HCL : Hid (∀ W, Below V.drew.heap.size V.drew W → Calls Tryd.prog 48 #[.slice ap (tPath st.2.1 k).length cp] W fun e w' => e = .returned (.string ⟨(decsUp (tPath st.2.1 k) (tPath st.2.1 k).length).toArray⟩) ∧ Below W.heap.size W w') := fun W hW =>
          listed_any _ (tPath st.2.1 k) W (HPI.out.below (below_tail (below_tail HBV.out (Joins.below_draws V.heap.size V 1)) hW)) (HR.out.train k hlt).2.2.1 (fun i hi => by have := (HR.out.train k hlt).2.2.2.2.2 i hi; omega) (HTV.out W hW)
        have HCW : Hid (∀ (s : ByteArray), s = ⟨(headF st k ++ decsUp (tPath st.2.1 k) (tPath st.2.1 k).length).toArray⟩ → ∀ W, Below V.drew.heap.size V.drew W → Calls Tryd.prog 46 #[.pointer (some ⟨w1.heap.size, 0, none⟩), .string s] W fun e w' => (∃ r, e = .returned r) ∧ IsB w1.heap.size w1.heap.size (linesUp st k ++ (headF st k ++ decsUp (tPath st.2.1 k) (tPath st.2.1 k).length)) w' ∧ Below w1.heap.size W w' ∧ (w'.cell? ⟨w.heap.size, 2, none⟩ = some (.slice (some ⟨nb, noff, none⟩) st.2.2.length q3) ∧ w'.cell? ⟨nb, noff + k, none⟩ = some (.int .i64 (nm : Int)) ∧ w'.cell? ⟨wr.heap.size, 0, none⟩ = some (.int .i64 (ta : Int)) ∧ w'.cell? ⟨wr.heap.size, 1, none⟩ = some (.slice ap (tPath st.2.1 k).length cp))) := fun s hs W hW => by
          subst hs
          have hVW : Below V.heap.size V W := below_tail (Joins.below_draws V.heap.size V 1) hW
          have hszW := hVW.size
          refine (writeString_any (isB_below HIV.out hVW) _ (by omega) (by omega)).mono ?_
          rintro e w' ⟨hr, hI', hb', hk'⟩
          have hrow : w'.heap[wr.heap.size]? = _ := hk' wr.heap.size _ ((hVW.block wr.heap.size hVs).trans HVR.out) (by simp; omega) (by intro c fz e; simp at e)
          refine ⟨hr, hI', hb', cell_below hb' (by show w.heap.size < _; omega) (by omega) (cell_later hVW HD2.out), cell_below hb' (by show nb < _; omega) (by omega) (cell_later hVW HN0.out), ?_, ?_⟩
          · rw [cell_of_row w' wr.heap.size 0 _ _ (0, 0) hrow]; rfl
          · rw [cell_of_row w' wr.heap.size 1 _ _ (0, 0) hrow]; rfl
        have HEQ : Hid ((⟨(dec (nm : Int)).toArray⟩ ++ ⟨#[32, 97, 116, 32]⟩ ++ ⟨(dec (ta : Int)).toArray⟩ ++ ⟨(decsUp (tPath st.2.1 k) (tPath st.2.1 k).length).toArray⟩ : ByteArray) = ⟨(headF st k ++ decsUp (tPath st.2.1 k) (tPath st.2.1 k).length).toArray⟩) := by
          show _ = _
          rw [HHD.out]
          apply ByteArray.ext
          simp
        have z1 : ¬ 9223372036854775807 < (dec (nm : Int)).length + 4 := by omega
        have z2 : ¬ 9223372036854775807 < (dec (nm : Int)).length + 4 + (dec (ta : Int)).length := by omega
        have z3 : ¬ 9223372036854775807 < (dec (nm : Int)).length + 4 + (dec (ta : Int)).length + (decsUp (tPath st.2.1 k) (tPath st.2.1 k).length).length := by omega
        go_region_held3 (fun w' => w'.cell? ⟨w.heap.size, 2, none⟩ = some (.slice (some ⟨nb, noff, none⟩) st.2.2.length q3) ∧ w'.cell? ⟨nb, noff + k, none⟩ = some (.int .i64 (nm : Int)) ∧ w'.cell? ⟨wr.heap.size, 0, none⟩ = some (.int .i64 (ta : Int)) ∧ w'.cell? ⟨wr.heap.size, 1, none⟩ = some (.slice ap (tPath st.2.1 k).length cp))
          (first | (exact hSW) | (exact ⟨cell_later hb2 (by exact d2), cell_later hb2 (by exact n0), cell_later hb2 (by exact v0), cell_later hb2 (by exact v1)⟩) | ((have hS : _ ∧ _ ∧ _ ∧ _ := (by assumption)); exact ⟨cell_later hb2 (by exact hS.1), cell_later hb2 (by exact hS.2.1), cell_later hb2 (by exact hS.2.2.1), cell_later hb2 (by exact hS.2.2.2)⟩) | go_keep)
          (first | (go_at_call 47; refine (HCI.out _ (by first | exact hnm1 | exact hta1) _ (by first | exact Below.refl _ _ | assumption)).mono ?_; rintro e w2 ⟨rfl, hb2⟩) | (go_at_call 48; refine (HCL.out _ (chain2 (by assumption) (by assumption))).mono ?_; rintro e w2 ⟨rfl, hb2⟩) | (go_at_call 46; refine (HCW.out _ HEQ.out _ (chain3 (by assumption) (by assumption) (by assumption))).mono ?_; rintro e w2 ⟨⟨r, rfl⟩, hI2, hb3, hSW⟩))
        have HBN : Hid (Below w1.heap.size w1 w2) := (below_tail (below_tail (below_tail HB.out HBV.out) (Joins.below_draws V.heap.size V 1)) (chain3 (by assumption) (by assumption) (by assumption))).trans hb3
        have HBNW := hide (below_tail HB1.out HBN.out)
        have HI2 := hide hI2
        have e0 := cell_later HBN.out HC0.out
        have e1 := cell_later HBN.out HC1.out
        have e2 := cell_later HBN.out HC2.out
        have n3 := hSW.2.1
        have hs2 := HBN.out.size
        clear hI2 hb3 hSW hb2 z1 z2 z3 d2 n0 v0 v1 HCI HCL HCW HEQ HTV HIV HD2 HN0 HVR HBV
        rename_i hS_
        clear hS_
        have HLK : Hid (linesUp st (k + 1) = (linesUp st k ++ (headF st k ++ decsUp (tPath st.2.1 k) (tPath st.2.1 k).length)) ++ ((bif canB st k then [] else waitS ++ decsUp (waitsF st (el st.2.2 k)) (waitsF st (el st.2.2 k)).length) ++ [10])) := by
          show linesUp st k ++ lineF st k = _
          unfold lineF
          simp
        have hL2 : (linesUp st k ++ (headF st k ++ decsUp (tPath st.2.1 k) (tPath st.2.1 k).length)).length ≤ 500 := by rw [List.length_append]; omega
        generalize linesUp st k ++ (headF st k ++ decsUp (tPath st.2.1 k) (tPath st.2.1 k).length) = L2 at *
        have HWN := hide (waitsF_names HR.out hlt)
        have HWL := hide (waitS_len HR.out hlt _ (Nat.le_refl _))
        have HW5 := hide (waitsF_le st (el st.2.2 k))
        have HWY := hide (fun h => waits_some HR.out hlt h)
        have HWZ := hide (fun h => waits_none HR.out hlt h)
        have HWC : Hid (∀ (vv : Value) (W : World), StateAt W vv st → CapSt W vv st.2.1.length → Calls Tryd.prog 49 #[vv, .int .i64 (nm : Int)] W fun e w' => ∃ a q, e = .returned (.slice a (waitsF st (el st.2.2 k)).length q) ∧ IntsAt w' (.slice a (waitsF st (el st.2.2 k)).length q) (waitsF st (el st.2.2 k)) ∧ Below W.heap.size W w') := fun vv W hW hC => by
          rw [HNM.out]
          refine (implWaits_any vv st (nm : Int) W hW hC HP.out).mono ?_
          rintro e w' ⟨r, rfl, ho, hb⟩
          obtain ⟨a, q, rfl⟩ := ho.form
          exact ⟨a, q, rfl, ho.at, hb⟩
        have HSD := hide (HS.out.below (below_tail HBNW.out (Joins.below_draws w2.heap.size w2 1)))
        have HCD := hide (HC.out.below HS.out (below_tail HBNW.out (Joins.below_draws w2.heap.size w2 1)))
        generalize waitsF st (el st.2.2 k) = ws at *
        have hw5 := HW5.out
        have hwl := HWL.out
        go_wp2_with fail
        go_region_held3 (fun w' => w'.cell? ⟨w.heap.size, 0, none⟩ = some (.slice a1 st.1.length q1) ∧ w'.cell? ⟨w.heap.size, 1, none⟩ = some (.slice (some ⟨b, off, none⟩) st.2.1.length q2) ∧ w'.cell? ⟨w.heap.size, 2, none⟩ = some (.slice (some ⟨nb, noff, none⟩) st.2.2.length q3) ∧ w'.cell? ⟨nb, noff + k, none⟩ = some (.int .i64 (nm : Int)))
          (first | (exact ⟨cell_later hb4 (by exact e0), cell_later hb4 (by exact e1), cell_later hb4 (by exact e2), cell_later hb4 (by exact n3)⟩) | go_keep)
          (first | (go_at_call 49; refine (HWC.out _ _ HSD.out HCD.out).mono ?_; rintro e w4 ⟨ra, rq, rfl, hri, hb4⟩))
        have HB4 := hide (below_tail (below_tail HBN.out (Joins.below_draws w2.heap.size w2 1)) hb4)
        have HB4W := hide (below_tail HB1.out HB4.out)
        have HI4 := hide (isB_below (isB_below HI2.out (Joins.below_draws w2.heap.size w2 1)) hb4)
        have HRI := hide hri
        have hs4 := HB4.out.size
        clear hri hb4 e0 e1 e2 n3
        cases hcan : canB st k with
        | true =>
          have hw0 := HWZ.out hcan
          subst hw0
          rw [hcan] at HLK
          clear hcan
          go_wp2_with fail
          refine (writeString_any HI4.out [10] (by simp; omega) (by omega)).mono ?_
          rintro e w5 ⟨⟨r5, rfl⟩, hI5, hb5, hk5⟩
          have HI5 := hide hI5
          have HB5 := hide (HB4.out.trans hb5)
          clear hI5 hb5 hk5
          go_wp2_with fail
          go_roundw
          case rel =>
            refine ⟨k + 1, by omega, by go_num, ?_, HB5.out⟩
            rw [HLK.out]
            exact HI5.out
          case measure => simp [intOf]; omega
        | false =>
          have hw0 := HWY.out hcan
          rw [hcan] at HLK
          clear hcan
          have hgt : (ws.length : Int) > 0 := by omega
          go_wp2_with fail
          refine (listed_any _ ws _ HRI.out (by omega) HWN.out (HT.out.later HB4W.out)).mono ?_
          rintro e w5 ⟨rfl, hb5⟩
          have HI5 := hide (isB_below HI4.out hb5)
          have HB5 := hide (below_tail HB4.out hb5)
          have hs5 := HB5.out.size
          have z4 : ¬ 9223372036854775807 < 10 + (decsUp ws ws.length).length := by omega
          clear hb5
          go_wp2_with fail
          have hstr : (⟨#[32, 119, 97, 105, 116, 115, 32, 102, 111, 114]⟩ ++ ⟨(decsUp ws ws.length).toArray⟩ : ByteArray) = ⟨(waitS ++ decsUp ws ws.length).toArray⟩ := by
            apply ByteArray.ext
            simp [waitS]
          rw [hstr]
          refine (writeString_any HI5.out (waitS ++ decsUp ws ws.length) (by simp [waitS]; omega) (by omega)).mono ?_
          rintro e w6 ⟨⟨r6, rfl⟩, hI6, hb6, hk6⟩
          have HI6 := hide hI6
          have HB6 := hide (HB5.out.trans hb6)
          have hs6 := HB6.out.size
          clear hI6 hb6 hk6 hstr
          go_wp2_with fail
          refine (writeString_any HI6.out [10] (by simp [waitS]; omega) (by omega)).mono ?_
          rintro e w7 ⟨⟨r7, rfl⟩, hI7, hb7, hk7⟩
          have HI7 := hide hI7
          have HB7 := hide (HB6.out.trans hb7)
          clear hI7 hb7 hk7
          go_wp2_with fail
          go_roundw
          case rel =>
            refine ⟨k + 1, by omega, by go_num, ?_, HB7.out⟩
            rw [HLK.out, ← List.append_assoc]
            exact HI7.out
          case measure => simp [intOf]; omega
      · have hkl : k = st.2.1.length := by omega
        subst hkl
        have hki : ¬ ((st.2.1.length : Int) < (st.2.1.length : Int)) := by omega
        have e0 := cell_later hb HC0.out
        have e1 := cell_later hb HC1.out
        have e2 := cell_later hb HC2.out
        have hLl : (linesUp st st.2.1.length).length ≤ 440 := by have := linesUp_len HR.out st.2.1.length (Nat.le_refl _); omega
        clear hb hbw hI
        generalize linesUp st st.2.1.length = L at *
        go_wp2_with fail
        refine (implSafe_any _ st _ (HS.out.below HBW.out) (HC.out.below HS.out HBW.out) HP.out).mono ?_
        rintro e w3 ⟨rfl, hb3⟩
        have HI3 := hide (isB_below HI.out hb3)
        have HB3 := hide (below_tail HB.out hb3)
        have hs3 := HB3.out.size
        clear hb3
        cases hsf : safeF st with
        | true =>
          rw [hsf] at HF
          clear hsf
          go_wp2_with fail
          refine (bString_any HI3.out (by omega)).mono ?_
          rintro e w4 ⟨rfl, hb4⟩
          have HB4 := hide (HB3.out.trans hb4)
          clear hb4
          go_wp2_with fail
          go_ret
          exact ⟨by rw [HF.out]; simp, below_tail HB1.out HB4.out⟩
        | false =>
          rw [hsf] at HF
          clear hsf
          go_wp2_with fail
          refine (writeString_any HI3.out unsafeS (by simp [unsafeS]; omega) (by omega)).mono ?_
          rintro e w5 ⟨⟨r5, rfl⟩, hI5, hb5, hk5⟩
          have HI5 := hide hI5
          have HB5 := hide (HB3.out.trans hb5)
          have hs5 := HB5.out.size
          clear hI5 hb5 hk5
          go_wp2_with fail
          refine (bString_any HI5.out (by omega)).mono ?_
          rintro e w4 ⟨rfl, hb4⟩
          have HB4 := hide (HB5.out.trans hb4)
          clear hb4
          go_wp2_with fail
          go_ret
          exact ⟨by rw [HF.out]; simp, below_tail HB1.out HB4.out⟩
  · have hokb : (stOk st != 0) = true := by simp [hok]
    have HF : Hid (shownF st = []) := by simp [shownF, hok, Hid]
    clear hok
    generalize stOk st = code at *
    go_wp2_with fail
    go_ret
    exact ⟨by rw [HF.out]; rfl, HB1.out⟩
end Go.Proofs.YtmjjigdnoiphbaaDoor
