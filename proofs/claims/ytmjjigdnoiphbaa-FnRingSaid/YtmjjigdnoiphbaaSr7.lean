/-
  impl: newSearch, Safe.
-/
import Derived.Test.YtmjjigdnoiphbaaSr6
namespace Go.Proofs.Ytmjjigdnoiphbaa
open Go.RowKit Go.Deep Go.Maps
set_option linter.unusedVariables false

theorem known_made {st : St} (w : World) : KnownAt st (w.alloc (.map #[] 0)) w.heap.size (fun _ => 0) :=
  ⟨.map [], (World.ownsMap_made w Try.prog 63 (plainElem Try.prog 106)).mono (by omega), ⟨⟨[], rfl, List.Pairwise.nil, fun p hp => by simp at hp⟩, fun d _ kl _ => rfl⟩⟩
theorem sound_none (st : St) : Sound st (fun _ => 0) := fun e _ => ⟨fun h => by simp at h, fun h => by simp at h, Or.inl rfl⟩

set_option maxHeartbeats 2000000 in
theorem newSearch_any {st : St} {a1 a2 a3 : Option Addr} {q1 q2 q3 : Nat} (w : World) (hst : StateAt w (.agg #[.slice a1 st.1.length q1, .slice a2 st.2.1.length q2, .slice a3 st.2.2.length q3]) st) (hs : SoSt st) :
    Calls Try.prog 46 #[.agg #[.slice a1 st.1.length q1, .slice a2 st.2.1.length q2, .slice a3 st.2.2.length q3]] w fun e w' => ∃ sb mb, e = .returned (.pointer (some ⟨sb, 0, none⟩)) ∧ Srch st w sb mb (.slice a1 st.1.length q1) (.slice a2 st.2.1.length q2) (.slice a3 st.2.2.length q3) w' (.slice none 0 0) [] [] (fun _ => 0) ∧ sb < w'.heap.size ∧ mb < w'.heap.size := by
  have hmm := @run_makeMap Try.prog
  have HST := hide hst
  have HSO := hide hs
  clear hst hs
  go_enter Try.func46, Try.ntmps46
  go_wp2_with fail
  obtain ⟨W0, hW0⟩ : ∃ W0, W0 = w.alloc (.cells #[.slice a1 st.1.length q1, .slice a2 st.2.1.length q2, .slice a3 st.2.2.length q3] 26) := ⟨_, rfl⟩
  rw [← hW0]
  have HB0 : Hid (Below w.heap.size w W0) := by rw [hW0]; exact Joins.below_alloc1 _ _
  have hs0 : W0.heap.size = w.heap.size + 1 := by rw [hW0]; simp
  have hx0 : W0.heap[w.heap.size]? = some (.cells #[.slice a1 st.1.length q1, .slice a2 st.2.1.length q2, .slice a3 st.2.2.length q3] 26 (0, 0)) := by rw [hW0]; exact heap_alloc_new _ _
  obtain ⟨c0, c1, c2, _⟩ := block3 hx0
  clear hW0 hx0
  have m0 := cell_later (Joins.below_alloc1 W0 (.map #[] 0)) c0
  have m1 := cell_later (Joins.below_alloc1 W0 (.map #[] 0)) c1
  have m2 := cell_later (Joins.below_alloc1 W0 (.map #[] 0)) c2
  go_region_held3 (fun w' => w'.cell? ⟨w.heap.size, 0, none⟩ = some (.slice a1 st.1.length q1) ∧ w'.cell? ⟨w.heap.size, 1, none⟩ = some (.slice a2 st.2.1.length q2) ∧ w'.cell? ⟨w.heap.size, 2, none⟩ = some (.slice a3 st.2.2.length q3))
    (first | (exact ⟨cell_later hb1 (by exact c0), cell_later hb1 (by exact c1), cell_later hb1 (by exact c2)⟩) | (exact ⟨cell_later hb1 (by exact m0), cell_later hb1 (by exact m1), cell_later hb1 (by exact m2)⟩) | go_keep)
    (first | (go_at_call 53; refine (endOf_any _ st _ ?_ HSO.out).mono ?_; (first | exact (HST.out.below HB0.out.drew) | exact (HST.out.below (below_tail HB0.out.drew (Joins.below_alloc1 _ _))) | exact (HST.out.below (below_tail HB0.out (Joins.below_alloc1 _ _)).drew)); rintro e W1 ⟨rfl, hb1⟩; unfold pv pc5))
  · have hbA : Below w.heap.size w W1 := below_tail HB0.out (below_tail (Joins.below_draws _ _ 1) hb1)
    go_wp2_with fail
    go_ret
    have hkn := known_made (st := st) W1
    have hbB := Joins.below_alloc1 (W1.alloc (.map #[] 0)) (.cells #[.slice a1 st.1.length q1, .slice a2 st.2.1.length q2, .slice a3 st.2.2.length q3, .int .i8 (endP st 0), .int .i8 (endP st 1), .int .i8 (endP st 2), .int .i8 (endP st 3), .int .i8 (endP st 4), .map (some W1.heap.size), .slice none 0 0] 102)
    have hs2 : (W1.alloc (.map #[] 0)).heap.size = W1.heap.size + 1 := by simp
    have hvar := heap_alloc_new (W1.alloc (.map #[] 0)) (.cells #[.slice a1 st.1.length q1, .slice a2 st.2.1.length q2, .slice a3 st.2.2.length q3, .int .i8 (endP st 0), .int .i8 (endP st 1), .int .i8 (endP st 2), .int .i8 (endP st 3), .int .i8 (endP st 4), .map (some W1.heap.size), .slice none 0 0] 102)
    rw [hs2] at hvar
    have hall : Below w.heap.size w ((W1.alloc (.map #[] 0)).alloc (.cells #[.slice a1 st.1.length q1, .slice a2 st.2.1.length q2, .slice a3 st.2.2.length q3, .int .i8 (endP st 0), .int .i8 (endP st 1), .int .i8 (endP st 2), .int .i8 (endP st 3), .int .i8 (endP st 4), .map (some W1.heap.size), .slice none 0 0] 102)) := below_tail hbA (Joins.below_alloc2 W1 _ _)
    have hsz := hbA.size
    refine ⟨W1.heap.size + 1, W1.heap.size, rfl, ⟨hvar, World.ownsRow_nil _ _ _ _, trivial, hkn.kept (hbB.block _ hkn.lt), by omega, fun q e => by simp [Value.ownBlock] at e, ⟨by omega, by omega⟩, hall⟩, ?_, ?_⟩
    · simp
    · simp; omega
  · have hkn := known_made (st := st) W0
    have hb1' : Below (W0.alloc (.map #[] 0)).heap.size (W0.alloc (.map #[] 0)) W1 := below_tail (Joins.below_draws _ _ 1) hb1
    have hbA : Below w.heap.size w W1 := below_tail (below_tail HB0.out (Joins.below_alloc1 _ _)) hb1'
    go_wp2_with fail
    go_ret
    have hm1 := hkn.kept (hb1'.block _ hkn.lt)
    have hlt := hm1.lt
    have hbB := Joins.below_alloc1 W1 (.cells #[.slice a1 st.1.length q1, .slice a2 st.2.1.length q2, .slice a3 st.2.2.length q3, .int .i8 (endP st 0), .int .i8 (endP st 1), .int .i8 (endP st 2), .int .i8 (endP st 3), .int .i8 (endP st 4), .map (some (w.heap.size + 1)), .slice none 0 0] 102)
    have hvar := heap_alloc_new W1 (.cells #[.slice a1 st.1.length q1, .slice a2 st.2.1.length q2, .slice a3 st.2.2.length q3, .int .i8 (endP st 0), .int .i8 (endP st 1), .int .i8 (endP st 2), .int .i8 (endP st 3), .int .i8 (endP st 4), .map (some (w.heap.size + 1)), .slice none 0 0] 102)
    have hm2 := hm1.kept (hbB.block _ hlt)
    rw [hs0] at hm2 hlt
    refine ⟨W1.heap.size, w.heap.size + 1, rfl, ⟨hvar, World.ownsRow_nil _ _ _ _, trivial, hm2, by omega, fun q e => by simp [Value.ownBlock] at e, ⟨by omega, by omega⟩, below_tail hbA (Joins.below_alloc1 W1 _)⟩, ?_, ?_⟩
    · simp
    · simp; omega

set_option maxRecDepth 4000 in
set_option maxHeartbeats 4000000 in
theorem implSafe_any (v : Value) (st : St) (w : World) (h : StateAt w v st) (hcap : CapSt w v st.2.1.length) (hp : ∀ i, i < st.2.1.length → (tPath st.2.1 i).length ≤ 4611686018427387904) :
    Calls Try.prog 21 #[v] w fun e w' => e = .returned (.bool (safeF st)) ∧ Below w.heap.size w w' := by
  have HS := hide h
  have HP := hide hp
  have HC := hide hcap
  obtain ⟨a1, q1, a2, q2, a3, q3, rfl⟩ := h.form
  clear h hp hcap
  go_enter Try.func21, Try.ntmps21
  go_wp2_with fail
  refine (implStateOk_any _ st _ (HS.out.below (Joins.below_alloc1 _ _)) HP.out).mono ?_
  rintro e w1 ⟨rfl, hb1⟩
  have HX1 := hide (blockLater hb1 (heap_alloc_new w (.cells #[.slice a1 st.1.length q1, .slice a2 st.2.1.length q2, .slice a3 st.2.2.length q3] 26)))
  have HB1 := hide (below_tail (Joins.below_alloc1 w (.cells #[.slice a1 st.1.length q1, .slice a2 st.2.1.length q2, .slice a3 st.2.2.length q3] 26)) hb1)
  obtain ⟨c0, c1, c2, _⟩ := block3 HX1.out
  clear hb1
  by_cases hok : stOk st = 0
  · have HR := hide (right_of_ok hok)
    have HPZ := hide (behind_pz HR.out.lens.2.2.2)
    have hokb : (stOk st == 0) = true := by simp [hok]
    have HF := hide (show safeF st = decide (0 ≤ val st) by simp [safeF, hok])
    clear hok
    generalize stOk st = code at *
    go_wp2_with fail
    refine (newSearch_any (st := st) w1 (HS.out.below HB1.out) HR.out.so).mono ?_
    rintro e w2 ⟨sb, mb, rfl, hs2, _, _⟩
    have HB2 : Hid (Below w.heap.size w w2) := below_tail HB1.out hs2.old
    have HS2 := hide hs2
    have hlh := leadsHome_any hs2 (HS.out.below HB1.out) (CapSt.below HC.out HS.out HB1.out) HR.out (sound_none st) (PV.pz st)
    rw [HPZ.out] at hlh
    have HLH := hide hlh
    clear hs2 hlh c0 c1 c2
    go_wp2_with fail
    refine HLH.out.mono ?_
    rintro e w3 ⟨rfl, kn', _, ⟨tv', vals', hs3, hc3, _⟩⟩
    have HB3 : Hid (Below w.heap.size w w3) := below_tail HB1.out hs3.old
    clear hs3 hc3
    generalize val st = vv at *
    cases hd : decide (0 ≤ vv)
    all_goals
      rw [hd] at HF
      go_wp2_with fail
      go_ret
      exact ⟨by rw [HF.out]; rfl, HB3.out⟩
  · have hokb : (stOk st == 0) = false := by simp [hok]
    have HF := hide (show safeF st = false by simp [safeF, hok])
    clear hok
    generalize stOk st = code at *
    go_wp2_with fail
    go_ret
    exact ⟨by rw [HF.out]; rfl, HB1.out⟩

/-- a search with nothing on its stack, where its blocks have not turned -/
theorem Srch.still {st : St} {w0 : World} {sb mb : Nat} {r t n : Value} {w w' : World} {tv : Value} {vals : List Value} {kn : Kn} (h : Srch st w0 sb mb r t n w tv vals [] kn) (hb : ∀ q, badB sb mb tv q → w'.heap[q]? = w.heap[q]?) (hold : Below w0.heap.size w0 w') : Srch st w0 sb mb r t n w' tv vals [] kn := by
  refine ⟨(hb sb (Or.inl rfl)).trans h.var, ownsRow_keep h.row (fun q hq => hb q (Or.inr (Or.inr hq))), ?_, h.known.kept (hb mb (Or.inr (Or.inl rfl))), h.ne, h.apart, h.lo, hold⟩
  have := h.tasks
  cases e : vals.reverse with
  | nil => trivial
  | cons v vs => rw [e] at this; exact this.elim

set_option maxRecDepth 4000 in
set_option maxHeartbeats 8000000 in
theorem implAllowed_any (v : Value) (st : St) (w : World) (h : StateAt w v st) (hcap : CapSt w v st.2.1.length) (hp : ∀ i, i < st.2.1.length → (tPath st.2.1 i).length ≤ 4611686018427387904) :
    Calls Try.prog 14 #[v] w fun e w' => ∃ r, e = .returned r ∧ OwnInts w.heap.size w' r (allowedF st) ∧ Below w.heap.size w w' := by
  have HS := hide h
  have HP := hide hp
  have HC := hide hcap
  obtain ⟨a1, q1, a2, q2, a3, q3, rfl⟩ := h.form
  clear h hp hcap
  go_enter Try.func14, Try.ntmps14
  go_wp2_with fail
  refine (implStateOk_any _ st _ (HS.out.below (Joins.below_alloc1 _ _)) HP.out).mono ?_
  rintro e w1 ⟨rfl, hb1⟩
  have HX1 := hide (blockLater hb1 (heap_alloc_new w (.cells #[.slice a1 st.1.length q1, .slice a2 st.2.1.length q2, .slice a3 st.2.2.length q3] 26)))
  have HB1 := hide (below_tail (Joins.below_alloc1 w (.cells #[.slice a1 st.1.length q1, .slice a2 st.2.1.length q2, .slice a3 st.2.2.length q3] 26)) hb1)
  obtain ⟨c0, c1, c2, _⟩ := block3 HX1.out
  clear hb1
  by_cases hok : stOk st = 0
  · have HR := hide (right_of_ok hok)
    have hokb : (stOk st != 0) = false := by simp [hok]
    have HF := hide (show allowedF st = allowUp st st.2.2.length by simp [allowedF, hok])
    obtain ⟨l1, l2, l3, l4⟩ := HR.out.lens
    have HL4 := hide l4
    have hn5 : st.2.2.length ≤ 5 := by omega
    clear hok l4
    generalize stOk st = code at *
    go_wp2_with fail
    refine (newSearch_any (st := st) w1 (HS.out.below HB1.out) HR.out.so).mono ?_
    rintro e w2 ⟨sb, mb, rfl, hs2, hsb2, hmb2⟩
    have HS2 := hide hs2
    have HX2 := hide (blockLater hs2.old HX1.out)
    have hw1 : w.heap.size < w1.heap.size := (Array.getElem?_eq_some_iff.1 HX1.out).1
    have hw12 := hs2.old.size
    obtain ⟨hlo1, hlo2⟩ := hs2.lo
    have HST1 := hide (HS.out.below HB1.out)
    have HCP1 := hide (CapSt.below HC.out HS.out HB1.out)
    obtain ⟨d0, d1, d2, _⟩ := block3 HX2.out
    clear hs2 c0 c1 c2
    go_wp2_with fail
    clear d0 d1 d2
    go_loopw [3, 15] (fun u i wr => ∃ k : Nat, k ≤ st.2.2.length ∧ i = .int .i64 k ∧ OwnInts w2.heap.size wr u (allowUp st k) ∧ (∃ tv vals kn, Srch st w1 sb mb (.slice a1 st.1.length q1) (.slice a2 st.2.1.length q2) (.slice a3 st.2.2.length q3) wr tv vals [] kn ∧ Sound st kn ∧ ∀ q, tv.ownBlock = some q → u.ownBlock ≠ some q) ∧ w2.heap.size ≤ wr.heap.size) (fun _ i _ => st.2.2.length - (intOf i).toNat)
    case atStart => exact ⟨0, Nat.zero_le _, rfl, OwnInts.nil _ _, ⟨_, _, _, HS2.out, sound_none st, fun q e => by simp [Value.ownBlock] at e⟩, Nat.le_refl _⟩
    case round =>
      obtain ⟨k, hk, rfl, hown, ⟨tv, vals, kn, hs, hsd, hap⟩, hsz⟩ := hrel
      have hbw : Below w.heap.size w wr := below_tail HB1.out hs.old
      by_cases hlt : k < st.2.2.length
      · have hkt : k < st.2.1.length := by have := HL4.out; omega
        have hbx := blockLater hs.old HX1.out
        obtain ⟨e0, e1, e2, _⟩ := block3 hbx
        obtain ⟨b, off, rfl, hx⟩ := (HS.out.below hbw).parts.2.2.cellAt k hlt
        have HO := hide hown
        have HSR := hide hs
        have HSD := hide hsd
        have HAP := hide hap
        have HBW := hide hbw
        have HAU := hide (show allowUp st (k + 1) = allowUp st k ++ (bif canB st k && decide (0 ≤ val (stepSt st k)) then [el st.2.2 k] else []) from rfl)
        clear hown hs hsd hap hbw hbx
        go_wp2_with fail
        refine (canMove_any _ st pz k _ (HS.out.below HBW.out) (CapSt.below HC.out HS.out HBW.out) HR.out (pz_ok st) hkt).mono ?_
        rintro e w3 ⟨rfl, hb3⟩
        rw [canP_pz]
        have HO3 := hide (HO.out.below hb3)
        have HS3 := hide (HSR.out.below hb3)
        have hsz3 : w2.heap.size ≤ w3.heap.size := Nat.le_trans hsz hb3.size
        clear hb3 e0 e1 e2
        cases hcan : canB st k with
        | false =>
          rw [hcan] at HAU
          have HA2 := hide (show allowUp st (k + 1) = allowUp st k by rw [HAU.out]; simp)
          clear hcan
          go_wp2_with fail
          go_roundw
          case rel => exact ⟨k + 1, by omega, by go_num, by rw [HA2.out]; exact HO3.out, ⟨_, _, _, HS3.out, HSD.out, HAP.out⟩, hsz3⟩
          case measure => simp [intOf]; omega
        | true =>
          rw [hcan] at HAU
          clear hcan
          have hl : leftB st.2.1 pz k = false := by simp [leftB, pz]
          have HPV := hide ((PV.pz st).bump hkt hl)
          clear hl
          go_wp2_with fail
          refine (pmoved_any pz k _ (by omega) (by unfold pz; omega)).mono ?_
          rintro e w4 ⟨rfl, hb4⟩
          have HO4 := hide (HO3.out.below hb4)
          have hs4 := HS3.out.below hb4
          have hsz4 : w2.heap.size ≤ w4.heap.size := Nat.le_trans hsz3 hb4.size
          have hlh := leadsHome_any hs4 HST1.out HCP1.out HR.out HSD.out HPV.out
          rw [behindSt_one] at hlh
          have HLH := hide hlh
          have HS4 := hide hs4
          clear hb4 hs4 hlh
          go_wp2_with fail
          refine HLH.out.mono ?_
          rintro e w5 ⟨rfl, kn5, hsd5, ⟨tv5, vals5, hs5, hc5, hq5⟩⟩
          have HO5 : Hid (OwnInts w2.heap.size w5 u3 (allowUp st k)) := ownsRow_keep HO4.out (fun q hq => hc5.block q (ownBlock_lt HO4.out hq).2 (fun e => by
            have := (ownBlock_lt HO4.out hq).1
            rcases e with e | e | e
            · omega
            · omega
            · exact HAP.out q e hq))
          have HAP5 : Hid (∀ q, tv5.ownBlock = some q → u3.ownBlock ≠ some q) := fun q e e' => by
            rcases hq5 q e with e | e
            · exact HAP.out q e e'
            · have := (ownBlock_lt HO4.out e').2
              omega
          have hsz5 : w2.heap.size ≤ w5.heap.size := Nat.le_trans hsz4 hc5.size
          have HS5 := hide hs5
          have HSD5 := hide hsd5
          clear hs5 hc5 hq5 hsd5
          generalize val (stepSt st k) = x at *
          by_cases hx0 : 0 ≤ x
          · have hxd : decide (0 ≤ x) = true := by simp [hx0]
            have HA2 := hide (show allowUp st (k + 1) = allowUp st k ++ [el st.2.2 k] by rw [HAU.out]; simp [hx0])
            have hml := allowUp_le st k
            obtain ⟨i0, hi, hz0, hz1, hz2⟩ := info_parts Try.infoInt
            have HI0 := hide hi
            have HZ0 := hide hz0
            have HZ1 := hide hz1
            have HZ2 := hide hz2
            clear hi hz0 hz1 hz2
            rw [hxd]
            go_wp2_with (first | (at_builtin; refine wpList_append_lies _ rfl _ _ 23 rfl w2.heap.size 3 i0 (.int .i64 0) 1 8 Try.underlying23 HI0.out HZ0.out HZ1.out HZ2.out rfl (by decide) _ _ _ rfl (HO5.out.alloc _) ⟨w5.heap.size, 0, none⟩ 1 1 [.int .i64 (el st.2.2 k)] rfl rfl ?c1 ?c2 (by decide) ?c3 ?c4 ?c5 _ rfl ?_))
            case c1 => exact cell_one_new _ _ _
            case c2 => intro u hu; simp at hu; subst hu; rfl
            case c3 => unfold maxLen; omega
            case c4 => omega
            case c5 => simp; omega
            intro g cap w6 hown6 hgrow6 hat6 _
            have HO6 := hide (OwnInts.snoc hown6)
            have hba := Joins.below_alloc1 w5 (.cells #[.int .i64 (el st.2.2 k)] 3)
            have hfar6 : ∀ q, q < w5.heap.size → u3.ownBlock ≠ some q → w6.heap[q]? = w5.heap[q]? := fun q hq hne => by
              rw [hgrow6.block q (by simp; omega) (fun e => hne e.symm), hba.block q hq]
            have hlo5 : ∀ q, u3.ownBlock = some q → w2.heap.size ≤ q := fun q hq => (ownBlock_lt HO5.out hq).1
            have hbq : ∀ q, badB sb mb tv5 q → q < w5.heap.size ∧ u3.ownBlock ≠ some q := fun q e => by
              rcases e with e | e | e
              · exact ⟨by omega, fun e' => by have := hlo5 q e'; omega⟩
              · exact ⟨by omega, fun e' => by have := hlo5 q e'; omega⟩
              · exact ⟨(ownBlock_lt HS5.out.row e).2, HAP5.out q e⟩
            have HS6 := hide (HS5.out.still (w' := w6) (fun q e => hfar6 q (hbq q e).1 (hbq q e).2) (below_grown (HS5.out.old.trans (hba.mono HS5.out.old.size)) (HO5.out.alloc (.cells #[.int .i64 (el st.2.2 k)] 3)) hgrow6 (by have := HS5.out.old.size; simp; omega) hw12))
            have HAP6 : Hid (∀ q, tv5.ownBlock = some q → Value.ownBlock (.slice (some ⟨g, 0, none⟩) ((allowUp st k).length + 1) cap) ≠ some q) := fun q e e' => by
              simp [Value.ownBlock] at e'
              subst e'
              rcases hat6 with e2 | e2
              · exact HAP5.out g e e2
              · have := (ownBlock_lt HS5.out.row e).2
                first | omega | (simp at e2; omega)
            have hsz6 : w2.heap.size ≤ w6.heap.size := Nat.le_trans hsz5 (Nat.le_trans hba.size hgrow6.size)
            clear hown6 hgrow6 hat6 hba hfar6 hlo5 hbq
            go_wp2_with fail
            go_roundw
            case rel => exact ⟨k + 1, by omega, by go_num, by rw [HA2.out]; exact HO6.out, ⟨_, _, _, HS6.out, HSD5.out, HAP6.out⟩, hsz6⟩
            case measure => simp [intOf]; omega
          · have hxd : decide (0 ≤ x) = false := by simp [hx0]
            have HA2 := hide (show allowUp st (k + 1) = allowUp st k by rw [HAU.out]; simp [hx0])
            rw [hxd]
            go_wp2_with fail
            go_roundw
            case rel => exact ⟨k + 1, by omega, by go_num, by rw [HA2.out]; exact HO5.out, ⟨_, _, _, HS5.out, HSD5.out, HAP5.out⟩, hsz5⟩
            case measure => simp [intOf]; omega
      · go_wp2_with fail
        go_ret
        obtain rfl : k = st.2.2.length := by omega
        exact ⟨_, rfl, by rw [HF.out]; exact hown.le (by omega), hbw⟩
  · have hokb : (stOk st != 0) = true := by simp [hok]
    have HF := hide (show allowedF st = [] by simp [allowedF, hok])
    clear hok
    generalize stOk st = code at *
    go_wp2_with fail
    go_ret
    exact ⟨_, rfl, by rw [HF.out]; exact OwnInts.nil _ _, HB1.out⟩
end Go.Proofs.Ytmjjigdnoiphbaa
