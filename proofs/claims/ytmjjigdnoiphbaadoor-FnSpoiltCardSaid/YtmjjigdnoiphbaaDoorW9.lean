/-
  spec.StateOk, the sizes being right.
-/
import Derived.Test.YtmjjigdnoiphbaaDoorJ1
namespace Go.Proofs.YtmjjigdnoiphbaaDoor
open Go.RowKit Go.Deep
set_option linter.unusedVariables false

theorem trainB_false1 {n x y : Int} {p : List Int} (h : inR x 0 (n - 1) = false) : trainB n x p y = false := by simp [trainB, h]
theorem trainB_false2 {n x y : Int} {p : List Int} (h : ¬ p.length ≤ 8) : trainB n x p y = false := by simp [trainB, h]
theorem trainB_false3 {n x y : Int} {p : List Int} (h : inR y 1 100 = false) : trainB n x p y = false := by simp [trainB, h]
theorem trainB_false4 {n x y : Int} {p : List Int} (j : Nat) (hj : j < p.length) (h : stepB n x p j = false) : trainB n x p y = false := by
  have : pathB n x p = false := allUp_false j hj h
  simp [trainB, this]
theorem trainB_true {n x y : Int} {p : List Int} (h1 : inR x 0 (n - 1) = true) (h2 : p.length ≤ 8) (h3 : inR y 1 100 = true) (h4 : ∀ j, j < p.length → stepB n x p j = true) : trainB n x p y = true := by
  have : pathB n x p = true := allUp_true h4
  simp [trainB, h1, h2, h3, this]

set_option maxRecDepth 100000 in
set_option maxHeartbeats 4000000 in
theorem specStateOk_yes (v : Value) (st : St) (w : World) (h : StateAt w v st) (hs : sizesB st = true) :
    Calls Tryd.prog 12 #[v] w fun e w' => e = .returned (.int .i64 (stOk st)) ∧ Below w.heap.size w w' := by
  obtain ⟨vr, vt, vn, rfl, hR, hT, hN⟩ := h
  have H2 : Hid (roomsB st.1 = false → stOk st = 2) := fun h2 => stOk2 hs h2
  have H3 : Hid (roomsB st.1 = true → trainsB st.1.length st.2.1 = false → stOk st = 3) := fun h2 h3 => stOk3 hs h2 h3
  have H4 : Hid (roomsB st.1 = true → trainsB st.1.length st.2.1 = true → namesB st.2.2 = false → stOk st = 4) := fun h2 h3 h4 => stOk4 hs h2 h3 h4
  have H5 : Hid (roomsB st.1 = true → trainsB st.1.length st.2.1 = true → namesB st.2.2 = true → fitsB st.1 st.2.1 = false → stOk st = 5) := fun h2 h3 h4 h5 => stOk5 hs h2 h3 h4 h5
  have H0 : Hid (roomsB st.1 = true → trainsB st.1.length st.2.1 = true → namesB st.2.2 = true → fitsB st.1 st.2.1 = true → stOk st = 0) := fun h2 h3 h4 h5 => stOk0 hs h2 h3 h4 h5
  generalize stOk st = code at *
  have HST : Hid (StateAt w (.agg #[vr, vt, vn]) st) := ⟨vr, vt, vn, rfl, hR, hT, hN⟩
  obtain ⟨rs, ts, ns⟩ := st
  obtain ⟨ar, cr, rfl, hR⟩ := hR
  obtain ⟨an, cn, rfl, hN⟩ := hN
  obtain ⟨a, cap, rfl, hT⟩ := hT
  simp only [sizesB, Bool.and_eq_true, decide_eq_true_eq] at *
  obtain ⟨h1, h2, h3⟩ := hs
  have hnb : ((ns.length : Int) != (ts.length : Int)) = false := by simp; omega
  have hnn5 : ns.length ≤ 5 := by omega
  have h5b : decide ((5 : Int) < (ts.length : Int)) = false := by simp; omega
  have hr40 : rs.length ≤ 40 := by simp [inR] at h1; omega
  clear h3
  have HRR := hide hR
  have HNL : Hid (ts.length ≤ 4611686018427387904) := show ts.length ≤ _ by omega
  simp only [roomsB, trainsB, namesB, fitsB] at H2 H3 H4 H5 H0
  generalize rs.length = nr at *
  generalize hnt : ts.length = nt at h2 h5b hnb HST H3 H4 H5 H0 hT ⊢
  clear hnt
  generalize ns.length = nn at *
  go_enter Tryd.func12, Tryd.ntmps12
  go_wp2_with fail
  obtain ⟨U, hU⟩ : ∃ U, U = w.alloc (.cells #[.slice ar nr cr, .slice a nt cap, .slice an nn cn] 26) := ⟨_, rfl⟩
  rw [← hU]
  have c0 : U.cell? ⟨w.heap.size, 0, none⟩ = some (.slice ar nr cr) := by rw [hU]; simp
  have c1 : U.cell? ⟨w.heap.size, 1, none⟩ = some (.slice a nt cap) := by rw [hU]; simp
  have c2 : U.cell? ⟨w.heap.size, 2, none⟩ = some (.slice an nn cn) := by rw [hU]; simp
  have hbU : Below w.heap.size w U := by rw [hU]; exact Joins.below_alloc1 _ _
  clear hU
  have HBU := hide hbU
  have HC0 := hide c0
  have HC1 := hide c1
  have HC2 := hide c2
  clear hbU
  refine (l1in_any _ _ _ _).mono ?_
  rintro e w' ⟨rfl, rfl⟩
  go_wp2_with fail
  go_loop [37] (fun i => ∃ k : Nat, k ≤ nr ∧ i = .int .i64 k ∧ Hid (∀ j, j < k → inR (el rs j) 1 5 = true)) (fun i => nr - (intOf i).toNat)
  case atStart => exact ⟨0, Nat.zero_le _, rfl, fun j hj => absurd hj (Nat.not_lt_zero _)⟩
  case round =>
    obtain ⟨k, hk, rfl, hall⟩ := hrel
    by_cases hlt : k < nr
    · obtain ⟨b, off, rfl, hc⟩ := hR k hlt
      have g := cell_later HBU.out hc
      clear hR hT hN hc
      by_cases hg : inR (el rs k) 1 5 = true
      · go_wp2_with (go_at_call 44; refine (l1in_any _ _ _ _).mono ?_; rintro e w' ⟨rfl, rfl⟩)
        go_round
        case rel => exact ⟨k + 1, by omega, by go_num, fun j hj => by
          by_cases e : j = k
          · subst e; exact hg
          · exact hall.out j (by omega)⟩
        case measure => simp [intOf]; omega
      · have hg' : inR (el rs k) 1 5 = false := by simpa using hg
        clear hg
        go_wp2_with (go_at_call 44; refine (l1in_any _ _ _ _).mono ?_; rintro e w' ⟨rfl, rfl⟩)
        go_ret
        exact ⟨by rw [H2.out (allUp_false k hlt hg')]; rfl, HBU.out⟩
    · have HRO : Hid (allUp nr (fun i => inR (el rs i) 1 5) = true) := allUp_true (fun j hj => hall.out j (by omega))
      clear hall
      go_wp2_with fail
      go_loopw [48] (fun i wr => ∃ k : Nat, k ≤ nt ∧ i = .int .i64 k ∧ Hid (∀ j, j < k → trainB nr (tAt ts j) (tPath ts j) (tWt ts j) = true) ∧ Below U.heap.size U wr) (fun i _ => nt - (intOf i).toNat)
      case atStart => exact ⟨0, Nat.zero_le _, rfl, fun j hj => absurd hj (Nat.not_lt_zero _), Below.refl _ _⟩
      case round =>
        obtain ⟨k, hk, rfl, hall, hb⟩ := hrel
        have d0 := cell_later hb HC0.out
        have d1 := cell_later hb HC1.out
        have d2 := cell_later hb HC2.out
        by_cases hlt : k < nt
        · obtain ⟨b, off, rfl, vp, hc1, hc2, ⟨ap, cp, rfl, hP⟩, hc3⟩ := hT k hlt
          have hbw := below_tail HBU.out hb
          have g1 := cell_later hbw hc1
          have g2 := cell_later hbw hc2
          have g3 := cell_later hbw hc3
          have HB := hide hb
          have hszr : w.heap.size < wr.heap.size := World.block_lt_of_cell? _ _ d0
          clear hR hT hN hc1 hc2 hc3 hb d1 d2 c0 c1 c2
          go_wp2_with fail
          obtain ⟨V, hV⟩ : ∃ V, V = wr.alloc (.cells #[.int .i64 (tAt ts k), .slice ap (tPath ts k).length cp, .int .i64 (tWt ts k)] 35) := ⟨_, rfl⟩
          rw [← hV]
          have e0 : V.cell? ⟨wr.heap.size, 0, none⟩ = some (.int .i64 (tAt ts k)) := by rw [hV]; simp
          have e1 : V.cell? ⟨wr.heap.size, 1, none⟩ = some (.slice ap (tPath ts k).length cp) := by rw [hV]; simp
          have e2 : V.cell? ⟨wr.heap.size, 2, none⟩ = some (.int .i64 (tWt ts k)) := by rw [hV]; simp
          have hbV : Below wr.heap.size wr V := by rw [hV]; exact Joins.below_alloc1 _ _
          clear hV g1 g2 g3
          replace d0 := cell_later hbV d0
          have HBV := hide (below_tail HB.out hbV)
          have HPV : Hid (IntsAt V (.slice ap (tPath ts k).length cp) (tPath ts k)) := IntsAt.below ⟨ap, cp, rfl, hP⟩ (below_tail hbw hbV)
          clear hbV hbw hP
          refine (l1in_any _ _ _ _).mono ?_
          rintro e w' ⟨rfl, rfl⟩
          by_cases hA : inR (tAt ts k) 0 (nr - 1) = true
          · by_cases hP8 : (tPath ts k).length ≤ 8
            · have hP8b : decide ((8 : Int) < ((tPath ts k).length : Int)) = false := by simp; omega
              by_cases hW : inR (tWt ts k) 1 100 = true
              · have HTB : Hid ((∀ j, j < (tPath ts k).length → stepB nr (tAt ts k) (tPath ts k) j = true) → trainB nr (tAt ts k) (tPath ts k) (tWt ts k) = true) := fun h4 => trainB_true hA hP8 hW h4
                have HTF : Hid (∀ j, j < (tPath ts k).length → stepB nr (tAt ts k) (tPath ts k) j = false → code = 3) := fun j hj h4 => H3.out HRO.out (allUp_false k hlt (trainB_false4 j hj h4))
                go_wp2_with (go_at_call 44; refine (l1in_any _ _ _ _).mono ?_; rintro e w' ⟨rfl, rfl⟩)
                go_loop [77, 7] (fun i q => ∃ j : Nat, j ≤ (tPath ts k).length ∧ i = .int .i64 j ∧ q = .int .i64 (prev (tAt ts k) (tPath ts k) j) ∧ Hid (∀ m, m < j → stepB nr (tAt ts k) (tPath ts k) m = true)) (fun i _ => (tPath ts k).length - (intOf i).toNat)
                case atStart => exact ⟨0, Nat.zero_le _, rfl, rfl, fun m hm => absurd hm (Nat.not_lt_zero _)⟩
                case round =>
                  obtain ⟨j, hj, rfl, rfl, hst⟩ := hrel
                  by_cases hjl : j < (tPath ts k).length
                  · obtain ⟨ap', cp', hv', hPV⟩ := HPV.out
                    simp only [Value.slice.injEq] at hv'
                    obtain ⟨rfl, _, rfl⟩ := hv'
                    obtain ⟨b', off', rfl, hcx⟩ := hPV j hjl
                    clear hPV
                    by_cases hi1 : inR (el (tPath ts k) j) 0 (nr - 1) = true
                    · by_cases hi2 : el (tPath ts k) j = prev (tAt ts k) (tPath ts k) j
                      · have hq : stepB nr (tAt ts k) (tPath ts k) j = false := by simp [stepB, hi2]
                        have HC3 := hide (HTF.out j hjl hq)
                        have hi2b : (el (tPath ts k) j == prev (tAt ts k) (tPath ts k) j) = true := by simp [hi2]
                        clear hi2 hq
                        go_wp2_with (go_at_call 44; refine (l1in_any _ _ _ _).mono ?_; rintro e w' ⟨rfl, rfl⟩)
                        go_ret
                        exact ⟨by rw [HC3.out]; rfl, below_tail HBU.out HBV.out⟩
                      · have hq : stepB nr (tAt ts k) (tPath ts k) j = true := by simp [stepB, hi1, hi2]
                        have HQ := hide hq
                        have hi2b : (el (tPath ts k) j == prev (tAt ts k) (tPath ts k) j) = false := by simp [hi2]
                        clear hi2 hq
                        go_wp2_with (go_at_call 44; refine (l1in_any _ _ _ _).mono ?_; rintro e w' ⟨rfl, rfl⟩)
                        go_round
                        case rel => exact ⟨j + 1, by omega, by go_num, rfl, fun m hm => by
                          by_cases e : m = j
                          · subst e; exact HQ.out
                          · exact hst.out m (by omega)⟩
                        case measure => simp [intOf]; omega
                    · have hi1' : inR (el (tPath ts k) j) 0 (nr - 1) = false := by simpa using hi1
                      have hq : stepB nr (tAt ts k) (tPath ts k) j = false := by simp [stepB, hi1']
                      have HC3 := hide (HTF.out j hjl hq)
                      clear hi1 hq
                      go_wp2_with (go_at_call 44; refine (l1in_any _ _ _ _).mono ?_; rintro e w' ⟨rfl, rfl⟩)
                      go_ret
                      exact ⟨by rw [HC3.out]; rfl, below_tail HBU.out HBV.out⟩
                  · have HQ := hide (HTB.out (fun m hm => hst.out m (by omega)))
                    go_wp2_with fail
                    go_roundw
                    case rel => exact ⟨k + 1, by omega, by go_num, fun m hm => by
                      by_cases e : m = k
                      · subst e; exact HQ.out
                      · exact hall.out m (by omega), HBV.out⟩
                    case measure => simp [intOf]; omega
              · have hW' : inR (tWt ts k) 1 100 = false := by simpa using hW
                clear hW
                go_wp2_with (go_at_call 44; refine (l1in_any _ _ _ _).mono ?_; rintro e w' ⟨rfl, rfl⟩)
                go_ret
                exact ⟨by rw [H3.out HRO.out (allUp_false k hlt (trainB_false3 hW'))]; rfl, below_tail HBU.out HBV.out⟩
            · have hP8b : decide ((8 : Int) < ((tPath ts k).length : Int)) = true := by simp; omega
              go_wp2_with (go_at_call 44; refine (l1in_any _ _ _ _).mono ?_; rintro e w' ⟨rfl, rfl⟩)
              go_ret
              exact ⟨by rw [H3.out HRO.out (allUp_false k hlt (trainB_false2 (by omega)))]; rfl, below_tail HBU.out HBV.out⟩
          · have hA' : inR (tAt ts k) 0 (nr - 1) = false := by simpa using hA
            clear hA
            go_wp2_with (go_at_call 44; refine (l1in_any _ _ _ _).mono ?_; rintro e w' ⟨rfl, rfl⟩)
            go_ret
            exact ⟨by rw [H3.out HRO.out (allUp_false k hlt (trainB_false1 hA'))]; rfl, below_tail HBU.out HBV.out⟩
        · have HTO : Hid (allUp nt (fun i => trainB nr (tAt ts i) (tPath ts i) (tWt ts i)) = true) := allUp_true (fun j hj => hall.out j (by omega))
          have HB := hide hb
          have hbw := below_tail HBU.out hb
          have HBW := hide hbw
          clear hall hR hT hb hbw c0 c1 c2
          go_wp2_with fail
          go_loop [99] (fun i => ∃ k : Nat, k ≤ nn ∧ i = .int .i64 k ∧ Hid (∀ j, j < k → nameB ns j = true)) (fun i => nn - (intOf i).toNat)
          case atStart => exact ⟨0, Nat.zero_le _, rfl, fun j hj => absurd hj (Nat.not_lt_zero _)⟩
          case round =>
            obtain ⟨k', hk', rfl, hall⟩ := hrel
            by_cases hlt' : k' < nn
            · have hgo : ∀ i, i < nn → ∃ b off, an = some ⟨b, off, none⟩ ∧ wr.cell? ⟨b, off + i, none⟩ = some (.int .i64 (el ns i)) := fun i hi => by
                obtain ⟨b, off, e, hc⟩ := hN i hi
                exact ⟨b, off, e, cell_later HBW.out hc⟩
              clear hN
              by_cases hi1 : inR (el ns k') 0 1000 = true
              · by_cases hk0 : k' = 0
                · subst hk0
                  obtain ⟨b, off, rfl, hc⟩ := hgo 0 hlt'
                  rw [Nat.add_zero] at hc
                  clear hgo
                  have HQ : Hid (nameB ns 0 = true) := by simp [nameB, hi1, Hid]
                  go_wp2_with (go_at_call 44; refine (l1in_any _ _ _ _).mono ?_; rintro e w' ⟨rfl, rfl⟩)
                  go_round
                  case rel => exact ⟨1, by omega, by go_num, fun m hm => by
                    obtain rfl : m = 0 := by omega
                    exact HQ.out⟩
                  case measure => simp [intOf]; omega
                · have hkp : 0 < k' := by omega
                  obtain ⟨b, off, rfl, hc⟩ := hgo k' hlt'
                  obtain ⟨b2, off2, e2, hc2⟩ := hgo (k' - 1) (by omega)
                  simp only [Option.some.injEq, Addr.mk.injEq, and_true] at e2
                  obtain ⟨rfl, rfl⟩ := e2
                  clear hgo
                  by_cases hi2 : el ns (k' - 1) < el ns k'
                  · have HQ : Hid (nameB ns k' = true) := by simp [nameB, hi1, hi2, Hid]
                    have hi2b : decide (el ns k' ≤ el ns (k' - 1)) = false := by simp; omega
                    clear hi2 hk0
                    go_wp2_with (go_at_call 44; refine (l1in_any _ _ _ _).mono ?_; rintro e w' ⟨rfl, rfl⟩)
                    go_round
                    case rel => exact ⟨k' + 1, by omega, by go_num, fun m hm => by
                      by_cases e : m = k'
                      · subst e; exact HQ.out
                      · exact hall.out m (by omega)⟩
                    case measure => simp [intOf]; omega
                  · have HQ : Hid (nameB ns k' = false) := by simp [nameB, hi1, hi2, Hid, hk0]
                    have hi2b : decide (el ns k' ≤ el ns (k' - 1)) = true := by simp; omega
                    clear hi2 hk0
                    go_wp2_with (go_at_call 44; refine (l1in_any _ _ _ _).mono ?_; rintro e w' ⟨rfl, rfl⟩)
                    go_ret
                    exact ⟨by rw [H4.out HRO.out HTO.out (allUp_false k' hlt' HQ.out)]; rfl, HBW.out⟩
              · have hi1' : inR (el ns k') 0 1000 = false := by simpa using hi1
                have HQ : Hid (nameB ns k' = false) := by simp [nameB, hi1', Hid]
                obtain ⟨b, off, rfl, hc⟩ := hgo k' hlt'
                clear hgo hi1
                go_wp2_with (go_at_call 44; refine (l1in_any _ _ _ _).mono ?_; rintro e w' ⟨rfl, rfl⟩)
                go_ret
                exact ⟨by rw [H4.out HRO.out HTO.out (allUp_false k' hlt' HQ.out)]; rfl, HBW.out⟩
            · have HNA : Hid (allUp nn (nameB ns) = true) := allUp_true (fun j hj => hall.out j (by omega))
              clear hall hN
              obtain ⟨w2, hw2⟩ : ∃ w2 : World, w2 = wr := ⟨_, rfl⟩
              subst hw2
              have HD0 := hide d0
              have HD1 := hide d1
              have HD2 := hide d2
              clear d1 d2
              go_wp2_with fail
              go_loopw [125] (fun i wr => ∃ k : Nat, k ≤ nr ∧ i = .int .i64 k ∧ Hid (∀ j, j < k → decide ((there ts (j : Int) : Int) ≤ el rs j) = true) ∧ Below w2.heap.size w2 wr) (fun i _ => nr - (intOf i).toNat)
              case atStart => exact ⟨0, Nat.zero_le _, rfl, fun j hj => absurd hj (Nat.not_lt_zero _), Below.refl _ _⟩
              case round =>
                obtain ⟨k, hk, rfl, hall, hb⟩ := hrel
                by_cases hlt : k < nr
                · have q0 := cell_later hb HD0.out
                  have q1 := cell_later hb HD1.out
                  have q2 := cell_later hb HD2.out
                  have hbw := below_tail HBW.out hb
                  have hstw := HST.out.below hbw
                  obtain ⟨b, off, rfl, hc⟩ := HRR.out k hlt
                  have g := cell_later hbw hc
                  have HBB := hide hbw
                  have HBC := hide hb
                  have HSW := hide hstw
                  clear hc hb hbw hstw d0
                  by_cases hi : (there ts (k : Int) : Int) ≤ el rs k
                  · have HQ : Hid (decide ((there ts (k : Int) : Int) ≤ el rs k) = true) := by simp [hi, Hid]
                    have hib : decide (el rs k < (there ts (k : Int) : Int)) = false := by simp; omega
                    clear hi
                    go_wp2_with fail
                    refine (l1there_any _ (rs, ts, ns) _ _ HSW.out HNL.out).mono ?_
                    rintro e w3 ⟨rfl, hb3⟩
                    go_wp2_with fail
                    go_roundw
                    case rel => exact ⟨k + 1, by omega, by go_num, fun m hm => by
                      by_cases e : m = k
                      · subst e; exact HQ.out
                      · exact hall.out m (by omega), below_tail HBC.out hb3⟩
                    case measure => simp [intOf]; omega
                  · have HQ : Hid (decide ((there ts (k : Int) : Int) ≤ el rs k) = false) := by simp [hi, Hid]
                    have hib : decide (el rs k < (there ts (k : Int) : Int)) = true := by simp; omega
                    clear hi
                    go_wp2_with fail
                    refine (l1there_any _ (rs, ts, ns) _ _ HSW.out HNL.out).mono ?_
                    rintro e w3 ⟨rfl, hb3⟩
                    go_wp2_with fail
                    go_ret
                    exact ⟨by rw [H5.out HRO.out HTO.out HNA.out (allUp_false k hlt HQ.out)]; rfl, below_tail HBB.out hb3⟩
                · have HF : Hid (allUp nr (fun i => decide ((there ts (i : Int) : Int) ≤ el rs i)) = true) := allUp_true (fun j hj => hall.out j (by omega))
                  go_wp2_with fail
                  go_ret
                  exact ⟨by rw [H0.out HRO.out HTO.out HNA.out HF.out]; rfl, below_tail HBW.out hb⟩

theorem specStateOk_any (v : Value) (st : St) (w : World) (h : StateAt w v st) :
    Calls Tryd.prog 12 #[v] w fun e w' => e = .returned (.int .i64 (stOk st)) ∧ Below w.heap.size w w' := by
  by_cases hs : sizesB st = true
  · exact specStateOk_yes v st w h hs
  · have hs' : sizesB st = false := by simpa using hs
    rw [stOk1 hs']
    exact specStateOk_no v st w h hs'
end Go.Proofs.YtmjjigdnoiphbaaDoor
