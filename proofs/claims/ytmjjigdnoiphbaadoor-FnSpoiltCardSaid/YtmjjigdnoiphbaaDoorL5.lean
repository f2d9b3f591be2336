import Derived.Test.YtmjjigdnoiphbaaDoorJ9
/-
  impl: cheaperOrLower, longerBy.
-/
namespace Go.Proofs.YtmjjigdnoiphbaaDoor
open Go.RowKit Go.Deep Go.Maps
set_option linter.unusedVariables false

set_option maxHeartbeats 2000000 in
theorem cheaper_any (x y : Way) (w : World) (hx : 0 ≤ x.2.1 ∧ x.2.1 ≤ 23000 ∧ x.2.2 < 5) (hy : 0 ≤ y.2.1 ∧ y.2.1 ≤ 23000 ∧ y.2.2 < 5) :
    Calls Tryd.prog 96 #[wv x, wv y] w fun e w' => e = .returned (.bool (decide (wkey x < wkey y))) ∧ Below w.heap.size w w' := by
  obtain ⟨d, c, m⟩ := x
  obtain ⟨e, c', m'⟩ := y
  simp only at hx hy
  unfold wv wc7 wkey
  simp only
  go_enter Tryd.func96, Tryd.ntmps96
  by_cases hc : c = c'
  · subst hc
    have hb : decide (c * 8 + (m : Int) < c * 8 + (m' : Int)) = decide (m < m') := by simp
    rw [hb]
    have hcc : (c != c) = false := by simp
    go_wp2_with fail
    go_ret
    exact ⟨rfl, Joins.below_alloc2 _ _ _⟩
  · have hb : decide (c * 8 + (m : Int) < c' * 8 + (m' : Int)) = decide (c < c') := by
      by_cases h : c < c'
      · rw [decide_eq_true h]; exact decide_eq_true (by omega)
      · rw [decide_eq_false h]; exact decide_eq_false (by omega)
    rw [hb]
    have hcc : (c != c') = true := by simp [hc]
    go_wp2_with fail
    go_ret
    exact ⟨rfl, Joins.below_alloc2 _ _ _⟩
theorem below4 (w : World) (o1 o2 o3 o4 : Obj) : Below w.heap.size w ((((w.alloc o1).alloc o2).alloc o3).alloc o4) := (Joins.below_alloc3 w o1 o2 o3).alloc (by simp; omega) o4
theorem cells7 {w : World} {b : Nat} {x0 x1 x2 x3 x4 x5 x6 : Value} {t : TypeId} (h : w.heap[b]? = some (.cells #[x0, x1, x2, x3, x4, x5, x6] t (0, 0))) :
    w.cell? ⟨b, 0, none⟩ = some x0 ∧ w.cell? ⟨b, 1, none⟩ = some x1 ∧ w.cell? ⟨b, 2, none⟩ = some x2 ∧ w.cell? ⟨b, 3, none⟩ = some x3 ∧ w.cell? ⟨b, 4, none⟩ = some x4 ∧ w.cell? ⟨b, 5, none⟩ = some x5 ∧ w.cell? ⟨b, 6, none⟩ = some x6 :=
  ⟨by rw [cell_of_row w b 0 _ t (0, 0) h]; rfl, by rw [cell_of_row w b 1 _ t (0, 0) h]; rfl, by rw [cell_of_row w b 2 _ t (0, 0) h]; rfl, by rw [cell_of_row w b 3 _ t (0, 0) h]; rfl, by rw [cell_of_row w b 4 _ t (0, 0) h]; rfl, by rw [cell_of_row w b 5 _ t (0, 0) h]; rfl, by rw [cell_of_row w b 6 _ t (0, 0) h]; rfl⟩
/-- seven cells of a block written: what lies elsewhere is as it was -/
theorem far7 {w : World} {b : Nat} {x0 x1 x2 x3 x4 x5 x6 : Value} {a : Addr} (h : a.block ≠ b) : (((((((w.setCell ⟨b, 0, none⟩ x0).setCell ⟨b, 1, none⟩ x1).setCell ⟨b, 2, none⟩ x2).setCell ⟨b, 3, none⟩ x3).setCell ⟨b, 4, none⟩ x4).setCell ⟨b, 5, none⟩ x5).setCell ⟨b, 6, none⟩ x6).cell? a = w.cell? a := by
  have k : ∀ (w : World) (o : Nat) (x : Value), (w.setCell ⟨b, o, none⟩ x).cell? a = w.cell? a := fun w o x => World.cell?_setCell_far w _ _ x (fun e => h e.symm)
  rw [k, k, k, k, k, k, k]
/-- a progress ahead of a train's last move -/
def unb (d : Pr) (m : Nat) : Pr := fun i => if i = m then d i - 1 else d i

def RoomB (st : St) (e : Pr) (m : Nat) : Prop := (cntUp st.2.1 e (farAt (tAt st.2.1 m) (tPath st.2.1 m) (e m)) st.2.1.length : Int) ≤ el st.1 (farAt (tAt st.2.1 m) (tPath st.2.1 m) (e m)).toNat
def LongR (st : St) (d : Pr) (c : Int) (m : Nat) (y : Way) (ok : Bool) : Prop := (ok = false ∧ y = (pz, 0, 0) ∧ (d m = 0 ∨ ¬ RoomB st (unb d m) m)) ∨ (ok = true ∧ d m ≠ 0 ∧ y = (unb d m, c + wtP st (unb d m), m) ∧ RoomB st (unb d m) m)
def LongE (st : St) (d : Pr) (c : Int) (m : Nat) (e : Ending) : Prop := ∃ y ok, e = .returned (.tuple #[wv y, .bool ok]) ∧ LongR st d c m y ok
theorem unb_other {d : Pr} {m i : Nat} (h : i ≠ m) : unb d m i = d i := by unfold unb; rw [if_neg h]
theorem unb_at (d : Pr) (m : Nat) : unb d m m = d m - 1 := by unfold unb; rw [if_pos rfl]

set_option maxRecDepth 4000 in
set_option maxHeartbeats 4000000 in
theorem longerBy_any (v : Value) (st : St) (d : Pr) (c : Int) (mm m : Nat) (w : World) (h : StateAt w v st) (hcap : CapSt w v st.2.1.length) (hr : RightSt st) (hx : PV st d) (hc : 0 ≤ c ∧ c ≤ 23000) (hm : m < st.2.1.length) :
    Calls Tryd.prog 99 #[.agg #[.int .i8 (d 0), .int .i8 (d 1), .int .i8 (d 2), .int .i8 (d 3), .int .i8 (d 4), .int .i64 c, .int .i64 mm], v, .int .i64 m] w fun e w' => LongE st d c m e ∧ Below w.heap.size w w' := by
  have HS := hide h
  have HC := hide hcap
  have HR := hide hr
  have HX := hide hx
  obtain ⟨a1, q1, a2, q2, a3, q3, rfl⟩ := h.form
  obtain ⟨l1, l2, l3, l4⟩ := hr.lens
  have hd5 : ∀ i, d i < 100 := fun i => hx.lt hr.so i
  have hdm := hx.ok m hm
  clear h hcap hr hx l4
  have hm5 : m < 5 := by omega
  have hL : ∀ h : m < ([.int .i8 (d 0), .int .i8 (d 1), .int .i8 (d 2), .int .i8 (d 3), .int .i8 (d 4)] : List Value).length, ([.int .i8 (d 0), .int .i8 (d 1), .int .i8 (d 2), .int .i8 (d 3), .int .i8 (d 4)] : List Value)[m]'h = .int .i8 (d m) := fun h => by
    rcases (show m = 0 ∨ m = 1 ∨ m = 2 ∨ m = 3 ∨ m = 4 by omega) with rfl | rfl | rfl | rfl | rfl <;> rfl
  go_enter Tryd.func99, Tryd.ntmps99
  by_cases h0 : d m = 0
  · have h0b : ((d m : Int) == 0) = true := by simp [h0]
    have HL : Hid (LongR st d c m (pz, 0, 0) false) := Or.inl ⟨rfl, rfl, Or.inl h0⟩
    go_wp2_with fail
    refine bodyPost_ret ?_ rfl ⟨⟨(pz, 0, 0), false, rfl, HL.out⟩, below4 _ _ _ _ _⟩
    simp [results, Tryd.results99, go_sem, wv, wc7, pz]
  · have h0b : ((d m : Int) == 0) = false := by simp [h0]
    have h0i : ¬ ((d m : Int) = 0) := by omega
    have hwr : IntKind.i8.wrap ((d m : Int) - 1) = ((unb d m m : Nat) : Int) := by
      rw [unb_at]
      have := hd5 m
      simp [IntKind.wrap, IntKind.bits]
      omega
    go_wp2_with fail
    obtain ⟨V, hV⟩ : ∃ V, V = (((w.alloc (.cells #[.int .i8 (d 0), .int .i8 (d 1), .int .i8 (d 2), .int .i8 (d 3), .int .i8 (d 4), .int .i64 c, .int .i64 mm] 99)).alloc (.cells #[.slice a1 st.1.length q1, .slice a2 st.2.1.length q2, .slice a3 st.2.2.length q3] 26)).alloc (.cells #[.int .i8 0, .int .i8 0, .int .i8 0, .int .i8 0, .int .i8 0, .int .i64 0, .int .i64 0] 99)).alloc (.cells ([.int .i8 (d 0), .int .i8 (d 1), .int .i8 (d 2), .int .i8 (d 3), .int .i8 (d 4)].set m (.int .i8 (unb d m m : Nat))).toArray 61) := ⟨_, rfl⟩
    rw [← hV]
    have HB := hide (show Below w.heap.size w V by rw [hV]; exact below4 _ _ _ _ _)
    have hp5 : ([.int .i8 (d 0), .int .i8 (d 1), .int .i8 (d 2), .int .i8 (d 3), .int .i8 (d 4)].set m (.int .i8 (unb d m m : Nat))).toArray = pc5 (unb d m) := by
      unfold pc5 unb
      rcases (show m = 0 ∨ m = 1 ∨ m = 2 ∨ m = 3 ∨ m = 4 by omega) with rfl | rfl | rfl | rfl | rfl <;> simp
    rw [hp5] at hV
    have hP : V.heap[w.heap.size + 1 + 1 + 1]? = some (.cells (pc5 (unb d m)) 61 (0, 0)) := by
      rw [hV]
      have := heap_alloc_new (((w.alloc (.cells #[.int .i8 (d 0), .int .i8 (d 1), .int .i8 (d 2), .int .i8 (d 3), .int .i8 (d 4), .int .i64 c, .int .i64 mm] 99)).alloc (.cells #[.slice a1 st.1.length q1, .slice a2 st.2.1.length q2, .slice a3 st.2.2.length q3] 26)).alloc (.cells #[.int .i8 0, .int .i8 0, .int .i8 0, .int .i8 0, .int .i8 0, .int .i64 0, .int .i64 0] 99)) (.cells (pc5 (unb d m)) 61)
      simpa using this
    have hWB : V.heap[w.heap.size]? = some (.cells #[.int .i8 (d 0), .int .i8 (d 1), .int .i8 (d 2), .int .i8 (d 3), .int .i8 (d 4), .int .i64 c, .int .i64 mm] 99 (0, 0)) := by rw [hV]; exact blockLater (Joins.below_alloc3 _ _ _ _) (heap_alloc_new _ _)
    have hSB : V.heap[w.heap.size + 1]? = some (.cells #[.slice a1 st.1.length q1, .slice a2 st.2.1.length q2, .slice a3 st.2.2.length q3] 26 (0, 0)) := by rw [hV]; exact blockLater (Joins.below_alloc2 _ _ _) (heap_alloc2_new _ _ _)
    have hW5 := (cells7 hWB).2.2.2.2.2.1
    obtain ⟨c0, c1, c2, _⟩ := block3 hSB
    have hRB : V.heap[w.heap.size + 1 + 1]? = some (.cells #[.int .i8 0, .int .i8 0, .int .i8 0, .int .i8 0, .int .i8 0, .int .i64 0, .int .i64 0] 99 (0, 0)) := by
      rw [hV]
      exact blockLater (Joins.below_alloc1 _ _) (by
        have := heap_alloc_new ((w.alloc (.cells #[.int .i8 (d 0), .int .i8 (d 1), .int .i8 (d 2), .int .i8 (d 3), .int .i8 (d 4), .int .i64 c, .int .i64 mm] 99)).alloc (.cells #[.slice a1 st.1.length q1, .slice a2 st.2.1.length q2, .slice a3 st.2.2.length q3] 26)) (.cells #[.int .i8 0, .int .i8 0, .int .i8 0, .int .i8 0, .int .i8 0, .int .i64 0, .int .i64 0] 99)
        simpa using this)
    have hVs : w.heap.size + 1 + 1 + 1 < V.heap.size := (Array.getElem?_eq_some_iff.1 hP).1
    clear hV hp5 hL hwr
    have HEQ : Hid (PrOk st (unb d m)) := fun i hi => by
      by_cases e : i = m
      · subst e; rw [unb_at]; omega
      · rw [unb_other e]; exact HX.out.ok i hi
    have hE5 : Hid (∀ i, unb d m i < 100) := fun i => by
      by_cases e : i = m
      · subst e; rw [unb_at]; have := hd5 i; omega
      · rw [unb_other e]; exact hd5 i
    have hem : unb d m m ≤ (tPath st.2.1 m).length := by rw [unb_at]; omega
    have HLT : Hid (RoomB st (unb d m) m → LongR st d c m (unb d m, c + wtP st (unb d m), m) true) := fun hh => Or.inr ⟨rfl, h0, rfl, hh⟩
    have HLF : Hid (¬ RoomB st (unb d m) m → LongR st d c m (pz, 0, 0) false) := fun hh => Or.inl ⟨rfl, rfl, Or.inr hh⟩
    obtain ⟨f0, f1⟩ := far_ok HR.out.so hm hem
    unfold RoomB at HLT HLF
    generalize unb d m = e at *
    obtain ⟨p0, p1, p2, p3, p4⟩ := cells5 hP
    obtain ⟨b, off, rfl, vp, t0, t1, hI, t2⟩ := HS.out.parts.2.1.trainAt m hm
    have HI := hide hI
    obtain ⟨ap, cp, rfl, -⟩ := hI
    have HCP : Hid ((tPath st.2.1 m).length ≤ cp) := HC.out _ _ _ _ _ _ _ _ _ rfl m b off _ _ _ hm rfl t1
    have h8 := (HR.out.train m hm).2.2.1
    have g0 := cell_later HB.out t0
    have g1 := cell_later HB.out t1
    have g2 := cell_later HB.out t2
    have HP := hide hP
    have HRB := hide hRB
    have hmi : (m : Int) < (st.2.1.length : Int) := by omega
    clear t0 t1 t2 hP hRB hWB hSB
    obtain ⟨k, hk⟩ : ∃ k : Nat, (k : Int) = farAt (tAt st.2.1 m) (tPath st.2.1 m) (e m) := ⟨(farAt (tAt st.2.1 m) (tPath st.2.1 m) (e m)).toNat, by omega⟩
    have HK := hide hk
    have hk1 : k < st.1.length := by omega
    rw [← hk] at HLT HLF
    clear hk f0 f1
    have hf0 := fun (x y : Int) (u : Value) (w : World) => run_field0 x y u w
    go_region_held3 (fun w' => w'.cell? ⟨w.heap.size + 1, 0, none⟩ = some (.slice a1 st.1.length q1) ∧ w'.cell? ⟨w.heap.size + 1, 1, none⟩ = some (.slice (some ⟨b, off, none⟩) st.2.1.length q2) ∧ w'.cell? ⟨w.heap.size + 1, 2, none⟩ = some (.slice a3 st.2.2.length q3) ∧ w'.cell? ⟨w.heap.size + 1 + 1 + 1, 0, none⟩ = some (.int .i8 (e 0)) ∧ w'.cell? ⟨w.heap.size + 1 + 1 + 1, 1, none⟩ = some (.int .i8 (e 1)) ∧ w'.cell? ⟨w.heap.size + 1 + 1 + 1, 2, none⟩ = some (.int .i8 (e 2)) ∧ w'.cell? ⟨w.heap.size + 1 + 1 + 1, 3, none⟩ = some (.int .i8 (e 3)) ∧ w'.cell? ⟨w.heap.size + 1 + 1 + 1, 4, none⟩ = some (.int .i8 (e 4)) ∧ w'.cell? ⟨b, off + m * 3, none⟩ = some (.int .i64 (tAt st.2.1 m)) ∧ w'.cell? ⟨b, off + m * 3 + 1, none⟩ = some (.slice ap (tPath st.2.1 m).length cp) ∧ w'.cell? ⟨b, off + m * 3 + 2, none⟩ = some (.int .i64 (tWt st.2.1 m)))
      (first | (exact ⟨cell_later hb2 (by exact c0), cell_later hb2 (by exact c1), cell_later hb2 (by exact c2), cell_later hb2 (by exact p0), cell_later hb2 (by exact p1), cell_later hb2 (by exact p2), cell_later hb2 (by exact p3), cell_later hb2 (by exact p4), cell_later hb2 (by exact g0), cell_later hb2 (by exact g1), cell_later hb2 (by exact g2)⟩) | go_keep)
      (first | (go_at_call 94; refine (trainBehind_at e _ _ (k : Int) (tPath st.2.1 m) _ ap cp m _ hm5 hem h8 HCP.out (IntsAt.below HI.out HB.out.drew) HK.out.symm rfl).mono ?_; rintro e2 w2 ⟨a', c', rfl, -, -, hb2⟩))
    rename_i hh
    clear c0 c1 c2 p0 p1 p2 p3 p4 g0 g1 g2
    obtain ⟨c0, c1, c2, p0, p1, p2, p3, p4, g0, g1, g2⟩ := hh
    have hbv2 := below_tail (Joins.below_draws V.heap.size V 1) hb2
    replace hW5 := cell_later hbv2 hW5
    have HP2 := hide (blockLater hbv2 HP.out)
    have HRB2 := hide (blockLater hbv2 HRB.out)
    have HB2 := hide (below_tail HB.out hbv2)
    have hw2 : w.heap.size + 1 + 1 + 1 < w2.heap.size := Nat.lt_of_lt_of_le hVs hbv2.size
    clear hb2 hbv2 HP HRB HB g0 g1 g2
    obtain ⟨br, offr, rfl, hx⟩ := (HS.out.below HB2.out).parts.1.cellAt k hk1
    have hki : (k : Int) < (st.1.length : Int) := by omega
    have hkn : ((k : Int)).toNat = k := by omega
    rw [hkn] at HLT HLF
    obtain ⟨s0, s1⟩ := wtP_le HR.out.so e
    have hcnt := cntUp_le st.2.1 e (k : Int) st.2.1.length
    generalize hcn : cntUp st.2.1 e (k : Int) st.2.1.length = cn at *
    have HCN := hide hcn
    clear hcn
    by_cases hgt : (cn : Int) > el st.1 k
    · have HV := hide (HLF.out (by omega))
      have hgb : decide ((cn : Int) > el st.1 k) = true := by simp; omega
      go_wp2_with fail
      go_region_held3 (fun w' => w'.cell? ⟨w.heap.size + 1, 0, none⟩ = some (.slice (some ⟨br, offr, none⟩) st.1.length q1) ∧ w'.cell? ⟨w.heap.size + 1, 1, none⟩ = some (.slice (some ⟨b, off, none⟩) st.2.1.length q2) ∧ w'.cell? ⟨w.heap.size + 1, 2, none⟩ = some (.slice a3 st.2.2.length q3) ∧ w'.cell? ⟨w.heap.size + 1 + 1 + 1, 0, none⟩ = some (.int .i8 (e 0)) ∧ w'.cell? ⟨w.heap.size + 1 + 1 + 1, 1, none⟩ = some (.int .i8 (e 1)) ∧ w'.cell? ⟨w.heap.size + 1 + 1 + 1, 2, none⟩ = some (.int .i8 (e 2)) ∧ w'.cell? ⟨w.heap.size + 1 + 1 + 1, 3, none⟩ = some (.int .i8 (e 3)) ∧ w'.cell? ⟨w.heap.size + 1 + 1 + 1, 4, none⟩ = some (.int .i8 (e 4)) ∧ w'.cell? ⟨br, offr + k, none⟩ = some (.int .i64 (el st.1 k)))
        (first | (exact ⟨cell_later hb3 (by exact c0), cell_later hb3 (by exact c1), cell_later hb3 (by exact c2), cell_later hb3 (by exact p0), cell_later hb3 (by exact p1), cell_later hb3 (by exact p2), cell_later hb3 (by exact p3), cell_later hb3 (by exact p4), cell_later hb3 (by exact hx)⟩) | go_keep)
        (first | (go_at_call 95; refine (countOn_any _ st e (k : Int) _ (HS.out.below HB2.out.drew) (CapSt.below HC.out HS.out HB2.out.drew) HR.out HEQ.out).mono ?_; rw [HCN.out]; rintro e3 w3 ⟨rfl, hb3⟩))
      have hbv3 := below_tail (Joins.below_draws w2.heap.size w2 1) hb3
      have HRB3 := hide (blockLater hbv3 HRB2.out)
      have HB3 := hide (below_tail HB2.out hbv3)
      have hrs : w.heap.size + 1 + 1 < w3.heap.size := (Array.getElem?_eq_some_iff.1 HRB3.out).1
      obtain ⟨r0, r1, r2, r3, r4, r5, r6⟩ := cells7 HRB3.out
      have rf : ∀ o, w3.frozen? ⟨w.heap.size + 1 + 1, o, none⟩ = false := fun o => frozen_of_row w3 _ o _ _ HRB3.out
      have f0 := rf 0
      have f1 := rf 1
      have f2 := rf 2
      have f3 := rf 3
      have f4 := rf 4
      have f5 := rf 5
      have f6 := rf 6
      clear rf hb3 hbv3 c0 c1 c2 p0 p1 p2 p3 p4 hx
      go_wp2_with fail
      refine bodyPost_ret ?_ rfl ⟨⟨(pz, 0, 0), false, rfl, HV.out⟩, ((((((HB3.out.setCell (p := ⟨w.heap.size + 1 + 1, 0, none⟩) (by simp; omega) _).setCell (p := ⟨w.heap.size + 1 + 1, 1, none⟩) (by simp; omega) _).setCell (p := ⟨w.heap.size + 1 + 1, 2, none⟩) (by simp; omega) _).setCell (p := ⟨w.heap.size + 1 + 1, 3, none⟩) (by simp; omega) _).setCell (p := ⟨w.heap.size + 1 + 1, 4, none⟩) (by simp; omega) _).setCell (p := ⟨w.heap.size + 1 + 1, 5, none⟩) (by simp; omega) _).setCell (p := ⟨w.heap.size + 1 + 1, 6, none⟩) (by simp; omega) _⟩
      simp [results, Tryd.results99, go_sem, wv, wc7, pz, r0, r1, r2, r3, r4, r5, r6]
    · have HV := hide (HLT.out (by omega))
      have hgb : decide ((cn : Int) > el st.1 k) = false := by simp; omega
      go_wp2_with fail
      go_region_held3 (fun w' => w'.cell? ⟨w.heap.size + 1, 0, none⟩ = some (.slice (some ⟨br, offr, none⟩) st.1.length q1) ∧ w'.cell? ⟨w.heap.size + 1, 1, none⟩ = some (.slice (some ⟨b, off, none⟩) st.2.1.length q2) ∧ w'.cell? ⟨w.heap.size + 1, 2, none⟩ = some (.slice a3 st.2.2.length q3) ∧ w'.cell? ⟨w.heap.size + 1 + 1 + 1, 0, none⟩ = some (.int .i8 (e 0)) ∧ w'.cell? ⟨w.heap.size + 1 + 1 + 1, 1, none⟩ = some (.int .i8 (e 1)) ∧ w'.cell? ⟨w.heap.size + 1 + 1 + 1, 2, none⟩ = some (.int .i8 (e 2)) ∧ w'.cell? ⟨w.heap.size + 1 + 1 + 1, 3, none⟩ = some (.int .i8 (e 3)) ∧ w'.cell? ⟨w.heap.size + 1 + 1 + 1, 4, none⟩ = some (.int .i8 (e 4)) ∧ w'.cell? ⟨br, offr + k, none⟩ = some (.int .i64 (el st.1 k)))
        (first | (exact ⟨cell_later hb3 (by exact c0), cell_later hb3 (by exact c1), cell_later hb3 (by exact c2), cell_later hb3 (by exact p0), cell_later hb3 (by exact p1), cell_later hb3 (by exact p2), cell_later hb3 (by exact p3), cell_later hb3 (by exact p4), cell_later hb3 (by exact hx)⟩) | go_keep)
        (first | (go_at_call 95; refine (countOn_any _ st e (k : Int) _ (HS.out.below HB2.out.drew) (CapSt.below HC.out HS.out HB2.out.drew) HR.out HEQ.out).mono ?_; rw [HCN.out]; rintro e3 w3 ⟨rfl, hb3⟩))
      have hbv3 := below_tail (Joins.below_draws w2.heap.size w2 1) hb3
      have HRB3 := hide (blockLater hbv3 HRB2.out)
      have HB3 := hide (below_tail HB2.out hbv3)
      have hrs : w.heap.size + 1 + 1 < w3.heap.size := (Array.getElem?_eq_some_iff.1 HRB3.out).1
      have hW53 := cell_later hbv3 hW5
      rename_i hh
      clear hb3 hbv3 c0 c1 c2 p0 p1 p2 p3 p4 hx hW5
      obtain ⟨c0, c1, c2, p0, p1, p2, p3, p4, hx⟩ := hh
      have hsum : c + wtP st e ≤ 23500 := by omega
      have hsum0 : 0 ≤ c + wtP st e := by omega
      generalize hwt : wtP st e = wt at *
      have HWT := hide hwt
      clear hwt
      have hwr2 : IntKind.i64.wrap (c + wt) = c + wt := by rw [IntKind.wrap_i64] <;> omega
      go_wp2_with fail
      go_region_held3 (fun w' => w'.cell? ⟨w.heap.size + 1, 0, none⟩ = some (.slice (some ⟨br, offr, none⟩) st.1.length q1) ∧ w'.cell? ⟨w.heap.size + 1, 1, none⟩ = some (.slice (some ⟨b, off, none⟩) st.2.1.length q2) ∧ w'.cell? ⟨w.heap.size + 1, 2, none⟩ = some (.slice a3 st.2.2.length q3) ∧ w'.cell? ⟨w.heap.size + 1 + 1 + 1, 0, none⟩ = some (.int .i8 (e 0)) ∧ w'.cell? ⟨w.heap.size + 1 + 1 + 1, 1, none⟩ = some (.int .i8 (e 1)) ∧ w'.cell? ⟨w.heap.size + 1 + 1 + 1, 2, none⟩ = some (.int .i8 (e 2)) ∧ w'.cell? ⟨w.heap.size + 1 + 1 + 1, 3, none⟩ = some (.int .i8 (e 3)) ∧ w'.cell? ⟨w.heap.size + 1 + 1 + 1, 4, none⟩ = some (.int .i8 (e 4)) ∧ w'.cell? ⟨w.heap.size, 5, none⟩ = some (.int .i64 c))
        (first | (refine ⟨?_, ?_, ?_, ?_, ?_, ?_, ?_, ?_, ?_⟩ <;> (rw [far7 (by intro hne; dsimp only at hne; omega)]; assumption)) | exact ⟨by exact c0, by exact c1, by exact c2, by exact p0, by exact p1, by exact p2, by exact p3, by exact p4, by exact hW53⟩ | exact ⟨k0, k1, k2, k3, k4, k5, k6, k7, k8⟩ | go_keep)
        (first | (go_at_call 58; refine (weightThere_any _ st _ (HS.out.below HB3.out.drew) HR.out.so (d := e) hE5.out).mono ?_; rw [HWT.out]; rintro e4 w4 ⟨rfl, hb4⟩; have k0 := cell_later hb4 (by exact c0); have k1 := cell_later hb4 (by exact c1); have k2 := cell_later hb4 (by exact c2); have k3 := cell_later hb4 (by exact p0); have k4 := cell_later hb4 (by exact p1); have k5 := cell_later hb4 (by exact p2); have k6 := cell_later hb4 (by exact p3); have k7 := cell_later hb4 (by exact p4); have k8 := cell_later hb4 (by exact hW53); have HRB4 := hide (blockLater (below_tail (Joins.below_draws w3.heap.size w3 1) hb4) HRB3.out); have hc7 := cells7 HRB4.out; obtain ⟨r0, r1, r2, r3, r4, r5, r6⟩ := hc7; have rf := fun o => frozen_of_row w4 (w.heap.size + 1 + 1) o _ _ HRB4.out; have f0 := rf 0; have f1 := rf 1; have f2 := rf 2; have f3 := rf 3; have f4 := rf 4; have f5 := rf 5; have f6 := rf 6; clear rf))
      all_goals
        have HB4 := hide (below_tail HB3.out (below_tail (Joins.below_draws w3.heap.size w3 1) hb4))
        have hrs4 : w.heap.size + 1 + 1 < w4.heap.size := (Array.getElem?_eq_some_iff.1 HRB4.out).1
        have q0 := cells7 HRB4.out
        obtain ⟨r0, r1, r2, r3, r4, r5, r6⟩ := q0
        clear hb4
        go_wp2_with fail
        refine bodyPost_ret ?_ rfl ⟨⟨(e, c + wt, m), true, rfl, HV.out⟩, ((((((HB4.out.setCell (p := ⟨w.heap.size + 1 + 1, 0, none⟩) (by simp; omega) _).setCell (p := ⟨w.heap.size + 1 + 1, 1, none⟩) (by simp; omega) _).setCell (p := ⟨w.heap.size + 1 + 1, 2, none⟩) (by simp; omega) _).setCell (p := ⟨w.heap.size + 1 + 1, 3, none⟩) (by simp; omega) _).setCell (p := ⟨w.heap.size + 1 + 1, 4, none⟩) (by simp; omega) _).setCell (p := ⟨w.heap.size + 1 + 1, 5, none⟩) (by simp; omega) _).setCell (p := ⟨w.heap.size + 1 + 1, 6, none⟩) (by simp; omega) _⟩
        simp [results, Tryd.results99, go_sem, wv, wc7, r0, r1, r2, r3, r4, r5, r6]
end Go.Proofs.YtmjjigdnoiphbaaDoor

/-
  A HEAP OF WAYS IN MEMORY.
-/
namespace Go.Proofs.YtmjjigdnoiphbaaDoor
open Go.RowKit Go.Deep Go.Maps
set_option linter.unusedVariables false

theorem Tryd.infoWay : (Tryd.prog.info? 99).map (fun i => (i.zero, i.size, i.bytes)) = some (some (wv (pz, 0, 0)), 7, 24) := by kernel_rfl
def beforeV : Value := .func (.func 96) #[] #[]
/-- n ways, the i-th of them f i, in a block g that has room for cap -/
structure HRow (w : World) (B g cap n : Nat) (f : Nat → Way) : Prop where
  lo : B ≤ g
  le : n ≤ cap
  max : cap ≤ maxLen
  ex : ∃ cur, w.heap[g]? = some (.cells cur 99 (0, 0)) ∧ cur.size = cap * 7 ∧ ∀ i, i < n → ∀ j, j < 7 → cur[i * 7 + j]? = (wc7 (f i))[j]?
theorem HRow.lt {w : World} {B g cap n : Nat} {f : Nat → Way} (h : HRow w B g cap n f) : g < w.heap.size := by
  obtain ⟨cur, h1, _⟩ := h.ex
  exact (Array.getElem?_eq_some_iff.1 h1).1
theorem HRow.kept {w w' : World} {B g cap n : Nat} {f : Nat → Way} (h : HRow w B g cap n f) (hb : w'.heap[g]? = w.heap[g]?) : HRow w' B g cap n f := by
  obtain ⟨cur, h1, r⟩ := h.ex
  exact ⟨h.lo, h.le, h.max, cur, hb.trans h1, r⟩
theorem HRow.below {w w' : World} {B g cap n : Nat} {f : Nat → Way} (h : HRow w B g cap n f) (hb : Below w.heap.size w w') : HRow w' B g cap n f := h.kept (hb.block g h.lt)
theorem HRow.cells {w : World} {B g cap n : Nat} {f : Nat → Way} (h : HRow w B g cap n f) {i : Nat} (hi : i < n) :
    w.cell? ⟨g, i * 7, none⟩ = some (.int .i8 ((f i).1 0)) ∧ w.cell? ⟨g, i * 7 + 1, none⟩ = some (.int .i8 ((f i).1 1)) ∧ w.cell? ⟨g, i * 7 + 2, none⟩ = some (.int .i8 ((f i).1 2)) ∧ w.cell? ⟨g, i * 7 + 3, none⟩ = some (.int .i8 ((f i).1 3)) ∧ w.cell? ⟨g, i * 7 + 4, none⟩ = some (.int .i8 ((f i).1 4)) ∧ w.cell? ⟨g, i * 7 + 5, none⟩ = some (.int .i64 (f i).2.1) ∧ w.cell? ⟨g, i * 7 + 6, none⟩ = some (.int .i64 ((f i).2.2 : Int)) ∧ ∀ o, w.frozen? ⟨g, o, none⟩ = false := by
  obtain ⟨cur, h1, h2, h3⟩ := h.ex
  have k : ∀ j, j < 7 → w.cell? ⟨g, i * 7 + j, none⟩ = (wc7 (f i))[j]? := fun j hj => by rw [cell_of_row w g (i * 7 + j) cur _ (0, 0) h1]; exact h3 i hi j hj
  exact ⟨k 0 (by omega), k 1 (by omega), k 2 (by omega), k 3 (by omega), k 4 (by omega), k 5 (by omega), k 6 (by omega), fun o => frozen_of_row w g o _ _ h1⟩
theorem w64 (n : Int) (h : -9223372036854775808 ≤ n ∧ n ≤ 9223372036854775807) : wrap64 n = n := by unfold wrap64; omega
/-- bounds that all ways of a heap keep -/
def WaysOk (f : Nat → Way) (n : Nat) : Prop := ∀ i, i < n → 0 ≤ (f i).2.1 ∧ (f i).2.1 ≤ 23000 ∧ (f i).2.2 < 5

set_option maxRecDepth 4000 in
set_option maxHeartbeats 4000000 in
theorem leastOf_any (ob p B g cap n : Nat) (f : Nat → Way) (w : World) (hv : w.heap[ob]? = some (.cells #[.slice (some ⟨g, 0, none⟩) n cap, beforeV] 150 (0, 0))) (h : HRow w B g cap n f) (hok : WaysOk f n) (hn : n ≤ 100000000000) (hp : p ≤ 100000000000) :
    Calls Tryd.prog 112 #[.pointer (some ⟨ob, 0, none⟩), .int .i64 p] w fun e w' => ∃ l : Nat, e = .returned (.int .i64 l) ∧ LeastOf wkey f n p l ∧ Below w.heap.size w w' := by
  have HV := hide hv
  have HH := hide h
  have HOK := hide hok
  have hob : ob < w.heap.size := (Array.getElem?_eq_some_iff.1 hv).1
  clear hv h hok
  go_enter Tryd.func112, Tryd.ntmps112
  have hw1 : wrap64 (2 * (p : Int)) = 2 * (p : Int) := w64 _ (by omega)
  have hw2 : wrap64 (2 * (p : Int) + 1) = 2 * (p : Int) + 1 := w64 _ (by omega)
  have hw3 : wrap64 (2 * (p : Int) + 2) = 2 * (p : Int) + 2 := w64 _ (by omega)
  go_wp2_with fail
  go_loopw [5, 6] (fun u i wr => ∃ l ch : Nat, u = .int .i64 l ∧ i = .int .i64 ch ∧ 2 * p + 1 ≤ ch ∧ ch ≤ 2 * p + 3 ∧ (l = p ∨ (2 * p + 1 ≤ l ∧ l < ch ∧ l < n ∧ wkey (f l) < wkey (f p))) ∧ (∀ i, 2 * p + 1 ≤ i → i < ch → i < n → wkey (f l) ≤ wkey (f i)) ∧ Below w.heap.size w wr) (fun _ i _ => 2 * p + 3 - (intOf i).toNat)
  case atStart => exact ⟨p, 2 * p + 1, rfl, by go_num, by omega, by omega, Or.inl rfl, fun i h1 h2 => by omega, Below.refl _ _⟩
  case round =>
    obtain ⟨l, ch, rfl, rfl, h1, h2, h3, h4, hb⟩ := hrel
    have HVr := hide (blockLater hb HV.out)
    have HHr := hide (HH.out.below hb)
    have HB := hide hb
    have H3 := hide h3
    have H4 := hide h4
    have b0 : wr.cell? ⟨ob, 0, none⟩ = some (.slice (some ⟨g, 0, none⟩) n cap) := by rw [cell_of_row wr ob 0 _ _ (0, 0) HVr.out]; rfl
    have b1 : wr.cell? ⟨ob, 1, none⟩ = some (.func (.func 96) #[] #[]) := by rw [cell_of_row wr ob 1 _ _ (0, 0) HVr.out]; rfl
    have hl3 : l < ch := by rcases h3 with e | e <;> omega
    have hln : ch < n → l < n := fun hh => by omega
    have hle : ch ≤ 200000000003 := by omega
    clear hb h3 h4
    by_cases hc1 : ch ≤ 2 * p + 2
    · by_cases hc2 : ch < n
      · have hc1i : (ch : Int) ≤ 2 * (p : Int) + 2 := by omega
        have hc2i : (ch : Int) < (n : Int) := by omega
        have hln2 := hln hc2
        have hlni : (l : Int) < (n : Int) := by omega
        obtain ⟨x0, x1, x2, x3, x4, x5, x6, xf⟩ := HHr.out.cells hc2
        obtain ⟨y0, y1, y2, y3, y4, y5, y6, yf⟩ := HHr.out.cells hln2
        have HCK := hide (cheaper_any (f ch) (f l))
        have HO1 := hide (HOK.out ch hc2)
        have HO2 := hide (HOK.out l hln2)
        clear xf yf
        unfold wv wc7 at HCK
        by_cases hlt : wkey (f ch) < wkey (f l)
        all_goals
          first
          | (have hbb : decide (wkey (f ch) < wkey (f l)) = true := decide_eq_true hlt
             rw [hbb] at HCK
             have HLT := hide hlt)
          | (have hbb : decide (wkey (f ch) < wkey (f l)) = false := decide_eq_false hlt
             rw [hbb] at HCK
             have HLT := hide hlt)
          clear hbb hlt
          go_wp2_with fail
          go_region_held3 (fun w' => w'.cell? ⟨ob, 0, none⟩ = some (.slice (some ⟨g, 0, none⟩) n cap) ∧ w'.cell? ⟨ob, 1, none⟩ = some (.func (.func 96) #[] #[]) ∧ w'.cell? ⟨g, ch * 7, none⟩ = some (.int .i8 ((f ch).1 0)) ∧ w'.cell? ⟨g, ch * 7 + 1, none⟩ = some (.int .i8 ((f ch).1 1)) ∧ w'.cell? ⟨g, ch * 7 + 2, none⟩ = some (.int .i8 ((f ch).1 2)) ∧ w'.cell? ⟨g, ch * 7 + 3, none⟩ = some (.int .i8 ((f ch).1 3)) ∧ w'.cell? ⟨g, ch * 7 + 4, none⟩ = some (.int .i8 ((f ch).1 4)) ∧ w'.cell? ⟨g, ch * 7 + 5, none⟩ = some (.int .i64 (f ch).2.1) ∧ w'.cell? ⟨g, ch * 7 + 6, none⟩ = some (.int .i64 ((f ch).2.2 : Int)) ∧ w'.cell? ⟨g, l * 7, none⟩ = some (.int .i8 ((f l).1 0)) ∧ w'.cell? ⟨g, l * 7 + 1, none⟩ = some (.int .i8 ((f l).1 1)) ∧ w'.cell? ⟨g, l * 7 + 2, none⟩ = some (.int .i8 ((f l).1 2)) ∧ w'.cell? ⟨g, l * 7 + 3, none⟩ = some (.int .i8 ((f l).1 3)) ∧ w'.cell? ⟨g, l * 7 + 4, none⟩ = some (.int .i8 ((f l).1 4)) ∧ w'.cell? ⟨g, l * 7 + 5, none⟩ = some (.int .i64 (f l).2.1) ∧ w'.cell? ⟨g, l * 7 + 6, none⟩ = some (.int .i64 ((f l).2.2 : Int)))
            (first | (exact ⟨cell_later hb2 (by exact b0), cell_later hb2 (by exact b1), cell_later hb2 (by exact x0), cell_later hb2 (by exact x1), cell_later hb2 (by exact x2), cell_later hb2 (by exact x3), cell_later hb2 (by exact x4), cell_later hb2 (by exact x5), cell_later hb2 (by exact x6), cell_later hb2 (by exact y0), cell_later hb2 (by exact y1), cell_later hb2 (by exact y2), cell_later hb2 (by exact y3), cell_later hb2 (by exact y4), cell_later hb2 (by exact y5), cell_later hb2 (by exact y6)⟩) | go_keep)
            (first | (go_at_call 96; refine (HCK.out _ HO1.out HO2.out).mono ?_; rintro e w2 ⟨rfl, hb2⟩))
          have HB2 := hide (HB.out.trans ((below_tail (Joins.below_draws wr.heap.size wr 1) hb2).mono HB.out.size))
          clear hb2
          go_wp2_with fail
          go_roundw
          case rel =>
            have hlt := HLT.out
            have h3' := H3.out
            have h4' := H4.out
            first
            | (have hkp : wkey (f ch) < wkey (f p) := by
                 rcases h3' with e | e
                 · rw [← e]; exact hlt
                 · exact Int.lt_trans hlt e.2.2.2
               exact ⟨ch, ch + 1, rfl, by go_num, by omega, by omega, Or.inr ⟨h1, by omega, hc2, hkp⟩, fun i g1 g2 g3 => by
                by_cases e : i = ch
                · subst e; exact Int.le_refl _
                · exact Int.le_trans (Int.le_of_lt hlt) (h4' i g1 (by omega) g3), HB2.out⟩)
            | exact ⟨l, ch + 1, rfl, by go_num, by omega, by omega, h3'.imp id (fun e => ⟨e.1, by omega, e.2.2⟩), fun i g1 g2 g3 => by
                by_cases e : i = ch
                · subst e; omega
                · exact h4' i g1 (by omega) g3, HB2.out⟩
          case measure => simp [intOf]; omega
      · have hc1i : (ch : Int) ≤ 2 * (p : Int) + 2 := by omega
        have hc2i : ¬ ((ch : Int) < (n : Int)) := by omega
        go_wp2_with fail
        go_ret
        refine ⟨l, rfl, ⟨?_, fun i g1 g2 g3 => H4.out i (by omega) (by omega) g2⟩, HB.out⟩
        rcases H3.out with e | ⟨e1, e2, e3, e4⟩
        · exact Or.inl e
        · exact Or.inr ⟨e3, by omega, by omega, e4⟩
    · have hc1i : ¬ ((ch : Int) ≤ 2 * (p : Int) + 2) := by omega
      go_wp2_with fail
      go_ret
      refine ⟨l, rfl, ⟨?_, fun i g1 g2 g3 => H4.out i (by omega) (by omega) g2⟩, HB.out⟩
      rcases H3.out with e | ⟨e1, e2, e3, e4⟩
      · exact Or.inl e
      · exact Or.inr ⟨e3, by omega, by omega, e4⟩

def set7 (w : World) (g o : Nat) (x : Way) : World := ((((((w.setCell ⟨g, o, none⟩ (.int .i8 (x.1 0))).setCell ⟨g, o + 1, none⟩ (.int .i8 (x.1 1))).setCell ⟨g, o + 2, none⟩ (.int .i8 (x.1 2))).setCell ⟨g, o + 3, none⟩ (.int .i8 (x.1 3))).setCell ⟨g, o + 4, none⟩ (.int .i8 (x.1 4))).setCell ⟨g, o + 5, none⟩ (.int .i64 x.2.1)).setCell ⟨g, o + 6, none⟩ (.int .i64 (x.2.2 : Int))
theorem set7_far (w : World) (g o : Nat) (x : Way) {q : Nat} (h : q ≠ g) : (set7 w g o x).heap[q]? = w.heap[q]? := by
  unfold set7
  rw [Below.heap_setCell _ _ _ _ h, Below.heap_setCell _ _ _ _ h, Below.heap_setCell _ _ _ _ h, Below.heap_setCell _ _ _ _ h, Below.heap_setCell _ _ _ _ h, Below.heap_setCell _ _ _ _ h, Below.heap_setCell _ _ _ _ h]
theorem set7_chg {F : Nat → Prop} {a w : World} (h : Chg F a w) {g : Nat} (hg : F g) (o : Nat) (x : Way) : Chg F a (set7 w g o x) := by
  unfold set7
  exact ((((((h.setCell (p := ⟨g, o, none⟩) hg _).setCell (p := ⟨g, o + 1, none⟩) hg _).setCell (p := ⟨g, o + 2, none⟩) hg _).setCell (p := ⟨g, o + 3, none⟩) hg _).setCell (p := ⟨g, o + 4, none⟩) hg _).setCell (p := ⟨g, o + 5, none⟩) hg _).setCell (p := ⟨g, o + 6, none⟩) hg _
theorem HRow.set {w : World} {B g cap n : Nat} {f : Nat → Way} (h : HRow w B g cap n f) {i : Nat} (hi : i < n) (x : Way) : HRow (set7 w g (i * 7) x) B g cap n (updA f i x) := by
  obtain ⟨cur, h1, h2, h3⟩ := h.ex
  have b0 := Joins.block_setCell (i := i * 7) h1 (.int .i8 (x.1 0))
  have b1 := Joins.block_setCell (i := i * 7 + 1) b0 (.int .i8 (x.1 1))
  have b2 := Joins.block_setCell (i := i * 7 + 2) b1 (.int .i8 (x.1 2))
  have b3 := Joins.block_setCell (i := i * 7 + 3) b2 (.int .i8 (x.1 3))
  have b4 := Joins.block_setCell (i := i * 7 + 4) b3 (.int .i8 (x.1 4))
  have b5 := Joins.block_setCell (i := i * 7 + 5) b4 (.int .i64 x.2.1)
  have b6 := Joins.block_setCell (i := i * 7 + 6) b5 (.int .i64 (x.2.2 : Int))
  have hcap := h.le
  refine ⟨h.lo, h.le, h.max, _, b6, by simp [h2], fun k hk j hj => ?_⟩
  by_cases e : k = i
  · subst e
    have : updA f k x k = x := by unfold updA; rw [if_pos rfl]
    rw [this]
    unfold wc7
    rcases (show j = 0 ∨ j = 1 ∨ j = 2 ∨ j = 3 ∨ j = 4 ∨ j = 5 ∨ j = 6 by omega) with rfl | rfl | rfl | rfl | rfl | rfl | rfl
    all_goals
      simp only [Array.getElem?_setIfInBounds, Array.size_setIfInBounds, h2]
      simp
      try omega
  · have : updA f i x k = f k := by unfold updA; rw [if_neg e]
    rw [this, ← h3 k hk j hj]
    simp only [Array.getElem?_setIfInBounds]
    rw [if_neg (by omega), if_neg (by omega), if_neg (by omega), if_neg (by omega), if_neg (by omega), if_neg (by omega), if_neg (by omega)]
theorem updA_swp {f : Nat → Way} {c p : Nat} (h : c ≠ p) : updA (updA f c (f p)) p (f c) = swp f c p := by
  funext k
  unfold updA swp
  by_cases h1 : k = p
  · rw [if_pos h1, if_neg (by omega), if_pos h1]
  · rw [if_neg h1]
    by_cases h2 : k = c
    · rw [if_pos h2, if_pos h2]
    · rw [if_neg h2, if_neg h2, if_neg h1]
theorem HRow.swap {w : World} {B g cap n : Nat} {f : Nat → Way} (h : HRow w B g cap n f) {c p : Nat} (hc : c < n) (hp : p < n) (hne : c ≠ p) : HRow (set7 (set7 w g (c * 7) (f p)) g (p * 7) (f c)) B g cap n (swp f c p) := by
  rw [← updA_swp hne]
  exact (h.set hc (f p)).set hp (f c)
theorem WaysOk.swp {f : Nat → Way} {n i j : Nat} (h : WaysOk f n) (hi : i < n) (hj : j < n) : WaysOk (swp f i j) n := fun k hk => by
  unfold Go.Proofs.YtmjjigdnoiphbaaDoor.swp
  split
  · exact h j hj
  · split
    · exact h i hi
    · exact h k hk

/-- a heap of ways: its struct is block ob, its row lies at B or above -/
structure HeapAt (B : Nat) (w : World) (ob : Nat) (tv : Value) (n : Nat) (f : Nat → Way) : Prop where
  var : w.heap[ob]? = some (.cells #[tv, beforeV] 150 (0, 0))
  row : (tv = .slice none 0 0 ∧ n = 0) ∨ ∃ g cap, tv = .slice (some ⟨g, 0, none⟩) n cap ∧ HRow w B g cap n f
  lo : ob < B
  ok : WaysOk f n
theorem HeapAt.kept {B : Nat} {w w' : World} {ob : Nat} {tv : Value} {n : Nat} {f : Nat → Way} (h : HeapAt B w ob tv n f) (hb : ∀ q, q < w.heap.size → (q = ob ∨ tv.ownBlock = some q) → w'.heap[q]? = w.heap[q]?) : HeapAt B w' ob tv n f := by
  refine ⟨(hb ob (Array.getElem?_eq_some_iff.1 h.var).1 (Or.inl rfl)).trans h.var, ?_, h.lo, h.ok⟩
  rcases h.row with e | ⟨g, cap, e, hr⟩
  · exact Or.inl e
  · exact Or.inr ⟨g, cap, e, hr.kept (hb g hr.lt (Or.inr (by rw [e]; rfl)))⟩
theorem HeapAt.below {B : Nat} {w w' : World} {ob : Nat} {tv : Value} {n : Nat} {f : Nat → Way} (h : HeapAt B w ob tv n f) (hb : Below w.heap.size w w') : HeapAt B w' ob tv n f := h.kept (fun q hq _ => hb.block q hq)
/-- the row, as what is appended to wants it -/
theorem HeapAt.owns {B : Nat} {w : World} {ob : Nat} {tv : Value} {n : Nat} {f : Nat → Way} (h : HeapAt B w ob tv n f) : ∃ xs : List Value, w.ownsRow B 99 7 tv n xs ∧ ∀ i, i < n → ∀ j, j < 7 → xs[i * 7 + j]? = (wc7 (f i))[j]? := by
  rcases h.row with ⟨e1, e2⟩ | ⟨g, cap, e, hr⟩
  · subst e1 e2
    exact ⟨[], World.ownsRow_nil _ _ _ _, fun i hi => absurd hi (Nat.not_lt_zero _)⟩
  · subst e
    obtain ⟨cur, h1, h2, h3⟩ := hr.ex
    have hle := hr.le
    refine ⟨cur.toList.take (n * 7), ⟨?_, Or.inr ⟨g, cap, cur, rfl, hr.lo, h1, hr.le, hr.max, h2, rfl⟩⟩, fun i hi j hj => ?_⟩
    · simp [h2]
      omega
    · rw [List.getElem?_take, if_pos (by omega), Array.getElem?_toList]
      exact h3 i hi j hj
theorem HRow.of_owns {B : Nat} {w : World} {g cap n : Nat} {f : Nat → Way} {x : Way} {xs : List Value} (h : w.ownsRow B 99 7 (.slice (some ⟨g, 0, none⟩) (n + 1) cap) (n + 1) (xs ++ (wc7 x).toList)) (hl : xs.length = n * 7) (hx : ∀ i, i < n → ∀ j, j < 7 → xs[i * 7 + j]? = (wc7 (f i))[j]?) : HRow w B g cap (n + 1) (updA f n x) := by
  rcases h.2 with ⟨e, _⟩ | ⟨g', cap', cur, e, r1, r2, r3, r4, r5, r6⟩
  · omega
  · simp only [Value.slice.injEq, Option.some.injEq, Addr.mk.injEq, and_true, true_and] at e
    obtain ⟨rfl, rfl⟩ := e
    refine ⟨r1, r3, r4, cur, r2, r5, fun i hi j hj => ?_⟩
    have hk : cur[i * 7 + j]? = (xs ++ (wc7 x).toList)[i * 7 + j]? := by
      rw [← r6, List.getElem?_take, if_pos (by omega), Array.getElem?_toList]
    rw [hk]
    by_cases ei : i = n
    · subst ei
      have : updA f i x i = x := by unfold updA; rw [if_pos rfl]
      rw [this, List.getElem?_append_right (by omega), hl]
      rw [show i * 7 + j - i * 7 = j by omega, Array.getElem?_toList]
    · have : updA f n x i = f i := by unfold updA; rw [if_neg ei]
      rw [this, List.getElem?_append_left (by omega)]
      exact hx i (by omega) j hj

end Go.Proofs.YtmjjigdnoiphbaaDoor

/-
  A HEAP OF WAYS IN MEMORY: a way written; impl: push.
-/
namespace Go.Proofs.YtmjjigdnoiphbaaDoor
open Go.RowKit Go.Deep Go.Maps
set_option linter.unusedVariables false

set_option maxRecDepth 4000 in
set_option maxHeartbeats 4000000 in
theorem hpush_any {B : Nat} {w : World} {ob : Nat} {tv : Value} {n : Nat} {f : Nat → Way} (h : HeapAt B w ob tv n f) (hk : HeapOk wkey f n) (x : Way) (hx : 0 ≤ x.2.1 ∧ x.2.1 ≤ 23000 ∧ x.2.2 < 5) (hB : B ≤ w.heap.size) (hn : n ≤ 90000000000) :
    Calls Tryd.prog 97 #[.pointer (some ⟨ob, 0, none⟩), wv x] w fun e w' => (∃ u, e = .returned u) ∧ ∃ tv' f', HeapAt B w' ob tv' (n + 1) f' ∧ HeapOk wkey f' (n + 1) ∧ (∀ y, Has f' (n + 1) y ↔ y = x ∨ Has f n y) ∧ Chg (fun q => q = ob ∨ tv.ownBlock = some q) w w' ∧ ∀ q, tv'.ownBlock = some q → tv.ownBlock = some q ∨ w.heap.size ≤ q := by
  obtain ⟨xs, hown, hxs⟩ := h.owns
  have HH := hide h
  have HK := hide hk
  have HXS := hide hxs
  have hob : ob < w.heap.size := (Array.getElem?_eq_some_iff.1 h.var).1
  have hobB := h.lo
  have hne : tv.ownBlock ≠ some ob := fun e => by have := (ownBlock_lt hown e).1; omega
  have b0 : w.cell? ⟨ob, 0, none⟩ = some tv := by rw [cell_of_row w ob 0 _ _ (0, 0) h.var]; rfl
  have bf : w.frozen? ⟨ob, 0, none⟩ = false := frozen_of_row w ob 0 _ _ h.var
  have HXL : Hid (xs.length = n * 7) := hown.1
  have HOWN := hide hown
  clear h hk hxs hown
  unfold wv wc7
  go_enter Tryd.func97, Tryd.ntmps97
  go_wp2_with fail
  obtain ⟨W5, hW5⟩ : ∃ W5, W5 = w.alloc (.cells #[.int .i8 (x.1 0), .int .i8 (x.1 1), .int .i8 (x.1 2), .int .i8 (x.1 3), .int .i8 (x.1 4), .int .i64 x.2.1, .int .i64 (x.2.2 : Int)] 99) := ⟨_, rfl⟩
  rw [← hW5]
  have HB5 : Hid (Below w.heap.size w W5) := by rw [hW5]; exact Joins.below_alloc1 _ _
  have hs5 : W5.heap.size = w.heap.size + 1 := by rw [hW5]; simp
  have hi5 : W5.heap[w.heap.size]? = some (.cells #[.int .i8 (x.1 0), .int .i8 (x.1 1), .int .i8 (x.1 2), .int .i8 (x.1 3), .int .i8 (x.1 4), .int .i64 x.2.1, .int .i64 (x.2.2 : Int)] 99 (0, 0)) := by rw [hW5]; exact heap_alloc_new _ _
  clear hW5
  obtain ⟨x0, x1, x2, x3, x4, x5, x6⟩ := cells7 hi5
  have c0 := cell_later HB5.out b0
  have cf : W5.frozen? ⟨ob, 0, none⟩ = false := by rw [HB5.out.frozen (p := ⟨ob, 0, none⟩) hob]; exact bf
  have HO5 := hide (ownsRow_below HOWN.out HB5.out)
  clear b0 bf hi5
  obtain ⟨i0, hi, hz0, hz1, hz2⟩ := info_parts Tryd.infoWay
  have HJ1 := hide hi
  have HJ2 := hide hz0
  have HJ3 := hide hz1
  have HJ4 := hide hz2
  have hc3 : n + 1 ≤ maxLen := by unfold maxLen; omega
  have hc4 : (n + 1) * 24 ≤ 140737488355328 := by omega
  have hc5 : B ≤ (W5.alloc (.cells (wc7 x) 99)).drew.heap.size := by show _ ≤ (W5.alloc _).heap.size; simp; omega
  have HK6 : Hid (∀ w6, (W5.alloc (.cells (wc7 x) 99)).drew.grownBy w6 tv.ownBlock → (w6.cell? ⟨ob, 0, none⟩ = some tv ∧ w6.frozen? ⟨ob, 0, none⟩ = false)) := fun w6 hg6 => by
    have hbA : Below W5.heap.size W5 (W5.alloc (.cells (wc7 x) 99)).drew := (Joins.below_alloc1 W5 _).drew
    have hl : ∀ q, q < W5.heap.size → q < (W5.alloc (.cells (wc7 x) 99)).drew.heap.size := fun q hq => Nat.lt_of_lt_of_le hq hbA.size
    have ho5 : ob < W5.heap.size := by omega
    refine ⟨?_, ?_⟩
    · rw [hg6.cell_far ⟨ob, 0, none⟩ (hl _ ho5) (Ne.symm hne)]; exact cell_later hbA c0
    · rw [hg6.frozen_far ⟨ob, 0, none⟩ (hl _ ho5) (Ne.symm hne), hbA.frozen (p := ⟨ob, 0, none⟩) ho5]; exact cf
  have HS5 := hide hs5
  have c0' := cell_later (Joins.below_alloc1 W5 (.cells #[.int .i8 (x.1 0), .int .i8 (x.1 1), .int .i8 (x.1 2), .int .i8 (x.1 3), .int .i8 (x.1 4), .int .i64 x.2.1, .int .i64 (x.2.2 : Int)] 99)) c0
  clear hi hz0 hz1 hz2 hs5
  go_region_law ((refine step_append_lies _ (by rfl) _ _ _ (by rfl) B 99 i0 _ 7 24 Tryd.underlying148 HJ1.out HJ2.out HJ3.out HJ4.out rfl (by omega) tv _ _ (by rfl) ((HO5.out.alloc _).drew) ⟨W5.heap.size, 0, none⟩ 1 1 (wc7 x).toList (by rfl) (by rfl) (World.news_of_block (cs := wc7 x) (t := 99) (fr := (0, 0)) (heap_alloc_new W5 _)) (by simp [wc7, Value.oneCell']) (by omega) hc3 hc4 hc5 (W5.heap.size + 1) (by simp) ?_; intro g2 cap2 w6 hown2 hgrow2 hat2 hlt2; obtain ⟨k61, k62⟩ := HK6.out _ hgrow2))
  all_goals
    have hbA : Below w.heap.size w (W5.alloc (.cells (wc7 x) 99)).drew := (below_tail HB5.out (Joins.below_alloc1 W5 _)).drew
    have hszA : w.heap.size ≤ (W5.alloc (.cells (wc7 x) 99)).drew.heap.size := hbA.size
    have hfar : ∀ q, q < w.heap.size → tv.ownBlock ≠ some q → w6.heap[q]? = w.heap[q]? := fun q hq hq2 => by
      rw [hgrow2.block q (Nat.lt_of_lt_of_le hq hszA) (Ne.symm hq2)]
      exact hbA.block q hq
    have hg2ob : g2 ≠ ob := by
      rcases hat2 with e | e
      · exact fun ee => hne (by rw [e, ee])
      · have := HS5.out
        omega
    have hg2w : tv.ownBlock = some g2 ∨ w.heap.size ≤ g2 := hat2.imp id (fun e => by have := HS5.out; omega)
    have HVAR : Hid ((w6.setCell ⟨ob, 0, none⟩ (.slice (some ⟨g2, 0, none⟩) (n + 1) cap2)).heap[ob]? = some (.cells #[.slice (some ⟨g2, 0, none⟩) (n + 1) cap2, beforeV] 150 (0, 0))) := by
      have := Joins.block_setCell (i := 0) ((hfar ob hob hne).trans HH.out.var) (.slice (some ⟨g2, 0, none⟩) (n + 1) cap2)
      simpa [Hid] using this
    have HROW : Hid (HRow (w6.setCell ⟨ob, 0, none⟩ (.slice (some ⟨g2, 0, none⟩) (n + 1) cap2)) B g2 cap2 (n + 1) (updA f n x)) := (HRow.of_owns hown2 HXL.out HXS.out).kept (Below.heap_setCell _ _ _ _ hg2ob)
    have HCHG : Hid (Chg (fun q => q = ob ∨ tv.ownBlock = some q) w (w6.setCell ⟨ob, 0, none⟩ (.slice (some ⟨g2, 0, none⟩) (n + 1) cap2))) := by
      show Chg (fun q => q = ob ∨ tv.ownBlock = some q) w _
      refine Chg.setCell (F := fun q => q = ob ∨ tv.ownBlock = some q) ⟨hgrow2.os.trans hbA.os, hgrow2.tape.trans hbA.tape, hgrow2.output.trans hbA.output, Nat.le_trans hszA hgrow2.size, fun q hq hq2 => hfar q hq (fun e => hq2 (Or.inr e))⟩ (p := ⟨ob, 0, none⟩) (Or.inl rfl) _
    have HG2 := hide hg2w
    clear hbA hszA hfar hg2w hown2 hgrow2 hat2 hlt2 k61 k62 c0 c0' cf x0 x1 x2 x3 x4 x5 x6
    generalize w6.setCell ⟨ob, 0, none⟩ (.slice (some ⟨g2, 0, none⟩) (n + 1) cap2) = W at *
    have c0 : W.cell? ⟨ob, 0, none⟩ = some (.slice (some ⟨g2, 0, none⟩) (n + 1) cap2) := by rw [cell_of_row W ob 0 _ _ (0, 0) HVAR.out]; rfl
    have hw1 : wrap64 (((n + 1 : Nat) : Int) - 1) = (n : Int) := by rw [w64] <;> omega
    have hw2 : ((n : Int) + 1 - 1) = (n : Int) := by omega
    have HUP := hide (HK.out.pushed x)
    have HOKX : Hid (WaysOk (updA f n x) (n + 1)) := fun i hi => by
      unfold updA
      split
      · exact hx
      · exact HH.out.ok i (by omega)
    have HHAS : Hid (∀ y, Has (updA f n x) (n + 1) y ↔ y = x ∨ Has f n y) := fun y => has_pushed
    generalize updA f n x = f0 at *
    go_wp2_with fail
    clear c0
    go_loopw [4] (fun u wr => ∃ (c : Nat) (f' : Nat → Way), u = .int .i64 c ∧ UpInv wkey f' (n + 1) c ∧ (∀ y, Has f' (n + 1) y ↔ y = x ∨ Has f n y) ∧ HRow wr B g2 cap2 (n + 1) f' ∧ WaysOk f' (n + 1) ∧ wr.heap[ob]? = some (.cells #[.slice (some ⟨g2, 0, none⟩) (n + 1) cap2, beforeV] 150 (0, 0)) ∧ Chg (fun q => q = g2) W wr) (fun u _ => (intOf u).toNat)
    case atStart => exact ⟨n, f0, by go_num, HUP.out, HHAS.out, HROW.out, HOKX.out, HVAR.out, Chg.refl _ _⟩
    case round =>
      obtain ⟨c, f', rfl, hup, hhas, hrow, hwok, hvar, hchg⟩ := hrel
      have hcn := hup.lt
      have HC : Hid (Chg (fun q => q = ob ∨ tv.ownBlock = some q) w wr) := ⟨hchg.os.trans HCHG.out.os, hchg.tape.trans HCHG.out.tape, hchg.output.trans HCHG.out.output, Nat.le_trans HCHG.out.size hchg.size, fun q hq hq2 => by
        rw [hchg.block q (Nat.lt_of_lt_of_le hq HCHG.out.size) (fun e => by
          subst e
          rcases HG2.out with e | e
          · exact hq2 (Or.inr e)
          · omega)]
        exact HCHG.out.block q hq hq2⟩
      have HDONE : Hid (HeapOk wkey f' (n + 1) → ∀ wz, Below wr.heap.size wr wz → ∃ tv' f', HeapAt B wz ob tv' (n + 1) f' ∧ HeapOk wkey f' (n + 1) ∧ (∀ y, Has f' (n + 1) y ↔ y = x ∨ Has f n y) ∧ Chg (fun q => q = ob ∨ tv.ownBlock = some q) w wz ∧ ∀ q, tv'.ownBlock = some q → tv.ownBlock = some q ∨ w.heap.size ≤ q) := fun hok wz hbz =>
        ⟨_, f', HeapAt.below ⟨hvar, Or.inr ⟨g2, cap2, rfl, hrow⟩, hobB, hwok⟩ hbz, hok, hhas, HC.out.trans (Chg.of_below hbz), fun q e => by simp [Value.ownBlock] at e; subst e; exact HG2.out⟩
      by_cases hc0 : c = 0
      · subst hc0
        have HD0 := hide (hup.done (Or.inl rfl))
        clear hup hhas hrow hwok hvar hchg
        go_wp2_with fail
        first | go_end0 | (refine bodyPost_ret (results_none rfl _ _ _) rfl ?_)
        exact ⟨⟨_, rfl⟩, HDONE.out HD0.out _ (Below.refl _ _)⟩
      · obtain ⟨p, hp⟩ : ∃ p, p = (c - 1) / 2 := ⟨_, rfl⟩
        have hpn : p < n + 1 := by omega
        have hpc : c ≠ p := by omega
        have hplt : p < c := by omega
        have HUP' := hide hup
        have HPP := hide hp
        obtain ⟨x0, x1, x2, x3, x4, x5, x6, xf⟩ := hrow.cells hcn
        obtain ⟨y0, y1, y2, y3, y4, y5, y6, yf⟩ := hrow.cells hpn
        have b0 : wr.cell? ⟨ob, 0, none⟩ = some (.slice (some ⟨g2, 0, none⟩) (n + 1) cap2) := by rw [cell_of_row wr ob 0 _ _ (0, 0) hvar]; rfl
        have b1 : wr.cell? ⟨ob, 1, none⟩ = some (.func (.func 96) #[] #[]) := by rw [cell_of_row wr ob 1 _ _ (0, 0) hvar]; rfl
        have hgt : (c : Int) > 0 := by omega
        have hci : (c : Int) < ((n + 1 : Nat) : Int) := by omega
        have hpi : (p : Int) < ((n + 1 : Nat) : Int) := by omega
        have hdv : ((c : Int) - 1).tdiv 2 = (p : Int) := by rw [Int.tdiv_eq_ediv_of_nonneg (by omega)]; omega
        have HCK := hide (cheaper_any (f' c) (f' p))
        have HO1 := hide (hwok c hcn)
        have HO2 := hide (hwok p hpn)
        have HROWr := hide hrow
        have HVARr := hide hvar
        have HWOK := hide hwok
        have HHAS' := hide hhas
        have HCHr := hide hchg
        clear xf yf hup hhas hrow hwok hvar hchg hp
        unfold wv wc7 at HCK
        by_cases hlt : wkey (f' c) < wkey (f' p)
        · have hbb : decide (wkey (f' c) < wkey (f' p)) = true := decide_eq_true hlt
          rw [hbb] at HCK
          have HLT := hide hlt
          clear hbb hlt
          have hci' : (c : Int) < (n : Int) + 1 := by omega
          have hpi' : (p : Int) < (n : Int) + 1 := by omega
          go_wp2_with fail
          go_region_held3 (fun w' => w'.cell? ⟨ob, 0, none⟩ = some (.slice (some ⟨g2, 0, none⟩) (n + 1) cap2) ∧ w'.cell? ⟨ob, 1, none⟩ = some (.func (.func 96) #[] #[]) ∧ w'.cell? ⟨g2, c * 7, none⟩ = some (.int .i8 ((f' c).1 0)) ∧ w'.cell? ⟨g2, c * 7 + 1, none⟩ = some (.int .i8 ((f' c).1 1)) ∧ w'.cell? ⟨g2, c * 7 + 2, none⟩ = some (.int .i8 ((f' c).1 2)) ∧ w'.cell? ⟨g2, c * 7 + 3, none⟩ = some (.int .i8 ((f' c).1 3)) ∧ w'.cell? ⟨g2, c * 7 + 4, none⟩ = some (.int .i8 ((f' c).1 4)) ∧ w'.cell? ⟨g2, c * 7 + 5, none⟩ = some (.int .i64 (f' c).2.1) ∧ w'.cell? ⟨g2, c * 7 + 6, none⟩ = some (.int .i64 ((f' c).2.2 : Int)) ∧ w'.cell? ⟨g2, p * 7, none⟩ = some (.int .i8 ((f' p).1 0)) ∧ w'.cell? ⟨g2, p * 7 + 1, none⟩ = some (.int .i8 ((f' p).1 1)) ∧ w'.cell? ⟨g2, p * 7 + 2, none⟩ = some (.int .i8 ((f' p).1 2)) ∧ w'.cell? ⟨g2, p * 7 + 3, none⟩ = some (.int .i8 ((f' p).1 3)) ∧ w'.cell? ⟨g2, p * 7 + 4, none⟩ = some (.int .i8 ((f' p).1 4)) ∧ w'.cell? ⟨g2, p * 7 + 5, none⟩ = some (.int .i64 (f' p).2.1) ∧ w'.cell? ⟨g2, p * 7 + 6, none⟩ = some (.int .i64 ((f' p).2.2 : Int)))
            (first | (exact ⟨cell_later hb2 (by exact b0), cell_later hb2 (by exact b1), cell_later hb2 (by exact x0), cell_later hb2 (by exact x1), cell_later hb2 (by exact x2), cell_later hb2 (by exact x3), cell_later hb2 (by exact x4), cell_later hb2 (by exact x5), cell_later hb2 (by exact x6), cell_later hb2 (by exact y0), cell_later hb2 (by exact y1), cell_later hb2 (by exact y2), cell_later hb2 (by exact y3), cell_later hb2 (by exact y4), cell_later hb2 (by exact y5), cell_later hb2 (by exact y6)⟩) | go_keep)
            (first | (go_at_call 96; refine (HCK.out _ HO1.out HO2.out).mono ?_; rintro e w2 ⟨rfl, hb2⟩))
          have hbz := below_tail (Joins.below_draws wr.heap.size wr 1) hb2
          rename_i hh
          clear b0 b1 x0 x1 x2 x3 x4 x5 x6 y0 y1 y2 y3 y4 y5 y6
          obtain ⟨b0, b1, x0, x1, x2, x3, x4, x5, x6, y0, y1, y2, y3, y4, y5, y6⟩ := hh
          have HROW2 := hide (HROWr.out.below hbz)
          have HVAR2 := hide (blockLater hbz HVARr.out)
          have HCH2 : Hid (Chg (fun q => q = g2) W w2) := HCHr.out.trans (Chg.of_below hbz)
          have HBZ := hide hbz
          have xf := (HROW2.out.cells hcn).2.2.2.2.2.2.2
          have f0' := xf (c * 7)
          have f1' := xf (c * 7 + 1)
          have f2' := xf (c * 7 + 2)
          have f3' := xf (c * 7 + 3)
          have f4' := xf (c * 7 + 4)
          have f5' := xf (c * 7 + 5)
          have f6' := xf (c * 7 + 6)
          have h0' := xf (p * 7)
          have h1' := xf (p * 7 + 1)
          have h2' := xf (p * 7 + 2)
          have h3' := xf (p * 7 + 3)
          have h4' := xf (p * 7 + 4)
          have h5' := xf (p * 7 + 5)
          have h6' := xf (p * 7 + 6)
          clear hb2 hbz xf
          go_wp2_with fail
          clear HCK HO1 HO2
          go_region
          have HROW3 : Hid (HRow (set7 (set7 w2 g2 (c * 7) (f' p)) g2 (p * 7) (f' c)).drew B g2 cap2 (n + 1) (swp f' c p)) := (HROW2.out.swap hcn hpn hpc).below (Joins.below_draws _ _ 1)
          have HVAR3 : Hid ((set7 (set7 w2 g2 (c * 7) (f' p)) g2 (p * 7) (f' c)).drew.heap[ob]? = some (.cells #[.slice (some ⟨g2, 0, none⟩) (n + 1) cap2, beforeV] 150 (0, 0))) := blockLater (Joins.below_draws _ _ 1) (((set7_far _ g2 _ _ (Ne.symm hg2ob)).trans (set7_far _ g2 _ _ (Ne.symm hg2ob))).trans HVAR2.out)
          have HCH3 : Hid (Chg (fun q => q = g2) W (set7 (set7 w2 g2 (c * 7) (f' p)) g2 (p * 7) (f' c)).drew) := (set7_chg (set7_chg HCH2.out rfl _ _) rfl _ _).trans (Chg.of_below (Joins.below_draws _ _ 1))
          change Exit.then _ _ _ _ (set7 (set7 w2 g2 (c * 7) (f' p)) g2 (p * 7) (f' c)).drew
          generalize (set7 (set7 w2 g2 (c * 7) (f' p)) g2 (p * 7) (f' c)).drew = W3 at *
          clear b0 b1 x0 x1 x2 x3 x4 x5 x6 y0 y1 y2 y3 y4 y5 y6 f0' f1' f2' f3' f4' f5' f6' h0' h1' h2' h3' h4' h5' h6'
          go_wp2_with fail
          go_roundw
          case rel =>
            have hu := HUP'.out.up (by omega) (by rw [← HPP.out]; exact HLT.out)
            rw [← HPP.out] at hu
            exact ⟨p, swp f' c p, rfl, hu, fun y => (has_swp hcn hpn).trans (HHAS'.out y), HROW3.out, HWOK.out.swp hcn hpn, HVAR3.out, HCH3.out⟩
          case measure => simp [intOf]; omega
        · have hbb : decide (wkey (f' c) < wkey (f' p)) = false := decide_eq_false hlt
          rw [hbb] at HCK
          have HD0 := hide (HUP'.out.done (Or.inr (by rw [← HPP.out]; omega)))
          clear hbb hlt
          have hci' : (c : Int) < (n : Int) + 1 := by omega
          have hpi' : (p : Int) < (n : Int) + 1 := by omega
          go_wp2_with fail
          go_region_held3 (fun w' => w'.cell? ⟨ob, 0, none⟩ = some (.slice (some ⟨g2, 0, none⟩) (n + 1) cap2) ∧ w'.cell? ⟨ob, 1, none⟩ = some (.func (.func 96) #[] #[]) ∧ w'.cell? ⟨g2, c * 7, none⟩ = some (.int .i8 ((f' c).1 0)) ∧ w'.cell? ⟨g2, c * 7 + 1, none⟩ = some (.int .i8 ((f' c).1 1)) ∧ w'.cell? ⟨g2, c * 7 + 2, none⟩ = some (.int .i8 ((f' c).1 2)) ∧ w'.cell? ⟨g2, c * 7 + 3, none⟩ = some (.int .i8 ((f' c).1 3)) ∧ w'.cell? ⟨g2, c * 7 + 4, none⟩ = some (.int .i8 ((f' c).1 4)) ∧ w'.cell? ⟨g2, c * 7 + 5, none⟩ = some (.int .i64 (f' c).2.1) ∧ w'.cell? ⟨g2, c * 7 + 6, none⟩ = some (.int .i64 ((f' c).2.2 : Int)) ∧ w'.cell? ⟨g2, p * 7, none⟩ = some (.int .i8 ((f' p).1 0)) ∧ w'.cell? ⟨g2, p * 7 + 1, none⟩ = some (.int .i8 ((f' p).1 1)) ∧ w'.cell? ⟨g2, p * 7 + 2, none⟩ = some (.int .i8 ((f' p).1 2)) ∧ w'.cell? ⟨g2, p * 7 + 3, none⟩ = some (.int .i8 ((f' p).1 3)) ∧ w'.cell? ⟨g2, p * 7 + 4, none⟩ = some (.int .i8 ((f' p).1 4)) ∧ w'.cell? ⟨g2, p * 7 + 5, none⟩ = some (.int .i64 (f' p).2.1) ∧ w'.cell? ⟨g2, p * 7 + 6, none⟩ = some (.int .i64 ((f' p).2.2 : Int)))
            (first | (exact ⟨cell_later hb2 (by exact b0), cell_later hb2 (by exact b1), cell_later hb2 (by exact x0), cell_later hb2 (by exact x1), cell_later hb2 (by exact x2), cell_later hb2 (by exact x3), cell_later hb2 (by exact x4), cell_later hb2 (by exact x5), cell_later hb2 (by exact x6), cell_later hb2 (by exact y0), cell_later hb2 (by exact y1), cell_later hb2 (by exact y2), cell_later hb2 (by exact y3), cell_later hb2 (by exact y4), cell_later hb2 (by exact y5), cell_later hb2 (by exact y6)⟩) | go_keep)
            (first | (go_at_call 96; refine (HCK.out _ HO1.out HO2.out).mono ?_; rintro e w2 ⟨rfl, hb2⟩))
          have hbz := below_tail (Joins.below_draws wr.heap.size wr 1) hb2
          have HBZ := hide hbz
          clear hb2 hbz
          go_wp2_with fail
          first | go_end0 | (refine bodyPost_ret (results_none rfl _ _ _) rfl ?_)
          exact ⟨⟨_, rfl⟩, HDONE.out HD0.out _ HBZ.out⟩
end Go.Proofs.YtmjjigdnoiphbaaDoor
