/-
  impl: cheaperOrLower, longerBy.
-/
import Derived.Test.YtmjjigdnoiphbaaJ3
namespace Go.Proofs.Ytmjjigdnoiphbaa
open Go.RowKit Go.Deep Go.Maps
set_option linter.unusedVariables false

set_option maxHeartbeats 2000000 in
theorem cheaper_any (x y : Way) (w : World) (hx : 0 ≤ x.2.1 ∧ x.2.1 ≤ 23000 ∧ x.2.2 < 5) (hy : 0 ≤ y.2.1 ∧ y.2.1 ≤ 23000 ∧ y.2.2 < 5) :
    Calls Try.prog 88 #[wv x, wv y] w fun e w' => e = .returned (.bool (decide (wkey x < wkey y))) ∧ Below w.heap.size w w' := by
  obtain ⟨d, c, m⟩ := x
  obtain ⟨e, c', m'⟩ := y
  simp only at hx hy
  unfold wv wc7 wkey
  simp only
  go_enter Try.func88, Try.ntmps88
  by_cases hc : c = c'
  · subst hc
    have hb : decide (c * 8 + (m : Int) < c * 8 + (m' : Int)) = decide (m < m') := by simp
    rw [hb]
    have hcc : (c != c) = false := by simp
    go_wp2_with fail
    go_ret
    exact ⟨rfl, Joins.below_alloc2 _ _ _⟩
  · have hb : decide (c * 8 + (m : Int) < c' * 8 + (m' : Int)) = decide (c < c') := by
      by_cases h : c < c'
      · rw [decide_eq_true h]; exact decide_eq_true (by omega)
      · rw [decide_eq_false h]; exact decide_eq_false (by omega)
    rw [hb]
    have hcc : (c != c') = true := by simp [hc]
    go_wp2_with fail
    go_ret
    exact ⟨rfl, Joins.below_alloc2 _ _ _⟩
theorem below4 (w : World) (o1 o2 o3 o4 : Obj) : Below w.heap.size w ((((w.alloc o1).alloc o2).alloc o3).alloc o4) := (Joins.below_alloc3 w o1 o2 o3).alloc (by simp; omega) o4
theorem cells7 {w : World} {b : Nat} {x0 x1 x2 x3 x4 x5 x6 : Value} {t : TypeId} (h : w.heap[b]? = some (.cells #[x0, x1, x2, x3, x4, x5, x6] t (0, 0))) :
    w.cell? ⟨b, 0, none⟩ = some x0 ∧ w.cell? ⟨b, 1, none⟩ = some x1 ∧ w.cell? ⟨b, 2, none⟩ = some x2 ∧ w.cell? ⟨b, 3, none⟩ = some x3 ∧ w.cell? ⟨b, 4, none⟩ = some x4 ∧ w.cell? ⟨b, 5, none⟩ = some x5 ∧ w.cell? ⟨b, 6, none⟩ = some x6 :=
  ⟨by rw [cell_of_row w b 0 _ t (0, 0) h]; rfl, by rw [cell_of_row w b 1 _ t (0, 0) h]; rfl, by rw [cell_of_row w b 2 _ t (0, 0) h]; rfl, by rw [cell_of_row w b 3 _ t (0, 0) h]; rfl, by rw [cell_of_row w b 4 _ t (0, 0) h]; rfl, by rw [cell_of_row w b 5 _ t (0, 0) h]; rfl, by rw [cell_of_row w b 6 _ t (0, 0) h]; rfl⟩
/-- seven cells of a block written: what lies elsewhere is as it was -/
theorem far7 {w : World} {b : Nat} {x0 x1 x2 x3 x4 x5 x6 : Value} {a : Addr} (h : a.block ≠ b) : (((((((w.setCell ⟨b, 0, none⟩ x0).setCell ⟨b, 1, none⟩ x1).setCell ⟨b, 2, none⟩ x2).setCell ⟨b, 3, none⟩ x3).setCell ⟨b, 4, none⟩ x4).setCell ⟨b, 5, none⟩ x5).setCell ⟨b, 6, none⟩ x6).cell? a = w.cell? a := by
  have k : ∀ (w : World) (o : Nat) (x : Value), (w.setCell ⟨b, o, none⟩ x).cell? a = w.cell? a := fun w o x => World.cell?_setCell_far w _ _ x (fun e => h e.symm)
  rw [k, k, k, k, k, k, k]
/-- a progress ahead of a train's last move -/
def unb (d : Pr) (m : Nat) : Pr := fun i => if i = m then d i - 1 else d i

def RoomB (st : St) (e : Pr) (m : Nat) : Prop := (cntUp st.2.1 e (farAt (tAt st.2.1 m) (tPath st.2.1 m) (e m)) st.2.1.length : Int) ≤ el st.1 (farAt (tAt st.2.1 m) (tPath st.2.1 m) (e m)).toNat
def LongR (st : St) (d : Pr) (c : Int) (m : Nat) (y : Way) (ok : Bool) : Prop := (ok = false ∧ y = (pz, 0, 0) ∧ (d m = 0 ∨ ¬ RoomB st (unb d m) m)) ∨ (ok = true ∧ d m ≠ 0 ∧ y = (unb d m, c + wtP st (unb d m), m) ∧ RoomB st (unb d m) m)
def LongE (st : St) (d : Pr) (c : Int) (m : Nat) (e : Ending) : Prop := ∃ y ok, e = .returned (.tuple #[wv y, .bool ok]) ∧ LongR st d c m y ok
theorem unb_other {d : Pr} {m i : Nat} (h : i ≠ m) : unb d m i = d i := by unfold unb; rw [if_neg h]
theorem unb_at (d : Pr) (m : Nat) : unb d m m = d m - 1 := by unfold unb; rw [if_pos rfl]

set_option maxRecDepth 4000 in
set_option maxHeartbeats 4000000 in
theorem longerBy_any (v : Value) (st : St) (d : Pr) (c : Int) (mm m : Nat) (w : World) (h : StateAt w v st) (hcap : CapSt w v st.2.1.length) (hr : RightSt st) (hx : PV st d) (hc : 0 ≤ c ∧ c ≤ 23000) (hm : m < st.2.1.length) :
    Calls Try.prog 91 #[.agg #[.int .i8 (d 0), .int .i8 (d 1), .int .i8 (d 2), .int .i8 (d 3), .int .i8 (d 4), .int .i64 c, .int .i64 mm], v, .int .i64 m] w fun e w' => LongE st d c m e ∧ Below w.heap.size w w' := by
  have HS := hide h
  have HC := hide hcap
  have HR := hide hr
  have HX := hide hx
  obtain ⟨a1, q1, a2, q2, a3, q3, rfl⟩ := h.form
  obtain ⟨l1, l2, l3, l4⟩ := hr.lens
  have hd5 : ∀ i, d i < 100 := fun i => hx.lt hr.so i
  have hdm := hx.ok m hm
  clear h hcap hr hx l4
  have hm5 : m < 5 := by omega
  have hL : ∀ h : m < ([.int .i8 (d 0), .int .i8 (d 1), .int .i8 (d 2), .int .i8 (d 3), .int .i8 (d 4)] : List Value).length, ([.int .i8 (d 0), .int .i8 (d 1), .int .i8 (d 2), .int .i8 (d 3), .int .i8 (d 4)] : List Value)[m]'h = .int .i8 (d m) := fun h => by
    rcases (show m = 0 ∨ m = 1 ∨ m = 2 ∨ m = 3 ∨ m = 4 by omega) with rfl | rfl | rfl | rfl | rfl <;> rfl
  go_enter Try.func91, Try.ntmps91
  by_cases h0 : d m = 0
  · have h0b : ((d m : Int) == 0) = true := by simp [h0]
    have HL : Hid (LongR st d c m (pz, 0, 0) false) := Or.inl ⟨rfl, rfl, Or.inl h0⟩
    go_wp2_with fail
    refine bodyPost_ret ?_ rfl ⟨⟨(pz, 0, 0), false, rfl, HL.out⟩, below4 _ _ _ _ _⟩
    simp [results, Try.results91, go_sem, wv, wc7, pz]
  · have h0b : ((d m : Int) == 0) = false := by simp [h0]
    have h0i : ¬ ((d m : Int) = 0) := by omega
    have hwr : IntKind.i8.wrap ((d m : Int) - 1) = ((unb d m m : Nat) : Int) := by
      rw [unb_at]
      have := hd5 m
      simp [IntKind.wrap, IntKind.bits]
      omega
    go_wp2_with fail
    obtain ⟨V, hV⟩ : ∃ V, V = (((w.alloc (.cells #[.int .i8 (d 0), .int .i8 (d 1), .int .i8 (d 2), .int .i8 (d 3), .int .i8 (d 4), .int .i64 c, .int .i64 mm] 72)).alloc (.cells #[.slice a1 st.1.length q1, .slice a2 st.2.1.length q2, .slice a3 st.2.2.length q3] 26)).alloc (.cells #[.int .i8 0, .int .i8 0, .int .i8 0, .int .i8 0, .int .i8 0, .int .i64 0, .int .i64 0] 72)).alloc (.cells ([.int .i8 (d 0), .int .i8 (d 1), .int .i8 (d 2), .int .i8 (d 3), .int .i8 (d 4)].set m (.int .i8 (unb d m m : Nat))).toArray 63) := ⟨_, rfl⟩
    rw [← hV]
    have HB := hide (show Below w.heap.size w V by rw [hV]; exact below4 _ _ _ _ _)
    have hp5 : ([.int .i8 (d 0), .int .i8 (d 1), .int .i8 (d 2), .int .i8 (d 3), .int .i8 (d 4)].set m (.int .i8 (unb d m m : Nat))).toArray = pc5 (unb d m) := by
      unfold pc5 unb
      rcases (show m = 0 ∨ m = 1 ∨ m = 2 ∨ m = 3 ∨ m = 4 by omega) with rfl | rfl | rfl | rfl | rfl <;> simp
    rw [hp5] at hV
    have hP : V.heap[w.heap.size + 1 + 1 + 1]? = some (.cells (pc5 (unb d m)) 63 (0, 0)) := by
      rw [hV]
      have := heap_alloc_new (((w.alloc (.cells #[.int .i8 (d 0), .int .i8 (d 1), .int .i8 (d 2), .int .i8 (d 3), .int .i8 (d 4), .int .i64 c, .int .i64 mm] 72)).alloc (.cells #[.slice a1 st.1.length q1, .slice a2 st.2.1.length q2, .slice a3 st.2.2.length q3] 26)).alloc (.cells #[.int .i8 0, .int .i8 0, .int .i8 0, .int .i8 0, .int .i8 0, .int .i64 0, .int .i64 0] 72)) (.cells (pc5 (unb d m)) 63)
      simpa using this
    have hWB : V.heap[w.heap.size]? = some (.cells #[.int .i8 (d 0), .int .i8 (d 1), .int .i8 (d 2), .int .i8 (d 3), .int .i8 (d 4), .int .i64 c, .int .i64 mm] 72 (0, 0)) := by rw [hV]; exact blockLater (Joins.below_alloc3 _ _ _ _) (heap_alloc_new _ _)
    have hSB : V.heap[w.heap.size + 1]? = some (.cells #[.slice a1 st.1.length q1, .slice a2 st.2.1.length q2, .slice a3 st.2.2.length q3] 26 (0, 0)) := by rw [hV]; exact blockLater (Joins.below_alloc2 _ _ _) (heap_alloc2_new _ _ _)
    have hW5 := (cells7 hWB).2.2.2.2.2.1
    obtain ⟨c0, c1, c2, _⟩ := block3 hSB
    have hRB : V.heap[w.heap.size + 1 + 1]? = some (.cells #[.int .i8 0, .int .i8 0, .int .i8 0, .int .i8 0, .int .i8 0, .int .i64 0, .int .i64 0] 72 (0, 0)) := by
      rw [hV]
      exact blockLater (Joins.below_alloc1 _ _) (by
        have := heap_alloc_new ((w.alloc (.cells #[.int .i8 (d 0), .int .i8 (d 1), .int .i8 (d 2), .int .i8 (d 3), .int .i8 (d 4), .int .i64 c, .int .i64 mm] 72)).alloc (.cells #[.slice a1 st.1.length q1, .slice a2 st.2.1.length q2, .slice a3 st.2.2.length q3] 26)) (.cells #[.int .i8 0, .int .i8 0, .int .i8 0, .int .i8 0, .int .i8 0, .int .i64 0, .int .i64 0] 72)
        simpa using this)
    have hVs : w.heap.size + 1 + 1 + 1 < V.heap.size := (Array.getElem?_eq_some_iff.1 hP).1
    clear hV hp5 hL hwr
    have HEQ : Hid (PrOk st (unb d m)) := fun i hi => by
      by_cases e : i = m
      · subst e; rw [unb_at]; omega
      · rw [unb_other e]; exact HX.out.ok i hi
    have hE5 : Hid (∀ i, unb d m i < 100) := fun i => by
      by_cases e : i = m
      · subst e; rw [unb_at]; have := hd5 i; omega
      · rw [unb_other e]; exact hd5 i
    have hem : unb d m m ≤ (tPath st.2.1 m).length := by rw [unb_at]; omega
    have HLT : Hid (RoomB st (unb d m) m → LongR st d c m (unb d m, c + wtP st (unb d m), m) true) := fun hh => Or.inr ⟨rfl, h0, rfl, hh⟩
    have HLF : Hid (¬ RoomB st (unb d m) m → LongR st d c m (pz, 0, 0) false) := fun hh => Or.inl ⟨rfl, rfl, Or.inr hh⟩
    obtain ⟨f0, f1⟩ := far_ok HR.out.so hm hem
    unfold RoomB at HLT HLF
    generalize unb d m = e at *
    obtain ⟨p0, p1, p2, p3, p4⟩ := cells5 hP
    obtain ⟨b, off, rfl, vp, t0, t1, hI, t2⟩ := HS.out.parts.2.1.trainAt m hm
    have HI := hide hI
    obtain ⟨ap, cp, rfl, -⟩ := hI
    have HCP : Hid ((tPath st.2.1 m).length ≤ cp) := HC.out _ _ _ _ _ _ _ _ _ rfl m b off _ _ _ hm rfl t1
    have h8 := (HR.out.train m hm).2.2.1
    have g0 := cell_later HB.out t0
    have g1 := cell_later HB.out t1
    have g2 := cell_later HB.out t2
    have HP := hide hP
    have HRB := hide hRB
    have hmi : (m : Int) < (st.2.1.length : Int) := by omega
    clear t0 t1 t2 hP hRB hWB hSB
    obtain ⟨k, hk⟩ : ∃ k : Nat, (k : Int) = farAt (tAt st.2.1 m) (tPath st.2.1 m) (e m) := ⟨(farAt (tAt st.2.1 m) (tPath st.2.1 m) (e m)).toNat, by omega⟩
    have HK := hide hk
    have hk1 : k < st.1.length := by omega
    rw [← hk] at HLT HLF
    clear hk f0 f1
    have hf0 := fun (x y : Int) (u : Value) (w : World) => run_field0 x y u w
    go_region_held3 (fun w' => w'.cell? ⟨w.heap.size + 1, 0, none⟩ = some (.slice a1 st.1.length q1) ∧ w'.cell? ⟨w.heap.size + 1, 1, none⟩ = some (.slice (some ⟨b, off, none⟩) st.2.1.length q2) ∧ w'.cell? ⟨w.heap.size + 1, 2, none⟩ = some (.slice a3 st.2.2.length q3) ∧ w'.cell? ⟨w.heap.size + 1 + 1 + 1, 0, none⟩ = some (.int .i8 (e 0)) ∧ w'.cell? ⟨w.heap.size + 1 + 1 + 1, 1, none⟩ = some (.int .i8 (e 1)) ∧ w'.cell? ⟨w.heap.size + 1 + 1 + 1, 2, none⟩ = some (.int .i8 (e 2)) ∧ w'.cell? ⟨w.heap.size + 1 + 1 + 1, 3, none⟩ = some (.int .i8 (e 3)) ∧ w'.cell? ⟨w.heap.size + 1 + 1 + 1, 4, none⟩ = some (.int .i8 (e 4)) ∧ w'.cell? ⟨b, off + m * 3, none⟩ = some (.int .i64 (tAt st.2.1 m)) ∧ w'.cell? ⟨b, off + m * 3 + 1, none⟩ = some (.slice ap (tPath st.2.1 m).length cp) ∧ w'.cell? ⟨b, off + m * 3 + 2, none⟩ = some (.int .i64 (tWt st.2.1 m)))
      (first | (exact ⟨cell_later hb2 (by exact c0), cell_later hb2 (by exact c1), cell_later hb2 (by exact c2), cell_later hb2 (by exact p0), cell_later hb2 (by exact p1), cell_later hb2 (by exact p2), cell_later hb2 (by exact p3), cell_later hb2 (by exact p4), cell_later hb2 (by exact g0), cell_later hb2 (by exact g1), cell_later hb2 (by exact g2)⟩) | go_keep)
      (first | (go_at_call 81; refine (trainBehind_at e _ _ (k : Int) (tPath st.2.1 m) _ ap cp m _ hm5 hem h8 HCP.out (IntsAt.below HI.out HB.out.drew) HK.out.symm rfl).mono ?_; rintro e2 w2 ⟨a', c', rfl, -, -, hb2⟩))
    rename_i hh
    clear c0 c1 c2 p0 p1 p2 p3 p4 g0 g1 g2
    obtain ⟨c0, c1, c2, p0, p1, p2, p3, p4, g0, g1, g2⟩ := hh
    have hbv2 := below_tail (Joins.below_draws V.heap.size V 1) hb2
    replace hW5 := cell_later hbv2 hW5
    have HP2 := hide (blockLater hbv2 HP.out)
    have HRB2 := hide (blockLater hbv2 HRB.out)
    have HB2 := hide (below_tail HB.out hbv2)
    have hw2 : w.heap.size + 1 + 1 + 1 < w2.heap.size := Nat.lt_of_lt_of_le hVs hbv2.size
    clear hb2 hbv2 HP HRB HB g0 g1 g2
    obtain ⟨br, offr, rfl, hx⟩ := (HS.out.below HB2.out).parts.1.cellAt k hk1
    have hki : (k : Int) < (st.1.length : Int) := by omega
    have hkn : ((k : Int)).toNat = k := by omega
    rw [hkn] at HLT HLF
    obtain ⟨s0, s1⟩ := wtP_le HR.out.so e
    have hcnt := cntUp_le st.2.1 e (k : Int) st.2.1.length
    generalize hcn : cntUp st.2.1 e (k : Int) st.2.1.length = cn at *
    have HCN := hide hcn
    clear hcn
    by_cases hgt : (cn : Int) > el st.1 k
    · have HV := hide (HLF.out (by omega))
      have hgb : decide ((cn : Int) > el st.1 k) = true := by simp; omega
      go_wp2_with fail
      go_region_held3 (fun w' => w'.cell? ⟨w.heap.size + 1, 0, none⟩ = some (.slice (some ⟨br, offr, none⟩) st.1.length q1) ∧ w'.cell? ⟨w.heap.size + 1, 1, none⟩ = some (.slice (some ⟨b, off, none⟩) st.2.1.length q2) ∧ w'.cell? ⟨w.heap.size + 1, 2, none⟩ = some (.slice a3 st.2.2.length q3) ∧ w'.cell? ⟨w.heap.size + 1 + 1 + 1, 0, none⟩ = some (.int .i8 (e 0)) ∧ w'.cell? ⟨w.heap.size + 1 + 1 + 1, 1, none⟩ = some (.int .i8 (e 1)) ∧ w'.cell? ⟨w.heap.size + 1 + 1 + 1, 2, none⟩ = some (.int .i8 (e 2)) ∧ w'.cell? ⟨w.heap.size + 1 + 1 + 1, 3, none⟩ = some (.int .i8 (e 3)) ∧ w'.cell? ⟨w.heap.size + 1 + 1 + 1, 4, none⟩ = some (.int .i8 (e 4)) ∧ w'.cell? ⟨br, offr + k, none⟩ = some (.int .i64 (el st.1 k)))
        (first | (exact ⟨cell_later hb3 (by exact c0), cell_later hb3 (by exact c1), cell_later hb3 (by exact c2), cell_later hb3 (by exact p0), cell_later hb3 (by exact p1), cell_later hb3 (by exact p2), cell_later hb3 (by exact p3), cell_later hb3 (by exact p4), cell_later hb3 (by exact hx)⟩) | go_keep)
        (first | (go_at_call 82; refine (countOn_any _ st e (k : Int) _ (HS.out.below HB2.out.drew) (CapSt.below HC.out HS.out HB2.out.drew) HR.out HEQ.out).mono ?_; rw [HCN.out]; rintro e3 w3 ⟨rfl, hb3⟩))
      have hbv3 := below_tail (Joins.below_draws w2.heap.size w2 1) hb3
      have HRB3 := hide (blockLater hbv3 HRB2.out)
      have HB3 := hide (below_tail HB2.out hbv3)
      have hrs : w.heap.size + 1 + 1 < w3.heap.size := (Array.getElem?_eq_some_iff.1 HRB3.out).1
      obtain ⟨r0, r1, r2, r3, r4, r5, r6⟩ := cells7 HRB3.out
      have rf : ∀ o, w3.frozen? ⟨w.heap.size + 1 + 1, o, none⟩ = false := fun o => frozen_of_row w3 _ o _ _ HRB3.out
      have f0 := rf 0
      have f1 := rf 1
      have f2 := rf 2
      have f3 := rf 3
      have f4 := rf 4
      have f5 := rf 5
      have f6 := rf 6
      clear rf hb3 hbv3 c0 c1 c2 p0 p1 p2 p3 p4 hx
      go_wp2_with fail
      refine bodyPost_ret ?_ rfl ⟨⟨(pz, 0, 0), false, rfl, HV.out⟩, ((((((HB3.out.setCell (p := ⟨w.heap.size + 1 + 1, 0, none⟩) (by simp; omega) _).setCell (p := ⟨w.heap.size + 1 + 1, 1, none⟩) (by simp; omega) _).setCell (p := ⟨w.heap.size + 1 + 1, 2, none⟩) (by simp; omega) _).setCell (p := ⟨w.heap.size + 1 + 1, 3, none⟩) (by simp; omega) _).setCell (p := ⟨w.heap.size + 1 + 1, 4, none⟩) (by simp; omega) _).setCell (p := ⟨w.heap.size + 1 + 1, 5, none⟩) (by simp; omega) _).setCell (p := ⟨w.heap.size + 1 + 1, 6, none⟩) (by simp; omega) _⟩
      simp [results, Try.results91, go_sem, wv, wc7, pz, r0, r1, r2, r3, r4, r5, r6]
    · have HV := hide (HLT.out (by omega))
      have hgb : decide ((cn : Int) > el st.1 k) = false := by simp; omega
      go_wp2_with fail
      go_region_held3 (fun w' => w'.cell? ⟨w.heap.size + 1, 0, none⟩ = some (.slice (some ⟨br, offr, none⟩) st.1.length q1) ∧ w'.cell? ⟨w.heap.size + 1, 1, none⟩ = some (.slice (some ⟨b, off, none⟩) st.2.1.length q2) ∧ w'.cell? ⟨w.heap.size + 1, 2, none⟩ = some (.slice a3 st.2.2.length q3) ∧ w'.cell? ⟨w.heap.size + 1 + 1 + 1, 0, none⟩ = some (.int .i8 (e 0)) ∧ w'.cell? ⟨w.heap.size + 1 + 1 + 1, 1, none⟩ = some (.int .i8 (e 1)) ∧ w'.cell? ⟨w.heap.size + 1 + 1 + 1, 2, none⟩ = some (.int .i8 (e 2)) ∧ w'.cell? ⟨w.heap.size + 1 + 1 + 1, 3, none⟩ = some (.int .i8 (e 3)) ∧ w'.cell? ⟨w.heap.size + 1 + 1 + 1, 4, none⟩ = some (.int .i8 (e 4)) ∧ w'.cell? ⟨br, offr + k, none⟩ = some (.int .i64 (el st.1 k)))
        (first | (exact ⟨cell_later hb3 (by exact c0), cell_later hb3 (by exact c1), cell_later hb3 (by exact c2), cell_later hb3 (by exact p0), cell_later hb3 (by exact p1), cell_later hb3 (by exact p2), cell_later hb3 (by exact p3), cell_later hb3 (by exact p4), cell_later hb3 (by exact hx)⟩) | go_keep)
        (first | (go_at_call 82; refine (countOn_any _ st e (k : Int) _ (HS.out.below HB2.out.drew) (CapSt.below HC.out HS.out HB2.out.drew) HR.out HEQ.out).mono ?_; rw [HCN.out]; rintro e3 w3 ⟨rfl, hb3⟩))
      have hbv3 := below_tail (Joins.below_draws w2.heap.size w2 1) hb3
      have HRB3 := hide (blockLater hbv3 HRB2.out)
      have HB3 := hide (below_tail HB2.out hbv3)
      have hrs : w.heap.size + 1 + 1 < w3.heap.size := (Array.getElem?_eq_some_iff.1 HRB3.out).1
      have hW53 := cell_later hbv3 hW5
      rename_i hh
      clear hb3 hbv3 c0 c1 c2 p0 p1 p2 p3 p4 hx hW5
      obtain ⟨c0, c1, c2, p0, p1, p2, p3, p4, hx⟩ := hh
      have hsum : c + wtP st e ≤ 23500 := by omega
      have hsum0 : 0 ≤ c + wtP st e := by omega
      generalize hwt : wtP st e = wt at *
      have HWT := hide hwt
      clear hwt
      have hwr2 : IntKind.i64.wrap (c + wt) = c + wt := by rw [IntKind.wrap_i64] <;> omega
      go_wp2_with fail
      go_region_held3 (fun w' => w'.cell? ⟨w.heap.size + 1, 0, none⟩ = some (.slice (some ⟨br, offr, none⟩) st.1.length q1) ∧ w'.cell? ⟨w.heap.size + 1, 1, none⟩ = some (.slice (some ⟨b, off, none⟩) st.2.1.length q2) ∧ w'.cell? ⟨w.heap.size + 1, 2, none⟩ = some (.slice a3 st.2.2.length q3) ∧ w'.cell? ⟨w.heap.size + 1 + 1 + 1, 0, none⟩ = some (.int .i8 (e 0)) ∧ w'.cell? ⟨w.heap.size + 1 + 1 + 1, 1, none⟩ = some (.int .i8 (e 1)) ∧ w'.cell? ⟨w.heap.size + 1 + 1 + 1, 2, none⟩ = some (.int .i8 (e 2)) ∧ w'.cell? ⟨w.heap.size + 1 + 1 + 1, 3, none⟩ = some (.int .i8 (e 3)) ∧ w'.cell? ⟨w.heap.size + 1 + 1 + 1, 4, none⟩ = some (.int .i8 (e 4)) ∧ w'.cell? ⟨w.heap.size, 5, none⟩ = some (.int .i64 c))
        (first | (refine ⟨?_, ?_, ?_, ?_, ?_, ?_, ?_, ?_, ?_⟩ <;> (rw [far7 (by intro hne; dsimp only at hne; omega)]; assumption)) | exact ⟨by exact c0, by exact c1, by exact c2, by exact p0, by exact p1, by exact p2, by exact p3, by exact p4, by exact hW53⟩ | exact ⟨k0, k1, k2, k3, k4, k5, k6, k7, k8⟩ | go_keep)
        (first | (go_at_call 58; refine (weightThere_any _ st _ (HS.out.below HB3.out.drew) HR.out.so (d := e) hE5.out).mono ?_; rw [HWT.out]; rintro e4 w4 ⟨rfl, hb4⟩; have k0 := cell_later hb4 (by exact c0); have k1 := cell_later hb4 (by exact c1); have k2 := cell_later hb4 (by exact c2); have k3 := cell_later hb4 (by exact p0); have k4 := cell_later hb4 (by exact p1); have k5 := cell_later hb4 (by exact p2); have k6 := cell_later hb4 (by exact p3); have k7 := cell_later hb4 (by exact p4); have k8 := cell_later hb4 (by exact hW53); have HRB4 := hide (blockLater (below_tail (Joins.below_draws w3.heap.size w3 1) hb4) HRB3.out); have hc7 := cells7 HRB4.out; obtain ⟨r0, r1, r2, r3, r4, r5, r6⟩ := hc7; have rf := fun o => frozen_of_row w4 (w.heap.size + 1 + 1) o _ _ HRB4.out; have f0 := rf 0; have f1 := rf 1; have f2 := rf 2; have f3 := rf 3; have f4 := rf 4; have f5 := rf 5; have f6 := rf 6; clear rf))
      all_goals
        have HB4 := hide (below_tail HB3.out (below_tail (Joins.below_draws w3.heap.size w3 1) hb4))
        have hrs4 : w.heap.size + 1 + 1 < w4.heap.size := (Array.getElem?_eq_some_iff.1 HRB4.out).1
        have q0 := cells7 HRB4.out
        obtain ⟨r0, r1, r2, r3, r4, r5, r6⟩ := q0
        clear hb4
        go_wp2_with fail
        refine bodyPost_ret ?_ rfl ⟨⟨(e, c + wt, m), true, rfl, HV.out⟩, ((((((HB4.out.setCell (p := ⟨w.heap.size + 1 + 1, 0, none⟩) (by simp; omega) _).setCell (p := ⟨w.heap.size + 1 + 1, 1, none⟩) (by simp; omega) _).setCell (p := ⟨w.heap.size + 1 + 1, 2, none⟩) (by simp; omega) _).setCell (p := ⟨w.heap.size + 1 + 1, 3, none⟩) (by simp; omega) _).setCell (p := ⟨w.heap.size + 1 + 1, 4, none⟩) (by simp; omega) _).setCell (p := ⟨w.heap.size + 1 + 1, 5, none⟩) (by simp; omega) _).setCell (p := ⟨w.heap.size + 1 + 1, 6, none⟩) (by simp; omega) _⟩
        simp [results, Try.results91, go_sem, wv, wc7, r0, r1, r2, r3, r4, r5, r6]
end Go.Proofs.Ytmjjigdnoiphbaa
