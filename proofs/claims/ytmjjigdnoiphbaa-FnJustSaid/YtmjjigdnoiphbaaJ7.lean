import Derived.Test.YtmjjigdnoiphbaaJ4
import Derived.Test.YtmjjigdnoiphbaaW19
import Derived.Test.YtmjjigdnoiphbaaApp
import Derived.Test.YtmjjigdnoiphbaaDs0
/-
  THE DRAWS: pick.
-/
namespace Go.Proofs.Ytmjjigdnoiphbaa
open Go.RowKit Go.Deep
set_option linter.unusedVariables false

set_option maxHeartbeats 1000000 in
theorem pick_any {w : World} {cb : Nat} {a : Option Addr} {n q k : Nat} (h : CurAt w cb a n q k) (hk : k ≤ 900000) (m : Int) (hm : m ≤ 1000000) :
    Calls Try.prog 79 #[.pointer (some ⟨cb, 0, none⟩), .int .i64 m] w fun e w' => ∃ x : Int, ∃ k' : Nat, e = .returned (.int .i64 x) ∧ 0 ≤ x ∧ (m ≤ 1 → x = 0) ∧ (1 < m → x < m) ∧ k ≤ k' ∧ k' ≤ k + 2 ∧ CurAt w' cb a n q k' ∧ Chg (fun b => b = cb) w w' := by
  have HH := hide h
  by_cases h1 : m ≤ 1
  · clear h
    go_enter Try.func79, Try.ntmps79
    go_wp2_with fail
    go_ret
    exact ⟨0, k, rfl, by omega, fun _ => rfl, fun h => by omega, Nat.le_refl _, by omega, HH.out, Chg.refl _ _⟩
  · have h1' : ¬ m ≤ 1 := h1
    by_cases h2 : 200 < m
    · clear h
      go_enter Try.func79, Try.ntmps79
      go_wp2_with (go_at_call 103; refine (next_any HH.out ?_).mono ?_; (omega); rintro e w1 ⟨x, rfl, hx0, hx1, hcu1, hch1⟩)
      refine (next_any hcu1 (by omega)).mono ?_
      rintro e w2 ⟨y, rfl, hy0, hy1, hcu2, hch2⟩
      go_wp2_with fail
      go_ret
      have e1 := Int.emod_nonneg (x * 256 + y) (show m ≠ 0 by omega)
      have e2 := Int.emod_lt_of_pos (x * 256 + y) (show 0 < m by omega)
      exact ⟨(x * 256 + y) % m, k + 2, rfl, e1, fun h => by omega, fun _ => e2, by omega, by omega, hcu2, hch1.trans hch2⟩
    · clear h
      go_enter Try.func79, Try.ntmps79
      go_wp2_with (go_at_call 103; refine (next_any HH.out ?_).mono ?_; (omega); rintro e w1 ⟨x, rfl, hx0, hx1, hcu1, hch1⟩)
      go_ret
      have e1 := Int.emod_nonneg x (show m ≠ 0 by omega)
      have e2 := Int.emod_lt_of_pos x (show 0 < m by omega)
      exact ⟨x % m, k + 1, rfl, e1, fun h => by omega, fun _ => e2, by omega, by omega, hcu1, hch1⟩
end Go.Proofs.Ytmjjigdnoiphbaa

/-
  THE LAWS' OWN SMALL FUNCTIONS: wInts, wByte.
-/
namespace Go.Proofs.Ytmjjigdnoiphbaa
open Go.RowKit Go.Deep
set_option linter.unusedVariables false

set_option maxHeartbeats 400000 in
theorem wInts_any (v u : Value) (xs ys : List Int) (w : World) (h : IntsAt w v xs) (h' : IntsAt w u ys) (hl' : ys.length ≤ 9223372036854775807) :
    Calls Try.prog 15 #[v, u] w fun e w' => e = .returned (.bool (decide (xs = ys))) ∧ ∃ n, w' = w.drewN n := by
  obtain ⟨a, cap, rfl, h⟩ := h
  obtain ⟨a', cap', rfl, h'⟩ := h'
  have HX : Hid (xs.length = xs.length) := rfl
  have HY : Hid (ys.length = ys.length) := rfl
  by_cases hlen : xs.length = ys.length
  · rw [hlen] at h
    have HL : Hid (xs.length = ys.length) := hlen
    rw [hlen]
    have HE : Hid ((∀ j, j < ys.length → el xs j = el ys j) → xs = ys) := el_ext hlen
    generalize ys.length = n at h h' hl' HE ⊢
    clear hlen HX HY HL
    go_enter Try.func15, Try.ntmps15
    go_wp2
    go_loopw [13] (fun i wr => ∃ k : Nat, k ≤ n ∧ i = .int .i64 k ∧ Hid (∀ j, j < k → el xs j = el ys j) ∧ ∃ m, wr = w.drewN m) (fun i _ => n - (intOf i).toNat)
    case atStart => exact ⟨0, Nat.zero_le _, rfl, fun j hj => absurd hj (Nat.not_lt_zero _), 0, rfl⟩
    case round =>
      obtain ⟨k, hk, rfl, hall, m, rfl⟩ := hrel
      by_cases hlt : k < n
      · obtain ⟨b, off, rfl, hc⟩ := h k hlt
        obtain ⟨b', off', rfl, hc'⟩ := h' k hlt
        clear h h'
        by_cases he : el xs k = el ys k
        · have heb : (el xs k != el ys k) = false := by simp [he]
          have HE2 : Hid (el xs k = el ys k) := he
          clear he
          go_wp2
          go_quiet (fail)
          go_wp2
          go_roundw
          case rel => exact ⟨k + 1, by omega, by go_num, fun j hj => by
            by_cases e : j = k
            · subst e; exact HE2.out
            · exact hall.out j (by omega), _, rfl⟩
          case measure => simp [intOf]; omega
        · have heb : (el xs k != el ys k) = true := by simp [he]
          have HE2 : Hid (¬ el xs k = el ys k) := he
          clear he
          go_wp2
          go_quiet (fail)
          go_wp2
          go_ret
          exact ⟨by simp; intro e; subst e; exact HE2.out rfl, _, drewN_drewN _ _ _⟩
      · go_wp2
        go_ret
        have : xs = ys := HE.out (fun j hj => hall.out j (by omega))
        exact ⟨by simp [this], _, rfl⟩
  · have hlb : ((xs.length : Int) != (ys.length : Int)) = true := by simp; omega
    have HN : Hid (¬ xs = ys) := fun e => hlen (by rw [e])
    clear HX HY
    generalize xs.length = n at *
    go_enter Try.func15, Try.ntmps15
    go_wp2
    go_ret
    exact ⟨by simp [HN.out], 0, rfl⟩

theorem wByte_any {w : World} {a : Option Addr} {n q : Nat} (h : BytesAt w a n) (i : Nat) (hi : i ≤ 1000) :
    Calls Try.prog 19 #[.slice a n q, .int .i64 (i : Int)] w fun e w' => ∃ x : Int, e = .returned (.int .i64 x) ∧ 0 ≤ x ∧ x ≤ 255 ∧ ∃ m, w' = w.drewN m := by
  obtain ⟨hn, hb⟩ := h
  by_cases h0 : n = 0
  · subst h0
    go_enter Try.func19, Try.ntmps19
    go_wp2_with fail
    go_ret
    exact ⟨0, rfl, by omega, by omega, 0, rfl⟩
  · have hn0 : ((n : Int) == 0) = false := by simp [h0]
    have hlt : i % n < n := Nat.mod_lt _ (by omega)
    obtain ⟨b, off, x, rfl, hc, hx0, hx1⟩ := hb (i % n) hlt
    have hne : (n : Int) ≠ 0 := by omega
    have hlt' : (i : Int) % (n : Int) < (n : Int) := Int.emod_lt_of_pos _ (by omega)
    have hge' : 0 ≤ (i : Int) % (n : Int) := Int.emod_nonneg _ hne
    have htn : ((i : Int) % (n : Int)).toNat = i % n := by omega
    clear hb
    go_enter Try.func19, Try.ntmps19
    go_wp2_with fail
    go_ret
    exact ⟨x, rfl, hx0, hx1, 0, rfl⟩
end Go.Proofs.Ytmjjigdnoiphbaa

/-
  SMALL THINGS THAT THE LAWS SHARE: the room of paths, a field of a Best, bytes that stay.
-/
namespace Go.Proofs.Ytmjjigdnoiphbaa
open Go.RowKit Go.Deep
set_option linter.unusedVariables false
set_option linter.unusedSimpArgs false

theorem run_fieldBest (o : Bool) (x : Int) (u : Value) (w : World) : (Instr.field 32 (.agg #[.bool o, .int .i64 x, u]) 1).run Try.prog w = .ok (.int .i64 x) w := by
  obtain ⟨i0, hi, hz0, hz1, hz2⟩ := info_parts Try.infoInt
  obtain ⟨i1, hi1, -, hy1, -⟩ := info_parts Try.infoBool
  simp [Instr.field, run_underlying Try.underlying32, run_underlying Try.underlying3, run_underlying Try.underlying4, part, isAgg, sizeOf, typeInfo, hi, hz1, hi1, hy1, asAgg, go_sem]
theorem OwnS.capSt {w : World} {L : Lies} {st : St} (h : OwnS w L st) (hpc : ∀ i, i < st.2.1.length → (tPath st.2.1 i).length ≤ L.pc i) : CapSt w (L.val st) st.2.1.length := by
  intro a1 l1 q1 a2 l2 q2 a3 l3 q3 hv i b off p q c hi ha hc
  simp only [Lies.val, Value.agg.injEq, Array.mk.injEq, List.cons.injEq, Value.slice.injEq, and_true] at hv
  obtain ⟨_, ⟨rfl, _, _⟩, _⟩ := hv
  obtain ⟨b', off', e, _, h1, _⟩ := h.t.row i hi
  rw [e] at ha
  simp only [Option.some.injEq, Addr.mk.injEq, and_true] at ha
  obtain ⟨rfl, rfl⟩ := ha
  rw [h1] at hc
  simp only [Option.some.injEq, Value.slice.injEq] at hc
  obtain ⟨_, rfl, rfl⟩ := hc
  exact hpc i hi
theorem BytesAt.below {w w' : World} {a : Option Addr} {n : Nat} (h : BytesAt w a n) (hb : Below w.heap.size w w') : BytesAt w' a n :=
  ⟨h.1, fun i hi => by
    obtain ⟨b, off, x, e, hc, h0, h1⟩ := h.2 i hi
    exact ⟨b, off, x, e, cell_later hb hc, h0, h1⟩⟩
theorem tmod_nat {y : Int} {d : Nat} (hy : 0 ≤ y) (hd : 0 < d) : ∃ u : Nat, y.tmod (d : Int) = (u : Int) ∧ u < d := by
  have h0 : (d : Int) ≠ 0 := by omega
  have h1 := Int.emod_nonneg y h0
  have h2 := Int.emod_lt_of_pos y (show (0 : Int) < (d : Int) by omega)
  rw [Int.tmod_eq_emod_of_nonneg hy]
  generalize y % (d : Int) = z at *
  exact ⟨z.toNat, by omega, by omega⟩
end Go.Proofs.Ytmjjigdnoiphbaa

/-
  spec.States.
-/
namespace Go.Proofs.Ytmjjigdnoiphbaa
open Go.RowKit Go.Deep
set_option linter.unusedVariables false

/-- a state that was drawn, in blocks of its own -/
structure DrawnAt (w w' : World) (L : Lies) (st : St) : Prop where
  own : OwnS w' L st
  rc : st.1.length ≤ L.rc
  tc : st.2.1.length ≤ L.tc
  nc : st.2.2.length ≤ L.nc
  pc : ∀ i, i < st.2.1.length → (tPath st.2.1 i).length ≤ L.pc i
  new : ∀ k, L.F st.2.1.length k → w.heap.size ≤ k
  below : Below w.heap.size w w'
def stD (B : List Int) : St := (stateD B (0, 0)).1
theorem stD_drawn (B : List Int) : Drawn (stD B) := (stateD_drawn B (0, 0)).1
theorem stD_paths (B : List Int) : ∀ i, i < (stD B).2.1.length → (tPath (stD B).2.1 i).length ≤ 4611686018427387904 := fun i hi => by
  have := (stD_drawn B).few.paths i hi
  omega

set_option maxHeartbeats 1000000 in
theorem states_f {w : World} {a : Option Addr} {B : List Int} {q : Nat} (h : BytesF w a B) (ha : ∀ b off s, a = some ⟨b, off, s⟩ → 0 < B.length → b < w.heap.size) :
    Calls Try.prog 12 #[.slice a B.length q] w fun e w' => ∃ L : Lies, e = .returned (L.val (stD B)) ∧ DrawnAt w w' L (stD B) := by
  obtain ⟨c0, hc0⟩ : ∃ c0 : Cu, c0 = (0, 0) := ⟨_, rfl⟩
  have hS : stD B = (stateD B c0).1 := by rw [hc0, stD]
  obtain ⟨W, hW⟩ : ∃ W, W = (w.alloc (.cells #[.slice none 0 0, .slice none 0 0, .slice none 0 0] 26)).alloc (.cells #[.slice a B.length q, .int .i64 0, .int .u64 0] 57) := ⟨_, rfl⟩
  have hbW : Below w.heap.size w W := by rw [hW]; exact Joins.below_alloc2 _ _ _
  have hzW : W.heap.size = w.heap.size + 2 := by rw [hW]; simp
  have hR0 : W.heap[w.heap.size]? = some (.cells #[.slice none 0 0, .slice none 0 0, .slice none 0 0] 26 (0, 0)) := by rw [hW]; exact blockLater (Joins.below_alloc1 _ _) (heap_alloc_new w _)
  have hcu : CurF W (w.heap.size + 1) a B q c0 := by
    rw [hc0]
    exact ⟨by rw [hW]; exact heap_alloc2_new _ _ _, h.below hbW, fun b off s e h0 => by have := ha b off s e h0; omega⟩
  have hst := hide (state_f hcu (by rw [hc0]; exact Nat.zero_le _))
  have HW := hide hW
  rw [hS]
  clear h ha hcu hS hc0 hW
  generalize stateD B c0 = SD at *
  go_enter Try.func12, Try.ntmps12
  go_wp2_with fail
  rw [← HW.out]
  refine hst.out.mono ?_
  rintro e w1 ⟨L, rfl, h1, h2, h3, h4, h5, h6, h7, h8⟩
  have hz1 : w.heap.size < w1.heap.size := by have := h8.size; omega
  have hR1 := (h8.block w.heap.size (by omega) (by omega)).trans hR0
  obtain ⟨k0, k1, k2, kf⟩ := block3 hR1
  have kf0 := kf 0
  have kf1 := kf 1
  have kf2 := kf 2
  have HR1 := hide hR1
  have HX : Hid (OwnS w1 L SD.1 ∧ (SD.1.1.length ≤ L.rc ∧ SD.1.2.1.length ≤ L.tc ∧ SD.1.2.2.length ≤ L.nc ∧ ∀ i, i < SD.1.2.1.length → (tPath SD.1.2.1 i).length ≤ L.pc i) ∧ (∀ k, L.F SD.1.2.1.length k → w.heap.size + 2 ≤ k) ∧ Below w.heap.size w w1) :=
    ⟨h1, ⟨h2, h3, h4, h5⟩, fun k hk => by have := h6 k hk; omega, hbW.trans (h8.below (by omega) (fun k hk e => by omega))⟩
  clear h1 h2 h3 h4 h5 h6 h7 h8 hbW hzW hR0 hR1 kf hst HW
  obtain ⟨ra, rc, ta, tc, na, nc, pa, pc⟩ := L
  obtain ⟨⟨rs, ts, ns⟩, cu⟩ := SD
  simp only [Lies.val] at HX ⊢
  go_wp2_with fail
  have hc : Chg (fun q => q = w.heap.size) w1 (((w1.setCell ⟨w.heap.size, 0, none⟩ (.slice ra rs.length rc)).setCell ⟨w.heap.size, 1, none⟩ (.slice ta ts.length tc)).setCell ⟨w.heap.size, 2, none⟩ (.slice na ns.length nc)) :=
    Chg.setCell (F := fun q => q = w.heap.size) (Chg.setCell (F := fun q => q = w.heap.size) (Chg.setCell (F := fun q => q = w.heap.size) (Chg.refl _ _) rfl _) rfl _) rfl _
  have hvar := block3_set2 (block3_set1 (block3_set0 HR1.out (.slice ra rs.length rc)) (.slice ta ts.length tc)) (.slice na ns.length nc)
  generalize ((w1.setCell ⟨w.heap.size, 0, none⟩ (.slice ra rs.length rc)).setCell ⟨w.heap.size, 1, none⟩ (.slice ta ts.length tc)).setCell ⟨w.heap.size, 2, none⟩ (.slice na ns.length nc) = WF at *
  obtain ⟨z0, z1, z2, _⟩ := block3 hvar
  obtain ⟨x1, ⟨x2, x3, x4, x5⟩, x6, x7⟩ := HX.out
  refine bodyPost_ret (v := .agg #[.slice ra rs.length rc, .slice ta ts.length tc, .slice na ns.length nc]) (by simp [results, Try.results12, go_sem, z0, z1, z2]) rfl ⟨⟨ra, rc, ta, tc, na, nc, pa, pc⟩, rfl, x1.keep hc.size (fun k hk e => hc.block k hk (by have := x6 k e; omega)), x2, x3, x4, x5, fun k e => by have := x6 k e; omega, x7.trans (hc.below (by omega) (fun k hk e => by omega))⟩
end Go.Proofs.Ytmjjigdnoiphbaa
