import Derived.Test.YtmjjigdnoiphbaaGreatDoorJ4
import Derived.Test.YtmjjigdnoiphbaaGreatDoorW19
import Derived.Test.YtmjjigdnoiphbaaGreatDoorApp
import Derived.Test.YtmjjigdnoiphbaaGreatDoorDs0
/-
  THE DRAWS: pick.
-/
namespace Go.Proofs.YtmjjigdnoiphbaaGreatDoor
open Go.RowKit Go.Deep
set_option linter.unusedVariables false

set_option maxHeartbeats 1000000 in
theorem pick_any {w : World} {cb : Nat} {a : Option Addr} {n q k : Nat} (h : CurAt w cb a n q k) (hk : k ≤ 900000) (m : Int) (hm : m ≤ 1000000) :
    Calls Tryz.prog 41 #[.pointer (some ⟨cb, 0, none⟩), .int .i64 m] w fun e w' => ∃ x : Int, ∃ k' : Nat, e = .returned (.int .i64 x) ∧ 0 ≤ x ∧ (m ≤ 1 → x = 0) ∧ (1 < m → x < m) ∧ k ≤ k' ∧ k' ≤ k + 2 ∧ CurAt w' cb a n q k' ∧ Chg (fun b => b = cb) w w' := by
  have HH := hide h
  by_cases h1 : m ≤ 1
  · clear h
    go_enter Tryz.func41, Tryz.ntmps41
    go_wp2_with fail
    go_ret
    exact ⟨0, k, rfl, by omega, fun _ => rfl, fun h => by omega, Nat.le_refl _, by omega, HH.out, Chg.refl _ _⟩
  · have h1' : ¬ m ≤ 1 := h1
    by_cases h2 : 200 < m
    · clear h
      go_enter Tryz.func41, Tryz.ntmps41
      go_wp2_with (go_at_call 80; refine (next_any HH.out ?_).mono ?_; (omega); rintro e w1 ⟨x, rfl, hx0, hx1, hcu1, hch1⟩)
      refine (next_any hcu1 (by omega)).mono ?_
      rintro e w2 ⟨y, rfl, hy0, hy1, hcu2, hch2⟩
      go_wp2_with fail
      go_ret
      have e1 := Int.emod_nonneg (x * 256 + y) (show m ≠ 0 by omega)
      have e2 := Int.emod_lt_of_pos (x * 256 + y) (show 0 < m by omega)
      exact ⟨(x * 256 + y) % m, k + 2, rfl, e1, fun h => by omega, fun _ => e2, by omega, by omega, hcu2, hch1.trans hch2⟩
    · clear h
      go_enter Tryz.func41, Tryz.ntmps41
      go_wp2_with (go_at_call 80; refine (next_any HH.out ?_).mono ?_; (omega); rintro e w1 ⟨x, rfl, hx0, hx1, hcu1, hch1⟩)
      go_ret
      have e1 := Int.emod_nonneg x (show m ≠ 0 by omega)
      have e2 := Int.emod_lt_of_pos x (show 0 < m by omega)
      exact ⟨x % m, k + 1, rfl, e1, fun h => by omega, fun _ => e2, by omega, by omega, hcu1, hch1⟩
end Go.Proofs.YtmjjigdnoiphbaaGreatDoor

/-
  THE LAWS' OWN SMALL FUNCTIONS: wInts, wByte.
-/
namespace Go.Proofs.YtmjjigdnoiphbaaGreatDoor
open Go.RowKit Go.Deep
set_option linter.unusedVariables false

set_option maxHeartbeats 400000 in
theorem wInts_any (v u : Value) (xs ys : List Int) (w : World) (h : IntsAt w v xs) (h' : IntsAt w u ys) (hl' : ys.length ≤ 9223372036854775807) :
    Calls Tryz.prog 10 #[v, u] w fun e w' => e = .returned (.bool (decide (xs = ys))) ∧ ∃ n, w' = w.drewN n := by
  obtain ⟨a, cap, rfl, h⟩ := h
  obtain ⟨a', cap', rfl, h'⟩ := h'
  have HX : Hid (xs.length = xs.length) := rfl
  have HY : Hid (ys.length = ys.length) := rfl
  by_cases hlen : xs.length = ys.length
  · rw [hlen] at h
    have HL : Hid (xs.length = ys.length) := hlen
    rw [hlen]
    have HE : Hid ((∀ j, j < ys.length → el xs j = el ys j) → xs = ys) := el_ext hlen
    generalize ys.length = n at h h' hl' HE ⊢
    clear hlen HX HY HL
    go_enter Tryz.func10, Tryz.ntmps10
    go_wp2
    go_loopw [13] (fun i wr => ∃ k : Nat, k ≤ n ∧ i = .int .i64 k ∧ Hid (∀ j, j < k → el xs j = el ys j) ∧ ∃ m, wr = w.drewN m) (fun i _ => n - (intOf i).toNat)
    case atStart => exact ⟨0, Nat.zero_le _, rfl, fun j hj => absurd hj (Nat.not_lt_zero _), 0, rfl⟩
    case round =>
      obtain ⟨k, hk, rfl, hall, m, rfl⟩ := hrel
      by_cases hlt : k < n
      · obtain ⟨b, off, rfl, hc⟩ := h k hlt
        obtain ⟨b', off', rfl, hc'⟩ := h' k hlt
        clear h h'
        by_cases he : el xs k = el ys k
        · have heb : (el xs k != el ys k) = false := by simp [he]
          have HE2 : Hid (el xs k = el ys k) := he
          clear he
          go_wp2
          go_quiet (fail)
          go_wp2
          go_roundw
          case rel => exact ⟨k + 1, by omega, by go_num, fun j hj => by
            by_cases e : j = k
            · subst e; exact HE2.out
            · exact hall.out j (by omega), _, rfl⟩
          case measure => simp [intOf]; omega
        · have heb : (el xs k != el ys k) = true := by simp [he]
          have HE2 : Hid (¬ el xs k = el ys k) := he
          clear he
          go_wp2
          go_quiet (fail)
          go_wp2
          go_ret
          exact ⟨by simp; intro e; subst e; exact HE2.out rfl, _, drewN_drewN _ _ _⟩
      · go_wp2
        go_ret
        have : xs = ys := HE.out (fun j hj => hall.out j (by omega))
        exact ⟨by simp [this], _, rfl⟩
  · have hlb : ((xs.length : Int) != (ys.length : Int)) = true := by simp; omega
    have HN : Hid (¬ xs = ys) := fun e => hlen (by rw [e])
    clear HX HY
    generalize xs.length = n at *
    go_enter Tryz.func10, Tryz.ntmps10
    go_wp2
    go_ret
    exact ⟨by simp [HN.out], 0, rfl⟩

theorem wByte_any {w : World} {a : Option Addr} {n q : Nat} (h : BytesAt w a n) (i : Nat) (hi : i ≤ 1000) :
    Calls Tryz.prog 14 #[.slice a n q, .int .i64 (i : Int)] w fun e w' => ∃ x : Int, e = .returned (.int .i64 x) ∧ 0 ≤ x ∧ x ≤ 255 ∧ ∃ m, w' = w.drewN m := by
  obtain ⟨hn, hb⟩ := h
  by_cases h0 : n = 0
  · subst h0
    go_enter Tryz.func14, Tryz.ntmps14
    go_wp2_with fail
    go_ret
    exact ⟨0, rfl, by omega, by omega, 0, rfl⟩
  · have hn0 : ((n : Int) == 0) = false := by simp [h0]
    have hlt : i % n < n := Nat.mod_lt _ (by omega)
    obtain ⟨b, off, x, rfl, hc, hx0, hx1⟩ := hb (i % n) hlt
    have hne : (n : Int) ≠ 0 := by omega
    have hlt' : (i : Int) % (n : Int) < (n : Int) := Int.emod_lt_of_pos _ (by omega)
    have hge' : 0 ≤ (i : Int) % (n : Int) := Int.emod_nonneg _ hne
    have htn : ((i : Int) % (n : Int)).toNat = i % n := by omega
    clear hb
    go_enter Tryz.func14, Tryz.ntmps14
    go_wp2_with fail
    go_ret
    exact ⟨x, rfl, hx0, hx1, 0, rfl⟩
end Go.Proofs.YtmjjigdnoiphbaaGreatDoor

/-
  SMALL THINGS THAT THE LAWS SHARE: the room of paths, a field of a Best, bytes that stay.
-/
namespace Go.Proofs.YtmjjigdnoiphbaaGreatDoor
open Go.RowKit Go.Deep
set_option linter.unusedVariables false
set_option linter.unusedSimpArgs false

theorem OwnS.capSt {w : World} {L : Lies} {st : St} (h : OwnS w L st) (hpc : ∀ i, i < st.2.1.length → (tPath st.2.1 i).length ≤ L.pc i) : CapSt w (L.val st) st.2.1.length := by
  intro a1 l1 q1 a2 l2 q2 a3 l3 q3 hv i b off p q c hi ha hc
  simp only [Lies.val, Value.agg.injEq, Array.mk.injEq, List.cons.injEq, Value.slice.injEq, and_true] at hv
  obtain ⟨_, ⟨rfl, _, _⟩, _⟩ := hv
  obtain ⟨b', off', e, _, h1, _⟩ := h.t.row i hi
  rw [e] at ha
  simp only [Option.some.injEq, Addr.mk.injEq, and_true] at ha
  obtain ⟨rfl, rfl⟩ := ha
  rw [h1] at hc
  simp only [Option.some.injEq, Value.slice.injEq] at hc
  obtain ⟨_, rfl, rfl⟩ := hc
  exact hpc i hi
theorem BytesAt.below {w w' : World} {a : Option Addr} {n : Nat} (h : BytesAt w a n) (hb : Below w.heap.size w w') : BytesAt w' a n :=
  ⟨h.1, fun i hi => by
    obtain ⟨b, off, x, e, hc, h0, h1⟩ := h.2 i hi
    exact ⟨b, off, x, e, cell_later hb hc, h0, h1⟩⟩
theorem tmod_nat {y : Int} {d : Nat} (hy : 0 ≤ y) (hd : 0 < d) : ∃ u : Nat, y.tmod (d : Int) = (u : Int) ∧ u < d := by
  have h0 : (d : Int) ≠ 0 := by omega
  have h1 := Int.emod_nonneg y h0
  have h2 := Int.emod_lt_of_pos y (show (0 : Int) < (d : Int) by omega)
  rw [Int.tmod_eq_emod_of_nonneg hy]
  generalize y % (d : Int) = z at *
  exact ⟨z.toNat, by omega, by omega⟩
end Go.Proofs.YtmjjigdnoiphbaaGreatDoor

/-
  spec.States.
-/
namespace Go.Proofs.YtmjjigdnoiphbaaGreatDoor
open Go.RowKit Go.Deep
set_option linter.unusedVariables false

/-- a state that was drawn, in blocks of its own -/
structure DrawnAt (w w' : World) (L : Lies) (st : St) : Prop where
  own : OwnS w' L st
  rc : st.1.length ≤ L.rc
  tc : st.2.1.length ≤ L.tc
  nc : st.2.2.length ≤ L.nc
  pc : ∀ i, i < st.2.1.length → (tPath st.2.1 i).length ≤ L.pc i
  new : ∀ k, L.F st.2.1.length k → w.heap.size ≤ k
  below : Below w.heap.size w w'
def stD (B : List Int) : St := (stateD B (0, 0)).1
theorem stD_drawn (B : List Int) : Drawn (stD B) := (stateD_drawn B (0, 0)).1
theorem stD_paths (B : List Int) : ∀ i, i < (stD B).2.1.length → (tPath (stD B).2.1 i).length ≤ 4611686018427387904 := fun i hi => by
  have := (stD_drawn B).few.paths i hi
  omega

set_option maxHeartbeats 1000000 in
theorem states_f {w : World} {a : Option Addr} {B : List Int} {q : Nat} (h : BytesF w a B) (ha : ∀ b off s, a = some ⟨b, off, s⟩ → 0 < B.length → b < w.heap.size) :
    Calls Tryz.prog 4 #[.slice a B.length q] w fun e w' => ∃ L : Lies, e = .returned (L.val (stD B)) ∧ DrawnAt w w' L (stD B) := by
  obtain ⟨c0, hc0⟩ : ∃ c0 : Cu, c0 = (0, 0) := ⟨_, rfl⟩
  have hS : stD B = (stateD B c0).1 := by rw [hc0, stD]
  obtain ⟨W, hW⟩ : ∃ W, W = (w.alloc (.cells #[.slice none 0 0, .slice none 0 0, .slice none 0 0] 26)).alloc (.cells #[.slice a B.length q, .int .i64 0, .int .u64 0] 41) := ⟨_, rfl⟩
  have hbW : Below w.heap.size w W := by rw [hW]; exact Joins.below_alloc2 _ _ _
  have hzW : W.heap.size = w.heap.size + 2 := by rw [hW]; simp
  have hR0 : W.heap[w.heap.size]? = some (.cells #[.slice none 0 0, .slice none 0 0, .slice none 0 0] 26 (0, 0)) := by rw [hW]; exact blockLater (Joins.below_alloc1 _ _) (heap_alloc_new w _)
  have hcu : CurF W (w.heap.size + 1) a B q c0 := by
    rw [hc0]
    exact ⟨by rw [hW]; exact heap_alloc2_new _ _ _, h.below hbW, fun b off s e h0 => by have := ha b off s e h0; omega⟩
  have hst := hide (state_f hcu (by rw [hc0]; exact Nat.zero_le _))
  have HW := hide hW
  rw [hS]
  clear h ha hcu hS hc0 hW
  generalize stateD B c0 = SD at *
  go_enter Tryz.func4, Tryz.ntmps4
  go_wp2_with fail
  rw [← HW.out]
  refine hst.out.mono ?_
  rintro e w1 ⟨L, rfl, h1, h2, h3, h4, h5, h6, h7, h8⟩
  have hz1 : w.heap.size < w1.heap.size := by have := h8.size; omega
  have hR1 := (h8.block w.heap.size (by omega) (by omega)).trans hR0
  obtain ⟨k0, k1, k2, kf⟩ := block3 hR1
  have kf0 := kf 0
  have kf1 := kf 1
  have kf2 := kf 2
  have HR1 := hide hR1
  have HX : Hid (OwnS w1 L SD.1 ∧ (SD.1.1.length ≤ L.rc ∧ SD.1.2.1.length ≤ L.tc ∧ SD.1.2.2.length ≤ L.nc ∧ ∀ i, i < SD.1.2.1.length → (tPath SD.1.2.1 i).length ≤ L.pc i) ∧ (∀ k, L.F SD.1.2.1.length k → w.heap.size + 2 ≤ k) ∧ Below w.heap.size w w1) :=
    ⟨h1, ⟨h2, h3, h4, h5⟩, fun k hk => by have := h6 k hk; omega, hbW.trans (h8.below (by omega) (fun k hk e => by omega))⟩
  clear h1 h2 h3 h4 h5 h6 h7 h8 hbW hzW hR0 hR1 kf hst HW
  obtain ⟨ra, rc, ta, tc, na, nc, pa, pc⟩ := L
  obtain ⟨⟨rs, ts, ns⟩, cu⟩ := SD
  simp only [Lies.val] at HX ⊢
  go_wp2_with fail
  have hc : Chg (fun q => q = w.heap.size) w1 (((w1.setCell ⟨w.heap.size, 0, none⟩ (.slice ra rs.length rc)).setCell ⟨w.heap.size, 1, none⟩ (.slice ta ts.length tc)).setCell ⟨w.heap.size, 2, none⟩ (.slice na ns.length nc)) :=
    Chg.setCell (F := fun q => q = w.heap.size) (Chg.setCell (F := fun q => q = w.heap.size) (Chg.setCell (F := fun q => q = w.heap.size) (Chg.refl _ _) rfl _) rfl _) rfl _
  have hvar := block3_set2 (block3_set1 (block3_set0 HR1.out (.slice ra rs.length rc)) (.slice ta ts.length tc)) (.slice na ns.length nc)
  generalize ((w1.setCell ⟨w.heap.size, 0, none⟩ (.slice ra rs.length rc)).setCell ⟨w.heap.size, 1, none⟩ (.slice ta ts.length tc)).setCell ⟨w.heap.size, 2, none⟩ (.slice na ns.length nc) = WF at *
  obtain ⟨z0, z1, z2, _⟩ := block3 hvar
  obtain ⟨x1, ⟨x2, x3, x4, x5⟩, x6, x7⟩ := HX.out
  refine bodyPost_ret (v := .agg #[.slice ra rs.length rc, .slice ta ts.length tc, .slice na ns.length nc]) (by simp [results, Tryz.results4, go_sem, z0, z1, z2]) rfl ⟨⟨ra, rc, ta, tc, na, nc, pa, pc⟩, rfl, x1.keep hc.size (fun k hk e => hc.block k hk (by have := x6 k e; omega)), x2, x3, x4, x5, fun k e => by have := x6 k e; omega, x7.trans (hc.below (by omega) (fun k hk e => by omega))⟩
end Go.Proofs.YtmjjigdnoiphbaaGreatDoor

/-
  THE DRAWS: (*l5Cur).asks, spec.Asks: some numbers, no more than forty.
-/
namespace Go.Proofs.YtmjjigdnoiphbaaGreatDoor
open Go.RowKit Go.Deep
set_option linter.unusedVariables false

set_option maxHeartbeats 8000000 in
set_option maxRecDepth 4000 in
theorem asks_f {w : World} {cb : Nat} {a : Option Addr} {B : List Int} {q : Nat} {c : Cu} (h : CurF w cb a B q c) (hk : c.1 ≤ 800000) (v : Value) (st : St) (hs : ∀ w'', Chg (fun b => b = cb) w w'' → StateAt w'' v st) (hn : st.2.2.length ≤ 1000) :
    Calls Tryz.prog 28 #[.pointer (some ⟨cb, 0, none⟩), v] w fun e w' => ∃ (r : Option Addr) (n m : Nat), e = .returned (.slice r n m) ∧ n ≤ 40 ∧ Chg (fun b => b = cb) w w' := by
  have HH := hide h
  have HS := hide hs
  have hcb := h.lt
  obtain ⟨a1, q1, a2, q2, a3, q3, rfl⟩ := (hs w (Chg.refl _ _)).form
  generalize hln : st.2.2.length = ln at *
  have HLN := hide hln
  clear h hs hln
  go_enter Tryz.func28, Tryz.ntmps28
  go_wp2_with fail
  obtain ⟨U, hU⟩ : ∃ U, U = w.alloc (.cells #[.slice a1 st.1.length q1, .slice a2 st.2.1.length q2, .slice a3 ln q3] 26) := ⟨_, rfl⟩
  rw [← hU]
  have hbU : Below w.heap.size w U := by rw [hU]; exact Joins.below_alloc1 _ _
  have HRU : Hid (U.heap[w.heap.size]? = some (.cells #[.slice a1 st.1.length q1, .slice a2 st.2.1.length q2, .slice a3 ln q3] 26 (0, 0))) := by rw [hU]; exact heap_alloc_new _ _
  have HBU := hide hbU
  clear hU hbU
  refine (pick_f (HH.out.below HBU.out) (by omega) 40 (by decide)).mono ?_
  rintro e w1 ⟨rfl, hcu1, hch1⟩
  have p1 := pk_lo B 40 c
  have p2 := pk_hi B c (show (1 : Int) ≤ 40 by omega)
  have p3 := (pk_k B 40 c).2
  obtain ⟨n0, hn0⟩ : ∃ n0 : Nat, (pk B 40 c).1 = (n0 : Int) := ⟨(pk B 40 c).1.toNat, by omega⟩
  have hn40 : n0 ≤ 39 := by omega
  rw [hn0]
  have HR1 := hide ((hch1.block _ (Array.getElem?_eq_some_iff.1 HRU.out).1 (by omega)).trans HRU.out)
  have HC1 := hide hcu1
  have HG1 : Hid (Chg (fun b => b = cb) w w1) := (Chg.of_below HBU.out).trans hch1
  have hk1 : (pk B 40 c).2.1 ≤ c.1 + 2 := p3
  clear hcu1 hch1 p1 p2 p3 hn0 HRU HBU
  go_wp2_with fail
  go_loopw [5, 6] (fun u5 u6 wx => ∃ (n : Nat) (ks : List Int) (cc : Cu), u6 = .int .i64 (n : Int) ∧ ks.length + n ≤ 40 ∧ OwnInts (w.heap.size + 1) wx u5 ks ∧ wx.heap[w.heap.size]? = some (.cells #[.slice a1 st.1.length q1, .slice a2 st.2.1.length q2, .slice a3 ln q3] 26 (0, 0)) ∧ cc.1 + 8 * n ≤ c.1 + 400 ∧ CurF wx cb a B q cc ∧ Chg (fun b => b = cb) w wx) (fun _ u6 _ => (intOf u6).toNat)
  case atStart => exact ⟨n0, [], (pk B 40 c).2, rfl, by simp; omega, OwnInts.nil _ _, HR1.out, by omega, HC1.out, HG1.out⟩
  case round =>
    obtain ⟨n, ks, cc, rfl, hkn, ho, hr, hcc, hcu, hg⟩ := hrel
    have HO := hide ho
    have HR := hide hr
    have HC := hide hcu
    have HG := hide hg
    have hlt : w.heap.size < wr.heap.size := (Array.getElem?_eq_some_iff.1 hr).1
    clear ho hr hcu hg HR1 HC1 HG1
    rcases Nat.eq_zero_or_pos n with rfl | hnp
    · obtain ⟨la, lc, hl⟩ := HO.out.form
      subst hl
      go_wp2_with fail
      go_ret
      exact ⟨_, _, _, rfl, by omega, HG.out⟩
    · obtain ⟨n', rfl⟩ : ∃ n', n = n' + 1 := ⟨n - 1, by omega⟩
      have hn1 : (0 : Int) < ((n' + 1 : Nat) : Int) := by omega
      have hn2 : (0 : Int) < (n' : Int) + 1 := by omega
      go_wp2_with fail
      refine (pick_f HC.out (by omega) 12 (by decide)).mono ?_
      rintro e w2 ⟨rfl, hcu2, hch2⟩
      have p1 := pk_lo B 12 cc
      have p3 := (pk_k B 12 cc).2
      generalize pk B 12 cc = P2 at *
      have HR2 := hide ((hch2.block _ hlt (by omega)).trans HR.out)
      have HO2 : Hid (OwnInts (w.heap.size + 1) w2 u5 ks) := HO.out.far (fun q hq => hch2.block q (HO.out.own hq).2 (by have := (HO.out.own hq).1; omega))
      have HC2 := hide hcu2
      have HG2 : Hid (Chg (fun b => b = cb) w w2) := HG.out.trans hch2
      obtain ⟨s0, s1, s2, -⟩ := block3 HR2.out
      have hlt2 : w.heap.size < w2.heap.size := (Array.getElem?_eq_some_iff.1 HR2.out).1
      clear hcu2 hch2 HO HR HC HG
      by_cases hz : ln = 0
      · have hzp : ¬ ((0 : Int) < (ln : Int)) := by omega
        have HOx := hide HO2.out
        have HRx := hide HR2.out
        have HCx := hide HC2.out
        have HGx := hide HG2.out
        clear hz
        go_wp2_with (first | (at_builtin; refine wpList_push rfl _ _ rfl (w.heap.size + 1) _ ks P2.1 w2.heap.size rfl rfl (HOx.out.below (Joins.below_alloc1 _ _)) (heap_alloc_new _ _) (by omega) (by simp; omega) ?_))
        intro g cap w9 hown hgrow hat hlt9
        have HB9 : Hid (Below (w.heap.size + 1) w2 w9) := ((Joins.below_alloc1 w2 _).mono (by omega)).trans ((Below.refl (w.heap.size + 1) _).grown hgrow (by simp; omega) (fun k e => (HOx.out.own e).1))
        have HOW := hide hown
        clear hown hgrow hat hlt9
        go_wp2_with fail
        go_roundw
        case rel => exact ⟨n', ks ++ [P2.1], P2.2, by go_num, by simp; omega, HOW.out, (HB9.out.block _ (by omega)).trans HRx.out, by omega, HCx.out.low HB9.out (by omega), HGx.out.lowTo HB9.out (by omega)⟩
        case measure => simp [intOf]
      · have hzp : (0 : Int) < (ln : Int) := by omega
        go_wp2_with fail
        refine (pick_f HC2.out (by omega) 6 (by decide)).mono ?_
        rintro e w3 ⟨rfl, hcu3, hch3⟩
        have p5 := (pk_k B 6 P2.2).2
        generalize pk B 6 P2.2 = P3 at *
        have HR3 := hide ((hch3.block _ hlt2 (by omega)).trans HR2.out)
        have HO3 : Hid (OwnInts (w.heap.size + 1) w3 u5 ks) := HO2.out.far (fun q hq => hch3.block q (HO2.out.own hq).2 (by have := (HO2.out.own hq).1; omega))
        have HC3 := hide hcu3
        have HG3 : Hid (Chg (fun b => b = cb) w w3) := HG2.out.trans hch3
        obtain ⟨s0, s1, s2, -⟩ := block3 HR3.out
        have hlt3 : w.heap.size < w3.heap.size := (Array.getElem?_eq_some_iff.1 HR3.out).1
        clear hcu3 hch3 HO2 HR2 HC2 HG2
        by_cases h6 : 0 < P3.1
        · obtain ⟨nb, noff, hna, -⟩ := (HS.out w3 HG3.out).parts.2.2.cellAt 0 (by rw [HLN.out]; omega)
          subst hna
          have HARM : Hid (∀ W4, Chg (fun b => b = cb) w3 W4 → ∀ u : Nat, u < ln → W4.cell? ⟨w.heap.size, 2, none⟩ = some (.slice (some ⟨nb, noff, none⟩) ln q3) ∧ W4.cell? ⟨nb, noff + u, none⟩ = some (.int .i64 (el st.2.2 u)) ∧ (0 : Int) ≤ (u : Int) ∧ (u : Int) < (ln : Int)) := fun W4 hc4 u hu => by
            obtain ⟨nb', noff', hnn, hnc⟩ := (HS.out W4 (HG3.out.trans hc4)).parts.2.2.cellAt u (by rw [HLN.out]; exact hu)
            simp only [Option.some.injEq, Addr.mk.injEq, and_true] at hnn
            obtain ⟨rfl, rfl⟩ := hnn
            exact ⟨(World.cell?_of_block (a := ⟨w.heap.size, 2, none⟩) (hc4.block w.heap.size hlt3 (by omega))).trans s2, hnc, by omega, by omega⟩
          have q1' := pk_lo B (ln : Int) P3.2
          have q2' := pk_hi B P3.2 (show (1 : Int) ≤ (ln : Int) by omega)
          have q3' := (pk_k B (ln : Int) P3.2).2
          obtain ⟨u, hu⟩ : ∃ u : Nat, (pk B (ln : Int) P3.2).1 = (u : Int) := ⟨(pk B (ln : Int) P3.2).1.toNat, by omega⟩
          have hul : u < ln := by omega
          go_wp2_with fail
          go_region_law (first | (go_simp; go_at_call 41; refine (pick_f (HC3.out.below ((Below.refl _ w3).drew)) (by omega) (ln : Int) (by omega)).mono ?_; rw [hu]; rintro e w4 ⟨rfl, hcu4, hch4⟩; have hch4' := (Chg.of_below (F := fun b => b = cb) ((Below.refl _ w3).drew)).trans hch4; obtain ⟨k0, k1, k2, k3⟩ := HARM.out w4 hch4' u hul; have HCx := hide hcu4; have HC4 := hide hch4'; clear hcu4 hch4 hch4'))
          all_goals
            have HRx := hide ((HC4.out.block _ hlt3 (by omega)).trans HR3.out)
            have HOx : Hid (OwnInts (w.heap.size + 1) w4 u5 ks) := HO3.out.far (fun q hq => HC4.out.block q (HO3.out.own hq).2 (by have := (HO3.out.own hq).1; omega))
            have HGx : Hid (Chg (fun b => b = cb) w w4) := HG3.out.trans HC4.out
            have hlt4 : w.heap.size < w4.heap.size := (Array.getElem?_eq_some_iff.1 HRx.out).1
            go_wp2_with (first | (at_builtin; refine wpList_push rfl _ _ rfl (w.heap.size + 1) _ ks (el st.2.2 u) w4.heap.size rfl rfl (HOx.out.below (Joins.below_alloc1 _ _)) (heap_alloc_new _ _) (by omega) (by simp; omega) ?_))
            intro g cap w9 hown hgrow hat hlt9
            have HB9 : Hid (Below (w.heap.size + 1) w4 w9) := ((Joins.below_alloc1 w4 _).mono (by omega)).trans ((Below.refl (w.heap.size + 1) _).grown hgrow (by simp; omega) (fun k e => (HOx.out.own e).1))
            have HOW := hide hown
            clear hown hgrow hat hlt9
            go_wp2_with fail
            go_roundw
            case rel => exact ⟨n', ks ++ [(el st.2.2 u)], (pk B (ln : Int) P3.2).2, by go_num, by simp; omega, HOW.out, (HB9.out.block _ (by omega)).trans HRx.out, by omega, HCx.out.low HB9.out (by omega), HGx.out.lowTo HB9.out (by omega)⟩
            case measure => simp [intOf]
        · have HOx := hide HO3.out
          have HRx := hide HR3.out
          have HCx := hide HC3.out
          have HGx := hide HG3.out
          go_wp2_with (first | (at_builtin; refine wpList_push rfl _ _ rfl (w.heap.size + 1) _ ks P2.1 w3.heap.size rfl rfl (HOx.out.below (Joins.below_alloc1 _ _)) (heap_alloc_new _ _) (by omega) (by simp; omega) ?_))
          intro g cap w9 hown hgrow hat hlt9
          have HB9 : Hid (Below (w.heap.size + 1) w3 w9) := ((Joins.below_alloc1 w3 _).mono (by omega)).trans ((Below.refl (w.heap.size + 1) _).grown hgrow (by simp; omega) (fun k e => (HOx.out.own e).1))
          have HOW := hide hown
          clear hown hgrow hat hlt9
          go_wp2_with fail
          go_roundw
          case rel => exact ⟨n', ks ++ [P2.1], P3.2, by go_num, by simp; omega, HOW.out, (HB9.out.block _ (by omega)).trans HRx.out, by omega, HCx.out.low HB9.out (by omega), HGx.out.lowTo HB9.out (by omega)⟩
          case measure => simp [intOf]

set_option maxHeartbeats 1000000 in
theorem specAsks_f {w : World} {a : Option Addr} {B : List Int} {q : Nat} (h : BytesF w a B) (ha : ∀ b off s, a = some ⟨b, off, s⟩ → 0 < B.length → b < w.heap.size) (v : Value) (st : St) (hs : StateAt w v st) (hn : st.2.2.length ≤ 1000) :
    Calls Tryz.prog 8 #[v, .slice a B.length q] w fun e w' => ∃ (r : Option Addr) (n m : Nat), e = .returned (.slice r n m) ∧ n ≤ 40 ∧ Below w.heap.size w w' := by
  obtain ⟨a1, q1, a2, q2, a3, q3, rfl⟩ := hs.form
  have HB := hide h
  have HA := hide ha
  have HS := hide hs
  clear h ha hs
  go_enter Tryz.func8, Tryz.ntmps8
  go_wp2_with fail
  obtain ⟨W, hW⟩ : ∃ W, W = (w.alloc (.cells #[.slice a1 st.1.length q1, .slice a2 st.2.1.length q2, .slice a3 st.2.2.length q3] 26)).alloc (.cells #[.slice a B.length q, .int .i64 0, .int .u64 0] 41) := ⟨_, rfl⟩
  rw [← hW]
  have hbW : Below w.heap.size w W := by rw [hW]; exact Joins.below_alloc2 _ _ _
  have hzW : W.heap.size = w.heap.size + 2 := by rw [hW]; simp
  obtain ⟨c0, hc0⟩ : ∃ c0 : Cu, c0 = (0, 0) := ⟨_, rfl⟩
  have hcu : CurF W (w.heap.size + 1) a B q c0 := by
    rw [hc0]
    exact ⟨by rw [hW]; exact heap_alloc2_new _ _ _, HB.out.below hbW, fun b off s e h0 => by have := HA.out b off s e h0; omega⟩
  have hk0 : c0.1 ≤ 800000 := by rw [hc0]; exact Nat.zero_le _
  clear hW hc0
  refine (asks_f hcu hk0 _ st (fun w'' hc => HS.out.below (hbW.trans (hc.below (by omega) (fun k hk e => by omega)))) hn).mono ?_
  rintro e w1 ⟨r, n, m, rfl, h40, hch⟩
  have HX : Hid (n ≤ 40 ∧ Below w.heap.size w w1) := ⟨h40, hbW.trans (hch.below (by omega) (fun k hk e => by omega))⟩
  clear hch hbW hzW hcu hk0
  go_wp2_with fail
  go_ret
  exact ⟨r, n, m, rfl, HX.out⟩
end Go.Proofs.YtmjjigdnoiphbaaGreatDoor
