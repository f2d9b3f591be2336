/-
  markIntS, heldIntS, markTrainS, markState.
-/
import Derived.Test.YtmjjigdnoiphbaaMark
namespace Go.Proofs.Ytmjjigdnoiphbaa
open Go.RowKit Go.Deep
set_option linter.unusedVariables false

set_option maxHeartbeats 800000 in
theorem markIntS_own (a : Option Addr) (n cap : Nat) (X : Nat → Int) (m : Int) (w : World) (h : OwnF w a n X) (hn : n ≤ 1048576) (h0 : 0 ≤ m) (h1 : m ≤ 4611686018427387904) :
    Calls Try.prog 41 #[.slice a n cap, .int .i64 m] w fun e w' => e = .returned (.int .i64 (m + n)) ∧ OwnF w' a n (fun i => m + i) ∧ Chg (FA a) w w' := by
  have HF := hide h
  clear h
  go_enter Try.func41, Try.ntmps41
  go_wp2
  go_loopw [1, 5] (fun c i wr => ∃ j : Nat, j ≤ n ∧ i = .int .i64 j ∧ c = .int .i64 (m + j) ∧ OwnF wr a n (fun i => if i < j then m + i else X i) ∧ Chg (FA a) w wr) (fun _ i _ => n - (intOf i).toNat)
  case atStart => exact ⟨0, Nat.zero_le _, rfl, by simp, HF.out.congr (fun i hi => by simp), Chg.refl _ _⟩
  case round =>
    obtain ⟨j, hj, rfl, rfl, ho, hc⟩ := hrel
    by_cases hlt : j < n
    · obtain ⟨b, off, rfl, hx, hz⟩ := ho j hlt
      obtain ⟨c, hcell⟩ : ∃ c, wr.cell? ⟨b, off + j, none⟩ = some c := ⟨_, hx⟩
      have HO := hide ho
      have HC := hide hc
      clear hx ho hc
      go_wp2
      go_roundw
      case rel =>
        refine ⟨j + 1, by omega, by go_num, by congr 1; omega, (HO.out.set j (m + j)).congr (fun i hi => ?_), HC.out.setCell (FA_mk _ _) _⟩
        by_cases e : i = j
        · subst e; rw [upd_same, if_pos (by omega)]
        · rw [upd_other _ _ e]
          by_cases e2 : i < j
          · rw [if_pos e2, if_pos (by omega)]
          · rw [if_neg e2, if_neg (by omega)]
      case measure => simp [intOf]; omega
    · go_wp2
      go_ret
      obtain rfl : j = n := by omega
      exact ⟨rfl, ho.congr (fun i hi => if_pos hi), hc⟩

set_option maxHeartbeats 800000 in
theorem heldIntS_own (a : Option Addr) (n cap : Nat) (m : Int) (w : World) (h : OwnF w a n (fun i => m + i)) (hn : n ≤ 1048576) (h0 : 0 ≤ m) (h1 : m ≤ 4611686018427387904) :
    Calls Try.prog 42 #[.slice a n cap, .int .i64 m] w fun e w' => e = .returned (.int .i64 (m + n)) ∧ w = w' := by
  have HF := hide h
  clear h
  go_enter Try.func42, Try.ntmps42
  go_wp2
  go_loop [1, 5] (fun c i => ∃ j : Nat, j ≤ n ∧ i = .int .i64 j ∧ c = .int .i64 (m + j)) (fun _ i => n - (intOf i).toNat)
  case atStart => exact ⟨0, Nat.zero_le _, rfl, by simp⟩
  case round =>
    obtain ⟨j, hj, rfl, rfl⟩ := hrel
    by_cases hlt : j < n
    · obtain ⟨b, off, rfl, hx, hz⟩ := HF.out j hlt
      have hb : ((m + j) != (m + j)) = false := by simp
      go_wp2
      go_round
      case rel => exact ⟨j + 1, by omega, by go_num, by congr 1; omega⟩
      case measure => simp [intOf]; omega
    · go_wp2
      go_ret
      obtain rfl : j = n := by omega
      exact ⟨rfl, rfl⟩

/-- the marks of the first k trains -/
def mX (m : Int) (pl : Nat → Nat) (X : Nat → Int) (k : Nat) : Nat → Int := fun i => if i < k then cnt m pl i else X i
def mY (m : Int) (pl : Nat → Nat) (Y : Nat → Int) (k : Nat) : Nat → Int := fun i => if i < k then cnt m pl i + 1 + pl i else Y i
def mZ (m : Int) (pl : Nat → Nat) (Z : Nat → Nat → Int) (k : Nat) : Nat → Nat → Int := fun i => if i < k then (fun j => cnt m pl i + 1 + j) else Z i

set_option maxHeartbeats 1600000 in
theorem markTrainS_own (a : Option Addr) (n cap : Nat) (pa : Nat → Option Addr) (pl pc : Nat → Nat) (X Y : Nat → Int) (Z : Nat → Nat → Int) (m : Int) (w : World) (h : OwnT w a n pa pl pc X Y Z) (hn : n ≤ 1048576) (hp : ∀ i, i < n → pl i ≤ 1048576) (h0 : 0 ≤ m) (h1 : m ≤ 4503599627370496) :
    Calls Try.prog 77 #[.slice a n cap, .int .i64 m] w fun e w' => e = .returned (.int .i64 (cnt m pl n)) ∧ OwnT w' a n pa pl pc (mX m pl X n) (mY m pl Y n) (mZ m pl Z n) ∧ Chg (FT a pa n) w w' := by
  have HT := hide h
  have HP := hide hp
  clear h hp
  go_enter Try.func77, Try.ntmps77
  go_wp2
  go_loopw [1, 5] (fun c i wr => ∃ k : Nat, k ≤ n ∧ i = .int .i64 k ∧ c = .int .i64 (cnt m pl k) ∧ OwnT wr a n pa pl pc (mX m pl X k) (mY m pl Y k) (mZ m pl Z k) ∧ Chg (FT a pa n) w wr) (fun _ i _ => n - (intOf i).toNat)
  case atStart => exact ⟨0, Nat.zero_le _, rfl, rfl, HT.out.congr (fun i hi => by simp [mX]) (fun i hi => by simp [mY]) (fun i j hi hj => by simp [mZ]), Chg.refl _ _⟩
  case round =>
    obtain ⟨k, hk, rfl, rfl, ho, hc⟩ := hrel
    obtain ⟨u1, u2⟩ := cnt_le (m := m) HP.out k hk
    have u3 : (k : Int) * 1048578 ≤ 1048576 * 1048578 := Int.mul_le_mul_of_nonneg_right (by omega) (by omega)
    have u4 : cnt m pl k ≤ 4600000000000000000 := by omega
    have u5 : 0 ≤ cnt m pl k := by omega
    by_cases hlt : k < n
    · obtain ⟨b, off, rfl, x0, x1, x2, xf⟩ := ho.row k hlt
      have hpk := HP.out k hlt
      have f0 := xf 0 (by omega)
      have f2 := xf 2 (by omega)
      rw [Nat.add_zero] at f0
      obtain ⟨c0, k0⟩ : ∃ c, wr.cell? ⟨b, off + k * 3, none⟩ = some c := ⟨_, x0⟩
      obtain ⟨c2, k2⟩ : ∃ c, wr.cell? ⟨b, off + k * 3 + 2, none⟩ = some c := ⟨_, x2⟩
      have HO := hide (ho.setAt k (cnt m pl k))
      have HC := hide (hc.setCell (p := ⟨b, off + k * 3, none⟩) (show FT (some ⟨b, off, none⟩) pa n b from Or.inl (FA_mk _ _)) (.int .i64 (cnt m pl k)))
      have hcs : cnt m pl (k + 1) = cnt m pl k + 1 + pl k + 1 := by simp only [cnt]; omega
      have HCS := hide hcs
      clear x0 x2 xf ho hc hcs u1 u2 u3
      generalize hcn : cnt m pl k = c at *
      have HCN := hide hcn
      clear hcn
      go_wp2_with fail
      refine (markIntS_own _ _ _ _ _ _ (HO.out.path k hlt) hpk (by omega) (by omega)).mono ?_
      rintro e w1 ⟨rfl, hF1, hC1⟩
      have hO1 := HO.out.setPath hlt hC1 hF1
      obtain ⟨b', off', eo, y0, y1, y2, yf⟩ := hO1.row k hlt
      simp only [Option.some.injEq, Addr.mk.injEq, and_true] at eo
      obtain ⟨rfl, rfl⟩ := eo
      have f2' := yf 2 (by omega)
      obtain ⟨c2', k2'⟩ : ∃ c, w1.cell? ⟨b, off + k * 3 + 2, none⟩ = some c := ⟨_, y2⟩
      have HO1 := hide (hO1.setWt k (c + 1 + pl k))
      have HC1 := hide (((HC.out.trans (hC1.mono (fun q hq => Or.inr ⟨k, hlt, hq⟩))).setCell (p := ⟨b, off + k * 3 + 2, none⟩) (show FT (some ⟨b, off, none⟩) pa n b from Or.inl (FA_mk _ _)) (.int .i64 (c + 1 + pl k))))
      clear hF1 hC1 hO1 y0 y1 y2 yf HO HC x1
      go_wp2_with fail
      go_roundw
      case rel =>
        refine ⟨k + 1, by omega, by go_num, by rw [HCS.out], HO1.out.congr (fun i hi => ?_) (fun i hi => ?_) (fun i j hi hj => ?_), HC1.out⟩
        · by_cases e : i = k
          · subst e; rw [upd_same]; unfold mX; rw [if_pos (by omega), HCN.out]
          · rw [upd_other _ _ e]; unfold mX
            by_cases e2 : i < k
            · rw [if_pos e2, if_pos (by omega)]
            · rw [if_neg e2, if_neg (by omega)]
        · by_cases e : i = k
          · subst e; rw [upd_same]; unfold mY; rw [if_pos (by omega), HCN.out]
          · rw [upd_other _ _ e]; unfold mY
            by_cases e2 : i < k
            · rw [if_pos e2, if_pos (by omega)]
            · rw [if_neg e2, if_neg (by omega)]
        · by_cases e : i = k
          · subst e; rw [upd_same]; unfold mZ; rw [if_pos (by omega), HCN.out]
          · rw [upd_other _ _ e]; unfold mZ
            by_cases e2 : i < k
            · rw [if_pos e2, if_pos (by omega)]
            · rw [if_neg e2, if_neg (by omega)]
      case measure => simp [intOf]; omega
    · go_wp2
      go_ret
      obtain rfl : k = n := by omega
      exact ⟨rfl, ho, hc⟩

/-- where a state of the call's own lies -/
structure Lies where
  ra : Option Addr
  rc : Nat
  ta : Option Addr
  tc : Nat
  na : Option Addr
  nc : Nat
  pa : Nat → Option Addr
  pc : Nat → Nat

def Lies.val (L : Lies) (st : St) : Value := .agg #[.slice L.ra st.1.length L.rc, .slice L.ta st.2.1.length L.tc, .slice L.na st.2.2.length L.nc]
/-- its blocks -/
def Lies.F (L : Lies) (n : Nat) : Nat → Prop := fun k => FA L.ra k ∨ FA L.na k ∨ FT L.ta L.pa n k

/-- its lists lie apart, in blocks that are there -/
structure Lies.Apart (L : Lies) (n : Nat) (w : World) : Prop where
  rt : ∀ k, FA L.ra k → ¬ FT L.ta L.pa n k
  nt : ∀ k, FA L.na k → ¬ FT L.ta L.pa n k
  rn : ∀ k, FA L.ra k → ¬ FA L.na k
  lt : ∀ k, L.F n k → k < w.heap.size

structure OwnS (w : World) (L : Lies) (st : St) : Prop where
  r : OwnF w L.ra st.1.length (el st.1)
  t : OwnT w L.ta st.2.1.length L.pa (fun i => (tPath st.2.1 i).length) L.pc (tAt st.2.1) (tWt st.2.1) (fun i j => el (tPath st.2.1 i) j)
  n : OwnF w L.na st.2.2.length (el st.2.2)
  apart : L.Apart st.2.1.length w

theorem OwnS.at {w : World} {L : Lies} {st : St} (h : OwnS w L st) : StateAt w (L.val st) st :=
  ⟨_, _, _, rfl, h.r.at (fun _ _ => rfl), h.t.at (fun _ _ => rfl) (fun _ _ => rfl) (fun _ _ => rfl) (fun _ _ _ _ => rfl), h.n.at (fun _ _ => rfl)⟩

theorem OwnS.keep {w w' : World} {L : Lies} {st : St} (h : OwnS w L st) (hz : w.heap.size ≤ w'.heap.size) (hb : ∀ k, k < w.heap.size → L.F st.2.1.length k → w'.heap[k]? = w.heap[k]?) : OwnS w' L st :=
  ⟨h.r.keep (fun k hk e => hb k hk (Or.inl e)), h.t.keep (fun k hk e => hb k hk (Or.inr (Or.inr e))), h.n.keep (fun k hk e => hb k hk (Or.inr (Or.inl e))), ⟨h.apart.rt, h.apart.nt, h.apart.rn, fun k hk => Nat.lt_of_lt_of_le (h.apart.lt k hk) hz⟩⟩
theorem OwnS.below {w w' : World} {L : Lies} {st : St} (h : OwnS w L st) (hb : Below w.heap.size w w') : OwnS w' L st := h.keep hb.size (fun k hk _ => hb.block k hk)

/-- the same state, marked -/
structure MarkedS (w : World) (L : Lies) (st : St) (m : Int) : Prop where
  r : OwnF w L.ra st.1.length (fun i => m + i)
  t : OwnT w L.ta st.2.1.length L.pa (fun i => (tPath st.2.1 i).length) L.pc (mX (m + st.1.length) (fun i => (tPath st.2.1 i).length) (tAt st.2.1) st.2.1.length) (mY (m + st.1.length) (fun i => (tPath st.2.1 i).length) (tWt st.2.1) st.2.1.length) (mZ (m + st.1.length) (fun i => (tPath st.2.1 i).length) (fun i j => el (tPath st.2.1 i) j) st.2.1.length)
  n : OwnF w L.na st.2.2.length (fun i => cnt (m + st.1.length) (fun i => (tPath st.2.1 i).length) st.2.1.length + i)
theorem MarkedS.keep {w w' : World} {L : Lies} {st : St} {m : Int} (h : MarkedS w L st m) (hb : ∀ k, k < w.heap.size → L.F st.2.1.length k → w'.heap[k]? = w.heap[k]?) : MarkedS w' L st m :=
  ⟨h.r.keep (fun k hk e => hb k hk (Or.inl e)), h.t.keep (fun k hk e => hb k hk (Or.inr (Or.inr e))), h.n.keep (fun k hk e => hb k hk (Or.inr (Or.inl e)))⟩
theorem MarkedS.below {w w' : World} {L : Lies} {st : St} {m : Int} (h : MarkedS w L st m) (hb : Below w.heap.size w w') : MarkedS w' L st m := h.keep (fun k hk _ => hb.block k hk)

/-- what marking a state comes to -/
def total (m : Int) (st : St) : Int := cnt (m + st.1.length) (fun i => (tPath st.2.1 i).length) st.2.1.length + st.2.2.length

theorem total_le {st : St} (h : SmallSt st) : 1 ≤ total 1 st ∧ cnt (1 + st.1.length) (fun i => (tPath st.2.1 i).length) st.2.1.length ≤ 4503599627370496 ∧ 1 ≤ cnt (1 + st.1.length) (fun i => (tPath st.2.1 i).length) st.2.1.length := by
  obtain ⟨u1, u2⟩ := cnt_le (m := 1 + st.1.length) (pl := fun i => (tPath st.2.1 i).length) h.pl st.2.1.length (Nat.le_refl _)
  have u3 : (st.2.1.length : Int) * 1048578 ≤ 1048576 * 1048578 := Int.mul_le_mul_of_nonneg_right (by have := h.tl; omega) (by omega)
  have := h.rl
  unfold total
  omega

set_option maxHeartbeats 1600000 in
theorem markState_own (L : Lies) (st : St) (w : World) (h : OwnS w L st) (hs : SmallSt st) :
    Calls Try.prog 40 #[L.val st, .int .i64 1] w fun e w' => e = .returned (.int .i64 (total 1 st)) ∧ MarkedS w' L st 1 ∧ Chg (L.F st.2.1.length) w w' := by
  have HL := hide h
  have HT := hide (total_le hs)
  have HS := hide hs
  have b1 := hs.rl
  have b2 := hs.tl
  have b3 := hs.nl
  clear h hs
  unfold Lies.val
  go_enter Try.func40, Try.ntmps40
  go_wp2_with fail
  obtain ⟨V, hV⟩ : ∃ V, V = w.alloc (.cells #[.slice L.ra st.1.length L.rc, .slice L.ta st.2.1.length L.tc, .slice L.na st.2.2.length L.nc] 26) := ⟨_, rfl⟩
  rw [← hV]
  have c1 : V.cell? ⟨w.heap.size, 1, none⟩ = some (.slice L.ta st.2.1.length L.tc) := by rw [hV]; simp
  have c2 : V.cell? ⟨w.heap.size, 2, none⟩ = some (.slice L.na st.2.2.length L.nc) := by rw [hV]; simp
  have hbV : Below w.heap.size w V := by rw [hV]; exact Joins.below_alloc1 _ _
  have hzV : w.heap.size < V.heap.size := World.block_lt_of_cell? _ _ c1
  have hnw : ¬ L.F st.2.1.length w.heap.size := fun hf => Nat.lt_irrefl _ (HL.out.apart.lt _ hf)
  clear hV
  have hLV := HL.out.below hbV
  have HC := hide (Chg.of_below (F := L.F st.2.1.length) hbV)
  have KT := hide hLV.t
  have KN := hide hLV.n
  have HNW := hide hnw
  have HAP := hide hLV.apart
  refine (markIntS_own _ _ _ _ _ _ hLV.r b1 (by omega) (by omega)).mono ?_
  rintro e w1 ⟨rfl, m1, k1⟩
  have hC1 := k1.mono (G := L.F st.2.1.length) (fun k hk => Or.inl hk)
  have d1 : w1.cell? ⟨w.heap.size, 1, none⟩ = some (.slice L.ta st.2.1.length L.tc) := (World.cell?_of_block (hC1.block w.heap.size hzV hnw)).trans c1
  have d2 : w1.cell? ⟨w.heap.size, 2, none⟩ = some (.slice L.na st.2.2.length L.nc) := (World.cell?_of_block (hC1.block w.heap.size hzV hnw)).trans c2
  have KT1 := hide (KT.out.keep (fun k hk e => k1.block k hk (fun e' => HAP.out.rt k e' e)))
  have KN1 := hide (KN.out.chg k1 (fun k e e' => HAP.out.rn k e' e))
  have M1 := hide m1
  have HC1 := hide (HC.out.trans hC1)
  have hz1 : w.heap.size < w1.heap.size := World.block_lt_of_cell? _ _ d1
  have HZ1 := hide hz1
  clear m1 k1 hC1 c1 c2 hLV hbV hzV hnw KT KN HC hz1
  go_wp2_with fail
  refine (markTrainS_own _ _ _ _ _ _ _ _ _ _ _ KT1.out b2 HS.out.pl (by omega) (by omega)).mono ?_
  rintro e w2 ⟨rfl, m2, k2⟩
  have hC2 := k2.mono (G := L.F st.2.1.length) (fun k hk => Or.inr (Or.inr hk))
  have d2' : w2.cell? ⟨w.heap.size, 2, none⟩ = some (.slice L.na st.2.2.length L.nc) := (World.cell?_of_block (hC2.block w.heap.size HZ1.out HNW.out)).trans d2
  have M1' := hide (M1.out.chg k2 (fun k e => HAP.out.rt k e))
  have M2 := hide m2
  have KN2 := hide (KN1.out.chg k2 (fun k e => HAP.out.nt k e))
  have HC2 := hide (HC1.out.trans hC2)
  obtain ⟨t1, t2, t3⟩ := HT.out
  clear m2 k2 hC2 d1 d2 KT1 KN1 HC1 M1
  go_wp2_with fail
  refine (markIntS_own _ _ _ _ _ _ KN2.out b3 (by omega) (by omega)).mono ?_
  rintro e w3 ⟨rfl, m3, k3⟩
  have hC3 := k3.mono (G := L.F st.2.1.length) (fun k hk => Or.inr (Or.inl hk))
  have M1'' := hide (M1'.out.chg k3 (fun k e => HAP.out.rn k e))
  have M2' := hide (M2.out.keep (w' := w3) (fun k hk e => k3.block k hk (fun e' => HAP.out.nt k e' e)))
  have M3 := hide m3
  have HC3 := hide (HC2.out.trans hC3)
  clear m3 k3 hC3
  go_wp2_with fail
  go_ret
  exact ⟨rfl, ⟨M1''.out, M2'.out, M3.out⟩, HC3.out⟩
end Go.Proofs.Ytmjjigdnoiphbaa
