import Derived.Test.YtmjjigdnoiphbaaK7
import Derived.Test.YtmjjigdnoiphbaaDs0
import Derived.Test.YtmjjigdnoiphbaaSts
import Derived.Test.YtmjjigdnoiphbaaJ6
/-
  spec.l5state, spec.DrawRing.
-/
namespace Go.Proofs.Ytmjjigdnoiphbaa
open Go.RowKit Go.Deep
set_option linter.unusedVariables false
attribute [local go_sem ↓] Go.wp_at_zero Go.wp_at_succ

/-- a state, and where it is read: in every later world -/
def HeldSt (H : Nat) (W : World) (r : Value) (st : St) : Prop := ∀ w'', Chg (fun q => q < H) W w'' → StateAt w'' r st ∧ CapSt w'' r st.2.1.length
theorem HeldSt.chg {H : Nat} {W W' : World} {r : Value} {st : St} (h : HeldSt H W r st) (hc : Chg (fun q => q < H) W W') : HeldSt H W' r st := fun w'' hw => h w'' (hc.trans hw)

set_option maxHeartbeats 40000000 in
set_option maxRecDepth 8000 in
theorem l5state_any {w : World} {cb : Nat} {a : Option Addr} {B : List Int} {q : Nat} {c : Cu} (h : CurF w cb a B q c) (hk : c.1 ≤ 600000) :
    Calls Try.prog 60 #[.pointer (some ⟨cb, 0, none⟩)] w fun e w' => ∃ (r : Value) (st : St), e = .returned r ∧ Sz 6 17 st ∧ HeldSt w.heap.size w' r st ∧ Chg (fun b => b = cb) w w' := by
  have HC := hide h
  have hcb := h.lt
  clear h
  go_enter Try.func60, Try.ntmps60
  go_wp2_with fail
  refine (state_f (HC.out.below (Joins.below_alloc1 _ _)) (by omega)).mono ?_
  obtain ⟨hdr, hkd⟩ := stateD_drawn B c
  rintro e w1 ⟨L, rfl, h1, h2, h3, h4, h5, h6, h7, h8⟩
  generalize stateD B c = SD at *
  obtain ⟨⟨rs, ts, ns⟩, c1⟩ := SD
  obtain ⟨ra, rc, ta, tc, na, nc, pa, pc⟩ := L
  simp only [Lies.val] at *
  have hz1 : w.heap.size < w1.heap.size := by have := h8.size; simp at this; omega
  have hrb : w1.heap[w.heap.size]? = some (.cells #[.slice none 0 0, .slice none 0 0, .slice none 0 0] 26 (0, 0)) := (h8.block w.heap.size (by simp) (by omega)).trans (heap_alloc_new w _)
  have HK0 : Hid (∀ w'', Chg (fun b => b ≤ w.heap.size ∨ b = w1.heap.size) w1 w'' → StateAt w'' (.agg #[.slice ra rs.length rc, .slice ta ts.length tc, .slice na ns.length nc]) (rs, ts, ns) ∧ CapSt w'' (.agg #[.slice ra rs.length rc, .slice ta ts.length tc, .slice na ns.length nc]) ts.length) := fun w'' hc => by
    have h9 := h1.keep hc.size (fun k hk e => hc.block k hk (fun e' => by
      have u1 := h6 k e
      have u2 := h1.apart.lt k e
      simp at u1
      rcases e' with e' | e'
      · omega
      · omega))
    exact ⟨h9.at, h9.capSt h5⟩
  have HZ0 : Hid (Sz 5 8 (rs, ts, ns) ∧ 0 < rs.length) := by
    have a1 := hdr.rooms
    have a2 := hdr.few.len
    have a3 := hdr.few.same
    simp only at a1 a2 a3
    exact ⟨⟨by simp; omega, by simpa using a2, by simp; omega, fun i hi => by have := hdr.few.paths i hi; simp only at this ⊢; omega⟩, by omega⟩
  have HCU1 := hide h7
  have HCH1 : Hid (Chg (fun b => b = cb) w w1) := (Chg.of_below (Joins.below_alloc1 w _)).trans h8
  have HRB := hide hrb
  have hk1 : c1.1 ≤ c.1 + 150 := hkd
  clear h1 h2 h3 h4 h5 h6 h7 h8 hdr hkd hrb
  obtain ⟨st, hst⟩ : ∃ st : St, st = (rs, ts, ns) := ⟨_, rfl⟩
  have e1 : rs = st.1 := by rw [hst]
  have e2 : ts = st.2.1 := by rw [hst]
  have e3 : ns = st.2.2 := by rw [hst]
  rw [← hst] at HK0 HZ0
  rw [e1, e2, e3] at HK0
  rw [e1] at HZ0
  simp only [e1, e2, e3]
  clear e1 e2 e3 hst
  have HX1 := hide (heap_alloc_new w1 (.cells #[.slice ra st.1.length rc, .slice ta st.2.1.length tc, .slice na st.2.2.length nc] 26))
  have hbA := Joins.below_alloc1 w1 (.cells #[.slice ra st.1.length rc, .slice ta st.2.1.length tc, .slice na st.2.2.length nc] 26)
  go_wp2_with fail
  refine (pick_f (HCU1.out.below hbA) (by omega) 6 (by decide)).mono ?_
  rintro e w2 ⟨rfl, hcu2, hch2⟩
  have b1' := pk_lo B 6 c1
  have b2' := pk_hi B c1 (show (1 : Int) ≤ 6 by omega)
  have b3' := (pk_k B 6 c1).2
  obtain ⟨n0, hn0⟩ : ∃ n0 : Nat, (pk B 6 c1).1 = (n0 : Int) := ⟨(pk B 6 c1).1.toNat, by omega⟩
  have hn05 : n0 ≤ 5 := by omega
  rw [hn0]
  generalize (pk B 6 c1).2 = c2 at *
  obtain ⟨sb, hsb⟩ : ∃ sb, sb = w1.heap.size := ⟨_, rfl⟩
  have hcs : cb < sb := by omega
  have hrs : w.heap.size < sb := by omega
  have HX2 : Hid (w2.heap[sb]? = some (.cells #[.slice ra st.1.length rc, .slice ta st.2.1.length tc, .slice na st.2.2.length nc] 26 (0, 0))) := by
    rw [hsb]
    exact chg_row hch2 HX1.out (by omega)
  have HRB2 : Hid (w2.heap[w.heap.size]? = some (.cells #[.slice none 0 0, .slice none 0 0, .slice none 0 0] 26 (0, 0))) := chg_row hch2 (blockLater hbA HRB.out) (by omega)
  have HK2 : Hid (∀ w'', Chg (fun b => b ≤ w.heap.size ∨ b = sb) w2 w'' → StateAt w'' (.agg #[.slice ra st.1.length rc, .slice ta st.2.1.length tc, .slice na st.2.2.length nc]) st ∧ CapSt w'' (.agg #[.slice ra st.1.length rc, .slice ta st.2.1.length tc, .slice na st.2.2.length nc]) st.2.1.length) := fun w'' hc => HK0.out w'' (by
    rw [hsb] at hc
    exact (Chg.of_below hbA).trans ((hch2.mono (fun k e => Or.inl (by omega))).trans hc))
  have HCU2 := hide hcu2
  have HCH2 : Hid (Chg (fun b => b = cb) w w2) := HCH1.out.trans ((Chg.of_below hbA).trans hch2)
  rw [← hsb]
  clear hcu2 hch2 hn0 b1' b2' hsb HX1 hbA HK0 HRB HCH1 HCU1
  have hsw2 : sb < w2.heap.size := (Array.getElem?_eq_some_iff.1 HX2.out).1
  go_wp2_with fail
  go_loopw [4] (fun u4 wr => ∃ (n : Nat) (tt : St) (cj : Cu) (b1 : Option Addr) (p1 : Nat) (b2 : Option Addr) (p2 : Nat) (b3 : Option Addr) (p3 : Nat), u4 = .int .i64 (n : Int) ∧ n ≤ 5 ∧ cj.1 + 2 * n ≤ c.1 + 200 ∧ Sz 5 8 tt ∧ 0 < tt.1.length ∧ wr.heap[sb]? = some (.cells #[.slice b1 tt.1.length p1, .slice b2 tt.2.1.length p2, .slice b3 tt.2.2.length p3] 26 (0, 0)) ∧ wr.heap[w.heap.size]? = some (.cells #[.slice none 0 0, .slice none 0 0, .slice none 0 0] 26 (0, 0)) ∧ (∀ w'', Chg (fun b => b ≤ w.heap.size ∨ b = sb) wr w'' → StateAt w'' (.agg #[.slice b1 tt.1.length p1, .slice b2 tt.2.1.length p2, .slice b3 tt.2.2.length p3]) tt ∧ CapSt w'' (.agg #[.slice b1 tt.1.length p1, .slice b2 tt.2.1.length p2, .slice b3 tt.2.2.length p3]) tt.2.1.length) ∧ CurF wr cb a B q cj ∧ Chg (fun b => b = cb) w wr) (fun u4 _ => (intOf u4).toNat)
  case atStart => exact ⟨n0, st, c2, _, _, _, _, _, _, rfl, hn05, by omega, HZ0.out.1, HZ0.out.2, HX2.out, HRB2.out, HK2.out, HCU2.out, HCH2.out⟩
  case round =>
    obtain ⟨n, tt, cj, b1, p1, b2, p2, b3, p3, rfl, hn5, hcj, hsz, h0, hrow, hres, hkk, hcu, hch⟩ := hrel
    have HROW := hide hrow
    have HRES := hide hres
    have HKK := hide hkk
    have HCU := hide hcu
    have HCH := hide hch
    have HSZ := hide hsz
    have hswr : sb < wr.heap.size := (Array.getElem?_eq_some_iff.1 hrow).1
    obtain ⟨s0, s1, s2, sf⟩ := block3 hrow
    have sf0 := sf 0
    have sf1 := sf 1
    have sf2 := sf 2
    obtain ⟨e0, e1, e2, ef⟩ := block3 hres
    have ef0 := ef 0
    have ef1 := ef 1
    have ef2 := ef 2
    have HCT : Hid (Chg (fun b => b ≤ w.heap.size ∨ b = sb) wr wr) := Chg.refl _ _
    clear hrow hres hkk hcu hch hsz sf ef HX2 HRB2 HK2 HCU2 HCH2 HZ0
    rcases Nat.eq_zero_or_pos n with rfl | hnp
    · go_wp2_with fail
      refine (pick_f HCU.out (by omega) 16 (by decide)).mono ?_
      rintro e w3 ⟨rfl, hcu3, hch3⟩
      have b1' := pk_lo B 16 cj
      have b3' := (pk_k B 16 cj).2
      obtain ⟨p, hp⟩ : ∃ p : Nat, (pk B 16 cj).1 = (p : Int) := ⟨(pk B 16 cj).1.toNat, by omega⟩
      rw [hp]
      generalize (pk B 16 cj).2 = c3 at *
      clear hp b1'
      have hv3 := chg_row hch3 HROW.out (by omega)
      have hr3 := chg_row hch3 HRES.out (by omega)
      have HK3 : Hid (∀ w'', Chg (fun b => b ≤ w.heap.size ∨ b = sb) w3 w'' → StateAt w'' (.agg #[.slice b1 tt.1.length p1, .slice b2 tt.2.1.length p2, .slice b3 tt.2.2.length p3]) tt ∧ CapSt w'' (.agg #[.slice b1 tt.1.length p1, .slice b2 tt.2.1.length p2, .slice b3 tt.2.2.length p3]) tt.2.1.length) := fun w'' hc => HKK.out w'' ((hch3.mono (fun k e => Or.inl (by omega))).trans hc)
      have HCH3 : Hid (Chg (fun b => b = cb) w w3) := HCH.out.trans hch3
      have HCU3 := hide hcu3
      have HV3 := hide hv3
      have HRF := hide hr3
      obtain ⟨d0, d1, d2, df⟩ := block3 hv3
      obtain ⟨g0, g1, g2, gf⟩ := block3 hr3
      have df0 := df 0
      have df1 := df 1
      have df2 := df 2
      have gf0 := gf 0
      have gf1 := gf 1
      have gf2 := gf 2
      have hsw3 : sb < w3.heap.size := (Array.getElem?_eq_some_iff.1 hv3).1
      clear hcu3 hch3 hv3 hr3 df gf s0 s1 s2 e0 e1 e2 sf0 sf1 sf2 ef0 ef1 ef2 HKK HCU HCH HROW HRES
      by_cases hp0 : p = 0
      · subst hp0
        go_wp2_with fail
        refine (spoil_any HCU3.out (by omega) (HK3.out _ (Chg.refl _ _)).1 HSZ.out (by omega) (by omega) h0).mono ?_
        rintro e w4 ⟨r, st', c4, rfl, hs4, hk4, hcu4, hc4, hch4⟩
        obtain ⟨q1, o1, q2, o2, q3, o3, hr4⟩ := (hk4 _ (Chg.refl _ _)).1.form
        subst hr4
        have hv4 := chg_row hch4 HV3.out (by omega)
        have hr4 := chg_row hch4 HRF.out (by omega)
        obtain ⟨d0', d1', d2', df'⟩ := block3 hv4
        obtain ⟨g0', g1', g2', gf'⟩ := block3 hr4
        have df0' := df' 0
        have df1' := df' 1
        have df2' := df' 2
        have gf0' := gf' 0
        have gf1' := gf' 1
        have gf2' := gf' 2
        have HK4 := hide hk4
        have HS4 := hide hs4
        have HCH4 : Hid (Chg (fun b => b = cb) w w4) := HCH3.out.trans hch4
        have HRF4 := hide hr4
        have hsw4 : sb < w4.heap.size := (Array.getElem?_eq_some_iff.1 hv4).1
        have hnn : ¬ sb = w.heap.size := by omega
        have hnn' : ¬ w.heap.size = sb := by omega
        clear hs4 hk4 hcu4 hc4 hch4 hv4 hr4 df' gf' d0 d1 d2 g0 g1 g2 df0 df1 df2 gf0 gf1 gf2
        go_wp2_with fail
        have hcS : Chg (fun b => b = sb) w4 (((w4.setCell ⟨sb, 0, none⟩ (.slice q1 st'.1.length o1)).setCell ⟨sb, 1, none⟩ (.slice q2 st'.2.1.length o2)).setCell ⟨sb, 2, none⟩ (.slice q3 st'.2.2.length o3)) :=
          Chg.setCell (F := fun b => b = sb) (Chg.setCell (F := fun b => b = sb) (Chg.setCell (F := fun b => b = sb) (Chg.refl _ _) rfl _) rfl _) rfl _
        have hRW := (hcS.block w.heap.size (by omega) (by omega)).trans HRF4.out
        generalize ((w4.setCell ⟨sb, 0, none⟩ (.slice q1 st'.1.length o1)).setCell ⟨sb, 1, none⟩ (.slice q2 st'.2.1.length o2)).setCell ⟨sb, 2, none⟩ (.slice q3 st'.2.2.length o3) = W5 at *
        clear HRF
        have HRF := hide hRW
        have hR : Chg (fun b => b = w.heap.size) W5 (((W5.setCell ⟨w.heap.size, 0, none⟩ (.slice q1 st'.1.length o1)).setCell ⟨w.heap.size, 1, none⟩ (.slice q2 st'.2.1.length o2)).setCell ⟨w.heap.size, 2, none⟩ (.slice q3 st'.2.2.length o3)) :=
          Chg.setCell (F := fun b => b = w.heap.size) (Chg.setCell (F := fun b => b = w.heap.size) (Chg.setCell (F := fun b => b = w.heap.size) (Chg.refl _ _) rfl _) rfl _) rfl _
        have hvar := block3_set2 (block3_set1 (block3_set0 HRF.out (.slice q1 st'.1.length o1)) (.slice q2 st'.2.1.length o2)) (.slice q3 st'.2.2.length o3)
        generalize ((W5.setCell ⟨w.heap.size, 0, none⟩ (.slice q1 st'.1.length o1)).setCell ⟨w.heap.size, 1, none⟩ (.slice q2 st'.2.1.length o2)).setCell ⟨w.heap.size, 2, none⟩ (.slice q3 st'.2.2.length o3) = WR at *
        obtain ⟨z0, z1, z2, _⟩ := block3 hvar
        refine bodyPost_ret (v := .agg #[.slice q1 st'.1.length o1, .slice q2 st'.2.1.length o2, .slice q3 st'.2.2.length o3]) (by simp [results, Try.results60, go_sem, z0, z1, z2]) rfl ?_
        exact ⟨_, st', rfl, ⟨HS4.out.r, HS4.out.t, HS4.out.n, HS4.out.p⟩, fun w'' hw => HK4.out w'' ((hcS.mono (fun k e => by omega)).trans ((hR.mono (fun k e => by omega)).trans (hw.mono (fun k e => by omega)))), HCH4.out.low ((hcS.below (by omega) (fun k hk e => by omega)).trans (hR.below (by have := hcS.size; omega) (fun k hk e => by omega)))⟩
      · have hp1 : ((p : Int) == 0) = false := by rw [beq_eq_false_iff_ne]; omega
        have hp2 : ¬ (p : Int) = 0 := by omega
        go_wp2_with fail
        have hR : Chg (fun b => b = w.heap.size) w3 (((w3.setCell ⟨w.heap.size, 0, none⟩ (.slice b1 tt.1.length p1)).setCell ⟨w.heap.size, 1, none⟩ (.slice b2 tt.2.1.length p2)).setCell ⟨w.heap.size, 2, none⟩ (.slice b3 tt.2.2.length p3)) :=
          Chg.setCell (F := fun b => b = w.heap.size) (Chg.setCell (F := fun b => b = w.heap.size) (Chg.setCell (F := fun b => b = w.heap.size) (Chg.refl _ _) rfl _) rfl _) rfl _
        have hvar := block3_set2 (block3_set1 (block3_set0 HRF.out (.slice b1 tt.1.length p1)) (.slice b2 tt.2.1.length p2)) (.slice b3 tt.2.2.length p3)
        generalize ((w3.setCell ⟨w.heap.size, 0, none⟩ (.slice b1 tt.1.length p1)).setCell ⟨w.heap.size, 1, none⟩ (.slice b2 tt.2.1.length p2)).setCell ⟨w.heap.size, 2, none⟩ (.slice b3 tt.2.2.length p3) = WR at *
        obtain ⟨z0, z1, z2, _⟩ := block3 hvar
        refine bodyPost_ret (v := .agg #[.slice b1 tt.1.length p1, .slice b2 tt.2.1.length p2, .slice b3 tt.2.2.length p3]) (by simp [results, Try.results60, go_sem, z0, z1, z2]) rfl ?_
        exact ⟨_, tt, rfl, ⟨HSZ.out.r, by have := HSZ.out.t; omega, by have := HSZ.out.n; omega, fun i hi => by have := HSZ.out.p i hi; omega⟩, fun w'' hw => HK3.out w'' ((hR.mono (fun k e => Or.inl (by omega))).trans (hw.mono (fun k e => Or.inl (by omega)))), HCH3.out.low (hR.below (by omega) (fun k hk e => by omega))⟩
    · have hnpi : (0 : Int) < (n : Int) := by omega
      go_wp2_with fail
      refine (specMoves_any _ tt _ (HKK.out _ HCT.out).1).mono ?_
      rintro e w3 ⟨r, rfl, ho3, hb3⟩
      obtain ⟨la, lc, hr⟩ := ho3.form
      subst hr
      have HO3 := hide ho3
      have HB3 := hide hb3
      have hml := movesF_le tt
      generalize hmv : movesF tt = mv at *
      have HMV := hide hmv
      have d0 := cell_later hb3 s0
      have d1 := cell_later hb3 s1
      have d2 := cell_later hb3 s2
      have HV3 := hide ((hb3.block sb hswr).trans HROW.out)
      have HRF := hide ((hb3.block w.heap.size (by omega)).trans HRES.out)
      obtain ⟨g0, g1, g2, gf⟩ := block3 HRF.out
      have gf0 := gf 0
      have gf1 := gf 1
      have gf2 := gf 2
      have HK3 : Hid (∀ w'', Chg (fun b => b ≤ w.heap.size ∨ b = sb) w3 w'' → StateAt w'' (.agg #[.slice b1 tt.1.length p1, .slice b2 tt.2.1.length p2, .slice b3 tt.2.2.length p3]) tt ∧ CapSt w'' (.agg #[.slice b1 tt.1.length p1, .slice b2 tt.2.1.length p2, .slice b3 tt.2.2.length p3]) tt.2.1.length) := fun w'' hc => HKK.out w'' ((Chg.of_below hb3).trans hc)
      have HCH3 : Hid (Chg (fun b => b = cb) w w3) := HCH.out.trans (Chg.of_below hb3)
      have HCU3 : Hid (CurF w3 cb a B q cj) := HCU.out.below hb3
      have hsw3 : sb < w3.heap.size := by have := hb3.size; omega
      clear ho3 hb3 hmv s0 s1 s2 e0 e1 e2 sf0 sf1 sf2 ef0 ef1 ef2 gf
      by_cases hm0 : mv.length = 0
      · have hmi : ((mv.length : Int) == 0) = true := by rw [beq_iff_eq]; omega
        go_wp2_with fail
        have hR : Chg (fun b => b = w.heap.size) w3 (((w3.setCell ⟨w.heap.size, 0, none⟩ (.slice b1 tt.1.length p1)).setCell ⟨w.heap.size, 1, none⟩ (.slice b2 tt.2.1.length p2)).setCell ⟨w.heap.size, 2, none⟩ (.slice b3 tt.2.2.length p3)) :=
          Chg.setCell (F := fun b => b = w.heap.size) (Chg.setCell (F := fun b => b = w.heap.size) (Chg.setCell (F := fun b => b = w.heap.size) (Chg.refl _ _) rfl _) rfl _) rfl _
        have hvar := block3_set2 (block3_set1 (block3_set0 HRF.out (.slice b1 tt.1.length p1)) (.slice b2 tt.2.1.length p2)) (.slice b3 tt.2.2.length p3)
        generalize ((w3.setCell ⟨w.heap.size, 0, none⟩ (.slice b1 tt.1.length p1)).setCell ⟨w.heap.size, 1, none⟩ (.slice b2 tt.2.1.length p2)).setCell ⟨w.heap.size, 2, none⟩ (.slice b3 tt.2.2.length p3) = WR at *
        obtain ⟨z0, z1, z2, _⟩ := block3 hvar
        refine bodyPost_ret (v := .agg #[.slice b1 tt.1.length p1, .slice b2 tt.2.1.length p2, .slice b3 tt.2.2.length p3]) (by simp [results, Try.results60, go_sem, z0, z1, z2]) rfl ?_
        exact ⟨_, tt, rfl, ⟨HSZ.out.r, by have := HSZ.out.t; omega, by have := HSZ.out.n; omega, fun i hi => by have := HSZ.out.p i hi; omega⟩, fun w'' hw => HK3.out w'' ((hR.mono (fun k e => Or.inl (by omega))).trans (hw.mono (fun k e => Or.inl (by omega)))), HCH3.out.low (hR.below (by omega) (fun k hk e => by omega))⟩
      · generalize hmk : mv.length = ml at *
        have HMK := hide hmk
        have hmi : ((ml : Int) == 0) = false := by rw [beq_eq_false_iff_ne]; omega
        have hmi2 : ¬ (ml : Int) = 0 := by omega
        clear hmk
        have b1' := pk_lo B (ml : Int) cj
        have b2' := pk_hi B cj (show (1 : Int) ≤ (ml : Int) by omega)
        have b3' := (pk_k B (ml : Int) cj).2
        generalize hP : pk B (ml : Int) cj = P at *
        obtain ⟨u, hu⟩ : ∃ u : Nat, P.1 = (u : Int) := ⟨P.1.toNat, by omega⟩
        have hul : u < ml := by omega
        obtain ⟨lb, loff, hla, hlc⟩ := HO3.out.at.cellAt u (by rw [HMK.out]; exact hul)
        subst hla
        obtain ⟨x, hx⟩ : ∃ x, el mv u = x := ⟨_, rfl⟩
        rw [hx] at hlc
        have HXM : Hid (x ∈ movesF tt) := by
          show x ∈ movesF tt
          rw [HMV.out, ← hx]
          have h9 : mv[u]? = some (el mv u) := by simp [el, show u < mv.length by rw [HMK.out]; exact hul]
          exact List.mem_of_getElem? h9
        have hlbn : lb ≠ cb := by
          have h9 : Value.ownBlock (.slice (some ⟨lb, loff, none⟩) ml lc) = some lb := by
            rcases HO3.out.lies with ⟨e, _⟩ | ⟨g, cap, cur, e, _⟩
            · simp at e
            · simp only [Value.slice.injEq, Option.some.injEq, Addr.mk.injEq, and_true] at e
              rw [e.1.1, e.1.2]; rfl
          have := (HO3.out.own h9).1
          omega
        have HPF : Hid (∀ W : World, Below w3.heap.size w3 W → Calls Try.prog 79 #[.pointer (some ⟨cb, 0, none⟩), .int .i64 (ml : Int)] W fun e w' => e = .returned (.int .i64 (u : Int)) ∧ CurF w' cb a B q P.2 ∧ Chg (fun b => b = cb) w3 w') := fun W hW => by
          have := pick_f (HCU3.out.below hW) (by omega) (ml : Int) (by omega)
          rw [hP, hu] at this
          exact this.mono (fun e w' ⟨x1, x2, x3⟩ => ⟨x1, x2, (Chg.of_below hW).trans x3⟩)
        have HG4 : Hid (∀ W, Chg (fun b => b = cb) w3 W → W.cell? ⟨sb, 0, none⟩ = some (.slice b1 tt.1.length p1) ∧ W.cell? ⟨sb, 1, none⟩ = some (.slice b2 tt.2.1.length p2) ∧ W.cell? ⟨sb, 2, none⟩ = some (.slice b3 tt.2.2.length p3) ∧ W.cell? ⟨lb, loff + u, none⟩ = some (.int .i64 x) ∧ StateAt W (.agg #[.slice b1 tt.1.length p1, .slice b2 tt.2.1.length p2, .slice b3 tt.2.2.length p3]) tt) := fun W hW => ⟨chg_cell hW d0 (by omega), chg_cell hW d1 (by omega), chg_cell hW d2 (by omega), chg_cell hW hlc hlbn, (HK3.out W (hW.mono (fun k e => Or.inl (by omega)))).1⟩
        have HG5 : Hid (∀ w4 W, Chg (fun b => b = cb) w3 w4 → Below w4.heap.size w4 W → W.cell? ⟨sb, 0, none⟩ = some (.slice b1 tt.1.length p1) ∧ W.cell? ⟨sb, 1, none⟩ = some (.slice b2 tt.2.1.length p2) ∧ W.cell? ⟨sb, 2, none⟩ = some (.slice b3 tt.2.2.length p3) ∧ W.frozen? ⟨sb, 0, none⟩ = false ∧ W.frozen? ⟨sb, 1, none⟩ = false ∧ W.frozen? ⟨sb, 2, none⟩ = false) := fun w4 W h4 hW => by
          obtain ⟨x0, x1, x2, xf⟩ := block3 ((hW.block sb (by have := h4.size; omega)).trans (chg_row h4 HV3.out (by omega)))
          exact ⟨x0, x1, x2, xf 0, xf 1, xf 2⟩
        have huu0 : (0 : Int) ≤ (u : Int) := by omega
        have huu1 : (u : Int) < (ml : Int) := by omega
        clear hP hu b1' b2' hx
        go_wp2_with fail
        go_region_law (first | (go_simp; go_at_call 79; refine (HPF.out _ ?_).mono ?_; (exact ((Below.refl _ _).drew)); rintro e w4 ⟨rfl, hcu4, HC4⟩; obtain ⟨k0, k1, k2, k3, k4⟩ := HG4.out w4 HC4) | (go_simp; go_at_call 17; refine (specStep_C _ tt x _ k4).mono ?_; rintro e w5 ⟨r5, rfl, hk5, hb5⟩; obtain ⟨q1, o1, q2, o2, q3, o3, hr5⟩ := (hk5 _ (Chg.refl _ _)).1.form; subst hr5; obtain ⟨m0, m1, m2, mf0, mf1, mf2⟩ := HG5.out w4 w5 HC4 hb5))
        all_goals
          have HCU5 : Hid (CurF w5 cb a B q P.2) := hcu4.below hb5
          have HK5 := hide hk5
          have HC4' := hide HC4
          have HB5 := hide hb5
          clear k0 k1 k2 k3 k4 m0 m1 m2 mf0 mf1 mf2 hcu4 hk5 HC4 hb5 HG4 HG5 HPF d0 d1 d2 g0 g1 g2 gf0 gf1 gf2 hlc
          obtain ⟨st', hst'⟩ : ∃ st', stepF tt x = st' := ⟨_, rfl⟩
          obtain ⟨hs1, hs2⟩ := step_size HSZ.out HXM.out
          rw [hst'] at HK5 hs1 hs2 ⊢
          have HS1 : Hid (Sz 5 8 st' ∧ 0 < st'.1.length) := ⟨hs2, by rw [hs1]; exact h0⟩
          clear hs1 hs2 hst'
          go_wp2_with fail
          go_roundw
          case rel =>
            have hcS : Chg (fun b => b = sb) w5 (((w5.setCell ⟨sb, 0, none⟩ (.slice q1 st'.1.length o1)).setCell ⟨sb, 1, none⟩ (.slice q2 st'.2.1.length o2)).setCell ⟨sb, 2, none⟩ (.slice q3 st'.2.2.length o3)) :=
              Chg.setCell (F := fun b => b = sb) (Chg.setCell (F := fun b => b = sb) (Chg.setCell (F := fun b => b = sb) (Chg.refl _ _) rfl _) rfl _) rfl _
            have hz4 := HC4'.out.size
            have hz5 := HB5.out.size
            have hv5 := (HB5.out.block sb (by omega)).trans (chg_row HC4'.out HV3.out (by omega))
            have hr5 := (HB5.out.block w.heap.size (by omega)).trans (chg_row HC4'.out HRF.out (by omega))
            refine ⟨n - 1, st', P.2, q1, o1, q2, o2, q3, o3, by go_num, by omega, by omega, HS1.out.1, HS1.out.2, block3_set2 (block3_set1 (block3_set0 hv5 _) _) _, (hcS.block w.heap.size (by omega) (by omega)).trans hr5, fun w'' hc => HK5.out w'' ((hcS.mono (fun k e => by omega)).trans (hc.mono (fun k e => by omega))), HCU5.out.keep hcS (fun b hb => by omega), ?_⟩
            exact ((HCH3.out.trans HC4'.out).trans (Chg.of_below HB5.out)).low (hcS.below (by omega) (fun k hk e => by omega))
          case measure => simp [intOf]; omega
end Go.Proofs.Ytmjjigdnoiphbaa

/-
  spec.DrawRing.
-/
namespace Go.Proofs.Ytmjjigdnoiphbaa
open Go.RowKit Go.Deep
set_option linter.unusedVariables false

set_option maxHeartbeats 4000000 in
theorem drawRing_any {w : World} {a : Option Addr} {B : List Int} {q : Nat} (h : BytesF w a B) (ha : ∀ b off s, a = some ⟨b, off, s⟩ → 0 < B.length → b < w.heap.size) :
    Calls Try.prog 26 #[.slice a B.length q] w fun e w' => ∃ (r : Value) (st : St), e = .returned r ∧ Sz 6 17 st ∧ StateAt w' r st ∧ CapSt w' r st.2.1.length ∧ Below w.heap.size w w' := by
  obtain ⟨c0, hc0⟩ : ∃ c0 : Cu, c0 = (0, 0) := ⟨_, rfl⟩
  obtain ⟨W, hW⟩ : ∃ W, W = (w.alloc (.cells #[.slice none 0 0, .slice none 0 0, .slice none 0 0] 26)).alloc (.cells #[.slice a B.length q, .int .i64 0, .int .u64 0] 57) := ⟨_, rfl⟩
  have hbW : Below w.heap.size w W := by rw [hW]; exact Joins.below_alloc2 _ _ _
  have hzW : W.heap.size = w.heap.size + 2 := by rw [hW]; simp
  have hR0 : W.heap[w.heap.size]? = some (.cells #[.slice none 0 0, .slice none 0 0, .slice none 0 0] 26 (0, 0)) := by rw [hW]; exact blockLater (Joins.below_alloc1 _ _) (heap_alloc_new w _)
  have hcu : CurF W (w.heap.size + 1) a B q c0 := by
    rw [hc0]
    exact ⟨by rw [hW]; exact heap_alloc2_new _ _ _, h.below hbW, fun b off s e h0 => by have := ha b off s e h0; omega⟩
  have hst := hide (l5state_any hcu (by rw [hc0]; exact Nat.zero_le _))
  have HW := hide hW
  clear h ha hcu hc0 hW
  go_enter Try.func26, Try.ntmps26
  go_wp2_with fail
  rw [← HW.out]
  refine hst.out.mono ?_
  rintro e w1 ⟨r, st, rfl, h1, h2, h8⟩
  have hz1 : w.heap.size < w1.heap.size := by have := h8.size; omega
  have hR1 := (h8.block w.heap.size (by omega) (by omega)).trans hR0
  obtain ⟨k0, k1, k2, kf⟩ := block3 hR1
  have kf0 := kf 0
  have kf1 := kf 1
  have kf2 := kf 2
  have HR1 := hide hR1
  obtain ⟨q1, o1, q2, o2, q3, o3, hr⟩ := (h2 _ (Chg.refl _ _)).1.form
  subst hr
  have HX : Hid (Sz 6 17 st ∧ HeldSt W.heap.size w1 (.agg #[.slice q1 st.1.length o1, .slice q2 st.2.1.length o2, .slice q3 st.2.2.length o3]) st ∧ Below w.heap.size w w1) := ⟨h1, h2, hbW.trans (h8.below (by omega) (fun k hk e => by omega))⟩
  have HZW := hide hzW
  clear h1 h2 h8 hbW hzW hR0 hR1 kf hst HW
  go_wp2_with fail
  have hc : Chg (fun q => q = w.heap.size) w1 (((w1.setCell ⟨w.heap.size, 0, none⟩ (.slice q1 st.1.length o1)).setCell ⟨w.heap.size, 1, none⟩ (.slice q2 st.2.1.length o2)).setCell ⟨w.heap.size, 2, none⟩ (.slice q3 st.2.2.length o3)) :=
    Chg.setCell (F := fun q => q = w.heap.size) (Chg.setCell (F := fun q => q = w.heap.size) (Chg.setCell (F := fun q => q = w.heap.size) (Chg.refl _ _) rfl _) rfl _) rfl _
  have hvar := block3_set2 (block3_set1 (block3_set0 HR1.out (.slice q1 st.1.length o1)) (.slice q2 st.2.1.length o2)) (.slice q3 st.2.2.length o3)
  generalize ((w1.setCell ⟨w.heap.size, 0, none⟩ (.slice q1 st.1.length o1)).setCell ⟨w.heap.size, 1, none⟩ (.slice q2 st.2.1.length o2)).setCell ⟨w.heap.size, 2, none⟩ (.slice q3 st.2.2.length o3) = WF at *
  obtain ⟨z0, z1, z2, _⟩ := block3 hvar
  obtain ⟨x1, x2, x7⟩ := HX.out
  have hzw := HZW.out
  obtain ⟨y1, y2⟩ := x2 WF (hc.mono (fun k e => by omega))
  exact bodyPost_ret (v := .agg #[.slice q1 st.1.length o1, .slice q2 st.2.1.length o2, .slice q3 st.2.2.length o3]) (by simp [results, Try.results26, go_sem, z0, z1, z2]) rfl ⟨_, st, rfl, x1, y1, y2, x7.trans (hc.below (by omega) (fun k hk e => by omega))⟩
end Go.Proofs.Ytmjjigdnoiphbaa
