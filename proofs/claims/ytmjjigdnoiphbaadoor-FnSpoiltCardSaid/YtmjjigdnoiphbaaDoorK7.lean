import Derived.Test.YtmjjigdnoiphbaaDoorSp1
import Derived.Test.YtmjjigdnoiphbaaDoorK4
import Derived.Test.YtmjjigdnoiphbaaDoorK5
import Derived.Test.YtmjjigdnoiphbaaDoorK6
import Derived.Test.YtmjjigdnoiphbaaDoorDr0
import Derived.Deep.DrawnRows
import Derived.Deep.RegionHeld3
import Derived.Test.YtmjjigdnoiphbaaDoorJ7
/-
  (*l5Cur).spoil: all cases together.
-/
namespace Go.Proofs.YtmjjigdnoiphbaaDoor
open Go.RowKit Go.Deep
set_option linter.unusedVariables false

theorem spoil_any {w : World} {cb : Nat} {a : Option Addr} {B : List Int} {q : Nat} {c : Cu} (h : CurF w cb a B q c) (hk : c.1 ≤ 700000) {v : Value} {st : St} {N M : Nat} (hS : StateAt w v st) (hz : Sz N M st) (hN : N ≤ 100) (hM : M ≤ 100) (h0 : 0 < st.1.length) :
    Calls Tryd.prog 38 #[.pointer (some ⟨cb, 0, none⟩), v] w (SpPost w cb a B q c N M) := by
  have p1 := pk_lo B 9 c
  by_cases e0 : (pk B 9 c).1 = 0
  · exact spoil_0 h hk hS hz hN hM h0 e0
  by_cases e1 : (pk B 9 c).1 = 1
  · exact spoil_1 h hk hS hz hN hM h0 e1
  by_cases e2 : (pk B 9 c).1 = 2
  · exact spoil_2 h hk hS hz hN hM h0 e2
  have e3 : 3 ≤ (pk B 9 c).1 := by omega
  by_cases et : st.2.1.length = 0
  · exact spoil_none h hk hS hz hN hM h0 e3 (hide et)
  have et' : 0 < st.2.1.length := by omega
  have q1 := pk_lo B 6 (pk B (st.2.1.length : Int) (pk B 9 c).2).2
  have q2 := pk_hi B (pk B (st.2.1.length : Int) (pk B 9 c).2).2 (show (1 : Int) ≤ 6 by omega)
  by_cases f0 : (pk B 6 (pk B (st.2.1.length : Int) (pk B 9 c).2).2).1 = 0
  · exact spoil_in0 h hk hS hz hN hM h0 e3 et' f0
  by_cases f1 : (pk B 6 (pk B (st.2.1.length : Int) (pk B 9 c).2).2).1 = 1
  · exact spoil_in1 h hk hS hz hN hM h0 e3 et' f1
  by_cases f2 : (pk B 6 (pk B (st.2.1.length : Int) (pk B 9 c).2).2).1 = 2
  · exact spoil_in2 h hk hS hz hN hM h0 e3 et' f2
  by_cases f3 : (pk B 6 (pk B (st.2.1.length : Int) (pk B 9 c).2).2).1 = 3
  · exact spoil_in3 h hk hS hz hN hM h0 e3 et' f3
  by_cases f4 : (pk B 6 (pk B (st.2.1.length : Int) (pk B 9 c).2).2).1 = 4
  · exact spoil_in4 h hk hS hz hN hM h0 e3 et' f4
  exact spoil_in5 h hk hS hz hN hM h0 e3 et' (by omega)
end Go.Proofs.YtmjjigdnoiphbaaDoor

/-
  THE DRAWS: (*l5Cur).state.
-/
namespace Go.Proofs.YtmjjigdnoiphbaaDoor
open Go.RowKit Go.Deep
set_option linter.unusedVariables false
attribute [local go_sem ↓] Go.wp_at_zero Go.wp_at_succ

set_option maxHeartbeats 40000000 in
set_option maxRecDepth 4000 in
theorem state_f {w : World} {cb : Nat} {a : Option Addr} {B : List Int} {q : Nat} {c : Cu} (h : CurF w cb a B q c) (hk : c.1 ≤ 800000) :
    Calls Tryd.prog 21 #[.pointer (some ⟨cb, 0, none⟩)] w fun e w' => ∃ L : Lies, e = .returned (L.val (stateD B c).1) ∧ OwnS w' L (stateD B c).1 ∧ (stateD B c).1.1.length ≤ L.rc ∧ (stateD B c).1.2.1.length ≤ L.tc ∧ (stateD B c).1.2.2.length ≤ L.nc ∧ (∀ i, i < (stateD B c).1.2.1.length → (tPath (stateD B c).1.2.1 i).length ≤ L.pc i) ∧ (∀ k, L.F (stateD B c).1.2.1.length k → w.heap.size ≤ k) ∧ CurF w' cb a B q (stateD B c).2 ∧ Chg (fun b => b = cb) w w' := by
  have HH := hide h
  generalize hSD : stateD B c = SD
  have hcb := h.lt
  clear h
  go_enter Tryd.func21, Tryd.ntmps21
  go_wp2_with fail
  refine (pick_f (HH.out.below (Joins.below_alloc2 _ _ _)) (by omega) 6 (by decide)).mono ?_
  rintro e w1 ⟨rfl, hcu1, hch1⟩
  have a1 := pk_lo B 6 c
  have a2 := pk_hi B c (show (1 : Int) ≤ 6 by omega)
  have a3 := (pk_k B 6 c).2
  obtain ⟨n, hn⟩ : ∃ n : Nat, 3 + (pk B 6 c).1 = (n : Int) := ⟨(3 + (pk B 6 c).1).toNat, by omega⟩
  have HSD : Hid (∀ (R : List Int × Cu) (NM KD KK : Int × Cu) (TT : (List Tr × List Int) × Cu) (k0 : Nat) (nm : Int), R = roomsD B n [] (pk B 6 c).2 → pk B 4 R.2 = NM → pk B 3 NM.2 = KD → pk B 5 KD.2 = KK → 1 + KK.1 = (k0 : Int) → NM.1 = nm → TT = trainsD B R.1 (n : Int) KD.1 k0 [] [] nm KK.2 → SD = ((R.1, TT.1.1, TT.1.2), TT.2)) := fun R NM KD KK TT k0 nm e1 e2 e3 e4 e5 e6 e7 => by
    rw [← hSD]
    unfold stateD
    simp only [hn, Int.toNat_natCast]
    rw [← e1, e2, e3, e4, e5, e6, Int.toNat_natCast, ← e7]
  clear hSD
  have hn3 : 3 ≤ n := by omega
  have hn8 : n ≤ 8 := by omega
  have hnw : wrap64 (3 + (pk B 6 c).1) = (n : Int) := by unfold wrap64; omega
  have HR0 : Hid (w1.heap[w.heap.size]? = some (.cells #[.slice none 0 0, .slice none 0 0, .slice none 0 0] 26 (0, 0))) := by
    show _ = _
    rw [hch1.block w.heap.size (by simp; omega) (by omega)]
    exact blockLater (Joins.below_alloc1 _ _) (heap_alloc_new w _)
  have HR1 : Hid (w1.heap[w.heap.size + 1]? = some (.cells #[.slice none 0 0, .slice none 0 0, .slice none 0 0] 26 (0, 0))) := by
    show _ = _
    rw [hch1.block (w.heap.size + 1) (by simp) (by omega)]
    exact heap_alloc2_new _ _ _
  have HCU := hide hcu1
  have HCH : Hid (Chg (fun b => b = cb) w w1) := (Chg.of_below (Joins.below_alloc2 w _ _)).trans hch1
  obtain ⟨c1, hc1⟩ : ∃ c1, c1 = (pk B 6 c).2 := ⟨_, rfl⟩
  rw [← hc1] at HCU a3
  clear hcu1 hch1
  generalize (pk B 6 c).1 = p0 at *
  go_wp2_with fail
  obtain ⟨R, hR⟩ : ∃ R, R = roomsD B n [] c1 := ⟨_, rfl⟩
  have HRX := hide hR
  have HC1 := hide hc1
  go_loopw [5] (fun u wr => ∃ (i : Nat) (rv : Value) (acc : List Int) (ci : Cu), u = .int .i64 (i : Int) ∧ i ≤ n ∧ wr.heap[w.heap.size]? = some (.cells #[.slice none 0 0, .slice none 0 0, .slice none 0 0] 26 (0, 0)) ∧ wr.heap[w.heap.size + 1]? = some (.cells #[rv, .slice none 0 0, .slice none 0 0] 26 (0, 0)) ∧ OwnInts (w.heap.size + 2) wr rv acc ∧ acc.length = i ∧ roomsD B (n - i) acc ci = R ∧ ci.1 ≤ c.1 + 2 + 2 * i ∧ CurF wr cb a B q ci ∧ Chg (fun b => b = cb) w wr) (fun u _ => n - (intOf u).toNat)
  case atStart => exact ⟨0, .slice none 0 0, [], c1, rfl, Nat.zero_le _, HR0.out, HR1.out, OwnInts.nil _ _, rfl, by rw [hR]; rfl, by omega, HCU.out, HCH.out⟩
  case round =>
    obtain ⟨i, rv, acc, ci, rfl, hi, h0, h1, ho, hal, hrd, hci, hcu, hch⟩ := hrel
    have HH0 := hide h0
    have HH1 := hide h1
    have HO := hide ho
    have HCU := hide hcu
    have HCH := hide hch
    have HAL := hide hal
    have HRD := hide hrd
    have hsz : w.heap.size + 1 < wr.heap.size := (Array.getElem?_eq_some_iff.1 h1).1
    by_cases hin : i < n
    · have hini : (i : Int) < (n : Int) := by omega
      have c0 : wr.cell? ⟨w.heap.size + 1, 0, none⟩ = some rv := by rw [cell_of_row wr (w.heap.size + 1) 0 _ _ (0, 0) h1]; rfl
      have hne : ∀ q, rv.ownBlock = some q → w.heap.size + 2 ≤ q ∧ q < wr.heap.size := fun q hq => ho.own hq
      have HNE := hide hne
      have b1 := pk_lo B 5 ci
      have b2 := pk_hi B ci (show (1 : Int) ≤ 5 by omega)
      have b3 := (pk_k B 5 ci).2
      clear h0 h1 ho hne hcu hch hal hrd HR0 HR1
      go_wp2_with fail
      have HCELL : Hid (∀ V : World, Chg (fun b => b = cb) wr V → V.cell? ⟨w.heap.size + 1, 0, none⟩ = some rv ∧ w.heap.size + 1 < V.heap.size) := fun V hV => ⟨(World.cell?_of_block (a := ⟨w.heap.size + 1, 0, none⟩) (hV.block (w.heap.size + 1) hsz (by omega))).trans c0, Nat.lt_of_lt_of_le hsz hV.size⟩
      obtain ⟨i0, hi0, hz0, hz1, hz2⟩ := info_parts Tryd.infoInt
      have HJ1 := hide hi0
      have HJ2 := hide hz0
      have HJ3 := hide hz1
      have HJ4 := hide hz2
      clear hi0 hz0 hz1 hz2
      obtain ⟨x, hx⟩ : ∃ x : Nat, (pk B 5 ci).1 = (x : Int) := ⟨(pk B 5 ci).1.toNat, by omega⟩
      have hx5 : x < 5 := by omega
      have HXI := hide hx
      have hq1 : IntKind.i64.wrap ((x : Int) / 4) = (x : Int) / 4 := by rw [IntKind.wrap_i64]; omega
      have hq2 : IntKind.i64.wrap (1 + (x : Int) / 4) = 1 + (x : Int) / 4 := by rw [IntKind.wrap_i64]; omega
      have HOK : Hid (∀ V : World, Chg (fun b => b = cb) wr V → OwnInts (w.heap.size + 2) V rv acc) := fun V hV => HO.out.far (fun q hq => hV.block q (HNE.out q hq).2 (by have := (HNE.out q hq).1; omega))
      have hc3 : acc.length + 1 ≤ maxLen := by have := HAL.out; unfold maxLen; omega
      have hc4 : (acc.length + 1) * 8 ≤ 140737488355328 := by have := HAL.out; omega
      have HROW : Hid (∀ V : World, Chg (fun b => b = cb) wr V → V.heap[w.heap.size + 1]? = some (.cells #[rv, .slice none 0 0, .slice none 0 0] 26 (0, 0))) := fun V hV => (hV.block _ hsz (by omega)).trans HH1.out
      go_region_law (first | (go_simp; go_at_call 37; refine (pick_f (HCU.out.below ((Below.refl _ _).drew)) (by omega) 5 (by decide)).mono ?_; rw [hx]; rintro e w2 ⟨rfl, hcu2, hch2⟩; have hch2' := (Chg.of_below (F := fun b => b = cb) ((Below.refl _ wr).drew)).trans hch2; obtain ⟨k1, k2⟩ := HCELL.out w2 hch2'; have HCU2 := hide hcu2; have HCH2 := hide hch2'; have HO2 := hide (HOK.out w2 hch2'); have HR2 := hide (HROW.out w2 hch2'); clear hcu2 hch2 hch2') | (refine step_append_lies _ (by rfl) _ _ _ (by rfl) (w.heap.size + 2) 3 i0 _ 1 8 Tryd.underlying23 HJ1.out HJ2.out HJ3.out HJ4.out rfl (by omega) rv _ _ (by rfl) (HO2.out.alloc _) ⟨w2.heap.size, 0, none⟩ 1 1 [.int .i64 (1 + (x : Int) / 4)] (by rfl) (by rfl) (World.news_of_block (cs := #[.int .i64 (1 + (x : Int) / 4)]) (t := 3) (fr := (0, 0)) (heap_alloc_new w2 _)) (by simp [Value.oneCell']) (by omega) hc3 hc4 (by simp; omega) (w2.heap.size + 1) (by simp) ?_; intro g cap w3 hown hgrow hat hlt; obtain ⟨e0, -, -, ef⟩ := block3 (pushed_row HR2.out HO2.out (by omega) hgrow); have f0 := ef 0))
      all_goals
        have HPU := hide (pushed (j := 0) HR2.out HO2.out (by omega) (by omega) (Below.refl w.heap.size w2) (OwnInts.snoc hown) hgrow (by simpa using hat))
        clear hown hgrow hat hlt ef e0 f0
        go_wp2_with fail
        go_roundw
        case rel =>
          obtain ⟨p1, p2, p3, p4, p5, p6⟩ := HPU.out
          have hz2 := HCH2.out.size
          refine ⟨i + 1, _, _, (pk B 5 ci).2, by go_num, by omega, ?_, p1, p3, by have := HAL.out; simp; omega, ?_, by omega, HCU2.out.low p4 (by omega), (HCH.out.trans HCH2.out).low p4⟩
          · refine (p2 _ (by omega) (by omega) (fun e => by have := (HNE.out _ e).1; omega)).trans ?_
            rw [HCH2.out.block _ (by omega) (by omega)]
            exact HH0.out
          · rw [← HRD.out, show n - i = (n - (i + 1)) + 1 by omega, roomsD_succ, HXI.out]
        case measure => simp [intOf]; omega
    · have hini : ¬ ((i : Int) < (n : Int)) := by omega
      obtain rfl : i = n := by omega
      have hRD : (acc, ci) = R := by have := HRD.out; rw [Nat.sub_self] at this; exact this
      have HRR := hide hRD
      clear h0 h1 ho hcu hch hal hrd hRD HR0 HR1 HRD
      have hci' : ci.1 ≤ c.1 + 18 := by omega
      have hal := HAL.out
      obtain ⟨ra, rc, hrv⟩ := HO.out.form
      subst hrv
      obtain ⟨rb, roff, hra, -⟩ := HO.out.at.cellAt 0 (by omega)
      subst hra
      go_wp2_with fail
      refine (pick_f HCU.out (by omega) 4 (by decide)).mono ?_
      rintro e w2 ⟨rfl, hcu2, hch2⟩
      have d1 := pk_lo B 4 ci
      have d2 := pk_hi B ci (show (1 : Int) ≤ 4 by omega)
      have d3 := (pk_k B 4 ci).2
      generalize hNM : pk B 4 ci = NM at *
      have HNM := hide hNM
      clear hNM
      go_wp2_with fail
      refine (pick_f hcu2 (by omega) 3 (by decide)).mono ?_
      rintro e w3 ⟨rfl, hcu3, hch3⟩
      have e1 := pk_lo B 3 NM.2
      have e2 := pk_hi B NM.2 (show (1 : Int) ≤ 3 by omega)
      have e3 := (pk_k B 3 NM.2).2
      generalize hKD : pk B 3 NM.2 = KD at *
      have HKD := hide hKD
      clear hKD
      go_wp2_with fail
      refine (pick_f hcu3 (by omega) 5 (by decide)).mono ?_
      rintro e w4 ⟨rfl, hcu4, hch4⟩
      have g1 := pk_lo B 5 KD.2
      have g2 := pk_hi B KD.2 (show (1 : Int) ≤ 5 by omega)
      have g3 := (pk_k B 5 KD.2).2
      generalize hKK : pk B 5 KD.2 = KK at *
      have HKK := hide hKK
      clear hKK
      obtain ⟨k0, hk0⟩ : ∃ k0 : Nat, 1 + KK.1 = (k0 : Int) := ⟨(1 + KK.1).toNat, by omega⟩
      have hk5 : k0 ≤ 5 := by omega
      have hk0w : wrap64 (1 + KK.1) = (k0 : Int) := by unfold wrap64; omega
      obtain ⟨nm0, hnm0⟩ : ∃ nm0 : Nat, NM.1 = (nm0 : Int) := ⟨NM.1.toNat, by omega⟩
      have hnm4 : nm0 ≤ 3 := by omega
      have hnc := hch2.trans (hch3.trans hch4)
      have HDR0 : Hid (Drw (w.heap.size + 1) (.slice (some ⟨rb, roff, none⟩) acc.length rc) acc [] [] w4 (.slice none 0 0) (.slice none 0 0) (fun _ => none) (fun _ => 0)) :=
        Drw.cur (w := wr) ⟨⟨HH1.out, Gath.nil _ _ _ _, OwnInts.nil _ _, fun k hk => by simp [Value.ownBlock] at hk, Chg.refl _ _⟩, HO.out, fun k hk e => by
          rcases e with e | ⟨j, hj, _⟩
          · simp [Value.ownBlock] at e
          · exact absurd hj (Nat.not_lt_zero _), fun k hk e => by simp [Value.ownBlock] at e⟩ hnc (by omega)
      have HZ4 : Hid (w4.heap[w.heap.size]? = some (.cells #[.slice none 0 0, .slice none 0 0, .slice none 0 0] 26 (0, 0))) := (hnc.block _ (by omega) (by omega)).trans HH0.out
      have HCU4 := hide hcu4
      have HCH4 : Hid (Chg (fun b => b = cb) w w4) := HCH.out.trans hnc
      have hc4 : KK.2.1 ≤ c.1 + 24 := by omega
      obtain ⟨TT, hTT⟩ : ∃ TT, TT = trainsD B acc (i : Int) KD.1 k0 [] [] (nm0 : Int) KK.2 := ⟨_, rfl⟩
      clear hcu2 hcu3 hcu4 hch2 hch3 hch4 hnc HO HH0 HH1 HCU HCH hci hci' d3 e3 g3
      obtain ⟨kd, hkd⟩ : ∃ kd : Nat, KD.1 = (kd : Int) := ⟨KD.1.toNat, by omega⟩
      have HTT := hide hTT
      have HKD0 := hide hkd
      have HK00 := hide hk0
      have HNM0 := hide hnm0
      go_wp2_with fail
      go_loopw [6, 8] (fun u6 u8 wx => ∃ (k : Nat) (ts : List Tr) (ns : List Int) (name : Nat) (cj : Cu) (tv nv : Value) (pa : Nat → Option Addr) (pc : Nat → Nat), u6 = .int .i64 (name : Int) ∧ u8 = .int .i64 (k : Int) ∧ name + 3 * k ≤ 18 ∧ ts.length + k ≤ 5 ∧ ns.length = ts.length ∧ trainsD B acc (i : Int) KD.1 k ts ns (name : Int) cj = TT ∧ cj.1 + 20 * k ≤ c.1 + 150 ∧ wx.heap[w.heap.size]? = some (.cells #[.slice none 0 0, .slice none 0 0, .slice none 0 0] 26 (0, 0)) ∧ Drw (w.heap.size + 1) (.slice (some ⟨rb, roff, none⟩) acc.length rc) acc ts ns wx tv nv pa pc ∧ CurF wx cb a B q cj ∧ Chg (fun b => b = cb) w wx) (fun _ u8 _ => (intOf u8).toNat)
      case atStart => exact ⟨k0, [], [], nm0, KK.2, _, _, _, _, rfl, rfl, by omega, by simpa using hk5, rfl, hTT.symm, by omega, HZ4.out, HDR0.out, HCU4.out, HCH4.out⟩
      case round =>
        obtain ⟨k, ts, ns, name, cj, tv, nv, pa, pc, rfl, rfl, hnk, htk, hnt, htd, hcj, hz, hdr, hcu, hch⟩ := hrel
        have HZ := hide hz
        have HDR := hide hdr
        have HCU := hide hcu
        have HCH := hide hch
        have HTD := hide htd
        clear hz hdr hcu hch htd HZ4 HDR0 HCU4 HCH4 hTT
        rcases Nat.eq_zero_or_pos k with rfl | hkp
        · have hE : ((ts, ns), cj) = TT := HTD.out
          have hSE : SD = ((acc, ts, ns), cj) := by
            have h1 := HSD.out R NM KD KK TT k0 (nm0 : Int) (by rw [HRX.out, HC1.out]) (by rw [← HRR.out]; exact HNM.out) HKD.out HKK.out HK00.out HNM0.out (by rw [← HRR.out]; exact HTT.out)
            rw [h1, ← HRR.out, ← hE]
          have HSE := hide hSE
          obtain ⟨s0, s1, s2, sf⟩ := block3 HDR.out.mov.var
          obtain ⟨v0, v1, v2, vf⟩ := block3 HZ.out
          have vf0 := vf 0
          have vf1 := vf 1
          have vf2 := vf 2
          have hlt5 := HDR.out.lt
          have hlt0 : w.heap.size < wr.heap.size := by omega
          obtain ⟨-, -, b2, p2', b3, p3', -, etv, env, -⟩ := HDR.out.at
          subst etv env
          clear hE hSE sf vf hal hnt
          go_wp2_with fail
          have hc : Chg (fun q => q = w.heap.size) wr (((wr.setCell ⟨w.heap.size, 0, none⟩ (.slice (some ⟨rb, roff, none⟩) acc.length rc)).setCell ⟨w.heap.size, 1, none⟩ (.slice b2 ts.length p2')).setCell ⟨w.heap.size, 2, none⟩ (.slice b3 ns.length p3')) :=
            Chg.setCell (F := fun q => q = w.heap.size) (Chg.setCell (F := fun q => q = w.heap.size) (Chg.setCell (F := fun q => q = w.heap.size) (Chg.refl _ _) rfl _) rfl _) rfl _
          have hvar := block3_set2 (block3_set1 (block3_set0 HZ.out (.slice (some ⟨rb, roff, none⟩) acc.length rc)) (.slice b2 ts.length p2')) (.slice b3 ns.length p3')
          generalize ((wr.setCell ⟨w.heap.size, 0, none⟩ (.slice (some ⟨rb, roff, none⟩) acc.length rc)).setCell ⟨w.heap.size, 1, none⟩ (.slice b2 ts.length p2')).setCell ⟨w.heap.size, 2, none⟩ (.slice b3 ns.length p3') = WF at *
          obtain ⟨z0, z1, z2, _⟩ := block3 hvar
          have hdF : Drw (w.heap.size + 1) (.slice (some ⟨rb, roff, none⟩) acc.length rc) acc ts ns WF _ _ pa pc := HDR.out.keep hc.size (fun k hk e => hc.block k hk (by omega))
          obtain ⟨L, hL, hO, l1, l2, l3, l4, l5⟩ := hdF.own
          refine bodyPost_ret (v := .agg #[.slice (some ⟨rb, roff, none⟩) acc.length rc, .slice b2 ts.length p2', .slice b3 ns.length p3']) (by simp [results, Tryd.results21, go_sem, z0, z1, z2]) rfl ?_
          rw [HSE.out]
          exact ⟨L, by rw [hL], hO, l1, l2, l3, l4, fun k e => by have := l5 k e; omega, HCU.out.keep hc (fun b hb => by omega), HCH.out.low (hc.below (by omega) (fun k hk e => by omega))⟩
        · obtain ⟨j, rfl⟩ : ∃ j, k = j + 1 := ⟨k - 1, by omega⟩
          have hkp1 : (0 : Int) < ((j + 1 : Nat) : Int) := by omega
          have hkp2 : (0 : Int) < (j : Int) + 1 := by omega
          go_wp2_with fail
          refine (pick_f HCU.out (by omega) (i : Int) (by omega)).mono ?_
          rintro e w5 ⟨rfl, hcu5, hch5⟩
          have p1 := pk_lo B (i : Int) cj
          have p2 := pk_hi B cj (show (1 : Int) ≤ (i : Int) by omega)
          have p3 := (pk_k B (i : Int) cj).2
          generalize hA : pk B (i : Int) cj = A at *
          have HA := hide hA
          clear hA
          obtain ⟨av, hav⟩ : ∃ av : Nat, A.1 = (av : Int) := ⟨A.1.toNat, by omega⟩
          have hav8 : av < i := by omega
          go_wp2_with fail
          refine (pick_f hcu5 (by omega) 5 (by decide)).mono ?_
          rintro e w6 ⟨rfl, hcu6, hch6⟩
          have r1 := pk_lo B 5 A.2
          have r2 := pk_hi B A.2 (show (1 : Int) ≤ 5 by omega)
          have r3 := (pk_k B 5 A.2).2
          generalize hY : pk B 5 A.2 = Y at *
          have HY := hide hY
          clear hY
          obtain ⟨y, hy⟩ : ∃ y : Nat, 1 + Y.1 = (y : Int) := ⟨(1 + Y.1).toNat, by omega⟩
          have hyw : wrap64 (1 + Y.1) = (y : Int) := by unfold wrap64; omega
          have hy5 : y ≤ 5 := by omega
          have hch56 := hch5.trans hch6
          have HD6 := hide (HDR.out.cur hch56 (by omega))
          have HZ6 : Hid (w6.heap[w.heap.size]? = some (.cells #[.slice none 0 0, .slice none 0 0, .slice none 0 0] 26 (0, 0))) := (hch56.block _ (by have := HDR.out.lt; omega) (by omega)).trans HZ.out
          have HCU6 := hide hcu6
          have HCH6 : Hid (Chg (fun b => b = cb) w w6) := HCH.out.trans hch56
          have hY6 : Y.2.1 + 16 + 20 * j ≤ c.1 + 150 := by omega
          clear hcu5 hcu6 hch5 hch6 hch56 HZ HDR HCU HCH p3 r3
          go_wp2_with fail
          obtain ⟨V, hV⟩ : ∃ V, V = w6.alloc (.cells #[.int .i64 (av : Int), .slice none 0 0, .int .i64 (y : Int)] 35) := ⟨_, rfl⟩
          rw [← hV]
          have hbV : Below w6.heap.size w6 V := by rw [hV]; exact Joins.below_alloc1 _ _
          have hTV : V.heap[w6.heap.size]? = some (.cells #[.int .i64 (av : Int), .slice none 0 0, .int .i64 (y : Int)] 35 (0, 0)) := by rw [hV]; exact heap_alloc_new _ _
          have hzV : V.heap.size = w6.heap.size + 1 := by rw [hV]; simp
          clear hV
          have hdV := HD6.out.below hbV
          obtain ⟨t0, t1, t2, tf⟩ := block3 hTV
          obtain ⟨s0, s1, s2, sf⟩ := block3 hdV.mov.var
          obtain ⟨rb', roff', hrr, x0⟩ := hdV.rm.at.cellAt av (by omega)
          simp only [Option.some.injEq, Addr.mk.injEq, and_true] at hrr
          obtain ⟨rfl, rfl⟩ := hrr
          obtain ⟨-, -, b2, p2', b3, p3', -, etv, env, hsV⟩ := hdV.at
          have HSV := hide hsV
          have HDV := hide hdV
          have HTV := hide hTV
          have HBV := hide hbV
          have HTL : Hid (ts.length ≤ 4611686018427387904) := show ts.length ≤ _ by omega
          have HNT := hide hnt
          have hT5 : w.heap.size + 1 < w6.heap.size := HD6.out.lt
          have hai : (av : Int) < (acc.length : Int) := by omega
          have ha0 : (0 : Int) ≤ (av : Int) := by omega
          have HTW := hide htk
          subst etv env
          clear hsV hdV hTV hbV tf sf hnt hal htk
          generalize hT : w6.heap.size = T at *
          have HT := hide hT
          clear hT
          by_cases hge : el acc av ≤ (there ts (av : Int) : Int)
          · have HDC : Hid (trainsD B acc (i : Int) KD.1 (j + 1) ts ns (name : Int) cj = trainsD B acc (i : Int) KD.1 j ts ns (name : Int) Y.2) := by
              show trainsD B acc (i : Int) KD.1 (j + 1) ts ns (name : Int) cj = _
              rw [trainsD]
              simp only [HA.out, hav, HY.out, Int.toNat_natCast, if_pos hge]
            go_region_held3 (fun w' => w'.cell? ⟨w.heap.size + 1, 0, none⟩ = some (.slice (some ⟨rb, roff, none⟩) acc.length rc) ∧ w'.cell? ⟨w.heap.size + 1, 1, none⟩ = some (.slice b2 ts.length p2') ∧ w'.cell? ⟨w.heap.size + 1, 2, none⟩ = some (.slice b3 ns.length p3') ∧ w'.cell? ⟨T, 0, none⟩ = some (.int .i64 (av : Int)) ∧ w'.cell? ⟨rb, roff + av, none⟩ = some (.int .i64 (el acc av)))
              (first | (exact ⟨cell_later hb7 (by exact s0), cell_later hb7 (by exact s1), cell_later hb7 (by exact s2), cell_later hb7 (by exact t0), cell_later hb7 (by exact x0)⟩) | go_keep)
              (first | (go_at_call 45; refine (l1there_any _ (acc, ts, ns) _ _ ?_ HTL.out).mono ?_; exact (HSV.out.below (Joins.below_draws _ _ 1)); rintro e w7 ⟨rfl, hb7⟩))
            all_goals
              have HB7 := hide (below_tail ((Below.refl _ V).drew) hb7)
              clear hb7
              go_wp2_with fail
              go_roundw
              case rel =>
                have hbv : Below w6.heap.size w6 V := by rw [HT.out]; exact HBV.out
                have hT := HT.out
                exact ⟨j, ts, ns, name, Y.2, _, _, pa, pc, rfl, by go_num, by omega, by have := HTW.out; omega, HNT.out, by rw [← HDC.out]; exact HTD.out, by omega, ((below_tail hbv HB7.out).block _ (by omega)).trans HZ6.out, HDV.out.below HB7.out, HCU6.out.below (below_tail hbv HB7.out), HCH6.out.low ((below_tail hbv HB7.out).mono HCH6.out.size)⟩
              case measure => simp [intOf]
          · obtain ⟨wy, hwy⟩ : ∃ wy, wy = pk B 2 Y.2 := ⟨_, rfl⟩
            obtain ⟨mm, hmm⟩ : ∃ mm, mm = pk B 6 wy.2 := ⟨_, rfl⟩
            obtain ⟨PP, hPP⟩ : ∃ PP, PP = pathD B (i : Int) KD.1 (1 + wy.1 * ((i : Int) - 2)) mm.1.toNat (av : Int) [] mm.2 := ⟨_, rfl⟩
            have HDC : Hid (trainsD B acc (i : Int) KD.1 (j + 1) ts ns (name : Int) cj = trainsD B acc (i : Int) KD.1 j (ts ++ [((av : Int), PP.1, (y : Int))]) (ns ++ [(name : Int)]) ((name : Int) + (1 + (pk B 3 PP.2).1)) (pk B 3 PP.2).2) := by
              show trainsD B acc (i : Int) KD.1 (j + 1) ts ns (name : Int) cj = _
              rw [trainsD]
              simp only [HA.out, hav, HY.out, Int.toNat_natCast, if_neg hge, ← hwy, ← hmm, ← hPP, hy]
            have HWY := hide hwy
            have HMM := hide hmm
            have HPP := hide hPP
            clear hwy hmm hPP
            go_region_held3 (fun w' => w'.cell? ⟨w.heap.size + 1, 0, none⟩ = some (.slice (some ⟨rb, roff, none⟩) acc.length rc) ∧ w'.cell? ⟨w.heap.size + 1, 1, none⟩ = some (.slice b2 ts.length p2') ∧ w'.cell? ⟨w.heap.size + 1, 2, none⟩ = some (.slice b3 ns.length p3') ∧ w'.cell? ⟨T, 0, none⟩ = some (.int .i64 (av : Int)) ∧ w'.cell? ⟨rb, roff + av, none⟩ = some (.int .i64 (el acc av)))
              (first | (exact ⟨cell_later hb7 (by exact s0), cell_later hb7 (by exact s1), cell_later hb7 (by exact s2), cell_later hb7 (by exact t0), cell_later hb7 (by exact x0)⟩) | go_keep)
              (first | (go_at_call 45; refine (l1there_any _ (acc, ts, ns) _ _ ?_ HTL.out).mono ?_; exact (HSV.out.below (Joins.below_draws _ _ 1)); rintro e w7 ⟨rfl, hb7⟩))
            all_goals
              have HB7 := hide (below_tail ((Below.refl _ V).drew) hb7)
              clear hb7
              have hbv : Below w6.heap.size w6 V := by rw [HT.out]; exact HBV.out
              have hb67 := below_tail hbv HB7.out
              have HCU7 := hide (HCU6.out.below hb67)
              have HCH7 : Hid (Chg (fun b => b = cb) w6 w7) := Chg.of_below hb67
              have HTV7 := hide (blockLater HB7.out HTV.out)
              have wy1 := pk_lo B 2 Y.2
              have wy2 := pk_hi B Y.2 (show (1 : Int) ≤ 2 by omega)
              have wy3 := (pk_k B 2 Y.2).2
              clear HB7 hbv hb67
              go_wp2_with fail
              refine (pick_f HCU7.out (by omega) 2 (by decide)).mono ?_
              rintro e w8 ⟨rfl, hcu8, hch8⟩
              rw [← HWY.out] at hcu8 wy1 wy2 wy3 ⊢
              have hTV8 := (hch8.block T (Array.getElem?_eq_some_iff.1 HTV7.out).1 (by omega)).trans HTV7.out
              obtain ⟨t0, t1, t2, tf⟩ := block3 hTV8
              have HTV8 := hide hTV8
              have HCU8 := hide hcu8
              have HCH8 : Hid (Chg (fun b => b = cb) w6 w8) := HCH7.out.trans hch8
              obtain ⟨i2, hi2⟩ : ∃ i2 : Nat, (i : Int) - 2 = (i2 : Int) := ⟨i - 2, by omega⟩
              obtain ⟨z, hz⟩ : ∃ z : Nat, wy.1 * (i2 : Int) = (z : Int) ∧ z ≤ 6 := by
                rcases (show wy.1 = 0 ∨ wy.1 = 1 by omega) with e | e
                · exact ⟨0, by rw [e]; simp, by omega⟩
                · exact ⟨i2, by rw [e]; simp, by omega⟩
              obtain ⟨hz, hz6⟩ := hz
              obtain ⟨way, hway⟩ : ∃ way : Nat, 1 + (z : Int) = (way : Int) := ⟨1 + z, by omega⟩
              have hway7 : way ≤ 7 := by omega
              have HPW : Hid (PP = pathD B (i : Int) KD.1 (way : Int) mm.1.toNat (av : Int) [] mm.2) := by
                show PP = _
                rw [HPP.out, hi2, hz, hway]
              clear hTV8 hcu8 hch8 HTV7 HCU7 HCH7 HPP tf
              have mm1 := pk_lo B 6 wy.2
              have mm2 := pk_hi B wy.2 (show (1 : Int) ≤ 6 by omega)
              have mm3 := (pk_k B 6 wy.2).2
              go_wp2_with fail
              refine (pick_f HCU8.out (by omega) 6 (by decide)).mono ?_
              rintro e w9 ⟨rfl, hcu9, hch9⟩
              rw [← HMM.out] at hcu9 mm1 mm2 mm3 ⊢
              obtain ⟨m0, hm0⟩ : ∃ m0 : Nat, mm.1 = (m0 : Int) := ⟨mm.1.toNat, by omega⟩
              have hm05 : m0 ≤ 5 := by omega
              have HPM : Hid (pathD B (i : Int) KD.1 (way : Int) m0 (av : Int) [] mm.2 = PP) := by
                show _ = PP
                rw [HPW.out, hm0, Int.toNat_natCast]
              have HTV9 := hide ((hch9.block T (Array.getElem?_eq_some_iff.1 HTV8.out).1 (by omega)).trans HTV8.out)
              have HCU9 := hide hcu9
              have HCH9 : Hid (Chg (fun b => b = cb) w6 w9) := HCH8.out.trans hch9
              have hmm9 : mm.2.1 + 12 + 20 * j ≤ c.1 + 150 := by omega
              clear hcu9 hch9 HTV8 HCU8 HCH8 HPW wy1 wy2 wy3 mm1 mm2 mm3 hi2 hz hway t0 t1 t2
              go_wp2_with fail
              go_loopw [11, 12] (fun u11 u12 wx => ∃ (m at' : Nat) (pv : Value) (P : List Int) (cm : Cu), u11 = .int .i64 (at' : Int) ∧ u12 = .int .i64 (m : Int) ∧ at' < i ∧ P.length + m ≤ 5 ∧ pathD B (i : Int) KD.1 (way : Int) m (at' : Int) P cm = PP ∧ cm.1 + 2 * m + 2 + 20 * j ≤ c.1 + 150 ∧ wx.heap[T]? = some (.cells #[.int .i64 (av : Int), pv, .int .i64 (y : Int)] 35 (0, 0)) ∧ OwnInts (T + 1) wx pv P ∧ CurF wx cb a B q cm ∧ Chg (fun b => b = cb) w6 wx) (fun _ u12 _ => (intOf u12).toNat)
              case atStart => exact ⟨m0, av, .slice none 0 0, [], mm.2, rfl, rfl, hav8, by simpa using hm05, HPM.out, by omega, HTV9.out, OwnInts.nil _ _, HCU9.out, HCH9.out⟩
              case round =>
                obtain ⟨m, at', pv, P, cm, rfl, rfl, hat, hPm, hpd, hcm, htv, hop, hcu, hch⟩ := hrel
                have HTX := hide htv
                have HOP := hide hop
                have HCU := hide hcu
                have HCH := hide hch
                have HPD := hide hpd
                have HPL := hide hPm
                have hTx : T < wr.heap.size := (Array.getElem?_eq_some_iff.1 htv).1
                obtain ⟨t0, t1, t2, tf⟩ := block3 htv
                clear htv hop hcu hch hpd hPm HPM HTV9 HCU9 HCH9 tf
                rcases Nat.eq_zero_or_pos m with rfl | hmp
                · have hpd : (P, cm) = PP := HPD.out
                  obtain ⟨pp, pq, hpv⟩ := HOP.out.form
                  subst hpv
                  obtain ⟨pp', pq', hpe, hpF, hpA⟩ := HOP.out.ownF
                  simp only [Value.slice.injEq, true_and] at hpe
                  obtain ⟨rfl, rfl⟩ := hpe
                  have hpq := HOP.out.capOk
                  have hD6 := HD6.out
                  have hdx := hD6.cur HCH.out (by omega)
                  have hTe := HT.out
                  have HPA : Hid (∀ k, FA pp k → w.heap.size + 1 + 1 ≤ k ∧ k < wr.heap.size ∧ ¬ FG (.slice b2 ts.length p2') pa ts.length k ∧ Value.ownBlock (.slice b3 ns.length p3') ≠ some k ∧ Value.ownBlock (.slice (some ⟨rb, roff, none⟩) acc.length rc) ≠ some k) := fun k e => by
                    have u1 := hpA k e
                    refine ⟨by omega, u1.2, fun e' => ?_, fun e' => ?_, fun e' => ?_⟩
                    · have := (hD6.mov.tr.FG_lo e').2; omega
                    · have := (hD6.mov.nm.own e').2; omega
                    · have := (hD6.rm.own e').2; omega
                  obtain ⟨s0, s1, s2, sf⟩ := block3 hdx.mov.var
                  have hb5x := hdx.lt
                  have HDX := hide hdx
                  have HPF := hide hpF
                  have HPQ := hide hpq
                  have HPE := hide hpd
                  obtain ⟨i1, hi1, hz0, hz1', hz2⟩ := info_parts Tryd.infoTrain
                  have HI1 := hide hi1
                  have HZ0 := hide hz0
                  have HZ1 := hide hz1'
                  have HZ2 := hide hz2
                  have hcm' : cm.1 + 2 + 20 * j ≤ c.1 + 150 := by omega
                  have HTS : Hid (ts.length + 1 ≤ 5) := show ts.length + 1 ≤ 5 by have := HTW.out; omega
                  clear hpd hpA hpF hpq hD6 hdx sf hi1 hz0 hz1' hz2 hcm HPL HOP HPD hTe
                  go_wp2_with (first | (at_builtin; refine wpList_append_lies _ rfl _ _ 24 rfl (w.heap.size + 1 + 1) 35 i1 (.agg #[.int .i64 0, .slice none 0 0, .int .i64 0]) 3 40 Tryd.underlying24 HI1.out HZ0.out HZ1.out HZ2.out rfl (by decide) _ _ _ rfl (HDX.out.mov.tr.row.alloc _) ⟨wr.heap.size, 0, none⟩ 1 1 [.int .i64 (av : Int), .slice pp P.length pq, .int .i64 (y : Int)] rfl rfl ?d1 ?d2 (by decide) ?d3 ?d4 ?d5 (wr.heap.size + 1) ?d6 ?_))
                  case d1 => exact World.news_of_block (heap_alloc_new wr (.cells #[.int .i64 (av : Int), .slice pp P.length pq, .int .i64 (y : Int)] 35))
                  case d2 => intro u hu; simp at hu; rcases hu with rfl | rfl | rfl <;> rfl
                  case d3 => have := HTS.out; unfold maxLen; omega
                  case d4 => have := HTS.out; omega
                  case d5 => simp; omega
                  case d6 => simp
                  intro g cap w10 hown hgrow hat hlt
                  obtain ⟨hdy, hby⟩ := HDX.out.snocT (Joins.below_alloc1 wr _) (t := ((av : Int), P, (y : Int))) HPF.out HPQ.out HPA.out hown hgrow (hat.imp id (fun e => by rw [e]; simp))
                  obtain ⟨z0, z1, z2, zf⟩ := block3 (HDX.out.mov.grown (Joins.below_alloc1 wr _) hgrow HDX.out.mov.tvNe)
                  have zf1 := zf 1
                  have HDY := hide hdy
                  have HBY := hide hby
                  have hs10 : wr.heap.size < w10.heap.size := by have := hgrow.size; simp at this; omega
                  have HG1 : Hid (∀ o, ((w10.setCell ⟨w.heap.size + 1, 1, none⟩ (.slice (some ⟨g, 0, none⟩) (ts.length + 1) cap)).alloc o).heap[w10.heap.size]? = some o) := fun o => by
                    have := heap_alloc_new (w10.setCell ⟨w.heap.size + 1, 1, none⟩ (.slice (some ⟨g, 0, none⟩) (ts.length + 1) cap)) o
                    simpa using this
                  have HNL : Hid (ns.length ≤ 4) := show ns.length ≤ 4 by have := HTS.out; have := HNT.out; omega
                  clear hown hgrow hat hlt hdy hby zf z0 s0 s1 s2 t0 t1 t2
                  go_wp2_with (first | (at_builtin; refine wpList_push rfl _ _ rfl (w.heap.size + 1 + 1) _ _ (name : Int) w10.heap.size rfl rfl (HDY.out.mov.nm.below (Joins.below_alloc1 _ _)) (HG1.out _) (by have := HNL.out; omega) (by simp; omega) ?_))
                  intro g2 cap2 w12 hown hgrow hat hlt
                  generalize hW11 : w10.setCell ⟨w.heap.size + 1, 1, none⟩ (.slice (some ⟨g, 0, none⟩) (ts.length + 1) cap) = W11 at *
                  have hW11z : W11.heap.size = w10.heap.size := by rw [← hW11]; simp
                  obtain ⟨hdz, hbz⟩ := HDY.out.snocN (Joins.below_alloc1 W11 _) (x := (name : Int)) (by simpa [OwnInts] using hown) hgrow (hat.imp id (fun e => by rw [e]; simp [hW11z]))
                  obtain ⟨v0, v1, v2, vf⟩ := block3 (HDY.out.mov.grown (Joins.below_alloc1 W11 _) hgrow HDY.out.mov.nvNe)
                  have vf2 := vf 2
                  have HDZ := hide hdz
                  have HBZ := hide hbz
                  have m7 := pk_lo B 3 cm
                  have m8 := pk_hi B cm (show (1 : Int) ≤ 3 by omega)
                  have m9 := (pk_k B 3 cm).2
                  clear hown hgrow hat hlt hdz hbz vf v0 v1 hW11 z1 z2 zf1 HG1
                  go_wp2_with fail
                  refine (pick_f ((HCU.out.low HBY.out (by omega)).low HBZ.out (by omega)) (by omega) 3 (by decide)).mono ?_
                  rintro e w14 ⟨rfl, hcu14, hch14⟩
                  obtain ⟨n3, hn3'⟩ : ∃ n3 : Nat, (pk B 3 cm).1 = (n3 : Int) := ⟨(pk B 3 cm).1.toNat, by omega⟩
                  have hn33 : n3 ≤ 2 := by omega
                  have HN3 := hide hn3'
                  have HCU14 := hide hcu14
                  have HCH14 := hide hch14
                  have hk14 : (pk B 3 cm).2.1 + 20 * j ≤ c.1 + 150 := by omega
                  rw [hn3']
                  clear hcu14 hch14 m7 m8 m9 hn3' v2 vf2
                  go_wp2_with fail
                  go_roundw
                  case rel =>
                    have hTe := HT.out
                    have h6 := HD6.out.lt
                    refine ⟨j, ts ++ [((av : Int), P, (y : Int))], ns ++ [(name : Int)], name + (1 + n3), (pk B 3 cm).2, _, _, _, _, by go_num, by go_num, by omega, by have := HTW.out; simp; omega, by have := HNT.out; simp; omega, ?_, by omega, ?_, HDZ.out.cur HCH14.out (by omega), HCU14.out, ?_⟩
                    · have h1 := HTD.out
                      rw [HDC.out, ← HPE.out] at h1
                      simp only [HN3.out] at h1
                      rw [show ((name + (1 + n3) : Nat) : Int) = (name : Int) + (1 + (n3 : Int)) by omega]
                      exact h1
                    · rw [HCH14.out.block _ (by have := HDZ.out.lt; omega) (by omega), HBZ.out.block _ (by omega), HBY.out.block _ (by omega), HCH.out.block _ (by omega) (by omega)]
                      exact HZ6.out
                    · exact (((HCH6.out.trans HCH.out).lowTo HBY.out (by omega)).lowTo HBZ.out (by omega)).trans HCH14.out
                  case measure => simp [intOf]
                · obtain ⟨m1, rfl⟩ : ∃ m1, m = m1 + 1 := ⟨m - 1, by omega⟩
                  have hmp1 : (0 : Int) < ((m1 + 1 : Nat) : Int) := by omega
                  have hmp2 : (0 : Int) < (m1 : Int) + 1 := by omega
                  have hine : ¬ (i : Int) = 0 := by omega
                  obtain ⟨x, hx⟩ : ∃ x : Nat, ((at' : Int) + (way : Int)) % (i : Int) = (x : Int) := ⟨(at' + way) % i, by simp⟩
                  by_cases hkd0 : kd = 0
                  · have hkb : ((kd : Int) == 0) = true := by rw [beq_iff_eq]; omega
                    have HK0 := hide hkd0
                    clear hkd0
                    obtain ⟨i1, hi1⟩ : ∃ i1 : Nat, (i : Int) - 1 = (i1 : Int) := ⟨i - 1, by omega⟩
                    go_wp2_with fail
                    refine (pick_f HCU.out (by omega) (i1 : Int) (by omega)).mono ?_
                    rintro e w9' ⟨rfl, hcuz, hchz⟩
                    have m4 := pk_lo B (i1 : Int) cm
                    have m5 := pk_hi B cm (show (1 : Int) ≤ (i1 : Int) by omega)
                    have m6 := (pk_k B (i1 : Int) cm).2
                    obtain ⟨pz1, hpz1⟩ : ∃ pz1 : Nat, (pk B (i1 : Int) cm).1 = (pz1 : Int) := ⟨(pk B (i1 : Int) cm).1.toNat, by omega⟩
                    obtain ⟨x', hx'⟩ : ∃ x' : Nat, ((at' : Int) + 1 + (pz1 : Int)) % (i : Int) = (x' : Int) := ⟨(at' + 1 + pz1) % i, by simp⟩
                    have HG : Hid (goesD B (i : Int) KD.1 (way : Int) (at' : Int) cm = ((x' : Int), (pk B (i1 : Int) cm).2)) := by
                      show goesD B (i : Int) KD.1 (way : Int) (at' : Int) cm = _
                      unfold goesD
                      rw [hkd, if_pos (by rw [HK0.out]; rfl), hi1, hpz1, hx']
                    have hxi : x' < i := by
                      have := Int.emod_lt_of_pos ((at' : Int) + 1 + (pz1 : Int)) (show (0 : Int) < (i : Int) by omega)
                      omega
                    have WROW := hide ((hchz.block T hTx (by omega)).trans HTX.out)
                    have WOWN : Hid (OwnInts (T + 1) w9' pv P) := HOP.out.far (fun q hq => hchz.block q (HOP.out.own hq).2 (by have := (HOP.out.own hq).1; omega))
                    have WCU := hide hcuz
                    have WCH : Hid (Chg (fun b => b = cb) w6 w9') := HCH.out.trans hchz
                    have hTx' : T < w9'.heap.size := (Array.getElem?_eq_some_iff.1 WROW.out).1
                    obtain ⟨t0, t1, t2, -⟩ := block3 WROW.out
                    rw [hpz1]
                    have hCM : (pk B (i1 : Int) cm).2.1 + 2 * m1 + 2 + 20 * j ≤ c.1 + 150 := by omega
                    have hpb : pz1 ≤ 8 := by omega
                    clear hcuz hchz m4 m5 m6 hi1 hpz1
                    go_wp2_with (first | (at_builtin; refine wpList_push rfl _ _ rfl (T + 1) _ _ (x' : Int) w9'.heap.size rfl rfl (WOWN.out.below (Joins.below_alloc1 _ _)) (heap_alloc_new _ _) (by have := HPL.out; omega) (by simp; omega) ?_))
                    intro g cap w' hown hgrow hat hlt
                    have hrow := pushed_row WROW.out WOWN.out (by omega) hgrow
                    have HPU := hide (pushed (j := 1) WROW.out WOWN.out (by omega) (Nat.le_refl T) (Below.refl T w9') hown hgrow hat)
                    have e0 : w'.cell? ⟨T, 1, none⟩ = some pv := by rw [cell_of_row w' T 1 _ _ (0, 0) hrow]; rfl
                    have f0 : w'.frozen? ⟨T, 1, none⟩ = false := frozen_of_row w' T 1 _ _ hrow
                    clear hown hgrow hat hlt hrow t0 t1 t2
                    go_wp2_with fail
                    go_roundw
                    case rel =>
                      obtain ⟨q1, q2, q3, q4, q5, q6⟩ := HPU.out
                      refine ⟨m1, x', _, _, (pk B (i1 : Int) cm).2, rfl, by go_num, hxi, by have := HPL.out; simp; omega, ?_, by omega, q1, q3, WCU.out.low q4 (by have := HT.out; have := HD6.out.lt; omega), WCH.out.low (by rw [HT.out]; exact q4)⟩
                      have := HPD.out
                      rw [pathD, HG.out] at this
                      exact this
                    case measure => simp [intOf]
                  · have hkb : ((kd : Int) == 0) = false := by rw [beq_eq_false_iff_ne]; omega
                    have HG : Hid (goesD B (i : Int) KD.1 (way : Int) (at' : Int) cm = ((x : Int), cm)) := by
                      show goesD B (i : Int) KD.1 (way : Int) (at' : Int) cm = _
                      unfold goesD
                      rw [hkd, if_neg (by omega), hx]
                    have hxi : x < i := by
                      have := Int.emod_lt_of_pos ((at' : Int) + (way : Int)) (show (0 : Int) < (i : Int) by omega)
                      omega
                    have WROW := hide HTX.out
                    have WOWN := hide HOP.out
                    have WCU := hide HCU.out
                    have WCH := hide HCH.out
                    go_wp2_with (first | (at_builtin; refine wpList_push rfl _ _ rfl (T + 1) _ _ (x : Int) wr.heap.size rfl rfl (HOP.out.below (Joins.below_alloc1 _ _)) (heap_alloc_new _ _) (by have := HPL.out; omega) (by simp; omega) ?_))
                    intro g cap w' hown hgrow hat hlt
                    have hrow := pushed_row WROW.out WOWN.out (by omega) hgrow
                    have HPU := hide (pushed (j := 1) WROW.out WOWN.out (by omega) (Nat.le_refl T) (Below.refl T wr) hown hgrow hat)
                    have e0 : w'.cell? ⟨T, 1, none⟩ = some pv := by rw [cell_of_row w' T 1 _ _ (0, 0) hrow]; rfl
                    have f0 : w'.frozen? ⟨T, 1, none⟩ = false := frozen_of_row w' T 1 _ _ hrow
                    clear hown hgrow hat hlt hrow t0 t1 t2
                    go_wp2_with fail
                    go_roundw
                    case rel =>
                      obtain ⟨q1, q2, q3, q4, q5, q6⟩ := HPU.out
                      refine ⟨m1, x, _, _, cm, rfl, by go_num, hxi, by have := HPL.out; simp; omega, ?_, by omega, q1, q3, WCU.out.low q4 (by have := HT.out; have := HD6.out.lt; omega), WCH.out.low (by rw [HT.out]; exact q4)⟩
                      have := HPD.out
                      rw [pathD, HG.out] at this
                      exact this
                    case measure => simp [intOf]
end Go.Proofs.YtmjjigdnoiphbaaDoor

/-
  spec.States.
-/
namespace Go.Proofs.YtmjjigdnoiphbaaDoor
open Go.RowKit Go.Deep
set_option linter.unusedVariables false

/-- a state that was drawn, in blocks of its own -/
structure DrawnAt (w w' : World) (L : Lies) (st : St) : Prop where
  own : OwnS w' L st
  rc : st.1.length ≤ L.rc
  tc : st.2.1.length ≤ L.tc
  nc : st.2.2.length ≤ L.nc
  pc : ∀ i, i < st.2.1.length → (tPath st.2.1 i).length ≤ L.pc i
  new : ∀ k, L.F st.2.1.length k → w.heap.size ≤ k
  below : Below w.heap.size w w'
def stD (B : List Int) : St := (stateD B (0, 0)).1
theorem stD_drawn (B : List Int) : Drawn (stD B) := (stateD_drawn B (0, 0)).1
theorem stD_paths (B : List Int) : ∀ i, i < (stD B).2.1.length → (tPath (stD B).2.1 i).length ≤ 4611686018427387904 := fun i hi => by
  have := (stD_drawn B).few.paths i hi
  omega

set_option maxHeartbeats 1000000 in
theorem states_f {w : World} {a : Option Addr} {B : List Int} {q : Nat} (h : BytesF w a B) (ha : ∀ b off s, a = some ⟨b, off, s⟩ → 0 < B.length → b < w.heap.size) :
    Calls Tryd.prog 5 #[.slice a B.length q] w fun e w' => ∃ L : Lies, e = .returned (L.val (stD B)) ∧ DrawnAt w w' L (stD B) := by
  obtain ⟨c0, hc0⟩ : ∃ c0 : Cu, c0 = (0, 0) := ⟨_, rfl⟩
  have hS : stD B = (stateD B c0).1 := by rw [hc0, stD]
  obtain ⟨W, hW⟩ : ∃ W, W = (w.alloc (.cells #[.slice none 0 0, .slice none 0 0, .slice none 0 0] 26)).alloc (.cells #[.slice a B.length q, .int .i64 0, .int .u64 0] 50) := ⟨_, rfl⟩
  have hbW : Below w.heap.size w W := by rw [hW]; exact Joins.below_alloc2 _ _ _
  have hzW : W.heap.size = w.heap.size + 2 := by rw [hW]; simp
  have hR0 : W.heap[w.heap.size]? = some (.cells #[.slice none 0 0, .slice none 0 0, .slice none 0 0] 26 (0, 0)) := by rw [hW]; exact blockLater (Joins.below_alloc1 _ _) (heap_alloc_new w _)
  have hcu : CurF W (w.heap.size + 1) a B q c0 := by
    rw [hc0]
    exact ⟨by rw [hW]; exact heap_alloc2_new _ _ _, h.below hbW, fun b off s e h0 => by have := ha b off s e h0; omega⟩
  have hst := hide (state_f hcu (by rw [hc0]; exact Nat.zero_le _))
  have HW := hide hW
  rw [hS]
  clear h ha hcu hS hc0 hW
  generalize stateD B c0 = SD at *
  go_enter Tryd.func5, Tryd.ntmps5
  go_wp2_with fail
  rw [← HW.out]
  refine hst.out.mono ?_
  rintro e w1 ⟨L, rfl, h1, h2, h3, h4, h5, h6, h7, h8⟩
  have hz1 : w.heap.size < w1.heap.size := by have := h8.size; omega
  have hR1 := (h8.block w.heap.size (by omega) (by omega)).trans hR0
  obtain ⟨k0, k1, k2, kf⟩ := block3 hR1
  have kf0 := kf 0
  have kf1 := kf 1
  have kf2 := kf 2
  have HR1 := hide hR1
  have HX : Hid (OwnS w1 L SD.1 ∧ (SD.1.1.length ≤ L.rc ∧ SD.1.2.1.length ≤ L.tc ∧ SD.1.2.2.length ≤ L.nc ∧ ∀ i, i < SD.1.2.1.length → (tPath SD.1.2.1 i).length ≤ L.pc i) ∧ (∀ k, L.F SD.1.2.1.length k → w.heap.size + 2 ≤ k) ∧ Below w.heap.size w w1) :=
    ⟨h1, ⟨h2, h3, h4, h5⟩, fun k hk => by have := h6 k hk; omega, hbW.trans (h8.below (by omega) (fun k hk e => by omega))⟩
  clear h1 h2 h3 h4 h5 h6 h7 h8 hbW hzW hR0 hR1 kf hst HW
  obtain ⟨ra, rc, ta, tc, na, nc, pa, pc⟩ := L
  obtain ⟨⟨rs, ts, ns⟩, cu⟩ := SD
  simp only [Lies.val] at HX ⊢
  go_wp2_with fail
  have hc : Chg (fun q => q = w.heap.size) w1 (((w1.setCell ⟨w.heap.size, 0, none⟩ (.slice ra rs.length rc)).setCell ⟨w.heap.size, 1, none⟩ (.slice ta ts.length tc)).setCell ⟨w.heap.size, 2, none⟩ (.slice na ns.length nc)) :=
    Chg.setCell (F := fun q => q = w.heap.size) (Chg.setCell (F := fun q => q = w.heap.size) (Chg.setCell (F := fun q => q = w.heap.size) (Chg.refl _ _) rfl _) rfl _) rfl _
  have hvar := block3_set2 (block3_set1 (block3_set0 HR1.out (.slice ra rs.length rc)) (.slice ta ts.length tc)) (.slice na ns.length nc)
  generalize ((w1.setCell ⟨w.heap.size, 0, none⟩ (.slice ra rs.length rc)).setCell ⟨w.heap.size, 1, none⟩ (.slice ta ts.length tc)).setCell ⟨w.heap.size, 2, none⟩ (.slice na ns.length nc) = WF at *
  obtain ⟨z0, z1, z2, _⟩ := block3 hvar
  obtain ⟨x1, ⟨x2, x3, x4, x5⟩, x6, x7⟩ := HX.out
  refine bodyPost_ret (v := .agg #[.slice ra rs.length rc, .slice ta ts.length tc, .slice na ns.length nc]) (by simp [results, Tryd.results5, go_sem, z0, z1, z2]) rfl ⟨⟨ra, rc, ta, tc, na, nc, pa, pc⟩, rfl, x1.keep hc.size (fun k hk e => hc.block k hk (by have := x6 k e; omega)), x2, x3, x4, x5, fun k e => by have := x6 k e; omega, x7.trans (hc.below (by omega) (fun k hk e => by omega))⟩
end Go.Proofs.YtmjjigdnoiphbaaDoor

/-
  spec.DrawStateOk.
-/
namespace Go.Proofs.YtmjjigdnoiphbaaDoor
open Go.RowKit Go.Deep
set_option linter.unusedVariables false
attribute [local go_sem ↓] Go.wp_at_zero Go.wp_at_succ

def DrawnOk (w : World) (e : Ending) (w' : World) : Prop := ∃ (r : Value) (st : St), e = .returned r ∧ Sz 7 26 st ∧ StateAt w' r st ∧ CapSt w' r st.2.1.length ∧ Below w.heap.size w w'

set_option maxHeartbeats 40000000 in
set_option maxRecDepth 8000 in
theorem drawStateOk_any {w : World} {a : Option Addr} {B : List Int} {q : Nat} (h : BytesF w a B) (ha : ∀ b off s, a = some ⟨b, off, s⟩ → 0 < B.length → b < w.heap.size) :
    Calls Tryd.prog 10 #[.slice a B.length q] w (DrawnOk w) := by
  obtain ⟨c, hc0⟩ : ∃ c : Cu, c = (0, 0) := ⟨_, rfl⟩
  obtain ⟨W, hW⟩ : ∃ W, W = (w.alloc (.cells #[.slice none 0 0, .slice none 0 0, .slice none 0 0] 26)).alloc (.cells #[.slice a B.length q, .int .i64 0, .int .u64 0] 50) := ⟨_, rfl⟩
  have hbW : Below w.heap.size w W := by rw [hW]; exact Joins.below_alloc2 _ _ _
  have hzW : W.heap.size = w.heap.size + 2 := by rw [hW]; simp
  have hR0 : W.heap[w.heap.size]? = some (.cells #[.slice none 0 0, .slice none 0 0, .slice none 0 0] 26 (0, 0)) := by rw [hW]; exact blockLater (Joins.below_alloc1 _ _) (heap_alloc_new w _)
  obtain ⟨cb, hcbe⟩ : ∃ cb, cb = w.heap.size + 1 := ⟨_, rfl⟩
  have hcu : CurF W cb a B q c := by
    rw [hc0, hcbe]
    exact ⟨by rw [hW]; exact heap_alloc2_new _ _ _, h.below hbW, fun b off s e h0 => by have := ha b off s e h0; omega⟩
  have hk : c.1 ≤ 600000 := by rw [hc0]; exact Nat.zero_le _
  have hst := hide (state_f hcu (by omega))
  have HW := hide hW
  have HCB := hide hcbe
  have HBW := hide hbW
  clear h ha hcu hc0 hW hbW hcbe
  go_enter Tryd.func10, Tryd.ntmps10
  go_wp2_with fail
  rw [← HW.out, ← HCB.out]
  refine hst.out.mono ?_
  have hcb1 : w.heap.size < cb := by have := HCB.out; omega
  have hcb2 : cb < w.heap.size + 2 := by have := HCB.out; omega
  have HZW := hide hzW
  have hzW1 : w.heap.size + 2 ≤ W.heap.size := by omega
  clear hst hzW
  obtain ⟨hdr, hkd⟩ := stateD_drawn B c
  rintro e w1 ⟨L, rfl, h1, h2, h3, h4, h5, h6, h7, h8⟩
  generalize stateD B c = SD at *
  obtain ⟨⟨rs, ts, ns⟩, c1⟩ := SD
  obtain ⟨ra, rc, ta, tc, na, nc, pa, pc⟩ := L
  simp only [Lies.val] at *
  have hz1 : w.heap.size + 1 < w1.heap.size := by have := h8.size; omega
  have hrb : w1.heap[w.heap.size]? = some (.cells #[.slice none 0 0, .slice none 0 0, .slice none 0 0] 26 (0, 0)) := (h8.block w.heap.size (by omega) (by omega)).trans hR0
  have HK0 : Hid (∀ w'', Chg (fun b => b ≤ w.heap.size + 1 ∨ b = w1.heap.size) w1 w'' → StateAt w'' (.agg #[.slice ra rs.length rc, .slice ta ts.length tc, .slice na ns.length nc]) (rs, ts, ns) ∧ CapSt w'' (.agg #[.slice ra rs.length rc, .slice ta ts.length tc, .slice na ns.length nc]) ts.length) := fun w'' hc => by
    have h9 := h1.keep hc.size (fun k hk e => hc.block k hk (fun e' => by
      have u1 := h6 k e
      have u2 := h1.apart.lt k e
      rw [HZW.out] at u1
      rcases e' with e' | e'
      · omega
      · omega))
    exact ⟨h9.at, h9.capSt h5⟩
  have HZ0 : Hid (Sz 5 8 (rs, ts, ns) ∧ 0 < rs.length) := by
    have a1 := hdr.rooms
    have a2 := hdr.few.len
    have a3 := hdr.few.same
    simp only at a1 a2 a3
    exact ⟨⟨by simp; omega, by simpa using a2, by simp; omega, fun i hi => by have := hdr.few.paths i hi; simp only at this ⊢; omega⟩, by omega⟩
  have HCU1 := hide h7
  have HCH1 : Hid (Below w.heap.size w w1) := HBW.out.trans (h8.below (by omega) (fun k hk e => by omega))
  have HRB := hide hrb
  have hk1 : c1.1 ≤ c.1 + 150 := hkd
  clear h1 h2 h3 h4 h5 h6 h7 h8 hdr hkd hrb hR0 HBW HW
  obtain ⟨st, hst⟩ : ∃ st : St, st = (rs, ts, ns) := ⟨_, rfl⟩
  have e1 : rs = st.1 := by rw [hst]
  have e2 : ts = st.2.1 := by rw [hst]
  have e3 : ns = st.2.2 := by rw [hst]
  rw [← hst] at HK0 HZ0
  rw [e1, e2, e3] at HK0
  rw [e1] at HZ0
  simp only [e1, e2, e3]
  clear e1 e2 e3 hst
  have HX1 := hide (heap_alloc_new w1 (.cells #[.slice ra st.1.length rc, .slice ta st.2.1.length tc, .slice na st.2.2.length nc] 26))
  have hbA := Joins.below_alloc1 w1 (.cells #[.slice ra st.1.length rc, .slice ta st.2.1.length tc, .slice na st.2.2.length nc] 26)
  go_wp2_with fail
  refine (pick_f (HCU1.out.below hbA) (by omega) 3 (by decide)).mono ?_
  rintro e w2 ⟨rfl, hcu2, hch2⟩
  have b1' := pk_lo B 3 c1
  have b2' := pk_hi B c1 (show (1 : Int) ≤ 3 by omega)
  have b3' := (pk_k B 3 c1).2
  obtain ⟨n0, hn0⟩ : ∃ n0 : Nat, (pk B 3 c1).1 = (n0 : Int) := ⟨(pk B 3 c1).1.toNat, by omega⟩
  have hn05 : n0 ≤ 2 := by omega
  rw [hn0]
  generalize (pk B 3 c1).2 = c2 at *
  obtain ⟨sb, hsb⟩ : ∃ sb, sb = w1.heap.size := ⟨_, rfl⟩
  have hcs : cb < sb := by omega
  have hrs : w.heap.size + 1 < sb := by omega
  have HX2 : Hid (w2.heap[sb]? = some (.cells #[.slice ra st.1.length rc, .slice ta st.2.1.length tc, .slice na st.2.2.length nc] 26 (0, 0))) := by
    rw [hsb]
    exact chg_row hch2 HX1.out (by omega)
  have HRB2 : Hid (w2.heap[w.heap.size]? = some (.cells #[.slice none 0 0, .slice none 0 0, .slice none 0 0] 26 (0, 0))) := chg_row hch2 (blockLater hbA HRB.out) (by omega)
  have HK2 : Hid (∀ w'', Chg (fun b => b ≤ w.heap.size + 1 ∨ b = sb) w2 w'' → StateAt w'' (.agg #[.slice ra st.1.length rc, .slice ta st.2.1.length tc, .slice na st.2.2.length nc]) st ∧ CapSt w'' (.agg #[.slice ra st.1.length rc, .slice ta st.2.1.length tc, .slice na st.2.2.length nc]) st.2.1.length) := fun w'' hc => HK0.out w'' (by
    rw [hsb] at hc
    exact (Chg.of_below hbA).trans ((hch2.mono (fun k e => Or.inl (by omega))).trans hc))
  have HCU2 := hide hcu2
  have HCH2 : Hid (Below w.heap.size w w2) := (HCH1.out.trans (hbA.mono (by omega))).trans (hch2.below (by simp; omega) (fun k hk e => by omega))
  rw [← hsb]
  clear hcu2 hch2 hn0 b1' b2' hsb HX1 hbA HK0 HRB HCH1 HCU1
  have hsw2 : sb < w2.heap.size := (Array.getElem?_eq_some_iff.1 HX2.out).1
  go_wp2_with fail
  go_loopw [5] (fun u5 wr => ∃ (n : Nat) (tt : St) (cj : Cu) (b1 : Option Addr) (p1 : Nat) (b2 : Option Addr) (p2 : Nat) (b3 : Option Addr) (p3 : Nat), u5 = .int .i64 (n : Int) ∧ n ≤ 2 ∧ cj.1 + 200 * n ≤ 602000 ∧ Sz (7 - n) (26 - 9 * n) tt ∧ wr.heap[sb]? = some (.cells #[.slice b1 tt.1.length p1, .slice b2 tt.2.1.length p2, .slice b3 tt.2.2.length p3] 26 (0, 0)) ∧ wr.heap[w.heap.size]? = some (.cells #[.slice none 0 0, .slice none 0 0, .slice none 0 0] 26 (0, 0)) ∧ (∀ w'', Chg (fun b => b ≤ w.heap.size + 1 ∨ b = sb) wr w'' → StateAt w'' (.agg #[.slice b1 tt.1.length p1, .slice b2 tt.2.1.length p2, .slice b3 tt.2.2.length p3]) tt ∧ CapSt w'' (.agg #[.slice b1 tt.1.length p1, .slice b2 tt.2.1.length p2, .slice b3 tt.2.2.length p3]) tt.2.1.length) ∧ CurF wr cb a B q cj ∧ Below w.heap.size w wr) (fun u5 _ => (intOf u5).toNat)
  case atStart => exact ⟨n0, st, c2, _, _, _, _, _, _, rfl, hn05, by omega, ⟨HZ0.out.1.r, by have := HZ0.out.1.t; omega, by have := HZ0.out.1.n; omega, fun i hi => by have := HZ0.out.1.p i hi; omega⟩, HX2.out, HRB2.out, HK2.out, HCU2.out, HCH2.out⟩
  case round =>
    obtain ⟨n, tt, cj, b1, p1, b2, p2, b3, p3, rfl, hn5, hcj, hsz, hrow, hres, hkk, hcu, hch⟩ := hrel
    have HROW := hide hrow
    have HRES := hide hres
    have HKK := hide hkk
    have HCU := hide hcu
    have HCH := hide hch
    have HSZ := hide hsz
    have hswr : sb < wr.heap.size := (Array.getElem?_eq_some_iff.1 hrow).1
    obtain ⟨s0, s1, s2, sf⟩ := block3 hrow
    obtain ⟨e0, e1, e2, ef⟩ := block3 hres
    have ef0 := ef 0
    have ef1 := ef 1
    have ef2 := ef 2
    clear hrow hres hkk hcu hch hsz sf ef HX2 HRB2 HK2 HCU2 HCH2 HZ0
    rcases Nat.eq_zero_or_pos n with rfl | hnp
    · go_wp2_with fail
      have hR : Chg (fun b => b = w.heap.size) wr (((wr.setCell ⟨w.heap.size, 0, none⟩ (.slice b1 tt.1.length p1)).setCell ⟨w.heap.size, 1, none⟩ (.slice b2 tt.2.1.length p2)).setCell ⟨w.heap.size, 2, none⟩ (.slice b3 tt.2.2.length p3)) :=
        Chg.setCell (F := fun b => b = w.heap.size) (Chg.setCell (F := fun b => b = w.heap.size) (Chg.setCell (F := fun b => b = w.heap.size) (Chg.refl _ _) rfl _) rfl _) rfl _
      have hvar := block3_set2 (block3_set1 (block3_set0 HRES.out (.slice b1 tt.1.length p1)) (.slice b2 tt.2.1.length p2)) (.slice b3 tt.2.2.length p3)
      generalize ((wr.setCell ⟨w.heap.size, 0, none⟩ (.slice b1 tt.1.length p1)).setCell ⟨w.heap.size, 1, none⟩ (.slice b2 tt.2.1.length p2)).setCell ⟨w.heap.size, 2, none⟩ (.slice b3 tt.2.2.length p3) = WR at *
      obtain ⟨z0, z1, z2, _⟩ := block3 hvar
      refine bodyPost_ret (v := .agg #[.slice b1 tt.1.length p1, .slice b2 tt.2.1.length p2, .slice b3 tt.2.2.length p3]) (by simp [results, Tryd.results10, go_sem, z0, z1, z2]) rfl ?_
      obtain ⟨x1, x2⟩ := HKK.out WR (hR.mono (fun k e => Or.inl (by omega)))
      exact ⟨_, tt, rfl, ⟨HSZ.out.r, by have := HSZ.out.t; omega, by have := HSZ.out.n; omega, fun i hi => by have := HSZ.out.p i hi; omega⟩, x1, x2, HCH.out.trans (hR.below (by omega) (fun k hk e => by omega))⟩
    · have hnpi : (0 : Int) < (n : Int) := by omega
      by_cases h0 : tt.1.length = 0
      · have h0i : ¬ ((0 : Int) < (tt.1.length : Int)) := by omega
        have H0 := hide h0
        clear h0
        go_wp2_with fail
        have hR : Chg (fun b => b = w.heap.size) wr (((wr.setCell ⟨w.heap.size, 0, none⟩ (.slice b1 tt.1.length p1)).setCell ⟨w.heap.size, 1, none⟩ (.slice b2 tt.2.1.length p2)).setCell ⟨w.heap.size, 2, none⟩ (.slice b3 tt.2.2.length p3)) :=
          Chg.setCell (F := fun b => b = w.heap.size) (Chg.setCell (F := fun b => b = w.heap.size) (Chg.setCell (F := fun b => b = w.heap.size) (Chg.refl _ _) rfl _) rfl _) rfl _
        have hvar := block3_set2 (block3_set1 (block3_set0 HRES.out (.slice b1 tt.1.length p1)) (.slice b2 tt.2.1.length p2)) (.slice b3 tt.2.2.length p3)
        generalize ((wr.setCell ⟨w.heap.size, 0, none⟩ (.slice b1 tt.1.length p1)).setCell ⟨w.heap.size, 1, none⟩ (.slice b2 tt.2.1.length p2)).setCell ⟨w.heap.size, 2, none⟩ (.slice b3 tt.2.2.length p3) = WR at *
        obtain ⟨z0, z1, z2, _⟩ := block3 hvar
        refine bodyPost_ret (v := .agg #[.slice b1 tt.1.length p1, .slice b2 tt.2.1.length p2, .slice b3 tt.2.2.length p3]) (by simp [results, Tryd.results10, go_sem, z0, z1, z2]) rfl ?_
        obtain ⟨x1, x2⟩ := HKK.out WR (hR.mono (fun k e => Or.inl (by omega)))
        exact ⟨_, tt, rfl, ⟨HSZ.out.r, by have := HSZ.out.t; omega, by have := HSZ.out.n; omega, fun i hi => by have := HSZ.out.p i hi; omega⟩, x1, x2, HCH.out.trans (hR.below (by omega) (fun k hk e => by omega))⟩
      · have h0i : (0 : Int) < (tt.1.length : Int) := by omega
        have h0p : 0 < tt.1.length := by omega
        go_wp2_with fail
        refine (spoil_any HCU.out (by omega) (HKK.out _ (Chg.refl _ _)).1 HSZ.out (by omega) (by omega) h0p).mono ?_
        rintro e w4 ⟨r, st', c4, rfl, hs4, hk4, hcu4, hc4, hch4⟩
        obtain ⟨q1, o1, q2, o2, q3, o3, hr4⟩ := (hk4 _ (Chg.refl _ _)).1.form
        subst hr4
        have hv4 := chg_row hch4 HROW.out (by omega)
        have hr4 := chg_row hch4 HRES.out (by omega)
        obtain ⟨d0, d1, d2, df⟩ := block3 hv4
        have df0 := df 0
        have df1 := df 1
        have df2 := df 2
        have HK4 := hide hk4
        have HS4 := hide hs4
        have HCU4 := hide hcu4
        have HC4 := hide hch4
        have HV4 := hide hv4
        have HR4 := hide hr4
        have hsw4 : sb < w4.heap.size := (Array.getElem?_eq_some_iff.1 hv4).1
        clear hs4 hk4 hcu4 hch4 hv4 hr4 df s0 s1 s2 e0 e1 e2 ef0 ef1 ef2
        go_wp2_with fail
        go_roundw
        case rel =>
          have hcS : Chg (fun b => b = sb) w4 (((w4.setCell ⟨sb, 0, none⟩ (.slice q1 st'.1.length o1)).setCell ⟨sb, 1, none⟩ (.slice q2 st'.2.1.length o2)).setCell ⟨sb, 2, none⟩ (.slice q3 st'.2.2.length o3)) :=
            Chg.setCell (F := fun b => b = sb) (Chg.setCell (F := fun b => b = sb) (Chg.setCell (F := fun b => b = sb) (Chg.refl _ _) rfl _) rfl _) rfl _
          refine ⟨n - 1, st', c4, q1, o1, q2, o2, q3, o3, by go_num, by omega, by omega, ⟨HS4.out.r, by have := HS4.out.t; omega, by have := HS4.out.n; omega, fun i hi => by have := HS4.out.p i hi; omega⟩, block3_set2 (block3_set1 (block3_set0 HV4.out _) _) _, (hcS.block w.heap.size (by omega) (by omega)).trans HR4.out, fun w'' hc => HK4.out w'' ((hcS.mono (fun k e => by omega)).trans (hc.mono (fun k e => by omega))), HCU4.out.keep hcS (fun b hb => by omega), ?_⟩
          exact (HCH.out.trans (HC4.out.below (by omega) (fun k hk e => by omega))).trans (hcS.below (by omega) (fun k hk e => by omega))
        case measure => simp [intOf]; omega
end Go.Proofs.YtmjjigdnoiphbaaDoor
