/-
  spec: l2new.
-/
import Derived.Test.YtmjjigdnoiphbaaDoorSf4
import Derived.Deep.RegionLaw
namespace Go.Proofs.YtmjjigdnoiphbaaDoor
open Go.RowKit Go.Deep
set_option linter.unusedVariables false

def lensUp (ts : List Tr) : Nat → List Int
  | 0 => []
  | k + 1 => lensUp ts k ++ [((tPath ts k).length : Int)]
def namesUp (ns : List Int) : Nat → List Int
  | 0 => []
  | k + 1 => namesUp ns k ++ [el ns k]
theorem lensUp_len (ts : List Tr) : ∀ k, (lensUp ts k).length = k
  | 0 => rfl
  | k + 1 => by simp [lensUp, lensUp_len ts k]
theorem namesUp_len (ns : List Int) : ∀ k, (namesUp ns k).length = k
  | 0 => rfl
  | k + 1 => by simp [namesUp, namesUp_len ns k]
theorem lensUp_take (st : St) : ∀ k, k ≤ st.2.1.length → lensUp st.2.1 k = (lensOf st).take k
  | 0, _ => by simp [lensUp]
  | k + 1, hk => by
    have hk' : k < (lensOf st).length := by rw [lensOf_len]; exact hk
    rw [List.take_succ_eq_append_getElem hk', lensUp, lensUp_take st k (by omega)]
    have := lensOf_at (st := st) (i := k) hk
    simp only [el, List.getElem?_eq_getElem hk', Option.getD_some] at this
    rw [this]
theorem namesUp_take (ns : List Int) : ∀ k, k ≤ ns.length → namesUp ns k = ns.take k
  | 0, _ => by simp [namesUp]
  | k + 1, hk => by
    have hk' : k < ns.length := hk
    rw [List.take_succ_eq_append_getElem hk', namesUp, namesUp_take ns k (by omega)]
    simp [el, hk']

/-- where l2new stands: the new table is block tb -/
structure NewT (V : World) (tb : Nat) (w : World) (pv' nv : Value) (ls ns : List Int) : Prop where
  var : w.heap[tb]? = some (.cells #[pv', nv, .slice none 0 0, .slice none 0 0] 156 (0, 0))
  p : OwnInts (tb + 1) w pv' ls
  n : OwnInts (tb + 1) w nv ns
  ap : ∀ k, pv'.ownBlock = some k → nv.ownBlock ≠ some k
  old : Below tb V w

theorem block4_set0 {w : World} {b : Nat} {x y z u : Value} {t : TypeId} (h : w.heap[b]? = some (.cells #[x, y, z, u] t (0, 0))) (q : Value) : (w.setCell ⟨b, 0, none⟩ q).heap[b]? = some (.cells #[q, y, z, u] t (0, 0)) := by
  have := Joins.block_setCell (i := 0) h q
  simpa using this
theorem block4_set1 {w : World} {b : Nat} {x y z u : Value} {t : TypeId} (h : w.heap[b]? = some (.cells #[x, y, z, u] t (0, 0))) (q : Value) : (w.setCell ⟨b, 1, none⟩ q).heap[b]? = some (.cells #[x, q, z, u] t (0, 0)) := by
  have := Joins.block_setCell (i := 1) h q
  simpa using this
theorem block4_set2 {w : World} {b : Nat} {x y z u : Value} {t : TypeId} (h : w.heap[b]? = some (.cells #[x, y, z, u] t (0, 0))) (q : Value) : (w.setCell ⟨b, 2, none⟩ q).heap[b]? = some (.cells #[x, y, q, u] t (0, 0)) := by
  have := Joins.block_setCell (i := 2) h q
  simpa using this
theorem block4_set3 {w : World} {b : Nat} {x y z u : Value} {t : TypeId} (h : w.heap[b]? = some (.cells #[x, y, z, u] t (0, 0))) (q : Value) : (w.setCell ⟨b, 3, none⟩ q).heap[b]? = some (.cells #[x, y, z, q] t (0, 0)) := by
  have := Joins.block_setCell (i := 3) h q
  simpa using this

theorem NewT.below {V : World} {tb : Nat} {w w' : World} {pv' nv : Value} {ls ns : List Int} (h : NewT V tb w pv' nv ls ns) (hb : Below w.heap.size w w') : NewT V tb w' pv' nv ls ns :=
  ⟨blockLater hb h.var, h.p.below hb, h.n.below hb, h.ap, h.old.trans (hb.mono (by have := (Array.getElem?_eq_some_iff.1 h.var).1; omega))⟩
theorem NewT.snocP {V : World} {tb : Nat} {w wa w' : World} {pv' nv : Value} {ls ns : List Int} (h : NewT V tb w pv' nv ls ns) (hba : Below w.heap.size w wa) {x : Int} {g cap : Nat}
    (hown : w'.ownsRow (tb + 1) 3 1 (.slice (some ⟨g, 0, none⟩) (ls.length + 1) cap) (ls.length + 1) (ls.map (Value.int .i64) ++ [.int .i64 x]))
    (hgrow : wa.grownBy w' pv'.ownBlock) (hat : pv'.ownBlock = some g ∨ wa.heap.size ≤ g) :
    NewT V tb (w'.setCell ⟨tb, 0, none⟩ (.slice (some ⟨g, 0, none⟩) (ls.length + 1) cap)) (.slice (some ⟨g, 0, none⟩) (ls.length + 1) cap) nv (ls ++ [x]) ns := by
  have hO := OwnInts.snoc hown
  have hlt := (Array.getElem?_eq_some_iff.1 h.var).1
  have hpne : pv'.ownBlock ≠ some tb := fun e => by have := (ownBlock_lt h.p e).1; omega
  have hfar : ∀ q, q < w.heap.size → pv'.ownBlock ≠ some q → w'.heap[q]? = w.heap[q]? := fun q hq hne => (hgrow.block q (Nat.lt_of_lt_of_le hq hba.size) (fun e => hne e.symm)).trans (hba.block q hq)
  refine ⟨block4_set0 ((hfar tb hlt hpne).trans h.var) _, ownsRow_keep hO (fun q hq => Below.heap_setCell _ _ _ _ (fun e => by have := (ownBlock_lt hO hq).1; simp only at e; omega)), ownsRow_keep (ownsRow_keep h.n (fun q hq => hfar q (ownBlock_lt h.n hq).2 (fun e => h.ap q e hq))) (fun q hq => Below.heap_setCell _ _ _ _ (fun e => by have := (ownBlock_lt h.n hq).1; simp only at e; omega)), fun q hq e => ?_, ?_⟩
  · simp [Value.ownBlock] at hq
    subst hq
    rcases hat with hat | hat
    · exact h.ap g hat e
    · have u := (ownBlock_lt h.n e).2
      have := hba.size
      omega
  · exact ((h.old.trans (hba.mono (by omega))).grown hgrow (by have := hba.size; omega) (fun q e => by have := (ownBlock_lt h.p e).1; omega)).setCell (p := ⟨tb, 0, none⟩) (Nat.le_refl _) _
theorem NewT.snocN {V : World} {tb : Nat} {w wa w' : World} {pv' nv : Value} {ls ns : List Int} (h : NewT V tb w pv' nv ls ns) (hba : Below w.heap.size w wa) {x : Int} {g cap : Nat}
    (hown : w'.ownsRow (tb + 1) 3 1 (.slice (some ⟨g, 0, none⟩) (ns.length + 1) cap) (ns.length + 1) (ns.map (Value.int .i64) ++ [.int .i64 x]))
    (hgrow : wa.grownBy w' nv.ownBlock) (hat : nv.ownBlock = some g ∨ wa.heap.size ≤ g) :
    NewT V tb (w'.setCell ⟨tb, 1, none⟩ (.slice (some ⟨g, 0, none⟩) (ns.length + 1) cap)) pv' (.slice (some ⟨g, 0, none⟩) (ns.length + 1) cap) ls (ns ++ [x]) := by
  have hO := OwnInts.snoc hown
  have hlt := (Array.getElem?_eq_some_iff.1 h.var).1
  have hpne : nv.ownBlock ≠ some tb := fun e => by have := (ownBlock_lt h.n e).1; omega
  have hfar : ∀ q, q < w.heap.size → nv.ownBlock ≠ some q → w'.heap[q]? = w.heap[q]? := fun q hq hne => (hgrow.block q (Nat.lt_of_lt_of_le hq hba.size) (fun e => hne e.symm)).trans (hba.block q hq)
  refine ⟨block4_set1 ((hfar tb hlt hpne).trans h.var) _, ownsRow_keep (ownsRow_keep h.p (fun q hq => hfar q (ownBlock_lt h.p hq).2 (fun e => h.ap q hq e))) (fun q hq => Below.heap_setCell _ _ _ _ (fun e => by have := (ownBlock_lt h.p hq).1; simp only at e; omega)), ownsRow_keep hO (fun q hq => Below.heap_setCell _ _ _ _ (fun e => by have := (ownBlock_lt hO hq).1; simp only at e; omega)), fun q hq e => ?_, ?_⟩
  · simp [Value.ownBlock] at e
    subst e
    rcases hat with hat | hat
    · exact h.ap g hq hat
    · have u := (ownBlock_lt h.p hq).2
      have := hba.size
      omega
  · exact ((h.old.trans (hba.mono (by omega))).grown hgrow (by have := hba.size; omega) (fun q e => by have := (ownBlock_lt h.n e).1; omega)).setCell (p := ⟨tb, 1, none⟩) (Nat.le_refl _) _

set_option maxRecDepth 8000 in
set_option maxHeartbeats 16000000 in
theorem l2new_any (v : Value) (st : St) (w : World) (h : StateAt w v st) (hr : RightSt st) :
    Calls Tryd.prog 61 #[v] w fun e w' => ∃ tb cb mb pv' nv, e = .returned (.pointer (some ⟨tb, 0, none⟩)) ∧ Tab st w.heap.size tb cb mb pv' nv w' (fun _ => 0) (fun _ => false) ∧ w.heap.size ≤ cb ∧ w.heap.size ≤ mb ∧ Below w.heap.size w w' := by
  have HS := hide h
  have HR := hide hr
  obtain ⟨a1, q1, a2, q2, a3, q3, rfl⟩ := h.form
  obtain ⟨l1, l2, l3, l4⟩ := hr.lens
  have HL4 := hide l4
  clear h hr l4
  go_enter Tryd.func61, Tryd.ntmps61
  go_wp2_with fail
  obtain ⟨V, hV⟩ : ∃ V, V = (w.alloc (.cells #[.slice a1 st.1.length q1, .slice a2 st.2.1.length q2, .slice a3 st.2.2.length q3] 26)).alloc (.cells #[.slice none 0 0, .slice none 0 0, .slice none 0 0, .slice none 0 0] 156) := ⟨_, rfl⟩
  obtain ⟨tb, htb⟩ : ∃ tb, tb = w.heap.size + 1 := ⟨_, rfl⟩
  rw [← hV, ← htb]
  have hN0 : NewT V tb V (.slice none 0 0) (.slice none 0 0) [] [] := ⟨by rw [hV, htb]; exact heap_alloc2_new _ _ _, OwnInts.nil _ _, OwnInts.nil _ _, fun k hk => by simp [Value.ownBlock] at hk, Below.refl _ _⟩
  have HBV : Hid (Below w.heap.size w V) := by rw [hV]; exact Joins.below_alloc2 _ _ _
  have HX : Hid (V.heap[w.heap.size]? = some (.cells #[.slice a1 st.1.length q1, .slice a2 st.2.1.length q2, .slice a3 st.2.2.length q3] 26 (0, 0))) := by rw [hV]; exact blockLater (Joins.below_alloc1 _ _) (heap_alloc_new _ _)
  have HN0 := hide hN0
  have HTB := hide htb
  clear hV htb hN0
  go_loopw [4, 12] (fun u i wr => ∃ k : Nat, k ≤ st.2.1.length ∧ i = .int .i64 k ∧ u = .int .i64 (prodUp st.2.1 k) ∧ ∃ pv' nv, NewT V tb wr pv' nv (lensUp st.2.1 k) (namesUp st.2.2 k)) (fun _ i _ => st.2.1.length - (intOf i).toNat)
  case atStart => exact ⟨0, Nat.zero_le _, rfl, rfl, _, _, HN0.out⟩
  case round =>
    obtain ⟨k, hk, rfl, rfl, pv', nv, hnt⟩ := hrel
    by_cases hlt : k < st.2.1.length
    · have hbw : Below w.heap.size w wr := HBV.out.trans (hnt.old.mono (by have := HTB.out; omega))
      have hbx : wr.heap[w.heap.size]? = some (.cells #[.slice a1 st.1.length q1, .slice a2 st.2.1.length q2, .slice a3 st.2.2.length q3] 26 (0, 0)) := (hnt.old.block _ (by have := HTB.out; omega)).trans HX.out
      obtain ⟨hp1, hp2, hp3⟩ := HS.out.parts
      obtain ⟨b, off, rfl, vp, t0, t1, hI, t2⟩ := hp2.trainAt k hlt
      obtain ⟨ap, cp, rfl, -⟩ := hI
      have g0 := cell_later hbw t0
      have g1 := cell_later hbw t1
      have g2 := cell_later hbw t2
      obtain ⟨nb, noff, rfl, n0⟩ := hp3.cellAt k (by have := HL4.out; omega)
      have N0 := hide n0
      have h8 := (HR.out.train k hlt).2.2.1
      have hpr := prod_small HR.out.so (k := k) (by omega)
      have HPU := hide (show prodUp st.2.1 (k + 1) = prodUp st.2.1 k * ((tPath st.2.1 k).length + 2) from rfl)
      have HLU := hide (show lensUp st.2.1 (k + 1) = lensUp st.2.1 k ++ [((tPath st.2.1 k).length : Int)] from rfl)
      have HNU := hide (show namesUp st.2.2 (k + 1) = namesUp st.2.2 k ++ [el st.2.2 k] from rfl)
      have hkn : (k : Int) < (st.2.2.length : Int) := by have := HL4.out; omega
      have hk0 : (0 : Int) ≤ (k : Int) := by omega
      have hll := lensUp_len st.2.1 k
      have hnl := namesUp_len st.2.2 k
      have HLL := hide hll
      have HNL := hide hnl
      have HNT := hide hnt
      have HBX := hide hbx
      have HBW := hide hbw
      have htl : tb < wr.heap.size := (Array.getElem?_eq_some_iff.1 hnt.var).1
      have hwtb : w.heap.size < tb := by have := HTB.out; omega
      clear t0 t1 t2 hp1 hp2 hp3 n0 hnt hbx hbw hll hnl
      generalize (tPath st.2.1 k).length = ln at *
      generalize prodUp st.2.1 k = pr at *
      generalize tAt st.2.1 k = xa at *
      generalize tWt st.2.1 k = ya at *
      have hm1 : pr * (ln + 2) ≤ 100000 * 10 := Nat.mul_le_mul (by omega) (by omega)
      have hmul : IntKind.i64.wrap ((pr : Int) * ((ln : Int) + 2)) = ((pr * (ln + 2) : Nat) : Int) := by
        rw [show ((pr : Int) * ((ln : Int) + 2)) = ((pr * (ln + 2) : Nat) : Int) by simp, IntKind.wrap_i64] <;> omega
      go_wp2_with fail
      obtain ⟨W5, hW5⟩ : ∃ W5, W5 = wr.alloc (.cells #[.int .i64 xa, .slice ap ln cp, .int .i64 ya] 35) := ⟨_, rfl⟩
      rw [← hW5]
      have hb5 : Below wr.heap.size wr W5 := by rw [hW5]; exact Joins.below_alloc1 _ _
      have T1 : W5.cell? ⟨wr.heap.size, 1, none⟩ = some (.slice ap ln cp) := by rw [hW5]; simp
      have HTT : Hid (W5.heap[wr.heap.size]? = some (.cells #[.int .i64 xa, .slice ap ln cp, .int .i64 ya] 35 (0, 0))) := by rw [hW5]; exact heap_alloc_new _ _
      have HM5 := hide (HNT.out.below hb5)
      have HBX5 := hide (blockLater hb5 HBX.out)
      have HBW5 := hide (below_tail HBW.out hb5)
      have HPT0 : Hid (pv'.ownBlock ≠ some wr.heap.size) := fun e => by have := (ownBlock_lt HNT.out.p e).2; omega
      have HNT0 : Hid (nv.ownBlock ≠ some wr.heap.size) := fun e => by have := (ownBlock_lt HNT.out.n e).2; omega
      clear hW5 hb5 g0 g1 g2 HNT HBX HBW
      obtain ⟨y0, y1, _, _, yf⟩ := cells4 HM5.out.var
      have yf0 := yf 0
      have ht5 : tb < W5.heap.size := (Array.getElem?_eq_some_iff.1 HM5.out.var).1
      obtain ⟨i0, hi, hz0, hz1', hz2⟩ := info_parts Tryd.infoInt
      have HJ1 := hide hi
      have HJ2 := hide hz0
      have HJ3 := hide hz1'
      have HJ4 := hide hz2
      have hpne : pv'.ownBlock ≠ some tb := fun e => by have := (ownBlock_lt HM5.out.p e).1; omega
      have hnne : nv.ownBlock ≠ some tb := fun e => by have := (ownBlock_lt HM5.out.n e).1; omega
      have HPT : Hid (pv'.ownBlock ≠ some wr.heap.size) := HPT0.out
      have hc3 : (lensUp st.2.1 k).length + 1 ≤ maxLen := by rw [HLL.out]; unfold maxLen; omega
      have hc4 : ((lensUp st.2.1 k).length + 1) * 8 ≤ 140737488355328 := by rw [HLL.out]; omega
      have hc5 : tb + 1 ≤ (W5.alloc (.cells #[.int .i64 (ln : Int)] 3)).drew.heap.size := by show _ ≤ (W5.alloc _).heap.size; simp; omega
      have HK6 : Hid (∀ w6, (W5.alloc (.cells #[.int .i64 (ln : Int)] 3)).drew.grownBy w6 pv'.ownBlock → (w6.cell? ⟨tb, 0, none⟩ = some pv' ∧ w6.frozen? ⟨tb, 0, none⟩ = false)) := fun w6 hg6 => by
        have hbA : Below W5.heap.size W5 (W5.alloc (.cells #[.int .i64 (ln : Int)] 3)).drew := (Joins.below_alloc1 W5 _).drew
        have hl : ∀ q, q < W5.heap.size → q < (W5.alloc (.cells #[.int .i64 (ln : Int)] 3)).drew.heap.size := fun q hq => Nat.lt_of_lt_of_le hq hbA.size
        refine ⟨?_, ?_⟩
        · rw [hg6.cell_far ⟨tb, 0, none⟩ (hl _ ht5) (Ne.symm hpne)]; exact cell_later hbA y0
        · rw [hg6.frozen_far ⟨tb, 0, none⟩ (hl _ ht5) (Ne.symm hpne), hbA.frozen (p := ⟨tb, 0, none⟩) ht5]; exact yf0
      clear hi hz0 hz1' hz2 yf y1
      go_region_law ((refine step_append_lies _ (by rfl) _ _ _ (by rfl) (tb + 1) 3 i0 _ 1 8 Tryd.underlying23 HJ1.out HJ2.out HJ3.out HJ4.out rfl (by omega) pv' _ _ (by rfl) ((HM5.out.p.alloc _).drew) ⟨W5.heap.size, 0, none⟩ 1 1 [.int .i64 (ln : Int)] (by rfl) (by rfl) (World.news_of_block (cs := #[.int .i64 (ln : Int)]) (t := 3) (fr := (0, 0)) (heap_alloc_new W5 _)) (by simp [Value.oneCell']) (by omega) hc3 hc4 hc5 (W5.heap.size + 1) (by simp) ?_; intro gg cap2 w6 hown2 hgrow2 hat2 hlt2; obtain ⟨k61, k62⟩ := HK6.out _ hgrow2))
      all_goals
        have HM6 := hide (HM5.out.snocP ((Joins.below_alloc1 W5 _).drew) hown2 hgrow2 (hat2.imp id (fun e => by rw [e]; show (W5.alloc _).heap.size ≤ _; simp)))
        have HT6 : Hid ((w6.setCell ⟨tb, 0, none⟩ (.slice (some ⟨gg, 0, none⟩) ((lensUp st.2.1 k).length + 1) cap2)).heap[wr.heap.size]? = some (.cells #[.int .i64 xa, .slice ap ln cp, .int .i64 ya] 35 (0, 0))) := by
          have hbA : Below W5.heap.size W5 (W5.alloc (.cells #[.int .i64 (ln : Int)] 3)).drew := (Joins.below_alloc1 W5 _).drew
          have hT := (Array.getElem?_eq_some_iff.1 HTT.out).1
          show _ = _
          rw [Below.heap_setCell _ _ _ _ (by simp; omega), hgrow2.block wr.heap.size (Nat.lt_of_lt_of_le hT hbA.size) (fun e => HPT.out e.symm), hbA.block _ hT]
          exact HTT.out
        clear hown2 hgrow2 hat2 hlt2 k61 k62
        generalize w6.setCell ⟨tb, 0, none⟩ (.slice (some ⟨gg, 0, none⟩) ((lensUp st.2.1 k).length + 1) cap2) = W6 at *
        have hbx6 : W6.heap[w.heap.size]? = some (.cells #[.slice a1 st.1.length q1, .slice (some ⟨b, off, none⟩) st.2.1.length q2, .slice (some ⟨nb, noff, none⟩) st.2.2.length q3] 26 (0, 0)) := (HM6.out.old.block _ hwtb).trans HX.out
        obtain ⟨_, _, s2, _⟩ := block3 hbx6
        have nn := cell_later (HBV.out.trans (HM6.out.old.mono (by omega))) N0.out
        obtain ⟨_, y1, _, _, yf⟩ := cells4 HM6.out.var
        have yf1 := yf 1
        obtain ⟨_, T6, _, _⟩ := block3 HT6.out
        have ht6 : tb < W6.heap.size := (Array.getElem?_eq_some_iff.1 HM6.out.var).1
        have hns : nv.ownBlock ≠ some w.heap.size := fun e => by have := (ownBlock_lt HM6.out.n e).1; omega
        have hnb : nv.ownBlock ≠ some nb := fun e => by
          have u1 := (ownBlock_lt HM6.out.n e).1
          have u2 := World.block_lt_of_cell? _ _ N0.out
          simp only at u2
          omega
        have lt1 := World.block_lt_of_cell? _ _ s2
        have lt2 := World.block_lt_of_cell? _ _ nn
        have lt3 := World.block_lt_of_cell? _ _ T6
        simp only at lt1 lt2 lt3
        have hd3 : (namesUp st.2.2 k).length + 1 ≤ maxLen := by rw [HNL.out]; unfold maxLen; omega
        have hd4 : ((namesUp st.2.2 k).length + 1) * 8 ≤ 140737488355328 := by rw [HNL.out]; omega
        have hd5 : tb + 1 ≤ (W6.alloc (.cells #[.int .i64 (el st.2.2 k)] 3)).drew.heap.size := by show _ ≤ (W6.alloc _).heap.size; simp; omega
        have HK7 : Hid (∀ w7, (W6.alloc (.cells #[.int .i64 (el st.2.2 k)] 3)).drew.grownBy w7 nv.ownBlock → (w7.cell? ⟨tb, 1, none⟩ = some nv ∧ w7.frozen? ⟨tb, 1, none⟩ = false ∧ w7.cell? ⟨w.heap.size, 2, none⟩ = some (.slice (some ⟨nb, noff, none⟩) st.2.2.length q3) ∧ w7.cell? ⟨nb, noff + k, none⟩ = some (.int .i64 (el st.2.2 k)))) := fun w7 hg7 => by
          have hbA : Below W6.heap.size W6 (W6.alloc (.cells #[.int .i64 (el st.2.2 k)] 3)).drew := (Joins.below_alloc1 W6 _).drew
          have hl : ∀ q, q < W6.heap.size → q < (W6.alloc (.cells #[.int .i64 (el st.2.2 k)] 3)).drew.heap.size := fun q hq => Nat.lt_of_lt_of_le hq hbA.size
          refine ⟨?_, ?_, ?_, ?_⟩
          · rw [hg7.cell_far ⟨tb, 1, none⟩ (hl _ ht6) (Ne.symm hnne)]; exact cell_later hbA y1
          · rw [hg7.frozen_far ⟨tb, 1, none⟩ (hl _ ht6) (Ne.symm hnne), hbA.frozen (p := ⟨tb, 1, none⟩) ht6]; exact yf1
          · rw [hg7.cell_far ⟨w.heap.size, 2, none⟩ (hl _ lt1) (Ne.symm hns)]; exact cell_later hbA s2
          · rw [hg7.cell_far ⟨nb, noff + k, none⟩ (hl _ lt2) (Ne.symm hnb)]; exact cell_later hbA nn
        clear yf T1 y0 yf0 hbx6 HK6 hc3 hc4 hc5
        go_wp2_with fail
        go_region_law ((refine step_append_lies _ (by rfl) _ _ _ (by rfl) (tb + 1) 3 i0 _ 1 8 Tryd.underlying23 HJ1.out HJ2.out HJ3.out HJ4.out rfl (by omega) nv _ _ (by rfl) ((HM6.out.n.alloc _).drew) ⟨W6.heap.size, 0, none⟩ 1 1 [.int .i64 (el st.2.2 k)] (by rfl) (by rfl) (World.news_of_block (cs := #[.int .i64 (el st.2.2 k)]) (t := 3) (fr := (0, 0)) (heap_alloc_new W6 _)) (by simp [Value.oneCell']) (by omega) hd3 hd4 hd5 (W6.heap.size + 1) (by simp) ?_; intro gh cap3 w7 hown3 hgrow3 hat3 hlt3; obtain ⟨k71, k72, k73, k74⟩ := HK7.out _ hgrow3))
        all_goals
          have HM7 := hide (HM6.out.snocN ((Joins.below_alloc1 W6 _).drew) hown3 hgrow3 (hat3.imp id (fun e => by rw [e]; show (W6.alloc _).heap.size ≤ _; simp)))
          have hT7 : (w7.setCell ⟨tb, 1, none⟩ (.slice (some ⟨gh, 0, none⟩) ((namesUp st.2.2 k).length + 1) cap3)).heap[wr.heap.size]? = some (.cells #[.int .i64 xa, .slice ap ln cp, .int .i64 ya] 35 (0, 0)) := by
            have hbA : Below W6.heap.size W6 (W6.alloc (.cells #[.int .i64 (el st.2.2 k)] 3)).drew := (Joins.below_alloc1 W6 _).drew
            have hT := (Array.getElem?_eq_some_iff.1 HT6.out).1
            rw [Below.heap_setCell _ _ _ _ (by simp; omega), hgrow3.block wr.heap.size (Nat.lt_of_lt_of_le hT hbA.size) (fun e => HNT0.out e.symm), hbA.block _ hT]
            exact HT6.out
          obtain ⟨_, T7, _, _⟩ := block3 hT7
          clear hown3 hgrow3 hat3 hlt3 k71 k72 k73 k74 hT7
          generalize w7.setCell ⟨tb, 1, none⟩ (.slice (some ⟨gh, 0, none⟩) ((namesUp st.2.2 k).length + 1) cap3) = W7 at *
          go_wp2_with fail
          go_roundw
          case rel => exact ⟨k + 1, by omega, by go_num, by rw [HPU.out]; simp, _, _, by rw [HLU.out, HNU.out]; exact HM7.out⟩
          case measure => simp [intOf]; omega
    · obtain rfl : k = st.2.1.length := by omega
      obtain ⟨_, _, y2, y3, yf⟩ := cells4 hnt.var
      have yf2 := yf 2
      have yf3 := yf 3
      have HNT := hide hnt
      have hpr := prod_small HR.out.so (k := st.2.1.length) (by omega)
      have htl : tb < wr.heap.size := (Array.getElem?_eq_some_iff.1 hnt.var).1
      obtain ⟨NN, hNN⟩ : ∃ NN, prodUp st.2.1 st.2.1.length = NN := ⟨_, rfl⟩
      have HNN := hide hNN
      rw [hNN] at hpr ⊢
      have hmk1 := run_make_row' (P := Tryd.prog) 23 3 (.int .i64 0) 8 Tryd.underlying23 Tryd.infoInt rfl .i64 .i64 NN (by omega) (by omega)
      have hmk2 := run_make_row' (P := Tryd.prog) 154 4 (.bool false) 1 Tryd.underlying154 Tryd.infoBool rfl .i64 .i64 NN (by omega) (by omega)
      have hne1 : ¬ tb = wr.heap.size := by omega
      have hne2 : ¬ tb = wr.heap.size + 1 := by omega
      have hwtb : w.heap.size < tb := by have := HTB.out; omega
      clear hnt yf hNN
      go_wp2_with fail
      obtain ⟨W0, hW0⟩ : ∃ W0, W0 = (wr.setCell ⟨tb, 2, none⟩ (.slice (some ⟨wr.heap.size, 0, none⟩) NN NN)).setCell ⟨tb, 3, none⟩ (.slice (some ⟨wr.heap.size + 1, 0, none⟩) NN NN) := ⟨_, rfl⟩
      rw [← hW0]
      have hsz0 : W0.heap.size = wr.heap.size := by rw [hW0]; simp [World.setCell]
      have hfar : ∀ q, q ≠ tb → W0.heap[q]? = wr.heap[q]? := fun q hq => by rw [hW0, Below.heap_setCell _ _ _ _ hq, Below.heap_setCell _ _ _ _ hq]
      have hvar : W0.heap[tb]? = some (.cells #[pv', nv, .slice (some ⟨wr.heap.size, 0, none⟩) NN NN, .slice (some ⟨wr.heap.size + 1, 0, none⟩) NN NN] 156 (0, 0)) := by rw [hW0]; exact block4_set3 (block4_set2 HNT.out.var _) _
      have hold : Below tb V W0 := by rw [hW0]; exact (HNT.out.old.setCell (p := ⟨tb, 2, none⟩) (Nat.le_refl _) _).setCell (p := ⟨tb, 3, none⟩) (Nat.le_refl _) _
      have hpo : OwnInts (tb + 1) W0 pv' (lensUp st.2.1 st.2.1.length) := ownsRow_keep HNT.out.p (fun q hq => hfar q (by have := (ownBlock_lt HNT.out.p hq).1; omega))
      have hno : OwnInts (tb + 1) W0 nv (namesUp st.2.2 st.2.1.length) := ownsRow_keep HNT.out.n (fun q hq => hfar q (by have := (ownBlock_lt HNT.out.n hq).1; omega))
      clear hW0
      have hbA := Joins.below_alloc2 W0 (.cells (madeCells #[.int .i64 0] NN) 3) (.cells (madeCells #[.bool false] NN) 4)
      have el1 : lensUp st.2.1 st.2.1.length = lensOf st := by rw [lensUp_take st _ (Nat.le_refl _), ← lensOf_len st, List.take_length]
      have en1 : namesUp st.2.2 st.2.1.length = st.2.2 := by rw [← HL4.out, namesUp_take _ _ (Nat.le_refl _), List.take_length]
      rw [el1] at hpo
      rw [en1] at hno
      have hr1 : ((W0.alloc (.cells (madeCells #[.int .i64 0] NN) 3)).alloc (.cells (madeCells #[.bool false] NN) 4)).rowIs wr.heap.size 3 NN (fun _ => .int .i64 0) := by
        have h := World.rowIs_made W0 (.int .i64 0) NN 3
        rw [hsz0] at h
        exact h.alloc _
      have hr2 : ((W0.alloc (.cells (madeCells #[.int .i64 0] NN) 3)).alloc (.cells (madeCells #[.bool false] NN) 4)).rowIs (wr.heap.size + 1) 4 NN (fun _ => .bool false) := by
        have h := World.rowIs_made (W0.alloc (.cells (madeCells #[.int .i64 0] NN) 3)) (.bool false) NN 4
        rw [show (W0.alloc (.cells (madeCells #[.int .i64 0] NN) 3)).heap.size = wr.heap.size + 1 by simp [hsz0]] at h
        exact h
      have hpl : ∀ q, pv'.ownBlock = some q ∨ nv.ownBlock = some q → q ≠ wr.heap.size ∧ q ≠ wr.heap.size + 1 := fun q hq => by
        have : q < wr.heap.size := by
          rcases hq with hq | hq
          · exact (ownBlock_lt HNT.out.p hq).2
          · exact (ownBlock_lt HNT.out.n hq).2
        omega
      go_ret
      refine ⟨tb, wr.heap.size, wr.heap.size + 1, pv', nv, rfl, ?_, by omega, by omega, ?_⟩
      · refine ⟨?_, (hpo.below hbA).le (by omega), (hno.below hbA).le (by omega), ?_, ?_, fun d hd e => by simp at e, hne1, hne2, by omega, hpl⟩
        · rw [HNN.out]; exact blockLater hbA hvar
        · rw [HNN.out]; exact hr1
        · rw [HNN.out]; exact hr2
      · exact (HBV.out.trans (hold.mono (by omega))).trans (hbA.mono (by omega))
end Go.Proofs.YtmjjigdnoiphbaaDoor
