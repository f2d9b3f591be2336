/-
  A STATE THAT IS BEING DRAWN: where it lies.
-/
import Derived.Test.YtmjjigdnoiphbaaDoorJ4
import Derived.Test.YtmjjigdnoiphbaaDoorL2
import Derived.Test.YtmjjigdnoiphbaaDoorW22
namespace Go.Proofs.YtmjjigdnoiphbaaDoor
open Go.RowKit Go.Deep
set_option linter.unusedVariables false

theorem chg_of_low {H : Nat} {w w' : World} (hb : Below H w w') : Chg (fun b => H ≤ b) w w' := ⟨hb.os, hb.tape, hb.output, hb.size, fun k hk hf => hb.block k (by omega)⟩
theorem CurF.low {w w' : World} {cb H : Nat} {a : Option Addr} {B : List Int} {q : Nat} {c : Cu} (h : CurF w cb a B q c) (hb : Below H w w') (hH : cb < H) : CurF w' cb a B q c := h.keep (chg_of_low hb) (fun b hb => by omega)
theorem Chg.low {F : Nat → Prop} {a w w' : World} (h : Chg F a w) (hb : Below a.heap.size w w') : Chg F a w' := ⟨hb.os.trans h.os, hb.tape.trans h.tape, hb.output.trans h.output, Nat.le_trans h.size hb.size, fun k hk hf => (hb.block k hk).trans (h.block k hk hf)⟩
theorem Chg.lowTo {F : Nat → Prop} {a w w' : World} {H : Nat} (h : Chg F a w) (hb : Below H w w') (hH : a.heap.size ≤ H) : Chg F a w' := h.low (hb.mono hH)
theorem roomsD_succ (B : List Int) (i : Nat) (acc : List Int) (c : Cu) : roomsD B (i + 1) acc c = roomsD B i (acc ++ [1 + (pk B 5 c).1 / 4]) (pk B 5 c).2 := rfl

/-- the variable s is block b5; its lists lie behind it, apart from one another -/
structure Drw (b5 : Nat) (rv : Value) (rs : List Int) (ts : List Tr) (ns : List Int) (w : World) (tv nv : Value) (pa : Nat → Option Addr) (pc : Nat → Nat) : Prop where
  mov : Mov w b5 rv ts ns w tv nv pa pc
  rm : OwnInts (b5 + 1) w rv rs
  apt : ∀ k, rv.ownBlock = some k → ¬ FG tv pa ts.length k
  apn : ∀ k, rv.ownBlock = some k → nv.ownBlock ≠ some k

section
variable {b5 : Nat} {rv : Value} {rs : List Int} {ts : List Tr} {ns : List Int} {w w' wa : World} {tv nv : Value} {pa : Nat → Option Addr} {pc : Nat → Nat}
theorem Drw.keep (h : Drw b5 rv rs ts ns w tv nv pa pc) (hz : w.heap.size ≤ w'.heap.size) (hb : ∀ k, k < w.heap.size → b5 ≤ k → w'.heap[k]? = w.heap[k]?) : Drw b5 rv rs ts ns w' tv nv pa pc :=
  ⟨⟨(hb b5 (Array.getElem?_eq_some_iff.1 h.mov.var).1 (Nat.le_refl _)).trans h.mov.var, h.mov.tr.keep hz (fun k hk e => hb k hk (by have := (h.mov.tr.FG_lo e).1; omega)), h.mov.nm.far (fun k hk => hb k (h.mov.nm.own hk).2 (by have := (h.mov.nm.own hk).1; omega)), h.mov.ap, Chg.refl _ _⟩,
    h.rm.far (fun k hk => hb k (h.rm.own hk).2 (by have := (h.rm.own hk).1; omega)), h.apt, h.apn⟩
theorem Drw.cur {cb : Nat} (h : Drw b5 rv rs ts ns w tv nv pa pc) (hc : Chg (fun b => b = cb) w w') (hcb : cb < b5) : Drw b5 rv rs ts ns w' tv nv pa pc :=
  h.keep hc.size (fun k hk e => hc.block k hk (by omega))
theorem Drw.below (h : Drw b5 rv rs ts ns w tv nv pa pc) (hb : Below w.heap.size w w') : Drw b5 rv rs ts ns w' tv nv pa pc := h.keep hb.size (fun k hk _ => hb.block k hk)
theorem Drw.lt (h : Drw b5 rv rs ts ns w tv nv pa pc) : b5 < w.heap.size := (Array.getElem?_eq_some_iff.1 h.mov.var).1
theorem Drw.rvNe (h : Drw b5 rv rs ts ns w tv nv pa pc) : rv.ownBlock ≠ some b5 := fun e => by have := (h.rm.own e).1; omega
theorem Drw.at (h : Drw b5 rv rs ts ns w tv nv pa pc) : ∃ a1 c1 a2 c2 a3 c3, rv = .slice a1 rs.length c1 ∧ tv = .slice a2 ts.length c2 ∧ nv = .slice a3 ns.length c3 ∧ StateAt w (.agg #[rv, tv, nv]) (rs, ts, ns) := by
  obtain ⟨a1, c1, e1, -⟩ := h.rm.at
  obtain ⟨a2, c2, e2, hc2, hoT, -⟩ := h.mov.tr.ownT
  obtain ⟨a3, c3, e3, -⟩ := h.mov.nm.at
  exact ⟨a1, c1, a2, c2, a3, c3, e1, e2, e3, _, _, _, rfl, h.rm.at, by rw [e2]; exact hoT.at (fun _ _ => rfl) (fun _ _ => rfl) (fun _ _ => rfl) (fun _ _ _ _ => rfl), h.mov.nm.at⟩
theorem Drw.snocT (h : Drw b5 rv rs ts ns w tv nv pa pc) (hba : Below w.heap.size w wa) {t : Tr} {a : Option Addr} {c g cap : Nat}
    (hp : OwnF w a t.2.1.length (el t.2.1)) (hcap : t.2.1.length ≤ c) (hlo : ∀ k, FA a k → b5 + 1 ≤ k ∧ k < w.heap.size ∧ ¬ FG tv pa ts.length k ∧ nv.ownBlock ≠ some k ∧ rv.ownBlock ≠ some k)
    (hown : w'.ownsRow (b5 + 1) 35 3 (.slice (some ⟨g, 0, none⟩) (ts.length + 1) cap) (ts.length + 1) (trVals ts pa pc ++ [.int .i64 t.1, .slice a t.2.1.length c, .int .i64 t.2.2]))
    (hgrow : wa.grownBy w' tv.ownBlock) (hat : tv.ownBlock = some g ∨ wa.heap.size ≤ g) :
    Drw b5 rv rs (ts ++ [t]) ns (w'.setCell ⟨b5, 1, none⟩ (.slice (some ⟨g, 0, none⟩) (ts.length + 1) cap)) (.slice (some ⟨g, 0, none⟩) (ts.length + 1) cap) nv (upd pa ts.length a) (upd pc ts.length c) ∧ Below b5 w (w'.setCell ⟨b5, 1, none⟩ (.slice (some ⟨g, 0, none⟩) (ts.length + 1) cap)) := by
  have hm := h.mov.snocT hba hp hcap (fun k hk => let ⟨u1, u2, u3, u4, _⟩ := hlo k hk; ⟨u1, u2, u3, u4⟩) hown hgrow hat
  have hrm : ∀ k, rv.ownBlock = some k → (w'.setCell ⟨b5, 1, none⟩ (.slice (some ⟨g, 0, none⟩) (ts.length + 1) cap)).heap[k]? = w.heap[k]? := fun k hk => by
    have u := (h.rm.own hk).2
    rw [Below.heap_setCell _ _ _ _ (fun e => by simp only at e; exact h.rvNe (e ▸ hk)), hgrow.block k (Nat.lt_of_lt_of_le u hba.size) (fun e => h.apt k hk (Or.inl e.symm)), hba.block k u]
  refine ⟨⟨⟨hm.var, hm.tr, hm.nm, hm.ap, Chg.refl _ _⟩, h.rm.far hrm, fun k hk e => ?_, h.apn⟩, hm.old.below (Nat.le_of_lt h.lt) (fun k hk e => by omega)⟩
  have u := (h.rm.own hk).2
  rcases e with e | ⟨i, hi, e⟩
  · simp [Value.ownBlock] at e
    subst e
    rcases hat with hat | hat
    · exact h.apt g hk (Or.inl hat)
    · have := hba.size; omega
  · simp only [List.length_append, List.length_singleton] at hi
    by_cases e2 : i < ts.length
    · rw [upd_other _ _ (by omega)] at e
      exact h.apt k hk (Or.inr ⟨i, e2, e⟩)
    · obtain rfl : i = ts.length := by omega
      rw [upd_same] at e
      exact (hlo k e).2.2.2.2 hk
theorem Drw.snocN (h : Drw b5 rv rs ts ns w tv nv pa pc) (hba : Below w.heap.size w wa) {x : Int} {g cap : Nat}
    (hown : w'.ownsRow (b5 + 1) 3 1 (.slice (some ⟨g, 0, none⟩) (ns.length + 1) cap) (ns.length + 1) (ns.map (Value.int .i64) ++ [.int .i64 x]))
    (hgrow : wa.grownBy w' nv.ownBlock) (hat : nv.ownBlock = some g ∨ wa.heap.size ≤ g) :
    Drw b5 rv rs ts (ns ++ [x]) (w'.setCell ⟨b5, 2, none⟩ (.slice (some ⟨g, 0, none⟩) (ns.length + 1) cap)) tv (.slice (some ⟨g, 0, none⟩) (ns.length + 1) cap) pa pc ∧ Below b5 w (w'.setCell ⟨b5, 2, none⟩ (.slice (some ⟨g, 0, none⟩) (ns.length + 1) cap)) := by
  have hm := h.mov.snocN hba hown hgrow hat
  have hrm : ∀ k, rv.ownBlock = some k → (w'.setCell ⟨b5, 2, none⟩ (.slice (some ⟨g, 0, none⟩) (ns.length + 1) cap)).heap[k]? = w.heap[k]? := fun k hk => by
    have u := (h.rm.own hk).2
    rw [Below.heap_setCell _ _ _ _ (fun e => by simp only at e; exact h.rvNe (e ▸ hk)), hgrow.block k (Nat.lt_of_lt_of_le u hba.size) (fun e => h.apn k hk e.symm), hba.block k u]
  refine ⟨⟨⟨hm.var, hm.tr, hm.nm, hm.ap, Chg.refl _ _⟩, h.rm.far hrm, h.apt, fun k hk e => ?_⟩, hm.old.below (Nat.le_of_lt h.lt) (fun k hk e => by omega)⟩
  have u := (h.rm.own hk).2
  simp [Value.ownBlock] at e
  subst e
  rcases hat with hat | hat
  · exact h.apn g hk hat
  · have := hba.size; omega
/-- where it lies, when all is drawn -/
theorem Drw.own (h : Drw b5 rv rs ts ns w tv nv pa pc) : ∃ L : Lies, L.val (rs, ts, ns) = .agg #[rv, tv, nv] ∧ OwnS w L (rs, ts, ns) ∧ rs.length ≤ L.rc ∧ ts.length ≤ L.tc ∧ ns.length ≤ L.nc ∧ (∀ i, i < ts.length → (tPath ts i).length ≤ L.pc i) ∧ ∀ k, L.F ts.length k → b5 + 1 ≤ k := by
  obtain ⟨ra, rc, e1, hrF, hrA⟩ := h.rm.ownF
  obtain ⟨ta, tc, e2, htc, hoT, hFT⟩ := h.mov.tr.ownT
  obtain ⟨na, nc, e3, hnF, hnA⟩ := h.mov.nm.ownF
  have hrb : ∀ k, FA ra k → rv.ownBlock = some k := fun k hk => by
    rcases h.rm.lies with ⟨e, _⟩ | ⟨g, cap, cur, e, _⟩
    · rw [e] at e1; simp only [Value.slice.injEq] at e1; rw [← e1.1] at hk; obtain ⟨o, e⟩ := hk; cases e
    · rw [e] at e1; simp only [Value.slice.injEq] at e1; rw [← e1.1] at hk; rw [e]; exact FA_ownBlock hk
  have hnb : ∀ k, FA na k → nv.ownBlock = some k := fun k hk => by
    rcases h.mov.nm.lies with ⟨e, _⟩ | ⟨g, cap, cur, e, _⟩
    · rw [e] at e3; simp only [Value.slice.injEq] at e3; rw [← e3.1] at hk; obtain ⟨o, e⟩ := hk; cases e
    · rw [e] at e3; simp only [Value.slice.injEq] at e3; rw [← e3.1] at hk; rw [e]; exact FA_ownBlock hk
  refine ⟨⟨ra, rc, ta, tc, na, nc, pa, pc⟩, by unfold Lies.val; rw [e1, e2, e3], ⟨hrF, hoT, hnF, ⟨fun k e e' => h.apt k (hrb k e) (hFT k e').2.2, fun k e e' => h.mov.ap k (hnb k e) (hFT k e').2.2, fun k e e' => h.apn k (hrb k e) (hnb k e'), fun k e => ?_⟩⟩, ?_, htc, ?_, h.mov.tr.capOk, fun k e => ?_⟩
  · rcases e with e | e | e
    · exact (hrA k e).2
    · exact (hnA k e).2
    · exact (hFT k e).2.1
  · have := h.rm; rw [e1] at this; exact this.capOk
  · have := h.mov.nm; rw [e3] at this; exact this.capOk
  · rcases e with e | e | e
    · exact (hrA k e).1
    · exact (hnA k e).1
    · exact (hFT k e).1
end
end Go.Proofs.YtmjjigdnoiphbaaDoor
