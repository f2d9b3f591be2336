/-
  WHAT IS KNOWN, IN A MAP; TASKS, ON A STACK OF CLOSURES.
-/
import Derived.Test.YtmjjigdnoiphbabSr1
namespace Go.Proofs.Ytmjjigdnoiphbab
open Go.RowKit Go.Deep Go.Maps
set_option linter.unusedVariables false

abbrev DU : Type := DataW Unit
/-- the map of what is known, as data -/
structure KData (st : St) (kn : Kn) (D : DU) : Prop where
  keys : ∃ L, D = .map L ∧ L.Pairwise (fun p q => p.1 ≠ q.1) ∧ ∀ p, p ∈ L → ∃ d, PV st d ∧ keyOf Try.prog 59 (pv d) = some p.1
  vals : ∀ d, PV st d → ∀ kl, keyOf Try.prog 59 (pv d) = some kl → D.atKey kl (.lit (.int .i64 0)) = .lit (.int .i64 (kn d))
def KnownAt (st : St) (w : World) (mb : Nat) (kn : Kn) : Prop := ∃ D : DU, w.ownsMap Try.prog 59 (plainElem Try.prog 94) mb 100000 D ∧ KData st kn D

theorem pv_inj {st : St} (hs : SoSt st) {d e : Pr} (hd : PV st d) (he : PV st e) (h : pv d = pv e) : e = d := by
  refine (same5_iff hs hd he).1 ?_
  simp only [pv, pc5, Value.agg.injEq, Array.mk.injEq, List.cons.injEq, Value.int.injEq, true_and, and_true] at h
  simp only [same5, Bool.and_eq_true, decide_eq_true_eq]
  omega
theorem PV.key {st : St} (hs : SoSt st) {d : Pr} (h : PV st d) : ∃ kl, keyOf Try.prog 59 (pv d) = some kl := keyOf_pv (fun i _ => h.lt hs i)

theorem nodup_nat : ∀ {l m : List Nat}, l.Nodup → (∀ x, x ∈ l → x ∈ m) → l.length ≤ m.length
  | [], _, _, _ => Nat.zero_le _
  | x :: l, m, hn, hs => by
    have hx : x ∈ m := hs x (by simp)
    rw [List.nodup_cons] at hn
    have := nodup_nat (m := m.erase x) hn.2 (fun y hy => (List.mem_erase_of_ne (fun e => hn.1 (by rw [← e]; exact hy))).2 (hs y (by simp [hy])))
    rw [List.length_erase_of_mem hx] at this
    have h1 : 0 < m.length := List.length_pos_of_mem hx
    simp only [List.length_cons]
    omega
/-- there are no more keys than ways to have come so far -/
theorem keys_few {st : St} (hs : SoSt st) : ∀ (L : List (Lit × DU)), L.Pairwise (fun p q => p.1 ≠ q.1) → (∀ p, p ∈ L → ∃ d, PV st d ∧ keyOf Try.prog 59 (pv d) = some p.1) →
    ∃ l : List Nat, l.length = L.length ∧ l.Nodup ∧ (∀ x, x ∈ l → ∃ p, p ∈ L ∧ ∃ d, PV st d ∧ keyOf Try.prog 59 (pv d) = some p.1 ∧ x = idxUp st.2.1 d st.2.1.length)
  | [], _, _ => ⟨[], rfl, List.nodup_nil, fun x hx => by simp at hx⟩
  | p :: L, hp, hk => by
    obtain ⟨h1, h2⟩ := List.pairwise_cons.1 hp
    obtain ⟨l, e1, e2, e3⟩ := keys_few hs L h2 (fun q hq => hk q (by simp [hq]))
    obtain ⟨d, hd, hkd⟩ := hk p (by simp)
    refine ⟨idxUp st.2.1 d st.2.1.length :: l, by simp [e1], List.nodup_cons.2 ⟨fun hm => ?_, e2⟩, fun x hx => ?_⟩
    · obtain ⟨q, hq, e, he, hke, hix⟩ := e3 _ hm
      have hde : ∀ i, d i = e i := fun i => by
        by_cases hi : i < st.2.1.length
        · exact idx_inj hd.ok he.ok _ (Nat.le_refl _) hix i hi
        · rw [hd.out i (by omega), he.out i (by omega)]
      have : d = e := funext hde
      subst this
      rw [hkd] at hke
      exact h1 q hq (Option.some.inj hke)
    · rcases List.mem_cons.1 hx with rfl | hx
      · exact ⟨p, by simp, d, hd, hkd, rfl⟩
      · obtain ⟨q, hq, r⟩ := e3 x hx
        exact ⟨q, by simp [hq], r⟩
theorem KData.few {st : St} (hs : SoSt st) {kn : Kn} {L : List (Lit × DU)} (h : KData st kn (.map L)) : L.length ≤ 100000 := by
  obtain ⟨L', e, h1, h2⟩ := h.keys
  cases e
  obtain ⟨l, e1, e2, e3⟩ := keys_few hs L h1 h2
  have := nodup_nat (m := List.range (prodUp st.2.1 st.2.1.length)) e2 (fun x hx => by
    obtain ⟨p, _, d, hd, _, rfl⟩ := e3 x hx
    exact List.mem_range.2 (idx_lt hd.ok _ (Nat.le_refl _)))
  rw [List.length_range] at this
  have := prod_small hs (Nat.le_refl st.2.1.length)
  omega

theorem KnownAt.look {st : St} (hs : SoSt st) {w : World} {mb : Nat} {kn : Kn} (h : KnownAt st w mb kn) {d : Pr} (hd : PV st d) :
    (Instr.lookup 87 (.map (some mb)) (pv d) false).run Try.prog w = .ok (.int .i64 (kn d)) w := by
  obtain ⟨D, ho, hD⟩ := h
  obtain ⟨kl, hk⟩ := hd.key hs
  obtain ⟨c, h1, h2, _⟩ := ho.lookup_int prKeyed Try.underlying87 Try.underlying94 (zeroVerdict w) hk
  rw [hD.vals d hd kl hk] at h2
  simp only [DataW.lit.injEq, Lit.int.injEq, true_and] at h2
  rw [h1, h2]
theorem KnownAt.put {st : St} (hs : SoSt st) {w : World} {mb : Nat} {kn : Kn} (h : KnownAt st w mb kn) {d : Pr} (hd : PV st d) {x : Int} (hx : x = 1 ∨ x = 2) :
    ∃ w', (Instr.mapUpdate 87 (.map (some mb)) (pv d) (.int .i64 x)).run Try.prog w = .ok () w' ∧ KnownAt st w' mb (setK kn d x) ∧ w.grownBy w' (some mb) := by
  obtain ⟨D, ho, hD⟩ := h
  obtain ⟨kl, hk⟩ := hd.key hs
  have hwf : (Lit.int .i64 x).wf = true := by rcases hx with rfl | rfl <;> decide
  obtain ⟨w', h1, h2, h3⟩ := ho.update prKeyed Try.underlying87 (by unfold maxLen; omega) hk (plainElem_int Try.underlying94 hwf)
  have hD' : KData st (setK kn d x) (D.put kl (.lit (.int .i64 x))) := by
    obtain ⟨L, rfl, hp, hL⟩ := hD.keys
    obtain ⟨L', e, hp'⟩ := Tidy.put (k := kl) ⟨L, rfl, hp⟩ (prKeyed.key hk) (.lit (.int .i64 x))
    refine ⟨⟨L', e, hp', fun p hp => ?_⟩, fun e' he' kl' hkl' => ?_⟩
    · have e2 : L' = DataW.insert (kl, .lit (.int .i64 x)) (L.filter fun p => !p.1.sameKey kl) := by
        have : DataW.map L' = DataW.map (DataW.insert (kl, .lit (.int .i64 x)) (L.filter fun p => !p.1.sameKey kl)) := e.symm
        exact DataW.map.inj this
      rw [e2] at hp
      rcases ChangeMaps.mem_insert_iff.1 hp with rfl | hp
      · exact ⟨d, hd, hk⟩
      · exact hL p (List.mem_filter.1 hp).1
    · by_cases hed : e' = d
      · subst hed
        rw [hk] at hkl'
        cases hkl'
        rw [atKey_put_same ⟨L, rfl⟩ (prKeyed.key hk), setK_same]
      · have hne : kl' ≠ kl := fun ee => by
          subst ee
          exact hed (pv_inj hs hd he' (prKeyed.inj hk hkl'))
        rw [atKey_put_other hne, setK_other hs hd he' hed]
        exact hD.vals e' he' kl' hkl'
  refine ⟨w', h1, ⟨_, ?_, hD'⟩, h3⟩
  obtain ⟨es, clock, g1, g2, g3, g4⟩ := h2
  refine ⟨es, clock, g1, g2, ?_, g4⟩
  rw [g4] at hD'
  have := hD'.few hs
  rw [length_sorted] at this
  simpa using this
theorem KnownAt.kept {st : St} {w w' : World} {mb : Nat} {kn : Kn} (h : KnownAt st w mb kn) (hb : w'.heap[mb]? = w.heap[mb]?) : KnownAt st w' mb kn := by
  obtain ⟨D, ⟨es, clock, g1, r⟩, hD⟩ := h
  exact ⟨D, ⟨es, clock, hb.trans g1, r⟩, hD⟩
theorem KnownAt.lt {st : St} {w : World} {mb : Nat} {kn : Kn} (h : KnownAt st w mb kn) : mb < w.heap.size := by
  obtain ⟨D, ho, _⟩ := h
  exact ho.lt
end Go.Proofs.Ytmjjigdnoiphbab
