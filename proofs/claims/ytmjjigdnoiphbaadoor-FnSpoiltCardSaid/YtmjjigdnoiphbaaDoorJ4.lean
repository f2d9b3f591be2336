import Derived.Test.YtmjjigdnoiphbaaDoorK9
import Derived.Laws.Bits64b
import Derived.Test.YtmjjigdnoiphbaaDoorJ2
/-
  THE DRAWS: the cursor over bytes (spec.l5Cur): next, pick.
-/
namespace Go.Proofs.YtmjjigdnoiphbaaDoor
open Go.RowKit Go.Deep
set_option linter.unusedVariables false

/-- the bytes that are drawn from, as they lie in w -/
def BytesAt (w : World) (a : Option Addr) (n : Nat) : Prop :=
  n ≤ 1048576 ∧ ∀ i : Nat, i < n → ∃ b off x, a = some ⟨b, off, none⟩ ∧ w.cell? ⟨b, off + i, none⟩ = some (.int .u8 x) ∧ 0 ≤ x ∧ x ≤ 255

/-- the cursor in block cb: k draws are behind it; its bytes lie ahead of it -/
structure CurAt (w : World) (cb : Nat) (a : Option Addr) (n q : Nat) (k : Nat) : Prop where
  var : ∃ s : Int, w.heap[cb]? = some (.cells #[.slice a n q, .int .i64 (k : Int), .int .u64 s] 50 (0, 0))
  bytes : BytesAt w a n
  ahead : ∀ b off s, a = some ⟨b, off, s⟩ → b < cb

theorem BytesAt.chg {F : Nat → Prop} {w w' : World} {a : Option Addr} {n : Nat} (h : BytesAt w a n) (hc : Chg F w w') (hF : ∀ b off s, a = some ⟨b, off, s⟩ → ¬ F b) : BytesAt w' a n := by
  refine ⟨h.1, fun i hi => ?_⟩
  obtain ⟨b, off, x, e, hx, h0, h1⟩ := h.2 i hi
  refine ⟨b, off, x, e, ?_, h0, h1⟩
  have hb : b < w.heap.size := by
    cases hh : w.heap[b]? with
    | none => simp [World.cell?, hh] at hx
    | some o => exact (Array.getElem?_eq_some_iff.1 hh).1
  have := hc.block b hb (hF b off none e)
  simpa [World.cell?, this] using hx

theorem CurAt.after {w w' : World} {cb : Nat} {a : Option Addr} {n q k k' : Nat} {s : Int} (h : CurAt w cb a n q k) (hc : Chg (fun b => b = cb) w w') (hv : w'.heap[cb]? = some (.cells #[.slice a n q, .int .i64 (k' : Int), .int .u64 s] 50 (0, 0))) : CurAt w' cb a n q k' :=
  ⟨⟨s, hv⟩, h.bytes.chg hc (fun b off s e hb => absurd (h.ahead b off s e) (by omega)), h.ahead⟩

/-- what is done elsewhere leaves the cursor as it is -/
theorem CurAt.keep {F : Nat → Prop} {w w' : World} {cb : Nat} {a : Option Addr} {n q k : Nat} (h : CurAt w cb a n q k) (hc : Chg F w w') (hF : ∀ b, b ≤ cb → ¬ F b) : CurAt w' cb a n q k := by
  obtain ⟨s, hv⟩ := h.var
  exact ⟨⟨s, by rw [hc.block cb (Array.getElem?_eq_some_iff.1 hv).1 (hF cb (Nat.le_refl _))]; exact hv⟩, h.bytes.chg hc (fun b off s e => hF b (Nat.le_of_lt (h.ahead b off s e))), h.ahead⟩

theorem block3_put {w : World} {b : Nat} {x y z : Value} {t : TypeId} (h : w.heap[b]? = some (.cells #[x, y, z] t (0, 0))) (u v : Value) :
    ((w.setCell ⟨b, 1, none⟩ u).setCell ⟨b, 2, none⟩ v).heap[b]? = some (.cells #[x, u, v] t (0, 0)) ∧ ((w.setCell ⟨b, 2, none⟩ v).setCell ⟨b, 1, none⟩ u).heap[b]? = some (.cells #[x, u, v] t (0, 0)) := by
  have h1 := Joins.block_setCell (i := 1) h u
  have h2 := Joins.block_setCell (i := 2) h v
  have h3 := Joins.block_setCell (i := 2) h1 v
  have h4 := Joins.block_setCell (i := 1) h2 u
  exact ⟨by simpa using h3, by simpa using h4⟩

theorem low_byte (x : Int) (h0 : 0 ≤ x) (h1 : x < 18446744073709551616) : 0 ≤ bits .and .u64 x 255 ∧ bits .and .u64 x 255 ≤ 255 := by
  obtain ⟨m, rfl⟩ := Int.eq_ofNat_of_zero_le h0
  rw [show (255 : Int) = ((255 : Nat) : Int) from rfl, bits_and_u64_nat m 255 (by omega) (by omega)]
  have := @Nat.and_le_right m 255
  omega

set_option maxHeartbeats 1000000 in
theorem next_any {w : World} {cb : Nat} {a : Option Addr} {n q k : Nat} (h : CurAt w cb a n q k) (hk : k ≤ 1000000) :
    Calls Tryd.prog 88 #[.pointer (some ⟨cb, 0, none⟩)] w fun e w' => ∃ x : Int, e = .returned (.int .i64 x) ∧ 0 ≤ x ∧ x ≤ 255 ∧ CurAt w' cb a n q (k + 1) ∧ Chg (fun b => b = cb) w w' := by
  have HH := hide h
  obtain ⟨s, hv⟩ := h.var
  obtain ⟨hn, hby⟩ := h.bytes
  have HV := hide hv
  have hcl : cb < w.heap.size := (Array.getElem?_eq_some_iff.1 hv).1
  have c0 : w.cell? ⟨cb, 0, none⟩ = some (.slice a n q) := by simp [World.cell?, hv]
  have c1 : w.cell? ⟨cb, 1, none⟩ = some (.int .i64 (k : Int)) := by simp [World.cell?, hv]
  have c2 : w.cell? ⟨cb, 2, none⟩ = some (.int .u64 s) := by simp [World.cell?, hv]
  have f0 : ∀ o, w.frozen? ⟨cb, o, none⟩ = false := fun o => frozen_of_row w cb o _ 50 hv
  have f1 := f0 1
  have f2 := f0 2
  by_cases hkn : k < n
  · obtain ⟨b, off, x, rfl, hc, h0, h1⟩ := hby k hkn
    have hbc := h.ahead b off none rfl
    have hki : (k : Int) < (n : Int) := by omega
    have hk0 : (0 : Int) ≤ (k : Int) := by omega
    have hwk : IntKind.i64.wrap ((k : Int) + 1) = (k : Int) + 1 := by rw [IntKind.wrap_i64]; omega
    have hne : b ≠ cb := by omega
    clear h hby hv
    go_enter Tryd.func88, Tryd.ntmps88
    go_wp2_with fail
    go_region
    go_wp2_with fail
    go_region
    go_wp2_with fail
    go_ret
    have HCh := (((Chg.refl (fun b => b = cb) w).setCell (p := ⟨cb, 1, none⟩) rfl (.int .i64 ((k : Int) + 1))).setCell (p := ⟨cb, 2, none⟩) rfl (.int .u64 (IntKind.u64.wrap (IntKind.u64.wrap (IntKind.u64.wrap (s * 6364136223846793005) + x) + 1442695040888963407))))
    have HC2 := HCh.trans (Chg.of_below (Joins.below_draws _ _ 2))
    exact ⟨x, rfl, h0, h1, HH.out.after HC2 (by exact (block3_put HV.out _ _).1), HC2⟩
  · have hki : ¬ (k : Int) < (n : Int) := by omega
    have hwk : IntKind.i64.wrap ((k : Int) + 1) = (k : Int) + 1 := by rw [IntKind.wrap_i64]; omega
    clear h hby hv
    go_enter Tryd.func88, Tryd.ntmps88
    go_wp2_with fail
    go_region
    go_wp2_with fail
    go_ret
    have HCh := (((Chg.refl (fun b => b = cb) w).setCell (p := ⟨cb, 2, none⟩) rfl (.int .u64 (IntKind.u64.wrap (IntKind.u64.wrap (s * 6364136223846793005) + 1442695040888963407)))).setCell (p := ⟨cb, 1, none⟩) rfl (.int .i64 ((k : Int) + 1)))
    have HC2 := HCh.trans (Chg.of_below (Joins.below_draws _ _ 1))
    have hw0 := wrap_u64_nonneg (IntKind.u64.wrap (s * 6364136223846793005) + 1442695040888963407)
    have hw1 : IntKind.u64.wrap (IntKind.u64.wrap (s * 6364136223846793005) + 1442695040888963407) < 18446744073709551616 := by
      simp only [IntKind.wrap, IntKind.bits, IntKind.signed]; simp; omega
    have hlb := low_byte (IntKind.u64.wrap (IntKind.u64.wrap (s * 6364136223846793005) + 1442695040888963407) / 1099511627776) (by omega) (by omega)
    refine ⟨_, rfl, ?_, ?_, HH.out.after HC2 (by exact (block3_put HV.out _ _).2), HC2⟩
    · simp only [wrap64]; omega
    · simp only [wrap64]; omega
end Go.Proofs.YtmjjigdnoiphbaaDoor

/-
  THE DRAWS AS MATHEMATICS: what is drawn is a function of the bytes. No program here.
-/
namespace Go.Proofs.YtmjjigdnoiphbaaDoor
open Go.RowKit Go.Deep
set_option linter.unusedVariables false

/-- how many draws are behind the cursor, and its seed -/
abbrev Cu : Type := Nat × Int
def seedB (s x : Int) : Int := IntKind.u64.wrap (IntKind.u64.wrap (IntKind.u64.wrap (s * 6364136223846793005) + x) + 1442695040888963407)
def seedE (s : Int) : Int := IntKind.u64.wrap (IntKind.u64.wrap (s * 6364136223846793005) + 1442695040888963407)
def nxt (B : List Int) (c : Cu) : Int × Cu :=
  if c.1 < B.length then (el B c.1, c.1 + 1, seedB c.2 (el B c.1)) else (wrap64 (bits .and .u64 (seedE c.2 / 1099511627776) 255), c.1 + 1, seedE c.2)
def pk (B : List Int) (m : Int) (c : Cu) : Int × Cu :=
  if m ≤ 1 then (0, c) else if 200 < m then (((nxt B c).1 * 256 + (nxt B (nxt B c).2).1) % m, (nxt B (nxt B c).2).2) else ((nxt B c).1 % m, (nxt B c).2)
/-- bytes -/
def isBytes (B : List Int) : Prop := B.length ≤ 1048576 ∧ ∀ i, i < B.length → 0 ≤ el B i ∧ el B i ≤ 255
theorem nxt_k (B : List Int) (c : Cu) : (nxt B c).2.1 = c.1 + 1 := by unfold nxt; split <;> rfl
theorem pk_k (B : List Int) (m : Int) (c : Cu) : c.1 ≤ (pk B m c).2.1 ∧ (pk B m c).2.1 ≤ c.1 + 2 := by
  unfold pk
  split
  · exact ⟨Nat.le_refl _, Nat.le_add_right _ _⟩
  · split
    · rw [nxt_k, nxt_k]; omega
    · rw [nxt_k]; omega
theorem pk_lo (B : List Int) (m : Int) (c : Cu) : 0 ≤ (pk B m c).1 := by
  unfold pk
  split
  · exact Int.le_refl _
  · split <;> exact Int.emod_nonneg _ (by omega)
theorem pk_hi (B : List Int) {m : Int} (c : Cu) (h : 1 ≤ m) : (pk B m c).1 < m := by
  unfold pk
  split
  · show (0 : Int) < m; omega
  · split <;> exact Int.emod_lt_of_pos _ (by omega)

/-- the rooms -/
def roomsD (B : List Int) : Nat → List Int → Cu → List Int × Cu
  | 0, acc, c => (acc, c)
  | i + 1, acc, c => roomsD B i (acc ++ [1 + (pk B 5 c).1 / 4]) (pk B 5 c).2
/-- a path -/
def goesD (B : List Int) (n kind way at' : Int) (c : Cu) : Int × Cu := if kind = 0 then ((at' + 1 + (pk B (n - 1) c).1) % n, (pk B (n - 1) c).2) else ((at' + way) % n, c)
def pathD (B : List Int) (n kind way : Int) : Nat → Int → List Int → Cu → List Int × Cu
  | 0, at', acc, c => (acc, c)
  | m + 1, at', acc, c => pathD B n kind way m (goesD B n kind way at' c).1 (acc ++ [(goesD B n kind way at' c).1]) (goesD B n kind way at' c).2
/-- the trains -/
def trainsD (B : List Int) (rooms : List Int) (n kind : Int) : Nat → List Tr → List Int → Int → Cu → (List Tr × List Int) × Cu
  | 0, ts, ns, name, c => ((ts, ns), c)
  | k + 1, ts, ns, name, c =>
    let a := pk B n c
    let y := pk B 5 a.2
    if el rooms a.1.toNat ≤ (there ts a.1 : Int) then trainsD B rooms n kind k ts ns name y.2
    else
      let wy := pk B 2 y.2
      let m := pk B 6 wy.2
      let p := pathD B n kind (1 + wy.1 * (n - 2)) m.1.toNat a.1 [] m.2
      let nm := pk B 3 p.2
      trainsD B rooms n kind k (ts ++ [(a.1, p.1, 1 + y.1)]) (ns ++ [name]) (name + (1 + nm.1)) nm.2
def stateD (B : List Int) (c : Cu) : St × Cu :=
  let n := pk B 6 c
  let r := roomsD B (3 + n.1).toNat [] n.2
  let nm := pk B 4 r.2
  let kd := pk B 3 nm.2
  let k := pk B 5 kd.2
  let t := trainsD B r.1 (3 + n.1) kd.1 (1 + k.1).toNat [] [] nm.1 k.2
  ((r.1, t.1.1, t.1.2), t.2)

theorem roomsD_spec (B : List Int) : ∀ (i : Nat) (acc : List Int) (c : Cu), (roomsD B i acc c).1.length = acc.length + i ∧ ((∀ j, j < acc.length → 1 ≤ el acc j ∧ el acc j ≤ 2) → ∀ j, j < acc.length + i → 1 ≤ el (roomsD B i acc c).1 j ∧ el (roomsD B i acc c).1 j ≤ 2) ∧ (roomsD B i acc c).2.1 ≤ c.1 + 2 * i
  | 0, acc, c => ⟨rfl, fun h j hj => h j (by omega), by simp [roomsD]⟩
  | i + 1, acc, c => by
    obtain ⟨h1, h2, h3⟩ := roomsD_spec B i (acc ++ [1 + (pk B 5 c).1 / 4]) (pk B 5 c).2
    have hk := pk_k B 5 c
    have hlo := pk_lo B 5 c
    have hhi := pk_hi B c (show (1 : Int) ≤ 5 by omega)
    unfold roomsD
    refine ⟨by rw [h1]; simp; omega, fun h j hj => h2 (fun j hj => ?_) j (by simp; omega), by omega⟩
    by_cases e : j < acc.length
    · rw [show el (acc ++ [1 + (pk B 5 c).1 / 4]) j = el acc j by unfold el; rw [List.getElem?_append_left e]]
      exact h j e
    · obtain rfl : j = acc.length := by simp at hj; omega
      rw [show el (acc ++ [1 + (pk B 5 c).1 / 4]) acc.length = 1 + (pk B 5 c).1 / 4 by simp [el]]
      omega
theorem goesD_in (B : List Int) {n : Int} (kind way at' : Int) (c : Cu) (hn : 3 ≤ n) : 0 ≤ (goesD B n kind way at' c).1 ∧ (goesD B n kind way at' c).1 < n ∧ (goesD B n kind way at' c).2.1 ≤ c.1 + 2 := by
  unfold goesD
  split
  · have := pk_k B (n - 1) c
    exact ⟨Int.emod_nonneg _ (by omega), Int.emod_lt_of_pos _ (by omega), this.2⟩
  · exact ⟨Int.emod_nonneg _ (by omega), Int.emod_lt_of_pos _ (by omega), by show c.1 ≤ _; omega⟩
theorem pathD_len (B : List Int) (n kind way : Int) : ∀ (m : Nat) (at' : Int) (acc : List Int) (c : Cu), (pathD B n kind way m at' acc c).1.length = acc.length + m
  | 0, at', acc, c => rfl
  | m + 1, at', acc, c => by unfold pathD; rw [pathD_len B n kind way m]; simp; omega
theorem pathD_k (B : List Int) {n : Int} (kind way : Int) (hn : 3 ≤ n) : ∀ (m : Nat) (at' : Int) (acc : List Int) (c : Cu), (pathD B n kind way m at' acc c).2.1 ≤ c.1 + 2 * m
  | 0, at', acc, c => by simp [pathD]
  | m + 1, at', acc, c => by
    unfold pathD
    have h1 := pathD_k B kind way hn m (goesD B n kind way at' c).1 (acc ++ [(goesD B n kind way at' c).1]) (goesD B n kind way at' c).2
    have h2 := (goesD_in B kind way at' c hn).2.2
    omega
/-- what is known of trains drawn -/
structure FewT (K : Nat) (ts : List Tr) (ns : List Int) : Prop where
  len : ts.length ≤ K
  same : ns.length = ts.length
  paths : ∀ i, i < ts.length → (tPath ts i).length ≤ 5
theorem FewT.snoc {K : Nat} {ts : List Tr} {ns : List Int} (h : FewT K ts ns) (t : Tr) (x : Int) (ht : t.2.1.length ≤ 5) : FewT (K + 1) (ts ++ [t]) (ns ++ [x]) := by
  refine ⟨by have := h.len; simp; omega, by have := h.same; simp; omega, fun i hi => ?_⟩
  by_cases e : i < ts.length
  · rw [show tPath (ts ++ [t]) i = tPath ts i by unfold tPath; rw [List.getElem?_append_left e]]
    exact h.paths i e
  · obtain rfl : i = ts.length := by simp at hi; omega
    rw [show tPath (ts ++ [t]) ts.length = t.2.1 by simp [tPath]]
    exact ht
theorem trainsD_few (B : List Int) (rooms : List Int) {n : Int} (kind : Int) (hn : 3 ≤ n) : ∀ (k K : Nat) (ts : List Tr) (ns : List Int) (name : Int) (c : Cu), FewT K ts ns → FewT (K + k) (trainsD B rooms n kind k ts ns name c).1.1 (trainsD B rooms n kind k ts ns name c).1.2 ∧ (trainsD B rooms n kind k ts ns name c).2.1 ≤ c.1 + 20 * k
  | 0, K, ts, ns, name, c, h => ⟨h, by simp [trainsD]⟩
  | k + 1, K, ts, ns, name, c, h => by
    unfold trainsD
    have k1 := (pk_k B n c).2
    have k2 := (pk_k B 5 (pk B n c).2).2
    have k3 := (pk_k B 2 (pk B 5 (pk B n c).2).2).2
    have k4 := (pk_k B 6 (pk B 2 (pk B 5 (pk B n c).2).2).2).2
    have l4 := pk_lo B 6 (pk B 2 (pk B 5 (pk B n c).2).2).2
    have h4 := pk_hi B (pk B 2 (pk B 5 (pk B n c).2).2).2 (show (1 : Int) ≤ 6 by omega)
    simp only
    split
    · obtain ⟨u1, u2⟩ := trainsD_few B rooms kind hn k K ts ns name (pk B 5 (pk B n c).2).2 h
      exact ⟨⟨by have := u1.len; omega, u1.same, u1.paths⟩, by omega⟩
    · have k5 := pathD_k B kind (1 + (pk B 2 (pk B 5 (pk B n c).2).2).1 * (n - 2)) hn (pk B 6 (pk B 2 (pk B 5 (pk B n c).2).2).2).1.toNat (pk B n c).1 [] (pk B 6 (pk B 2 (pk B 5 (pk B n c).2).2).2).2
      have l5 := pathD_len B n kind (1 + (pk B 2 (pk B 5 (pk B n c).2).2).1 * (n - 2)) (pk B 6 (pk B 2 (pk B 5 (pk B n c).2).2).2).1.toNat (pk B n c).1 [] (pk B 6 (pk B 2 (pk B 5 (pk B n c).2).2).2).2
      generalize pathD B n kind (1 + (pk B 2 (pk B 5 (pk B n c).2).2).1 * (n - 2)) (pk B 6 (pk B 2 (pk B 5 (pk B n c).2).2).2).1.toNat (pk B n c).1 [] (pk B 6 (pk B 2 (pk B 5 (pk B n c).2).2).2).2 = P at *
      have k6 := (pk_k B 3 P.2).2
      obtain ⟨u1, u2⟩ := trainsD_few B rooms kind hn k (K + 1) (ts ++ [((pk B n c).1, P.1, 1 + (pk B 5 (pk B n c).2).1)]) (ns ++ [name]) (name + (1 + (pk B 3 P.2).1)) (pk B 3 P.2).2 (h.snoc _ _ (by show P.1.length ≤ 5; rw [l5]; simp; omega))
      exact ⟨⟨by have := u1.len; omega, u1.same, u1.paths⟩, by omega⟩
/-- a state drawn is small -/
structure Drawn (st : St) : Prop where
  rooms : 3 ≤ st.1.length ∧ st.1.length ≤ 8 ∧ ∀ j, j < st.1.length → 1 ≤ el st.1 j ∧ el st.1 j ≤ 2
  few : FewT 5 st.2.1 st.2.2
theorem stateD_drawn (B : List Int) (c : Cu) : Drawn (stateD B c).1 ∧ (stateD B c).2.1 ≤ c.1 + 150 := by
  have a1 := pk_lo B 6 c
  have a2 := pk_hi B c (show (1 : Int) ≤ 6 by omega)
  have a3 := (pk_k B 6 c).2
  unfold stateD
  simp only
  generalize pk B 6 c = n at *
  obtain ⟨r1, r2, r3⟩ := roomsD_spec B (3 + n.1).toNat [] n.2
  generalize roomsD B (3 + n.1).toNat [] n.2 = r at *
  have b3 := (pk_k B 4 r.2).2
  generalize pk B 4 r.2 = nm at *
  have c3 := (pk_k B 3 nm.2).2
  generalize pk B 3 nm.2 = kd at *
  have d1 := pk_lo B 5 kd.2
  have d2 := pk_hi B kd.2 (show (1 : Int) ≤ 5 by omega)
  have d3 := (pk_k B 5 kd.2).2
  generalize pk B 5 kd.2 = k at *
  obtain ⟨u1, u2⟩ := trainsD_few B r.1 kd.1 (show 3 ≤ 3 + n.1 by omega) (1 + k.1).toNat 0 [] [] nm.1 k.2 ⟨Nat.le_refl _, rfl, fun i hi => absurd hi (Nat.not_lt_zero _)⟩
  generalize trainsD B r.1 (3 + n.1) kd.1 (1 + k.1).toNat [] [] nm.1 k.2 = t at *
  simp at r1
  refine ⟨⟨⟨by show 3 ≤ r.1.length; omega, by show r.1.length ≤ 8; omega, fun j hj => r2 (fun j hj => absurd hj (Nat.not_lt_zero _)) j (by have : j < r.1.length := hj; simp only [List.length_nil]; omega)⟩, ⟨by have := u1.len; show t.1.1.length ≤ 5; omega, u1.same, u1.paths⟩⟩, by show t.2.1 ≤ _; omega⟩
end Go.Proofs.YtmjjigdnoiphbaaDoor

/-
  THE DRAWS: the cursor as a function of its bytes: next, pick.
-/
namespace Go.Proofs.YtmjjigdnoiphbaaDoor
open Go.RowKit Go.Deep
set_option linter.unusedVariables false

/-- the bytes that are drawn from, as they lie in w -/
def BytesF (w : World) (a : Option Addr) (B : List Int) : Prop :=
  B.length ≤ 1048576 ∧ ∀ i : Nat, i < B.length → ∃ b off, a = some ⟨b, off, none⟩ ∧ w.cell? ⟨b, off + i, none⟩ = some (.int .u8 (el B i)) ∧ 0 ≤ el B i ∧ el B i ≤ 255
/-- the cursor in block cb -/
structure CurF (w : World) (cb : Nat) (a : Option Addr) (B : List Int) (q : Nat) (c : Cu) : Prop where
  var : w.heap[cb]? = some (.cells #[.slice a B.length q, .int .i64 (c.1 : Int), .int .u64 c.2] 50 (0, 0))
  bytes : BytesF w a B
  ahead : ∀ b off s, a = some ⟨b, off, s⟩ → 0 < B.length → b < cb
theorem BytesF.any {w : World} {a : Option Addr} {B : List Int} (h : BytesF w a B) : BytesAt w a B.length :=
  ⟨h.1, fun i hi => let ⟨b, off, e, hc, h0, h1⟩ := h.2 i hi; ⟨b, off, el B i, e, hc, h0, h1⟩⟩
theorem BytesF.chg {F : Nat → Prop} {w w' : World} {a : Option Addr} {B : List Int} (h : BytesF w a B) (hc : Chg F w w') (hF : ∀ b off s, a = some ⟨b, off, s⟩ → 0 < B.length → ¬ F b) : BytesF w' a B := by
  refine ⟨h.1, fun i hi => ?_⟩
  obtain ⟨b, off, e, hx, h0, h1⟩ := h.2 i hi
  refine ⟨b, off, e, ?_, h0, h1⟩
  have hb : b < w.heap.size := World.block_lt_of_cell? _ _ hx
  have := hc.block b hb (hF b off none e (by omega))
  simpa [World.cell?, this] using hx
theorem BytesF.below {w w' : World} {a : Option Addr} {B : List Int} (h : BytesF w a B) (hb : Below w.heap.size w w') : BytesF w' a B :=
  ⟨h.1, fun i hi => by
    obtain ⟨b, off, e, hc, h0, h1⟩ := h.2 i hi
    exact ⟨b, off, e, cell_later hb hc, h0, h1⟩⟩
theorem CurF.after {w w' : World} {cb : Nat} {a : Option Addr} {B : List Int} {q : Nat} {c c' : Cu} (h : CurF w cb a B q c) (hc : Chg (fun b => b = cb) w w') (hv : w'.heap[cb]? = some (.cells #[.slice a B.length q, .int .i64 (c'.1 : Int), .int .u64 c'.2] 50 (0, 0))) : CurF w' cb a B q c' :=
  ⟨hv, h.bytes.chg hc (fun b off s e h0 hb => absurd (h.ahead b off s e h0) (by omega)), h.ahead⟩
theorem CurF.keep {F : Nat → Prop} {w w' : World} {cb : Nat} {a : Option Addr} {B : List Int} {q : Nat} {c : Cu} (h : CurF w cb a B q c) (hc : Chg F w w') (hF : ∀ b, b ≤ cb → ¬ F b) : CurF w' cb a B q c :=
  ⟨by rw [hc.block cb (Array.getElem?_eq_some_iff.1 h.var).1 (hF cb (Nat.le_refl _))]; exact h.var, h.bytes.chg hc (fun b off s e h0 => hF b (Nat.le_of_lt (h.ahead b off s e h0))), h.ahead⟩
theorem CurF.below {w w' : World} {cb : Nat} {a : Option Addr} {B : List Int} {q : Nat} {c : Cu} (h : CurF w cb a B q c) (hb : Below w.heap.size w w') : CurF w' cb a B q c :=
  h.keep (F := fun _ => False) (Chg.of_below hb) (fun _ _ => id)
theorem CurF.lt {w : World} {cb : Nat} {a : Option Addr} {B : List Int} {q : Nat} {c : Cu} (h : CurF w cb a B q c) : cb < w.heap.size := (Array.getElem?_eq_some_iff.1 h.var).1

set_option maxHeartbeats 1000000 in
theorem next_f {w : World} {cb : Nat} {a : Option Addr} {B : List Int} {q : Nat} {c : Cu} (h : CurF w cb a B q c) (hk : c.1 ≤ 1000000) :
    Calls Tryd.prog 88 #[.pointer (some ⟨cb, 0, none⟩)] w fun e w' => e = .returned (.int .i64 (nxt B c).1) ∧ CurF w' cb a B q (nxt B c).2 ∧ Chg (fun b => b = cb) w w' ∧ 0 ≤ (nxt B c).1 ∧ (nxt B c).1 ≤ 255 := by
  have HH := hide h
  have hv := h.var
  obtain ⟨hn, hby⟩ := h.bytes
  obtain ⟨k, s⟩ := c
  have HV := hide hv
  have hcl : cb < w.heap.size := (Array.getElem?_eq_some_iff.1 hv).1
  have c0 : w.cell? ⟨cb, 0, none⟩ = some (.slice a B.length q) := by simp [World.cell?, hv]
  have c1 : w.cell? ⟨cb, 1, none⟩ = some (.int .i64 (k : Int)) := by simp [World.cell?, hv]
  have c2 : w.cell? ⟨cb, 2, none⟩ = some (.int .u64 s) := by simp [World.cell?, hv]
  have f0 : ∀ o, w.frozen? ⟨cb, o, none⟩ = false := fun o => frozen_of_row w cb o _ 50 hv
  have f1 := f0 1
  have f2 := f0 2
  by_cases hkn : k < B.length
  · obtain ⟨b, off, rfl, hc, h0, h1⟩ := hby k hkn
    have hbc := h.ahead b off none rfl (by omega)
    have HN : Hid (nxt B (k, s) = (el B k, k + 1, seedB s (el B k))) := by unfold Hid nxt; rw [if_pos hkn]
    generalize el B k = x at *
    have hki : (k : Int) < (B.length : Int) := by omega
    have hk0 : (0 : Int) ≤ (k : Int) := by omega
    have hwk : IntKind.i64.wrap ((k : Int) + 1) = (k : Int) + 1 := by rw [IntKind.wrap_i64]; simp at hk; omega
    have hne : b ≠ cb := by omega
    clear h hby hv
    go_enter Tryd.func88, Tryd.ntmps88
    go_wp2_with fail
    go_region
    go_wp2_with fail
    go_region
    go_wp2_with fail
    go_ret
    have HCh := (((Chg.refl (fun b => b = cb) w).setCell (p := ⟨cb, 1, none⟩) rfl (.int .i64 ((k : Int) + 1))).setCell (p := ⟨cb, 2, none⟩) rfl (.int .u64 (seedB s x)))
    have HC2 := HCh.trans (Chg.of_below (Joins.below_draws _ _ 2))
    rw [HN.out]
    exact ⟨rfl, HH.out.after (c' := (k + 1, seedB s x)) HC2 (by exact (block3_put HV.out _ _).1), HC2, h0, h1⟩
  · have hki : ¬ (k : Int) < (B.length : Int) := by omega
    have HN : Hid (nxt B (k, s) = (wrap64 (bits .and .u64 (seedE s / 1099511627776) 255), k + 1, seedE s)) := by unfold Hid nxt; rw [if_neg hkn]
    have hwk : IntKind.i64.wrap ((k : Int) + 1) = (k : Int) + 1 := by rw [IntKind.wrap_i64]; simp at hk; omega
    clear h hby hv
    go_enter Tryd.func88, Tryd.ntmps88
    go_wp2_with fail
    go_region
    go_wp2_with fail
    go_ret
    have HCh := (((Chg.refl (fun b => b = cb) w).setCell (p := ⟨cb, 2, none⟩) rfl (.int .u64 (seedE s))).setCell (p := ⟨cb, 1, none⟩) rfl (.int .i64 ((k : Int) + 1)))
    have HC2 := HCh.trans (Chg.of_below (Joins.below_draws _ _ 1))
    have hw0 : 0 ≤ seedE s := wrap_u64_nonneg (IntKind.u64.wrap (s * 6364136223846793005) + 1442695040888963407)
    have hw1 : seedE s < 18446744073709551616 := by
      unfold seedE; simp only [IntKind.wrap, IntKind.bits, IntKind.signed]; simp; omega
    have hlb := low_byte (seedE s / 1099511627776) (by omega) (by omega)
    rw [HN.out]
    refine ⟨rfl, HH.out.after (c' := (k + 1, seedE s)) HC2 (by exact (block3_put HV.out _ _).2), HC2, ?_, ?_⟩
    · simp only [wrap64]; omega
    · simp only [wrap64]; omega

set_option maxHeartbeats 1000000 in
theorem pick_f {w : World} {cb : Nat} {a : Option Addr} {B : List Int} {q : Nat} {c : Cu} (h : CurF w cb a B q c) (hk : c.1 ≤ 900000) (m : Int) (hm : m ≤ 1000000) :
    Calls Tryd.prog 37 #[.pointer (some ⟨cb, 0, none⟩), .int .i64 m] w fun e w' => e = .returned (.int .i64 (pk B m c).1) ∧ CurF w' cb a B q (pk B m c).2 ∧ Chg (fun b => b = cb) w w' := by
  have HH := hide h
  by_cases h1 : m ≤ 1
  · have HP : Hid (pk B m c = (0, c)) := by unfold Hid pk; rw [if_pos h1]
    clear h
    go_enter Tryd.func37, Tryd.ntmps37
    go_wp2_with fail
    go_ret
    rw [HP.out]
    exact ⟨rfl, HH.out, Chg.refl _ _⟩
  · have h1' : ¬ m ≤ 1 := h1
    have hkn := nxt_k B c
    by_cases h2 : 200 < m
    · have HP : Hid (pk B m c = (((nxt B c).1 * 256 + (nxt B (nxt B c).2).1) % m, (nxt B (nxt B c).2).2)) := by unfold Hid pk; rw [if_neg h1, if_pos h2]
      clear h
      generalize hX : nxt B c = X at *
      go_enter Tryd.func37, Tryd.ntmps37
      go_wp2_with (go_at_call 88; refine (next_f HH.out ?_).mono ?_; (omega); rintro e w1 ⟨rfl, hcu1, hch1, hx0, hx1⟩)
      rw [hX] at hcu1 hx0 hx1
      obtain ⟨x, X2⟩ := X
      refine (next_f hcu1 (by have e : X2.1 = c.1 + 1 := hkn; show X2.1 ≤ _; omega)).mono ?_
      rintro e w2 ⟨rfl, hcu2, hch2, hy0, hy1⟩
      generalize nxt B (x, X2).2 = Y at *
      obtain ⟨y, Y2⟩ := Y
      simp only at hx0 hx1 hy0 hy1
      go_wp2_with fail
      go_ret
      rw [HP.out]
      have ew : wrap64 (wrap64 (x * 256) + y) = x * 256 + y := by unfold wrap64; omega
      have et : (x * 256 + y).tmod m = (x * 256 + y) % m := Int.tmod_eq_emod_of_nonneg (by omega)
      refine ⟨?_, hcu2, hch1.trans hch2⟩
      show Ending.returned (.int .i64 ((wrap64 (wrap64 (x * 256) + y)).tmod m)) = _
      rw [ew, et]
    · have HP : Hid (pk B m c = ((nxt B c).1 % m, (nxt B c).2)) := by unfold Hid pk; rw [if_neg h1, if_neg h2]
      clear h
      generalize hX : nxt B c = X at *
      go_enter Tryd.func37, Tryd.ntmps37
      go_wp2_with (go_at_call 88; refine (next_f HH.out ?_).mono ?_; (omega); rintro e w1 ⟨rfl, hcu1, hch1, hx0, hx1⟩; rw [hX] at hcu1 hx0 hx1 ⊢)
      go_ret
      rw [HP.out]
      exact ⟨rfl, hcu1, hch1⟩
end Go.Proofs.YtmjjigdnoiphbaaDoor

/-
  BYTES THAT CAME IN, OPENED.
-/
namespace Go.Proofs.YtmjjigdnoiphbaaDoor
set_option maxRecDepth 8000
open Go.ChangeShapes Go.WideShapes Go.ChangeAt Go.RowKit Go.Deep Go.Joins
set_option linter.unusedVariables false

theorem Tryd.cellsByte : Tryd.prog.cellsOf 5 = 1 := by kernel_rfl

theorem open_bytesF {H : Type} {enc : TypeId × Value → H} {w : World} {base : Nat} {spare : Nat → Bool} {held : Bool} {r : Reach} {b0 : Nat} {v : Value} {d : DataW H} {p : List MemPlace} (hv : Value.okWide Tryd.prog w r b0 22 v) (h : DataW.Trod enc Tryd.prog w base spare held 22 v d p) :
    ∃ (a : Option Addr) (B : List Int) (q : Nat), v = .slice a B.length q ∧ B.length ≤ 9223372036854775807 ∧ (B.length ≤ 1048576 → BytesF w a B) ∧ ∀ b off s, a = some ⟨b, off, s⟩ → 0 < B.length → b < w.heap.size := by
  obtain ⟨a1, len, cap, rfl⟩ := okWide_slice Tryd.underlying22 hv
  obtain ⟨fuel, hf⟩ := h
  rcases open_ints Tryd.underlying22 Tryd.underlying5 Tryd.cellsByte hf with ⟨hcs, _⟩ | ⟨x, l, cap', zs, hcs, _, hl, hm, hz, _, hcell, hwz⟩
  · simp only [Value.cells, List.cons.injEq, and_true, Value.slice.injEq] at hcs
    obtain ⟨rfl, rfl, rfl⟩ := hcs
    exact ⟨none, [], 0, rfl, by simp, fun _ => ⟨by simp, fun i hi => absurd hi (Nat.not_lt_zero _)⟩, fun b off s e => by cases e⟩
  · simp only [Value.cells, List.cons.injEq, and_true, Value.slice.injEq] at hcs
    obtain ⟨rfl, rfl, rfl⟩ := hcs
    have hlz : len ≤ zs.length := by rw [hz]; split <;> omega
    have hlen : (zs.take len).length = len := by simp; omega
    have hcl : ∀ i, i < len → x.spot = none ∧ w.cell? ⟨x.block, x.off + i, none⟩ = some (.int .u8 (el (zs.take len) i)) := fun i hi => by
      have hc := hcell i (by omega)
      have hs := spot_of_cell (hcell 0 (by omega))
      rw [add_of_spot hs] at hc
      refine ⟨hs, ?_⟩
      rw [hc]
      congr 2
      simp [el, List.getD, hi]
    refine ⟨some x, zs.take len, cap, by rw [hlen], by unfold maxLen at hm; omega, fun h1 => ⟨h1, fun i hi => ?_⟩, fun b off s e h0 => ?_⟩
    · rw [hlen] at hi
      obtain ⟨hs, hc⟩ := hcl i hi
      refine ⟨x.block, x.off, ?_, hc, ?_⟩
      · obtain ⟨b, o, s⟩ := x
        simp only at hs
        subst hs
        rfl
      · have hmem : el (zs.take len) i ∈ zs := by
          have : el (zs.take len) i = zs[i]'(by omega) := by simp [el, hi, show i < zs.length by omega]
          rw [this]
          exact List.getElem_mem _
        have hw := hwz _ hmem
        simp only [Lit.wf, Bool.and_eq_true, decide_eq_true_eq] at hw
        exact ⟨hw.1, hw.2⟩
    · rw [hlen] at h0
      obtain ⟨hs, hc⟩ := hcl 0 h0
      simp only [Option.some.injEq] at e
      subst e
      exact World.block_lt_of_cell? _ _ hc
end Go.Proofs.YtmjjigdnoiphbaaDoor
