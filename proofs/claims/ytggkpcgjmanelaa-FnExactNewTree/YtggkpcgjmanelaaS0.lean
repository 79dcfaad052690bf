import Derived.Test.YtggkpcgjmanelaaS1
/- Nodes of the specification in blocks of which something is known. -/
namespace Go.Proofs.Ytggkpcgjmanelaa
open Go.ChangeShapes Go.WideShapes Go.ChangeAt Go.RowKit
set_option linter.unusedVariables false
open Bt

theorem cell_same {w w' : World} {b o : Nat} {v : Value} (h : w.cell? ⟨b, o, none⟩ = some v) (he : w'.heap[b]? = w.heap[b]?) : w'.cell? ⟨b, o, none⟩ = some v := by
  simp only [World.cell?, he] at h ⊢
  exact h
/-- A node as a value. -/
abbrev nv (x : Option Addr) (n c : Nat) (x' : Option Addr) (n' c' : Nat) : Value := .agg #[.slice x n c, .slice x' n' c']
/-- These blocks are kept. -/
def Kp (P : Nat → Prop) (w w' : World) : Prop := ∀ b, P b → b < w.heap.size → w'.heap[b]? = w.heap[b]?
theorem Kp.of_below {P : Nat → Prop} {w w' : World} (h : Below w.heap.size w w') : Kp P w w' := fun b _ hb => h.block b hb
theorem Kp.of_out {P : Nat → Prop} {B C : Nat} {w w' : World} (h : Out B C w w') (hP : ∀ b, P b → b < B ∨ C ≤ b) : Kp P w w' := fun b hp hb => h.block b hb (hP b hp)
def IntsP (w : World) (P : Nat → Prop) (a : Option Addr) (l : List Int) : Prop :=
  l.length ≠ 0 → ∃ b off, a = some ⟨b, off, none⟩ ∧ P b ∧ ∀ i, i < l.length → w.cell? ⟨b, off + i, none⟩ = some (iv (gi l i))
theorem IntsP.ints {w : World} {P : Nat → Prop} {a : Option Addr} {l : List Int} (h : IntsP w P a l) : Ints w a l := by
  intro hn
  obtain ⟨b, off, e, -, hc⟩ := h hn
  exact ⟨b, off, e, hc⟩
theorem IntsP.keep {w w' : World} {P : Nat → Prop} {a : Option Addr} {l : List Int} (h : IntsP w P a l) (hk : Kp P w w') : IntsP w' P a l := by
  intro hn
  obtain ⟨b, off, e, hp, hc⟩ := h hn
  exact ⟨b, off, e, hp, fun i hi => cell_same (hc i hi) (hk b hp (lt_of_cell (hc i hi)))⟩
theorem IntsP.imp {w : World} {P Q : Nat → Prop} {a : Option Addr} {l : List Int} (h : IntsP w P a l) (hk : ∀ b, b < w.heap.size → P b → Q b) : IntsP w Q a l := by
  intro hn
  obtain ⟨b, off, e, hp, hc⟩ := h hn
  exact ⟨b, off, e, hk b (lt_of_cell (hc 0 (by omega))) hp, hc⟩
theorem IntsP.of {w : World} {P : Nat → Prop} {a : Option Addr} {l : List Int} (h : Ints w a l) (hk : ∀ b, b < w.heap.size → P b) : IntsP w P a l := by
  intro hn
  obtain ⟨b, off, e, hc⟩ := h hn
  exact ⟨b, off, e, hk b (lt_of_cell (hc 0 (by omega))), hc⟩
theorem IntsP.nil {w : World} {P : Nat → Prop} {a : Option Addr} : IntsP w P a [] := fun h => absurd rfl h
/-- A node of the specification in such blocks. -/
def SX (w : World) (P : Nat → Prop) : Nat → Value → Tr → Prop
  | 0, _, _ => False
  | d + 1, v, t => ∃ a c a' c', v = .agg #[.slice a t.keys.length c, .slice a' t.kids.length c'] ∧ t.keys.length ≤ c ∧ t.kids.length ≤ c' ∧ IntsP w P a t.keys ∧
      (t.kids.length ≠ 0 → ∃ b off, a' = some ⟨b, off, none⟩ ∧ P b ∧ ∀ i, i < t.kids.length → ∃ p q, w.cell? ⟨b, off + i * 2, none⟩ = some p ∧ w.cell? ⟨b, off + i * 2 + 1, none⟩ = some q ∧ SX w P d (.agg #[p, q]) (gt t.kids i))
/-- A row of such nodes. -/
def SXs (w : World) (P : Nat → Prop) (d : Nat) (a : Option Addr) (l : List Tr) : Prop :=
  l.length ≠ 0 → ∃ b off, a = some ⟨b, off, none⟩ ∧ P b ∧ ∀ i, i < l.length → ∃ p q, w.cell? ⟨b, off + i * 2, none⟩ = some p ∧ w.cell? ⟨b, off + i * 2 + 1, none⟩ = some q ∧ SX w P d (.agg #[p, q]) (gt l i)
theorem SX_succ {w : World} {P : Nat → Prop} {d : Nat} {v : Value} {t : Tr} : SX w P (d + 1) v t ↔ ∃ a c a' c', v = .agg #[.slice a t.keys.length c, .slice a' t.kids.length c'] ∧ t.keys.length ≤ c ∧ t.kids.length ≤ c' ∧ IntsP w P a t.keys ∧ SXs w P d a' t.kids := Iff.rfl
theorem SX.keep {d : Nat} : ∀ {w w' : World} {P : Nat → Prop} {v : Value} {t : Tr}, SX w P d v t → Kp P w w' → SX w' P d v t := by
  induction d with
  | zero => intro w w' P v t h; exact absurd h (by simp [SX])
  | succ d ih =>
    intro w w' P v t h hb
    obtain ⟨a, c, a', c', e, h1, h2, h3, h4⟩ := h
    refine ⟨a, c, a', c', e, h1, h2, h3.keep hb, fun hn => ?_⟩
    obtain ⟨b, off, e', hp, hc⟩ := h4 hn
    refine ⟨b, off, e', hp, fun i hi => ?_⟩
    obtain ⟨p, q, k0, k1, k2⟩ := hc i hi
    exact ⟨p, q, cell_same k0 (hb b hp (lt_of_cell k0)), cell_same k1 (hb b hp (lt_of_cell k1)), ih k2 hb⟩
theorem SXs.keep {w w' : World} {P : Nat → Prop} {d : Nat} {a : Option Addr} {l : List Tr} (h : SXs w P d a l) (hb : Kp P w w') : SXs w' P d a l := by
  intro hn
  obtain ⟨b, off, e', hp, hc⟩ := h hn
  refine ⟨b, off, e', hp, fun i hi => ?_⟩
  obtain ⟨p, q, k0, k1, k2⟩ := hc i hi
  exact ⟨p, q, cell_same k0 (hb b hp (lt_of_cell k0)), cell_same k1 (hb b hp (lt_of_cell k1)), k2.keep hb⟩
theorem SX.imp {d : Nat} : ∀ {w : World} {P Q : Nat → Prop} {v : Value} {t : Tr}, SX w P d v t → (∀ b, b < w.heap.size → P b → Q b) → SX w Q d v t := by
  induction d with
  | zero => intro w P Q v t h; exact absurd h (by simp [SX])
  | succ d ih =>
    intro w P Q v t h hb
    obtain ⟨a, c, a', c', e, h1, h2, h3, h4⟩ := h
    refine ⟨a, c, a', c', e, h1, h2, h3.imp hb, fun hn => ?_⟩
    obtain ⟨b, off, e', hp, hc⟩ := h4 hn
    obtain ⟨p, q, k0, k1, k2⟩ := hc 0 (by omega)
    refine ⟨b, off, e', hb b (lt_of_cell k0) hp, fun i hi => ?_⟩
    obtain ⟨p, q, k0, k1, k2⟩ := hc i hi
    exact ⟨p, q, k0, k1, ih k2 hb⟩
theorem SXs.imp {w : World} {P Q : Nat → Prop} {d : Nat} {a : Option Addr} {l : List Tr} (h : SXs w P d a l) (hb : ∀ b, b < w.heap.size → P b → Q b) : SXs w Q d a l := by
  intro hn
  obtain ⟨b, off, e', hp, hc⟩ := h hn
  obtain ⟨p, q, k0, k1, k2⟩ := hc 0 (by omega)
  refine ⟨b, off, e', hb b (lt_of_cell k0) hp, fun i hi => ?_⟩
  obtain ⟨p, q, k0, k1, k2⟩ := hc i hi
  exact ⟨p, q, k0, k1, k2.imp hb⟩
theorem SX.sn {d : Nat} : ∀ {w : World} {P : Nat → Prop} {v : Value} {t : Tr}, SX w P d v t → SN w d v t := by
  induction d with
  | zero => intro w P v t h; exact absurd h (by simp [SX])
  | succ d ih =>
    intro w P v t h
    obtain ⟨a, c, a', c', e, h1, h2, h3, h4⟩ := h
    refine ⟨a, c, a', c', e, h1, h2, h3.ints, fun hn => ?_⟩
    obtain ⟨b, off, e', hp, hc⟩ := h4 hn
    refine ⟨b, off, e', fun i hi => ?_⟩
    obtain ⟨p, q, k0, k1, k2⟩ := hc i hi
    exact ⟨p, q, k0, k1, ih k2⟩
theorem SX.of_sn {d : Nat} : ∀ {w : World} {P : Nat → Prop} {v : Value} {t : Tr}, SN w d v t → (∀ b, b < w.heap.size → P b) → SX w P d v t := by
  induction d with
  | zero => intro w P v t h; exact absurd h (by simp [SN])
  | succ d ih =>
    intro w P v t h hb
    obtain ⟨a, c, a', c', e, h1, h2, h3, h4⟩ := h
    refine ⟨a, c, a', c', e, h1, h2, IntsP.of h3 hb, fun hn => ?_⟩
    obtain ⟨b, off, e', hc⟩ := h4 hn
    obtain ⟨p, q, k0, k1, k2⟩ := hc 0 (by omega)
    refine ⟨b, off, e', hb b (lt_of_cell k0), fun i hi => ?_⟩
    obtain ⟨p, q, k0, k1, k2⟩ := hc i hi
    exact ⟨p, q, k0, k1, ih k2 hb⟩
theorem SX.mono {w : World} {P : Nat → Prop} {d : Nat} : ∀ {v : Value} {t : Tr}, SX w P d v t → SX w P (d + 1) v t := by
  induction d with
  | zero => intro v t h; exact absurd h (by simp [SX])
  | succ d ih =>
    intro v t h
    obtain ⟨a, c, a', c', e, h1, h2, h3, h4⟩ := h
    refine ⟨a, c, a', c', e, h1, h2, h3, fun hn => ?_⟩
    obtain ⟨b, off, e', hp, hc⟩ := h4 hn
    refine ⟨b, off, e', hp, fun i hi => ?_⟩
    obtain ⟨p, q, k0, k1, k2⟩ := hc i hi
    exact ⟨p, q, k0, k1, ih k2⟩
theorem SX.form {w : World} {P : Nat → Prop} {d : Nat} {p q : Value} {t : Tr} (h : SX w P d (.agg #[p, q]) t) : ∃ a c a' c', p = .slice a t.keys.length c ∧ q = .slice a' t.kids.length c' := h.sn.form
/-- The cells of a row of nodes. -/
def Kds (w : World) (P : Nat → Prop) (d : Nat) (xs : List Value) (l : List Tr) : Prop :=
  xs.length = l.length * 2 ∧ ∀ i, i < l.length → ∃ p q, xs[i * 2]? = some p ∧ xs[i * 2 + 1]? = some q ∧ SX w P d (.agg #[p, q]) (gt l i)
theorem Kds.nil {w : World} {P : Nat → Prop} {d : Nat} : Kds w P d [] [] := ⟨rfl, fun i hi => absurd hi (by simp)⟩
theorem Kds.keep {w w' : World} {P : Nat → Prop} {d : Nat} {xs : List Value} {l : List Tr} (h : Kds w P d xs l) (hb : Kp P w w') : Kds w' P d xs l :=
  ⟨h.1, fun i hi => by obtain ⟨p, q, k0, k1, k2⟩ := h.2 i hi; exact ⟨p, q, k0, k1, k2.keep hb⟩⟩
theorem Kds.imp {w : World} {P Q : Nat → Prop} {d : Nat} {xs : List Value} {l : List Tr} (h : Kds w P d xs l) (hb : ∀ b, b < w.heap.size → P b → Q b) : Kds w Q d xs l :=
  ⟨h.1, fun i hi => by obtain ⟨p, q, k0, k1, k2⟩ := h.2 i hi; exact ⟨p, q, k0, k1, k2.imp hb⟩⟩
theorem Kds.mono {w : World} {P : Nat → Prop} {d : Nat} {xs : List Value} {l : List Tr} (h : Kds w P d xs l) : Kds w P (d + 1) xs l :=
  ⟨h.1, fun i hi => by obtain ⟨p, q, k0, k1, k2⟩ := h.2 i hi; exact ⟨p, q, k0, k1, k2.mono⟩⟩
theorem Kds.single {w : World} {P : Nat → Prop} {d : Nat} {p q : Value} {t : Tr} (h : SX w P d (.agg #[p, q]) t) : Kds w P d [p, q] [t] :=
  ⟨rfl, fun i hi => by
    obtain rfl : i = 0 := by simp at hi; exact hi
    exact ⟨p, q, rfl, rfl, h⟩⟩
theorem Kds.app {w : World} {P : Nat → Prop} {d : Nat} {xs ys : List Value} {l m : List Tr} (h : Kds w P d xs l) (k : Kds w P d ys m) : Kds w P d (xs ++ ys) (l ++ m) := by
  refine ⟨by rw [List.length_append, List.length_append, h.1, k.1]; omega, fun i hi => ?_⟩
  have h1 := h.1
  by_cases hl : i < l.length
  · obtain ⟨p, q, k0, k1, k2⟩ := h.2 i hl
    refine ⟨p, q, ?_, ?_, ?_⟩
    · rw [List.getElem?_append_left (by omega)]; exact k0
    · rw [List.getElem?_append_left (by omega)]; exact k1
    · have : gt (l ++ m) i = gt l i := by simp [gt, List.getElem?_append_left hl]
      rw [this]; exact k2
  · simp only [List.length_append] at hi
    obtain ⟨p, q, k0, k1, k2⟩ := k.2 (i - l.length) (by omega)
    refine ⟨p, q, ?_, ?_, ?_⟩
    · rw [List.getElem?_append_right (by omega), h1, show i * 2 - l.length * 2 = (i - l.length) * 2 by omega]; exact k0
    · rw [List.getElem?_append_right (by omega), h1, show i * 2 + 1 - l.length * 2 = (i - l.length) * 2 + 1 by omega]; exact k1
    · have : gt (l ++ m) i = gt m (i - l.length) := by simp [gt, List.getElem?_append_right (by omega : l.length ≤ i)]
      rw [this]; exact k2
theorem Kds.one {w : World} {P : Nat → Prop} {d : Nat} {xs : List Value} {l : List Tr} (h : Kds w P d xs l) : ∀ u ∈ xs, u.oneCell' = true := by
  intro u hu
  obtain ⟨j, hj, rfl⟩ := List.mem_iff_getElem.1 hu
  have h1 := h.1
  obtain ⟨p, q, k0, k1, k2⟩ := h.2 (j / 2) (by omega)
  obtain ⟨a, c, a', c', rfl, rfl⟩ := k2.form
  rcases Nat.mod_two_eq_zero_or_one j with e | e
  · rw [show j / 2 * 2 = j by omega, List.getElem?_eq_getElem hj] at k0
    simp only [Option.some.injEq] at k0
    rw [k0]; rfl
  · rw [show j / 2 * 2 + 1 = j by omega, List.getElem?_eq_getElem hj] at k1
    simp only [Option.some.injEq] at k1
    rw [k1]; rfl
/-- A row's cells, as a source of append. -/
theorem SXs.src {w : World} {P : Nat → Prop} {d : Nat} {a : Option Addr} {l : List Tr} (h : SXs w P d a l) : ∃ xs, Kds w P d xs l ∧ (l.length = 0 ∨ ∃ ad, a = some ad ∧ ∀ j u, xs[j]? = some u → w.cell? (ad.add j) = some u) := by
  by_cases h0 : l.length = 0
  · have : l = [] := List.eq_nil_of_length_eq_zero h0
    subst this
    exact ⟨[], Kds.nil, .inl rfl⟩
  · obtain ⟨b, off, rfl, hp, hc⟩ := h h0
    have hx : ∀ j, j < l.length * 2 → ∃ u, w.cell? ⟨b, off + j, none⟩ = some u := by
      intro j hj
      obtain ⟨p, q, k0, k1, -⟩ := hc (j / 2) (by omega)
      rcases Nat.mod_two_eq_zero_or_one j with e | e
      · rw [show j / 2 * 2 = j by omega] at k0; exact ⟨p, k0⟩
      · rw [show off + j / 2 * 2 + 1 = off + j by omega] at k1; exact ⟨q, k1⟩
    have hget : ∀ j, j < l.length * 2 → w.cell? ⟨b, off + j, none⟩ = some ((w.cell? ⟨b, off + j, none⟩).getD (.bool false)) := by
      intro j hj
      obtain ⟨u, hu⟩ := hx j hj
      rw [hu]; rfl
    have hat : ∀ j, j < l.length * 2 → ((List.range (l.length * 2)).map fun j => (w.cell? ⟨b, off + j, none⟩).getD (.bool false))[j]? = w.cell? ⟨b, off + j, none⟩ := by
      intro j hj
      rw [hget j hj]
      simp [hj]
    refine ⟨(List.range (l.length * 2)).map fun j => (w.cell? ⟨b, off + j, none⟩).getD (.bool false), ⟨by simp, fun i hi => ?_⟩, .inr ⟨_, rfl, fun j u hj => ?_⟩⟩
    · obtain ⟨p, q, k0, k1, k2⟩ := hc i hi
      exact ⟨p, q, by rw [hat _ (by omega)]; exact k0, by rw [hat _ (by omega), ← Nat.add_assoc]; exact k1, k2⟩
    · have hlt : j < l.length * 2 := by have := (List.getElem?_eq_some_iff.1 hj).1; simpa using this
      rw [addN, ← hj, hat j hlt]
/-- A row of the call's own, as a row of nodes. -/
theorem own_sxs {w : World} {P : Nat → Prop} {d B n c : Nat} {a : Option Addr} {xs : List Value} {l : List Tr} (h : w.ownsRow B 67 2 (.slice a n c) n xs) (k : Kds w P d xs l) (hn : n = l.length) (hP : ∀ b, B ≤ b → P b) : SXs w P d a l ∧ l.length ≤ c := by
  rcases h.2 with ⟨h1, h2⟩ | ⟨g, cap, cur, h1, hb, hg, hc, hm, hcs, ht⟩
  · simp only [Value.slice.injEq] at h1
    obtain ⟨rfl, -, rfl⟩ := h1
    exact ⟨fun h0 => absurd (by omega) h0, by omega⟩
  · simp only [Value.slice.injEq] at h1
    obtain ⟨rfl, -, rfl⟩ := h1
    refine ⟨fun _ => ⟨g, 0, rfl, hP g hb, fun i hi => ?_⟩, by omega⟩
    obtain ⟨p, q, k0, k1, k2⟩ := k.2 i hi
    rw [← ht, List.getElem?_take, if_pos (by omega)] at k0 k1
    refine ⟨p, q, ?_, ?_, k2⟩
    · rw [Nat.zero_add]; exact cell_of_block hg (by simpa using k0)
    · rw [Nat.zero_add]; exact cell_of_block hg (by simpa using k1)
end Go.Proofs.Ytggkpcgjmanelaa
