import Derived.Test.YtggkpcgjmanelaaB0
/- Rows of ints, rows of nodes, and trees in memory. -/
namespace Go.Proofs.Ytggkpcgjmanelaa
open Go.ChangeShapes Go.WideShapes Go.ChangeAt Go.RowKit
set_option linter.unusedVariables false
open Bt

attribute [local go_sem] Oper.semAt_some

theorem wrapI {z : Int} (h : -9223372036854775808 ≤ z) (h' : z ≤ 9223372036854775807) : IntKind.i64.wrap z = z := by
  simp only [IntKind.wrap, IntKind.bits, IntKind.signed]
  simp
  omega
theorem al1 (w : World) (o : Obj) : (w.alloc o).heap[w.heap.size]? = some o := heap_alloc_new w o
theorem sz1 (w : World) (o : Obj) : (w.alloc o).heap.size = w.heap.size + 1 := by simp
theorem al2 (w : World) (o p : Obj) : ((w.alloc o).alloc p).heap[w.heap.size]? = some o ∧ ((w.alloc o).alloc p).heap[w.heap.size + 1]? = some p :=
  ⟨box_on (al1 w o) (below_alloc _ _), by have := al1 (w.alloc o) p; rwa [sz1] at this⟩
theorem al3 (w : World) (o p q : Obj) : (((w.alloc o).alloc p).alloc q).heap[w.heap.size]? = some o ∧ (((w.alloc o).alloc p).alloc q).heap[w.heap.size + 1]? = some p ∧ (((w.alloc o).alloc p).alloc q).heap[w.heap.size + 1 + 1]? = some q :=
  ⟨box_on (al2 w o p).1 (below_alloc _ _), box_on (al2 w o p).2 (below_alloc _ _), by have := al1 ((w.alloc o).alloc p) q; rwa [sz1, sz1] at this⟩
theorem ba2 (w : World) (o p : Obj) : Below w.heap.size w ((w.alloc o).alloc p) := Below.comp (below_alloc w o) (below_alloc _ p)
theorem ba3 (w : World) (o p q : Obj) : Below w.heap.size w (((w.alloc o).alloc p).alloc q) := Below.comp (ba2 w o p) (below_alloc _ q)

/-- The int, the node, the tree at a place of a list. -/
def gi (l : List Int) (i : Nat) : Int := l.getD i 0
def gn (l : List Nd) (i : Nat) : Nd := l.getD i nd0
def gt (l : List Tr) (i : Nat) : Tr := l.getD i tr0
theorem gi_eq {l : List Int} {i : Nat} (h : i < l.length) : gi l i = l[i] := by simp [gi, h]
theorem gn_eq {l : List Nd} {i : Nat} (h : i < l.length) : gn l i = l[i] := by simp [gn, h]
theorem gt_eq {l : List Tr} {i : Nat} (h : i < l.length) : gt l i = l[i] := by simp [gt, h]
abbrev iv (x : Int) : Value := .int .i64 x
/-- A row of ints that can be read. -/
abbrev Ints (w : World) (a : Option Addr) (l : List Int) : Prop := At w a l.length (fun i => iv (gi l i))
theorem Ints.nil {w : World} {a : Option Addr} : Ints w a [] := fun h => absurd rfl h
/-- A node's cells. -/
def NdAt (w : World) (b o : Nat) (nd : Nd) : Prop :=
  ∃ ka kc ca cc, w.cell? ⟨b, o, none⟩ = some (.bool nd.leaf) ∧ w.cell? ⟨b, o + 1, none⟩ = some (.slice ka nd.ks.length kc) ∧ w.cell? ⟨b, o + 2, none⟩ = some (.slice ca nd.cs.length cc) ∧ Ints w ka nd.ks ∧ Ints w ca nd.cs ∧ nd.ks.length ≤ kc ∧ nd.cs.length ≤ cc
theorem NdAt.below {w w' : World} {b o : Nat} {nd : Nd} (h : NdAt w b o nd) (hb : Below w.heap.size w w') : NdAt w' b o nd := by
  obtain ⟨ka, kc, ca, cc, h0, h1, h2, h3, h4, h5, h6⟩ := h
  exact ⟨ka, kc, ca, cc, cell_on h0 hb, cell_on h1 hb, cell_on h2 hb, h3.below hb, h4.below hb, h5, h6⟩
/-- A row of nodes that can be read. -/
def Nodes (w : World) (a : Option Addr) (N : List Nd) : Prop :=
  N.length ≠ 0 → ∃ b off, a = some ⟨b, off, none⟩ ∧ ∀ i, i < N.length → NdAt w b (off + i * 3) (gn N i)
theorem Nodes.below {w w' : World} {a : Option Addr} {N : List Nd} (h : Nodes w a N) (hb : Below w.heap.size w w') : Nodes w' a N := by
  intro hn
  obtain ⟨b, off, rfl, hc⟩ := h hn
  exact ⟨b, off, rfl, fun i hi => (hc i hi).below hb⟩
/-- A tree as a value. -/
abbrev tv (a : Option Addr) (n c : Nat) (r : Int) : Value := .agg #[.slice a n c, .int .i64 r]

/-- A node of the specification in memory, of at most this depth. -/
def SN (w : World) : Nat → Value → Tr → Prop
  | 0, _, _ => False
  | d + 1, v, t => ∃ a c a' c', v = .agg #[.slice a t.keys.length c, .slice a' t.kids.length c'] ∧ t.keys.length ≤ c ∧ t.kids.length ≤ c' ∧ Ints w a t.keys ∧
      (t.kids.length ≠ 0 → ∃ b off, a' = some ⟨b, off, none⟩ ∧ ∀ i, i < t.kids.length → ∃ p q, w.cell? ⟨b, off + i * 2, none⟩ = some p ∧ w.cell? ⟨b, off + i * 2 + 1, none⟩ = some q ∧ SN w d (.agg #[p, q]) (gt t.kids i))
/-- A row of such nodes. -/
def Sns (w : World) (d : Nat) (a : Option Addr) (l : List Tr) : Prop :=
  l.length ≠ 0 → ∃ b off, a = some ⟨b, off, none⟩ ∧ ∀ i, i < l.length → ∃ p q, w.cell? ⟨b, off + i * 2, none⟩ = some p ∧ w.cell? ⟨b, off + i * 2 + 1, none⟩ = some q ∧ SN w d (.agg #[p, q]) (gt l i)
theorem SN_succ {w : World} {d : Nat} {v : Value} {t : Tr} : SN w (d + 1) v t ↔ ∃ a c a' c', v = .agg #[.slice a t.keys.length c, .slice a' t.kids.length c'] ∧ t.keys.length ≤ c ∧ t.kids.length ≤ c' ∧ Ints w a t.keys ∧ Sns w d a' t.kids := Iff.rfl
theorem SN.below {d : Nat} : ∀ {w w' : World} {v : Value} {t : Tr}, SN w d v t → Below w.heap.size w w' → SN w' d v t := by
  induction d with
  | zero => intro w w' v t h; exact absurd h (by simp [SN])
  | succ d ih =>
    intro w w' v t h hb
    obtain ⟨a, c, a', c', e, h1, h2, h3, h4⟩ := h
    refine ⟨a, c, a', c', e, h1, h2, h3.below hb, fun hn => ?_⟩
    obtain ⟨b, off, e', hc⟩ := h4 hn
    refine ⟨b, off, e', fun i hi => ?_⟩
    obtain ⟨p, q, k0, k1, k2⟩ := hc i hi
    exact ⟨p, q, cell_on k0 hb, cell_on k1 hb, ih k2 hb⟩
theorem Sns.below {w w' : World} {d : Nat} {a : Option Addr} {l : List Tr} (h : Sns w d a l) (hb : Below w.heap.size w w') : Sns w' d a l := by
  intro hn
  obtain ⟨b, off, e', hc⟩ := h hn
  refine ⟨b, off, e', fun i hi => ?_⟩
  obtain ⟨p, q, k0, k1, k2⟩ := hc i hi
  exact ⟨p, q, cell_on k0 hb, cell_on k1 hb, k2.below hb⟩
theorem SN.mono {w : World} {d : Nat} : ∀ {v : Value} {t : Tr}, SN w d v t → SN w (d + 1) v t := by
  induction d with
  | zero => intro v t h; exact absurd h (by simp [SN])
  | succ d ih =>
    intro v t h
    obtain ⟨a, c, a', c', e, h1, h2, h3, h4⟩ := h
    refine ⟨a, c, a', c', e, h1, h2, h3, fun hn => ?_⟩
    obtain ⟨b, off, e', hc⟩ := h4 hn
    refine ⟨b, off, e', fun i hi => ?_⟩
    obtain ⟨p, q, k0, k1, k2⟩ := hc i hi
    exact ⟨p, q, k0, k1, ih k2⟩
theorem SN.le {w : World} {d d' : Nat} {v : Value} {t : Tr} (h : SN w d v t) (hd : d ≤ d') : SN w d' v t := by
  induction hd with
  | refl => exact h
  | step _ ih => exact ih.mono
theorem Sns.mono {w : World} {d : Nat} {a : Option Addr} {l : List Tr} (h : Sns w d a l) : Sns w (d + 1) a l := by
  intro hn
  obtain ⟨b, off, e', hc⟩ := h hn
  refine ⟨b, off, e', fun i hi => ?_⟩
  obtain ⟨p, q, k0, k1, k2⟩ := hc i hi
  exact ⟨p, q, k0, k1, k2.mono⟩

/-- A node of the program in memory: a leaf or a fork. -/
def IN (w : World) : Nat → Value → Tr → Prop
  | 0, _, _ => False
  | d + 1, v, t => ∃ a c, t.keys.length ≤ c ∧ Ints w a t.keys ∧ ((t.kids = [] ∧ v = .iface 91 (.agg #[.slice a t.keys.length c])) ∨
      (t.kids ≠ [] ∧ ∃ c' b off, v = .iface 101 (.agg #[.slice a t.keys.length c, .slice (some ⟨b, off, none⟩) t.kids.length c']) ∧ t.kids.length ≤ c' ∧ ∀ i, i < t.kids.length → ∃ p, w.cell? ⟨b, off + i, none⟩ = some p ∧ IN w d p (gt t.kids i)))
/-- A row of such nodes. -/
def Ins (w : World) (d : Nat) (b off : Nat) (l : List Tr) : Prop := ∀ i, i < l.length → ∃ p, w.cell? ⟨b, off + i, none⟩ = some p ∧ IN w d p (gt l i)
theorem IN_leaf {w : World} {d : Nat} {ks : List Int} {a : Option Addr} {c : Nat} (h1 : ks.length ≤ c) (h2 : Ints w a ks) : IN w (d + 1) (.iface 91 (.agg #[.slice a ks.length c])) ⟨ks, []⟩ :=
  ⟨a, c, h1, h2, .inl ⟨rfl, rfl⟩⟩
theorem IN_fork {w : World} {d : Nat} {ks : List Int} {cs : List Tr} {a : Option Addr} {c c' b off : Nat} (h0 : cs ≠ []) (h1 : ks.length ≤ c) (h2 : Ints w a ks) (h3 : cs.length ≤ c') (h4 : Ins w d b off cs) : IN w (d + 1) (.iface 101 (.agg #[.slice a ks.length c, .slice (some ⟨b, off, none⟩) cs.length c'])) ⟨ks, cs⟩ :=
  ⟨a, c, h1, h2, .inr ⟨h0, c', b, off, rfl, h3, h4⟩⟩
theorem IN.cases {w : World} {d : Nat} {v : Value} {t : Tr} (h : IN w d v t) : ∃ d', d = d' + 1 ∧ ∃ a c, t.keys.length ≤ c ∧ Ints w a t.keys ∧ ((t.kids = [] ∧ v = .iface 91 (.agg #[.slice a t.keys.length c])) ∨
      (t.kids ≠ [] ∧ ∃ c' b off, v = .iface 101 (.agg #[.slice a t.keys.length c, .slice (some ⟨b, off, none⟩) t.kids.length c']) ∧ t.kids.length ≤ c' ∧ Ins w d' b off t.kids)) := by
  cases d with
  | zero => exact absurd h (by simp [IN])
  | succ d => exact ⟨d, rfl, h⟩
theorem IN.below {d : Nat} : ∀ {w w' : World} {v : Value} {t : Tr}, IN w d v t → Below w.heap.size w w' → IN w' d v t := by
  induction d with
  | zero => intro w w' v t h; exact absurd h (by simp [IN])
  | succ d ih =>
    intro w w' v t h hb
    obtain ⟨a, c, h1, h2, h3⟩ := h
    refine ⟨a, c, h1, h2.below hb, ?_⟩
    rcases h3 with h3 | ⟨h3, c', b, off, h4, h5, h6⟩
    · exact .inl h3
    · refine .inr ⟨h3, c', b, off, h4, h5, fun i hi => ?_⟩
      obtain ⟨p, k0, k1⟩ := h6 i hi
      exact ⟨p, cell_on k0 hb, ih k1 hb⟩
theorem Ins.below {w w' : World} {d b off : Nat} {l : List Tr} (h : Ins w d b off l) (hb : Below w.heap.size w w') : Ins w' d b off l := by
  intro i hi
  obtain ⟨p, k0, k1⟩ := h i hi
  exact ⟨p, cell_on k0 hb, k1.below hb⟩
theorem IN.mono {w : World} {d : Nat} : ∀ {v : Value} {t : Tr}, IN w d v t → IN w (d + 1) v t := by
  induction d with
  | zero => intro v t h; exact absurd h (by simp [IN])
  | succ d ih =>
    intro v t h
    obtain ⟨a, c, h1, h2, h3⟩ := h
    refine ⟨a, c, h1, h2, ?_⟩
    rcases h3 with h3 | ⟨h3, c', b, off, h4, h5, h6⟩
    · exact .inl h3
    · refine .inr ⟨h3, c', b, off, h4, h5, fun i hi => ?_⟩
      obtain ⟨p, k0, k1⟩ := h6 i hi
      exact ⟨p, k0, ih k1⟩
theorem IN.le {w : World} {d d' : Nat} {v : Value} {t : Tr} (h : IN w d v t) (hd : d ≤ d') : IN w d' v t := by
  induction hd with
  | refl => exact h
  | step _ ih => exact ih.mono
theorem Ins.le {w : World} {d d' b off : Nat} {l : List Tr} (h : Ins w d b off l) (hd : d ≤ d') : Ins w d' b off l := by
  intro i hi
  obtain ⟨p, k0, k1⟩ := h i hi
  exact ⟨p, k0, k1.le hd⟩

theorem l1In_any (x lo hi : Int) (w : World) : Calls Try.prog 47 #[.int .i64 x, .int .i64 lo, .int .i64 hi] w fun e w' => e = .returned (.bool (decide (lo ≤ x) && decide (x ≤ hi))) ∧ w' = w := by
  go_enter Try.func47, Try.ntmps47
  go_wp2
  all_goals
    go_ret
    refine ⟨?_, rfl⟩
    simp_all <;> omega
theorem l7Leaf_any {d : Nat} {v : Value} {t : Tr} (w : World) (h : SN w d v t) : Calls Try.prog 72 #[v] w fun e w' => e = .returned (.bool t.kids.isEmpty) ∧ Below w.heap.size w w' := by
  cases d with
  | zero => exact absurd h (by simp [SN])
  | succ d =>
    obtain ⟨a, c, a', c', rfl, h1, h2, h3, h4⟩ := h
    have e : t.kids.isEmpty = decide (t.kids.length = 0) := by cases t.kids <;> simp
    rw [e]
    generalize t.keys.length = n
    generalize t.kids.length = m
    go_enter Try.func72, Try.ntmps72
    go_wp2
    go_ret
    refine ⟨?_, below_alloc _ _⟩
    have e2 : ((m : Int) == 0) = decide (m = 0) := by rw [Bool.eq_iff_iff]; simp
    simp [e2]
end Go.Proofs.Ytggkpcgjmanelaa
