import Derived.Test.YtfmgaenedkjmkaaL2
/- Rows that grow: append, and parts of a row. -/
namespace Go.Proofs.Ytfmgaenedkjmkaa
open Go.ChangeShapes Go.WideShapes Go.ChangeAt Go.RowKit
set_option linter.unusedVariables false
open Hd

attribute [local go_sem] Oper.semAt_some

theorem Grown.below {w w' : World} {row : Option Nat} {B : Nat} (h : w.grownBy w' row) (hB : B ≤ w.heap.size) (hr : ∀ k, row = some k → B ≤ k) : Below B w w' := (Below.refl _ _).grown h hB hr

theorem owns_below {w w' : World} {base : Nat} {e : TypeId} {size : Nat} {v : Value} {n : Nat} {xs : List Value} (h : w.ownsRow base e size v n xs) (hb : Below w.heap.size w w') : w'.ownsRow base e size v n xs :=
  h.kept (row := none) ⟨hb.os, hb.tape, hb.output, hb.size, fun k hk _ => hb.block k hk⟩ (by cases v.ownBlock <;> simp)

theorem new_one (w : World) (u : Value) (t : TypeId) : ∀ j x, [u][j]? = some x → (w.alloc (.cells #[u] t)).cell? ((⟨w.heap.size, 0, none⟩ : Addr).add j) = some x := by
  intro j x hj
  match j, hj with
  | 0, hj => simp at hj; subst hj; simp [Addr.add]

/-- An append of nothing leaves the slice and the world as they were. -/
theorem run_append_zero {P : Program} (w : World) (base : Nat) (t ty e : TypeId) (i : TypeInfo) (size : Nat) (ht : P.underlying t = some (.slice e)) (hi : P.info? e = some i)
    (v : Value) (n : Nat) (xs : List Value) (hown : w.ownsRow base e size v n xs) (sa : Option Addr) (c : Nat) : (Builtin.append_ #[t, t] ty #[v, .slice sa 0 c]).run P w = .ok v w := by
  have hl0 : ∀ x : Addr, (loadCells x 0).run P w = .ok #[] w := fun x => by simpa using run_loadCells_list (P := P) w x [] (by simp)
  rcases hown.2 with ⟨rfl, rfl⟩ | ⟨g, cap, cur, rfl, _, _, hn, _⟩
  · cases sa <;> simp [Builtin.append_, run_underlying ht, sizeOf, typeInfo, hi, Builtin.lenOf, Builtin.firstCells, hl0]
  · cases sa <;> simp [Builtin.append_, run_underlying ht, sizeOf, typeInfo, hi, Builtin.lenOf, Builtin.firstCells, hl0, hn, storeCells]

theorem run_append_src {P : Program} (w : World) (base : Nat) (t ty e : TypeId) (i : TypeInfo) (z : Value) (size bytes : Nat) (ht : P.underlying t = some (.slice e)) (hi : P.info? e = some i) (hz : i.zero = some z)
    (hsize : i.size = size) (hby : i.bytes = bytes) (hzs : z.cells.size = size) (hsz : 0 < size)
    (v : Value) (n : Nat) (xs : List Value) (hown : w.ownsRow base e size v n xs)
    (sa : Option Addr) (m c : Nat) (news : List Value) (hl : news.length = m * size) (hsrc : m = 0 ∨ ∃ ad, sa = some ad ∧ ∀ j u, news[j]? = some u → w.cell? (ad.add j) = some u) (h1 : ∀ u ∈ news, u.oneCell' = true)
    (h63 : n + m ≤ maxLen) (hbytes : (n + m) * bytes ≤ 140737488355328) (hbase : base ≤ w.heap.size) :
    ∃ v' w', (Builtin.append_ #[t, t] ty #[v, .slice sa m c]).run P w = .ok v' w' ∧ w'.ownsRow base e size v' (n + m) (xs ++ news) ∧ w.grownBy w' v.ownBlock := by
  rcases hsrc with h0 | ⟨ad, rfl, hc⟩
  · subst h0
    have hnil : news = [] := List.eq_nil_of_length_eq_zero (by simpa using hl)
    subst hnil
    refine ⟨v, w, run_append_zero w base t ty e i size ht hi v n xs hown sa c, by simpa using hown, ⟨rfl, rfl, rfl, Nat.le_refl _, fun _ _ _ => rfl⟩⟩
  · obtain ⟨v', w', hrun, r1, r2, _⟩ := run_append_own (P := P) w base t ty e i z size bytes ht hi hz hsize hby hzs hsz v n xs hown ad m c news hl hc h1 h63 hbytes hbase
    exact ⟨v', w', hrun, r1, r2⟩

theorem wpList_append_src {P : Program} {w : World} {ops : Array Oper} {rest : List Oper} {o : Oper} {a : Act} {Q : Exit → Act → World → Prop} (hgd : o.guard = none) (s x : Operand) (t : TypeId)
    (ho : o.op = .call { callee := .builtin .append, args := #[s, x], argTypes := #[t, t] })
    (base : Nat) (e : TypeId) (z : Value) (size bytes : Nat) (ht : P.underlying t = some (.slice e)) (hinfo : (P.info? e).map (fun i => (i.zero, i.size, i.bytes)) = some (some z, size, bytes)) (hzs : z.cells.size = size) (hsz : 0 < size)
    (v : Value) (n : Nat) (xs : List Value) (hs : a.eval s = v) (hown : w.ownsRow base e size v n xs)
    (sa : Option Addr) (m c : Nat) (news : List Value) (hx : a.eval x = .slice sa m c) (hl : news.length = m * size) (hsrc : m = 0 ∨ ∃ ad, sa = some ad ∧ ∀ j u, news[j]? = some u → w.cell? (ad.add j) = some u) (h1 : ∀ u ∈ news, u.oneCell' = true)
    (h63 : n + m ≤ 1000000000) (hbytes : bytes ≤ 100000) (hbase : base ≤ w.heap.size)
    (h : ∀ v' w', w'.ownsRow base e size v' (n + m) (xs ++ news) → w.grownBy w' v.ownBlock → wpList P ops Q rest (a.put o.dst v') w') : wpList P ops Q (o :: rest) a w := by
  refine wpList_plain hgd fun K hK => ?_
  obtain ⟨i, hi, hz0, hz1, hz2⟩ := info_parts hinfo
  have hb2 : (n + m) * bytes ≤ 1000000000 * 100000 := Nat.mul_le_mul h63 hbytes
  obtain ⟨v', w', hrun, r1, r2⟩ := run_append_src (P := P) w base t o.type e i z size bytes ht hi hz0 hz1 hz2 hzs hsz v n xs hown sa m c news hl hsrc h1 (by unfold maxLen; omega) (by omega) hbase
  unfold Oper.wp
  simp [execOp, ho, resolve, invoke, builtin, hs, hx, hrun, Result.andThen]
  exact hK _ _ (h v' w' r1 r2)

/-- The shape of what is owned. -/
theorem owns_form {w : World} {B : Nat} {e : TypeId} {size : Nat} {v : Value} {n : Nat} {xs : List Value} (h : w.ownsRow B e size v n xs) : ∃ x cx, v = .slice x n cx := by
  rcases h.2 with ⟨rfl, rfl⟩ | ⟨g, cap, cur, rfl, _⟩
  · exact ⟨_, _, rfl⟩
  · exact ⟨_, _, rfl⟩


theorem owns_ge {w : World} {B : Nat} {e : TypeId} {size : Nat} {v : Value} {n : Nat} {xs : List Value} (h : w.ownsRow B e size v n xs) : ∀ k, v.ownBlock = some k → B ≤ k := by
  intro k hk
  rcases h.2 with ⟨rfl, _⟩ | ⟨g, cap, cur, rfl, hb, _⟩
  · simp [Value.ownBlock] at hk
  · simp [Value.ownBlock] at hk
    omega
theorem owns_mono {w : World} {B B' : Nat} {e : TypeId} {size : Nat} {v : Value} {n : Nat} {xs : List Value} (h : w.ownsRow B e size v n xs) (hB : B' ≤ B) : w.ownsRow B' e size v n xs := by
  refine ⟨h.1, ?_⟩
  rcases h.2 with h | ⟨g, cap, cur, h1, hb, h2⟩
  · exact .inl h
  · exact .inr ⟨g, cap, cur, h1, by omega, h2⟩

/-- An append behind a mark of the heap: what lay ahead of the mark is as it was. -/
theorem grown_on {w0 w w' : World} {Z : Nat} {e : TypeId} {size n : Nat} {v : Value} {xs : List Value} (hb : Below Z w0 w) (hZ : Z ≤ w.heap.size) (h : w.ownsRow Z e size v n xs) (hg : w.grownBy w' v.ownBlock) : Below Z w0 w' := hb.trans (Grown.below hg hZ (owns_ge h))
theorem addN (b off j : Nat) : (⟨b, off, none⟩ : Addr).add j = ⟨b, off + j, none⟩ := by unfold Addr.add; split <;> simp_all
/-- The cells of ints. -/
def cis (l : List Int) : List Value := l.map iv
theorem cis_len (l : List Int) : (cis l).length = l.length := by simp [cis]
theorem cis_app (l m : List Int) : cis (l ++ m) = cis l ++ cis m := by simp [cis]
theorem cis_one (l : List Int) : ∀ u ∈ cis l, u.oneCell' = true := by
  intro u hu
  simp only [cis, List.mem_map] at hu
  obtain ⟨x, _, rfl⟩ := hu
  rfl
theorem cis_at {l : List Int} {i : Nat} (h : i < l.length) : (cis l)[i]? = some (iv (gi l i)) := by simp [cis, gi, h]
/-- A row of ints that may be appended to. -/
abbrev OwnI (w : World) (B : Nat) (v : Value) (l : List Int) : Prop := w.ownsRow B 3 1 v l.length (cis l)
theorem OwnI.nil (w : World) (B : Nat) : OwnI w B (.slice none 0 0) [] := ⟨rfl, .inl ⟨rfl, rfl⟩⟩
theorem OwnI.ib {w : World} {B : Nat} {v : Value} {l : List Int} (h : OwnI w B v l) : ∃ g, IB w B w.heap.size v l g := by
  rcases h.2 with ⟨rfl, h2⟩ | ⟨g, cap, cur, rfl, hb, hg, hc, hm, hcs, ht⟩
  · have : l = [] := List.eq_nil_of_length_eq_zero h2
    subst this
    exact ⟨0, IB.nil⟩
  · refine ⟨g, _, cap, rfl, hc, fun _ => ⟨rfl, hb, box_lt hg, cur, hg, fun i hi => ?_⟩⟩
    have k := cis_at hi
    rw [← ht, List.getElem?_take, if_pos (by omega)] at k
    simpa using k
theorem OwnI.ints {w : World} {B : Nat} {v : Value} {l : List Int} (h : OwnI w B v l) : ∃ a c, v = .slice a l.length c ∧ l.length ≤ c ∧ Ints w a l := by
  obtain ⟨g, hg⟩ := h.ib
  exact hg.ints
theorem At.src {w : World} {a : Option Addr} {l : List Int} (h : Ints w a l) : l.length = 0 ∨ ∃ ad, a = some ad ∧ ∀ j u, (cis l)[j]? = some u → w.cell? (ad.add j) = some u := by
  by_cases h0 : l.length = 0
  · exact .inl h0
  · obtain ⟨b, off, rfl, hc⟩ := h h0
    refine .inr ⟨_, rfl, fun j u hj => ?_⟩
    have hlt : j < l.length := by have := (List.getElem?_eq_some_iff.1 hj).1; rwa [cis_len] at this
    rw [addN, hc j hlt, ← hj, cis_at hlt]
theorem src_new (w : World) (u : Value) (t : TypeId) : (1 : Nat) = 0 ∨ ∃ ad, some (⟨w.heap.size, 0, none⟩ : Addr) = some ad ∧ ∀ j x, [u][j]? = some x → (w.alloc (.cells #[u] t)).cell? (ad.add j) = some x :=
  .inr ⟨_, rfl, new_one w u t⟩
theorem gi_take {l : List Int} {k i : Nat} (h : i < k) : gi (l.take k) i = gi l i := by simp [gi, h]
theorem gi_drop {l : List Int} {k i : Nat} : gi (l.drop k) i = gi l (k + i) := by simp [gi]

/-- Places of buckets: rows of two ints. -/
def gq (l : List (Nat × Nat)) (i : Nat) : Nat × Nat := l.getD i (0, 0)
theorem gq_snoc_lt {l : List (Nat × Nat)} {x : Nat × Nat} {i : Nat} (h : i < l.length) : gq (l ++ [x]) i = gq l i := by simp [gq, List.getElem?_append_left h]
theorem gq_snoc {l : List (Nat × Nat)} {x : Nat × Nat} : gq (l ++ [x]) l.length = x := by simp [gq]
def cps (l : List (Nat × Nat)) : List Value := l.flatMap fun x => [.int .i64 (x.1 : Int), .int .i64 (x.2 : Int)]
theorem cps_cons (x : Nat × Nat) (l : List (Nat × Nat)) : cps (x :: l) = .int .i64 (x.1 : Int) :: .int .i64 (x.2 : Int) :: cps l := rfl
theorem cps_app (l m : List (Nat × Nat)) : cps (l ++ m) = cps l ++ cps m := by simp [cps]
theorem cps_at : ∀ (l : List (Nat × Nat)) (i : Nat), i < l.length → (cps l)[i * 2]? = some (.int .i64 ((gq l i).1 : Int)) ∧ (cps l)[i * 2 + 1]? = some (.int .i64 ((gq l i).2 : Int))
  | [], i, h => absurd h (by simp)
  | x :: l, 0, _ => by rw [cps_cons]; simp [gq]
  | x :: l, i + 1, h => by
    have := cps_at l i (by simpa using h)
    have e : gq (x :: l) (i + 1) = gq l i := by simp [gq]
    rw [cps_cons, e]
    refine ⟨?_, ?_⟩
    · rw [show (i + 1) * 2 = i * 2 + 1 + 1 by omega]; simpa using this.1
    · rw [show (i + 1) * 2 + 1 = i * 2 + 1 + 1 + 1 by omega]; simpa using this.2
theorem info81 : (Try.prog.info? 92).map (fun i => (i.zero, i.size, i.bytes)) = some (some (.agg #[.int .i64 0, .int .i64 0]), 2, 16) := by kernel_rfl
abbrev OwnP (w : World) (B : Nat) (v : Value) (l : List (Nat × Nat)) : Prop := w.ownsRow B 92 2 v l.length (cps l)
theorem OwnP.nil (w : World) (B : Nat) : OwnP w B (.slice none 0 0) [] := ⟨rfl, .inl ⟨rfl, rfl⟩⟩
def Pls (w : World) (a : Option Addr) (l : List (Nat × Nat)) : Prop :=
  l.length ≠ 0 → ∃ b off, a = some ⟨b, off, none⟩ ∧ ∀ i, i < l.length → w.cell? ⟨b, off + i * 2, none⟩ = some (.int .i64 ((gq l i).1 : Int)) ∧ w.cell? ⟨b, off + i * 2 + 1, none⟩ = some (.int .i64 ((gq l i).2 : Int))
theorem Pls.below {w w' : World} {a : Option Addr} {l : List (Nat × Nat)} (h : Pls w a l) (hb : Below w.heap.size w w') : Pls w' a l := by
  intro hn
  obtain ⟨b, off, rfl, hc⟩ := h hn
  exact ⟨b, off, rfl, fun i hi => ⟨cell_on (hc i hi).1 hb, cell_on (hc i hi).2 hb⟩⟩
theorem OwnP.pls {w : World} {B : Nat} {v : Value} {l : List (Nat × Nat)} (h : OwnP w B v l) : ∃ a c, v = .slice a l.length c ∧ l.length ≤ c ∧ Pls w a l := by
  rcases h.2 with ⟨rfl, h2⟩ | ⟨g, cap, cur, rfl, hb, hg, hc, hm, hcs, ht⟩
  · exact ⟨none, 0, by rw [h2], by omega, fun hn => absurd h2 hn⟩
  · refine ⟨_, cap, rfl, hc, fun _ => ⟨g, 0, rfl, fun i hi => ?_⟩⟩
    have k := cps_at l i hi
    rw [← ht, List.getElem?_take, if_pos (by omega), List.getElem?_take, if_pos (by omega)] at k
    rw [Nat.zero_add]
    exact ⟨cell_of_block hg (by simpa using k.1), cell_of_block hg (by simpa using k.2)⟩
theorem src_two (w : World) (p q : Value) (t : TypeId) : (1 : Nat) = 0 ∨ ∃ ad, some (⟨w.heap.size, 0, none⟩ : Addr) = some ad ∧ ∀ j u, [p, q][j]? = some u → (w.alloc (.cells #[p, q] t)).cell? (ad.add j) = some u := by
  refine .inr ⟨_, rfl, fun j u hj => ?_⟩
  obtain ⟨h0, h1, -, -⟩ := box2_cells (al1 w (.cells #[p, q] t))
  rw [addN, Nat.zero_add]
  match j, hj with
  | 0, hj => simp at hj; subst hj; exact h0
  | 1, hj => simp at hj; subst hj; exact h1
  | j + 2, hj => simp at hj

/-- The cells of names. -/
def cns (l : List Nm) : List Value := l.flatMap fun x => [.string x.nm, .int .i64 x.fl]
theorem cns_cons (x : Nm) (l : List Nm) : cns (x :: l) = .string x.nm :: .int .i64 x.fl :: cns l := rfl
theorem cns_app (l m : List Nm) : cns (l ++ m) = cns l ++ cns m := by simp [cns]
theorem cns_len : ∀ (l : List Nm), (cns l).length = l.length * 2
  | [] => rfl
  | x :: l => by rw [cns_cons, List.length_cons, List.length_cons, cns_len l, List.length_cons]; omega
theorem cns_one (l : List Nm) : ∀ u ∈ cns l, u.oneCell' = true := by
  intro u hu
  simp only [cns, List.mem_flatMap] at hu
  obtain ⟨x, _, hx⟩ := hu
  simp at hx
  rcases hx with rfl | rfl <;> rfl
theorem cns_at : ∀ (l : List Nm) (i : Nat), i < l.length → (cns l)[i * 2]? = some (.string (gm l i).nm) ∧ (cns l)[i * 2 + 1]? = some (.int .i64 (gm l i).fl)
  | [], i, h => absurd h (by simp)
  | x :: l, 0, _ => by rw [cns_cons]; simp [gm]
  | x :: l, i + 1, h => by
    have := cns_at l i (by simpa using h)
    have e : gm (x :: l) (i + 1) = gm l i := by simp [gm]
    rw [cns_cons, e]
    refine ⟨?_, ?_⟩
    · rw [show (i + 1) * 2 = i * 2 + 1 + 1 by omega]; simpa using this.1
    · rw [show (i + 1) * 2 + 1 = i * 2 + 1 + 1 + 1 by omega]; simpa using this.2
/-- A row of names that may be appended to. -/
abbrev OwnN (w : World) (B : Nat) (v : Value) (l : List Nm) : Prop := w.ownsRow B 36 2 v l.length (cns l)
theorem OwnN.nil (w : World) (B : Nat) : OwnN w B (.slice none 0 0) [] := ⟨rfl, .inl ⟨rfl, rfl⟩⟩
theorem OwnN.nb {w : World} {B : Nat} {v : Value} {l : List Nm} (h : OwnN w B v l) : ∃ g, NB w B w.heap.size v l g := by
  rcases h.2 with ⟨rfl, h2⟩ | ⟨g, cap, cur, rfl, hb, hg, hc, hm, hcs, ht⟩
  · have : l = [] := List.eq_nil_of_length_eq_zero h2
    subst this
    exact ⟨0, NB.nil⟩
  · refine ⟨g, _, cap, rfl, hc, fun _ => ⟨rfl, hb, box_lt hg, cur, hg, fun i hi => ?_⟩⟩
    have k := cns_at l i hi
    rw [← ht, List.getElem?_take, if_pos (by omega), List.getElem?_take, if_pos (by omega)] at k
    simpa using k
theorem OwnN.names {w : World} {B : Nat} {v : Value} {l : List Nm} (h : OwnN w B v l) : ∃ a c, v = .slice a l.length c ∧ l.length ≤ c ∧ Nms w a l := by
  obtain ⟨g, hg⟩ := h.nb
  exact hg.names
theorem Nms.src {w : World} {a : Option Addr} {l : List Nm} (h : Nms w a l) : l.length = 0 ∨ ∃ ad, a = some ad ∧ ∀ j u, (cns l)[j]? = some u → w.cell? (ad.add j) = some u := by
  by_cases h0 : l.length = 0
  · exact .inl h0
  · obtain ⟨b, off, rfl, hc⟩ := h h0
    refine .inr ⟨_, rfl, fun j u hj => ?_⟩
    have hlt : j < l.length * 2 := by have := (List.getElem?_eq_some_iff.1 hj).1; rwa [cns_len] at this
    rw [addN]
    have k := cns_at l (j / 2) (by omega)
    have g := hc (j / 2) (by omega)
    rcases Nat.mod_two_eq_zero_or_one j with q | q
    · have ej : j / 2 * 2 = j := by omega
      rw [ej] at k
      have g1 := g.1
      rw [ej] at g1
      rw [g1, ← hj, k.1]
    · have ej : j / 2 * 2 + 1 = j := by omega
      have g2 := g.2
      rw [Nat.add_assoc, ej] at g2
      rw [ej] at k
      rw [g2, ← hj, k.2]
theorem gm_take {l : List Nm} {k i : Nat} (h : i < k) : gm (l.take k) i = gm l i := by simp [gm, h]
theorem gm_drop {l : List Nm} {k i : Nat} : gm (l.drop k) i = gm l (k + i) := by simp [gm]
end Go.Proofs.Ytfmgaenedkjmkaa
