import Derived.Test.YtpafeophdgnkmaaS1
/- Rows of extents that grow: append, and parts of a row. -/
namespace Go.Proofs.Ytpafeophdgnkmaa
open Go.ChangeShapes Go.WideShapes Go.ChangeAt Go.RowKit
set_option linter.unusedVariables false
open Room

attribute [local go_sem] Oper.semAt_some

theorem Grown.below {w w' : World} {row : Option Nat} {B : Nat} (h : w.grownBy w' row) (hB : B ≤ w.heap.size) (hr : ∀ k, row = some k → B ≤ k) : Below B w w' := (Below.refl _ _).grown h hB hr

theorem owns_below {w w' : World} {base : Nat} {e : TypeId} {size : Nat} {v : Value} {n : Nat} {xs : List Value} (h : w.ownsRow base e size v n xs) (hb : Below w.heap.size w w') : w'.ownsRow base e size v n xs :=
  h.kept (row := none) ⟨hb.os, hb.tape, hb.output, hb.size, fun k hk _ => hb.block k hk⟩ (by cases v.ownBlock <;> simp)

theorem new_one (w : World) (u : Value) (t : TypeId) : ∀ j x, [u][j]? = some x → (w.alloc (.cells #[u] t)).cell? ((⟨w.heap.size, 0, none⟩ : Addr).add j) = some x := by
  intro j x hj
  match j, hj with
  | 0, hj => simp at hj; subst hj; simp [Addr.add]

/-- An append of nothing leaves the slice and the world as they were. -/
theorem run_append_zero {P : Program} (w : World) (base : Nat) (t ty e : TypeId) (i : TypeInfo) (size : Nat) (ht : P.underlying t = some (.slice e)) (hi : P.info? e = some i)
    (v : Value) (n : Nat) (xs : List Value) (hown : w.ownsRow base e size v n xs) (sa : Option Addr) (c : Nat) : (Builtin.append_ #[t, t] ty #[v, .slice sa 0 c]).run P w = .ok v w := by
  have hl0 : ∀ x : Addr, (loadCells x 0).run P w = .ok #[] w := fun x => by simpa using run_loadCells_list (P := P) w x [] (by simp)
  rcases hown.2 with ⟨rfl, rfl⟩ | ⟨g, cap, cur, rfl, _, _, hn, _⟩
  · cases sa <;> simp [Builtin.append_, run_underlying ht, sizeOf, typeInfo, hi, Builtin.lenOf, Builtin.firstCells, hl0]
  · cases sa <;> simp [Builtin.append_, run_underlying ht, sizeOf, typeInfo, hi, Builtin.lenOf, Builtin.firstCells, hl0, hn, storeCells]

theorem run_append_src {P : Program} (w : World) (base : Nat) (t ty e : TypeId) (i : TypeInfo) (z : Value) (size bytes : Nat) (ht : P.underlying t = some (.slice e)) (hi : P.info? e = some i) (hz : i.zero = some z)
    (hsize : i.size = size) (hby : i.bytes = bytes) (hzs : z.cells.size = size) (hsz : 0 < size)
    (v : Value) (n : Nat) (xs : List Value) (hown : w.ownsRow base e size v n xs)
    (sa : Option Addr) (m c : Nat) (news : List Value) (hl : news.length = m * size) (hsrc : m = 0 ∨ ∃ ad, sa = some ad ∧ ∀ j u, news[j]? = some u → w.cell? (ad.add j) = some u) (h1 : ∀ u ∈ news, u.oneCell' = true)
    (h63 : n + m ≤ maxLen) (hbytes : (n + m) * bytes ≤ 140737488355328) (hbase : base ≤ w.heap.size) :
    ∃ v' w', (Builtin.append_ #[t, t] ty #[v, .slice sa m c]).run P w = .ok v' w' ∧ w'.ownsRow base e size v' (n + m) (xs ++ news) ∧ w.grownBy w' v.ownBlock := by
  rcases hsrc with h0 | ⟨ad, rfl, hc⟩
  · subst h0
    have hnil : news = [] := List.eq_nil_of_length_eq_zero (by simpa using hl)
    subst hnil
    refine ⟨v, w, run_append_zero w base t ty e i size ht hi v n xs hown sa c, by simpa using hown, ⟨rfl, rfl, rfl, Nat.le_refl _, fun _ _ _ => rfl⟩⟩
  · obtain ⟨v', w', hrun, r1, r2, _⟩ := run_append_own (P := P) w base t ty e i z size bytes ht hi hz hsize hby hzs hsz v n xs hown ad m c news hl hc h1 h63 hbytes hbase
    exact ⟨v', w', hrun, r1, r2⟩

theorem wpList_append_src {P : Program} {w : World} {ops : Array Oper} {rest : List Oper} {o : Oper} {a : Act} {Q : Exit → Act → World → Prop} (hgd : o.guard = none) (s x : Operand) (t : TypeId)
    (ho : o.op = .call { callee := .builtin .append, args := #[s, x], argTypes := #[t, t] })
    (base : Nat) (e : TypeId) (z : Value) (size bytes : Nat) (ht : P.underlying t = some (.slice e)) (hinfo : (P.info? e).map (fun i => (i.zero, i.size, i.bytes)) = some (some z, size, bytes)) (hzs : z.cells.size = size) (hsz : 0 < size)
    (v : Value) (n : Nat) (xs : List Value) (hs : a.eval s = v) (hown : w.ownsRow base e size v n xs)
    (sa : Option Addr) (m c : Nat) (news : List Value) (hx : a.eval x = .slice sa m c) (hl : news.length = m * size) (hsrc : m = 0 ∨ ∃ ad, sa = some ad ∧ ∀ j u, news[j]? = some u → w.cell? (ad.add j) = some u) (h1 : ∀ u ∈ news, u.oneCell' = true)
    (h63 : n + m ≤ 1000000000) (hbytes : bytes ≤ 100000) (hbase : base ≤ w.heap.size)
    (h : ∀ v' w', w'.ownsRow base e size v' (n + m) (xs ++ news) → w.grownBy w' v.ownBlock → wpList P ops Q rest (a.put o.dst v') w') : wpList P ops Q (o :: rest) a w := by
  refine wpList_plain hgd fun K hK => ?_
  obtain ⟨i, hi, hz0, hz1, hz2⟩ := info_parts hinfo
  have hb2 : (n + m) * bytes ≤ 1000000000 * 100000 := Nat.mul_le_mul h63 hbytes
  obtain ⟨v', w', hrun, r1, r2⟩ := run_append_src (P := P) w base t o.type e i z size bytes ht hi hz0 hz1 hz2 hzs hsz v n xs hown sa m c news hl hsrc h1 (by unfold maxLen; omega) (by omega) hbase
  unfold Oper.wp
  simp [execOp, ho, resolve, invoke, builtin, hs, hx, hrun, Result.andThen]
  exact hK _ _ (h v' w' r1 r2)

/-- The shape of what is owned. -/
theorem owns_form {w : World} {B : Nat} {e : TypeId} {size : Nat} {v : Value} {n : Nat} {xs : List Value} (h : w.ownsRow B e size v n xs) : ∃ x cx, v = .slice x n cx := by
  rcases h.2 with ⟨rfl, rfl⟩ | ⟨g, cap, cur, rfl, _⟩
  · exact ⟨_, _, rfl⟩
  · exact ⟨_, _, rfl⟩


theorem owns_ge {w : World} {B : Nat} {e : TypeId} {size : Nat} {v : Value} {n : Nat} {xs : List Value} (h : w.ownsRow B e size v n xs) : ∀ k, v.ownBlock = some k → B ≤ k := by
  intro k hk
  rcases h.2 with ⟨rfl, _⟩ | ⟨g, cap, cur, rfl, hb, _⟩
  · simp [Value.ownBlock] at hk
  · simp [Value.ownBlock] at hk
    omega
theorem owns_mono {w : World} {B B' : Nat} {e : TypeId} {size : Nat} {v : Value} {n : Nat} {xs : List Value} (h : w.ownsRow B e size v n xs) (hB : B' ≤ B) : w.ownsRow B' e size v n xs := by
  refine ⟨h.1, ?_⟩
  rcases h.2 with h | ⟨g, cap, cur, h1, hb, h2⟩
  · exact .inl h
  · exact .inr ⟨g, cap, cur, h1, by omega, h2⟩
/-- The cells of extents, one behind the other. -/
def cxs (l : List Ex) : List Value := l.flatMap encX
theorem cxs_nil : cxs [] = [] := rfl
theorem cxs_cons (x : Ex) (l : List Ex) : cxs (x :: l) = .int .i64 x.1 :: .int .i64 x.2 :: cxs l := rfl
theorem cxs_app (l m : List Ex) : cxs (l ++ m) = cxs l ++ cxs m := by simp [cxs]
theorem cxs_len : ∀ (l : List Ex), (cxs l).length = l.length * 2
  | [] => rfl
  | x :: l => by rw [cxs_cons, List.length_cons, List.length_cons, cxs_len l, List.length_cons]; omega
theorem cxs_one (l : List Ex) : ∀ u ∈ cxs l, u.oneCell' = true := by
  intro u hu
  simp only [cxs, List.mem_flatMap] at hu
  obtain ⟨x, _, hx⟩ := hu
  exact encX_one x u hx
theorem cxs_at : ∀ (l : List Ex) (i : Nat), i < l.length → (cxs l)[i * 2]? = some (.int .i64 (gx l i).1) ∧ (cxs l)[i * 2 + 1]? = some (.int .i64 (gx l i).2)
  | [], i, h => absurd h (by simp)
  | x :: l, 0, _ => by rw [cxs_cons]; simp [gx]
  | x :: l, i + 1, h => by
    have := cxs_at l i (by simpa using h)
    have e : gx (x :: l) (i + 1) = gx l i := by simp [gx]
    rw [cxs_cons, e]
    refine ⟨?_, ?_⟩
    · rw [show (i + 1) * 2 = i * 2 + 1 + 1 by omega]; simpa using this.1
    · rw [show (i + 1) * 2 + 1 = i * 2 + 1 + 1 + 1 by omega]; simpa using this.2
/-- A row of extents that may be appended to. -/
abbrev OwnR (w : World) (B : Nat) (v : Value) (l : List Ex) : Prop := w.ownsRow B 36 2 v l.length (cxs l)
theorem OwnR.nil (w : World) (B : Nat) : OwnR w B (.slice none 0 0) [] := ⟨rfl, .inl ⟨rfl, rfl⟩⟩
theorem OwnR.own {w : World} {B : Nat} {a : Option Addr} {n c : Nat} {l : List Ex} (h : OwnR w B (.slice a n c) l) : Own w B w.heap.size a l ∧ n = l.length ∧ l.length ≤ c := by
  rcases h.2 with ⟨h1, h2⟩ | ⟨g, cap, cur, h1, hb, hg, hc, hm, hcs, ht⟩
  · simp only [Value.slice.injEq] at h1
    obtain ⟨rfl, rfl, rfl⟩ := h1
    exact ⟨.inl h2, h2.symm, by omega⟩
  · simp only [Value.slice.injEq] at h1
    obtain ⟨rfl, rfl, rfl⟩ := h1
    refine ⟨.inr ⟨g, cur, hb, box_lt hg, rfl, hg, fun i hi => ?_⟩, rfl, hc⟩
    have k := cxs_at l i hi
    rw [← ht, List.getElem?_take, if_pos (by omega), List.getElem?_take, if_pos (by omega)] at k
    simpa using k
theorem RowX.src {w : World} {a : Option Addr} {l : List Ex} (h : Exs w a l) : l.length = 0 ∨ ∃ ad, a = some ad ∧ ∀ j u, (cxs l)[j]? = some u → w.cell? (ad.add j) = some u := by
  by_cases h0 : l.length = 0
  · exact .inl h0
  · obtain ⟨b, off, rfl, hc⟩ := h h0
    refine .inr ⟨_, rfl, fun j u hj => ?_⟩
    have hlt : j < l.length * 2 := by have := (List.getElem?_eq_some_iff.1 hj).1; rwa [cxs_len] at this
    have e : (⟨b, off, none⟩ : Addr).add j = ⟨b, off + j, none⟩ := by unfold Addr.add; split <;> simp_all
    rw [e]
    have k := cxs_at l (j / 2) (by omega)
    have g := hc (j / 2) (by omega)
    rcases Nat.mod_two_eq_zero_or_one j with q | q
    · have ej : j / 2 * 2 = j := by omega
      rw [ej] at k g
      rw [g.1, ← hj, k.1]
    · have ej : j / 2 * 2 + 1 = j := by omega
      rw [Nat.add_assoc, ej] at g
      rw [ej] at k
      rw [g.2, ← hj, k.2]
/-- An append behind a mark of the heap: what lay ahead of the mark is as it was. -/
theorem grown_on {w0 w w' : World} {Z : Nat} {v : Value} {l : List Ex} (hb : Below Z w0 w) (hZ : Z ≤ w.heap.size) (h : OwnR w Z v l) (hg : w.grownBy w' v.ownBlock) : Below Z w0 w' := hb.trans (Grown.below hg hZ (owns_ge h))
theorem src_one (w : World) (p q : Int) (t : TypeId) : (1 : Nat) = 0 ∨ ∃ ad, some (⟨w.heap.size, 0, none⟩ : Addr) = some ad ∧ ∀ j u, (cxs [(p, q)])[j]? = some u → (w.alloc (.cells #[.int .i64 p, .int .i64 q] t)).cell? (ad.add j) = some u := by
  refine .inr ⟨_, rfl, fun j u hj => ?_⟩
  obtain ⟨h0, h1, -, -⟩ := box2_cells (al1 w (.cells #[.int .i64 p, .int .i64 q] t))
  have e : (⟨w.heap.size, 0, none⟩ : Addr).add j = ⟨w.heap.size, j, none⟩ := by unfold Addr.add; split <;> simp_all
  rw [e]
  match j, hj with
  | 0, hj => simp [cxs, encX] at hj; subst hj; exact h0
  | 1, hj => simp [cxs, encX] at hj; subst hj; exact h1
  | j + 2, hj => simp [cxs, encX] at hj
/-- A part of a row. -/
def subA (x : Option Addr) (k c : Nat) : Option Addr := if c = k then x else x.map (·.add (k * 2))
theorem size31 (w : World) : (Go.sizeOf 36).run Try.prog w = .ok 2 w := Try.sizeOf36 w
theorem slice_to (x : Option Addr) (n c k : Nat) (h : k ≤ c) (w : World) : (Instr.slice 22 (.slice x n c) none (some (.int .i64 (k : Int))) none).run Try.prog w = .ok (.slice (subA x 0 c) k c) w := by
  rw [run_slice_h w 22 x n c (by kernel_rfl) .i64 k (by omega) (by omega), show Try.prog.elem 22 = 36 from by kernel_rfl, size31]
  simp [Result.andThen, sliced, subA]
theorem slice_from (x : Option Addr) (n c k : Nat) (h : k ≤ n) (w : World) : (Instr.slice 22 (.slice x n c) (some (.int .i64 (k : Int))) none none).run Try.prog w = .ok (.slice (subA x k c) (n - k) (c - k)) w := by
  rw [run_slice_l w 22 x n c (by kernel_rfl) .i64 k (by omega) (by omega), show Try.prog.elem 22 = 36 from by kernel_rfl, size31]
  simp [Result.andThen, sliced, subA]
theorem gx_take {l : List Ex} {k i : Nat} (h : i < k) : gx (l.take k) i = gx l i := by simp [gx, h]
theorem gx_drop {l : List Ex} {k i : Nat} : gx (l.drop k) i = gx l (k + i) := by simp [gx]
theorem RowX.take {w : World} {a : Option Addr} {l : List Ex} (h : Exs w a l) (c k : Nat) (hk : k ≤ l.length) : Exs w (subA a 0 c) (l.take k) := by
  intro hn
  simp at hn
  obtain ⟨b, off, rfl, hc⟩ := h (by omega)
  refine ⟨b, off, ?_, fun i hi => ?_⟩
  · unfold subA
    split
    · rfl
    · simp [Addr.add]
  · have hi' : i < k := by simp at hi; omega
    rw [gx_take hi']
    exact hc i (by omega)
theorem RowX.drop {w : World} {a : Option Addr} {l : List Ex} (h : Exs w a l) (c k : Nat) (hc : l.length ≤ c) : Exs w (subA a k c) (l.drop k) := by
  intro hn
  simp at hn
  obtain ⟨b, off, rfl, hcell⟩ := h (by omega)
  refine ⟨b, off + k * 2, ?_, fun i hi => ?_⟩
  · unfold subA
    rw [if_neg (by omega)]
    have e : (⟨b, off, none⟩ : Addr).add (k * 2) = ⟨b, off + k * 2, none⟩ := by unfold Addr.add; split <;> simp_all
    simp [e]
  · simp at hi
    rw [gx_drop]
    have := hcell (k + i) (by omega)
    rw [show off + k * 2 + i * 2 = off + (k + i) * 2 by omega]
    exact this
end Go.Proofs.Ytpafeophdgnkmaa
