import Derived.Test.YtjalhfpjiakhoaaN1
namespace Go.Proofs.Ytjalhfpjiakhoaa
open Go.ChangeShapes Go.WideShapes Go.ChangeAt Go.RowKit
set_option linter.unusedVariables false

/-- The cells of m writes, as a list. -/
def wrtCells (m : Nat) (T : Nat → Int) (U : Nat → ByteArray) : List Value := (List.range m).flatMap fun i => [.int .i64 (T i), .string (U i)]
theorem wrtCells_succ (m : Nat) (T : Nat → Int) (U : Nat → ByteArray) : wrtCells (m + 1) T U = wrtCells m T U ++ [.int .i64 (T m), .string (U m)] := by simp [wrtCells, List.range_succ]
theorem wrtCells_len : ∀ (m : Nat) (T : Nat → Int) (U : Nat → ByteArray), (wrtCells m T U).length = m * 2
  | 0, _, _ => rfl
  | m + 1, T, U => by rw [wrtCells_succ, List.length_append, wrtCells_len m T U]; simp; omega
theorem wrtCells_at (T : Nat → Int) (U : Nat → ByteArray) : ∀ (m i : Nat), i < m → (wrtCells m T U)[i * 2]? = some (.int .i64 (T i)) ∧ (wrtCells m T U)[i * 2 + 1]? = some (.string (U i))
  | 0, i, h => absurd h (by omega)
  | m + 1, i, h => by
    rw [wrtCells_succ]
    by_cases e : i = m
    · subst e
      rw [List.getElem?_append_right (by rw [wrtCells_len]; omega), List.getElem?_append_right (by rw [wrtCells_len]; omega), wrtCells_len]
      simp
    · rw [List.getElem?_append_left (by rw [wrtCells_len]; omega), List.getElem?_append_left (by rw [wrtCells_len]; omega)]
      exact wrtCells_at T U m i (by omega)
theorem wrtCells_one (m : Nat) (T : Nat → Int) (U : Nat → ByteArray) : ∀ v ∈ wrtCells m T U, v.oneCell' = true := by
  intro v hv
  rw [wrtCells, List.mem_flatMap] at hv
  obtain ⟨i, _, h⟩ := hv
  simp at h
  rcases h with rfl | rfl <;> rfl
theorem wrtCells_src {w : World} {b off m : Nat} {T : Nat → Int} {U : Nat → ByteArray} (h : ∀ i, i < m → w.cell? ⟨b, off + i * 2, none⟩ = some (.int .i64 (T i)) ∧ w.cell? ⟨b, off + i * 2 + 1, none⟩ = some (.string (U i))) :
    ∀ j v, (wrtCells m T U)[j]? = some v → w.cell? ((⟨b, off, none⟩ : Addr).add j) = some v := by
  intro j v hj
  have hlt : j < m * 2 := by have := (List.getElem?_eq_some_iff.1 hj).1; rw [wrtCells_len] at this; exact this
  have e : (⟨b, off, none⟩ : Addr).add j = ⟨b, off + j, none⟩ := by unfold Addr.add; split <;> simp_all
  rw [e]
  obtain ⟨a1, a2⟩ := wrtCells_at T U m (j / 2) (by omega)
  obtain ⟨c1, c2⟩ := h (j / 2) (by omega)
  by_cases hp : j % 2 = 0
  · have ej : j = j / 2 * 2 := by omega
    rw [← ej] at a1 c1
    rw [hj] at a1
    rw [c1, ← a1]
  · have ej : j = j / 2 * 2 + 1 := by omega
    rw [← ej] at a2
    rw [hj] at a2
    rw [Nat.add_assoc, ← ej] at c2
    rw [c2, ← a2]
theorem src2 {w : World} {a : Option Addr} {m : Nat} {T : Nat → Int} {U : Nat → ByteArray} (h : At2 w a m T U) : m = 0 ∨ ∃ ad, a = some ad ∧ ∀ j v, (wrtCells m T U)[j]? = some v → w.cell? (ad.add j) = some v := by
  by_cases h0 : m = 0
  · exact .inl h0
  · obtain ⟨b, off, rfl, hc⟩ := h h0
    exact .inr ⟨_, rfl, wrtCells_src hc⟩
theorem src1 {w : World} {a : Option Addr} {n : Nat} {S : Nat → ByteArray} (h : At w a n fun i => .string (S i)) : n = 0 ∨ ∃ ad, a = some ad ∧ ∀ j v, (strCells n S)[j]? = some v → w.cell? (ad.add j) = some v := by
  by_cases h0 : n = 0
  · exact .inl h0
  · obtain ⟨b, off, rfl, hc⟩ := h h0
    exact .inr ⟨_, rfl, strCells_src hc⟩

/-- An append of nothing leaves the slice and the world as they were. -/
theorem run_append_zero {P : Program} (w : World) (base : Nat) (t ty e : TypeId) (i : TypeInfo) (size : Nat) (ht : P.underlying t = some (.slice e)) (hi : P.info? e = some i)
    (v : Value) (n : Nat) (xs : List Value) (hown : w.ownsRow base e size v n xs) (sa : Option Addr) (c : Nat) : (Builtin.append_ #[t, t] ty #[v, .slice sa 0 c]).run P w = .ok v w := by
  have hl0 : ∀ x : Addr, (loadCells x 0).run P w = .ok #[] w := fun x => by simpa using run_loadCells_list (P := P) w x [] (by simp)
  rcases hown.2 with ⟨rfl, rfl⟩ | ⟨g, cap, cur, rfl, _, _, hn, _⟩
  · cases sa <;> simp [Builtin.append_, run_underlying ht, sizeOf, typeInfo, hi, Builtin.lenOf, Builtin.firstCells, hl0]
  · cases sa <;> simp [Builtin.append_, run_underlying ht, sizeOf, typeInfo, hi, Builtin.lenOf, Builtin.firstCells, hl0, hn, storeCells]

theorem run_append_src {P : Program} (w : World) (base : Nat) (t ty e : TypeId) (i : TypeInfo) (z : Value) (size bytes : Nat) (ht : P.underlying t = some (.slice e)) (hi : P.info? e = some i) (hz : i.zero = some z)
    (hsize : i.size = size) (hby : i.bytes = bytes) (hzs : z.cells.size = size) (hsz : 0 < size)
    (v : Value) (n : Nat) (xs : List Value) (hown : w.ownsRow base e size v n xs)
    (sa : Option Addr) (m c : Nat) (news : List Value) (hl : news.length = m * size) (hsrc : m = 0 ∨ ∃ ad, sa = some ad ∧ ∀ j u, news[j]? = some u → w.cell? (ad.add j) = some u) (h1 : ∀ u ∈ news, u.oneCell' = true)
    (h63 : n + m ≤ maxLen) (hbytes : (n + m) * bytes ≤ 140737488355328) (hbase : base ≤ w.heap.size) :
    ∃ v' w', (Builtin.append_ #[t, t] ty #[v, .slice sa m c]).run P w = .ok v' w' ∧ w'.ownsRow base e size v' (n + m) (xs ++ news) ∧ w.grownBy w' v.ownBlock := by
  rcases hsrc with h0 | ⟨ad, rfl, hc⟩
  · subst h0
    have hnil : news = [] := List.eq_nil_of_length_eq_zero (by simpa using hl)
    subst hnil
    refine ⟨v, w, run_append_zero w base t ty e i size ht hi v n xs hown sa c, by simpa using hown, ⟨rfl, rfl, rfl, Nat.le_refl _, fun _ _ _ => rfl⟩⟩
  · obtain ⟨v', w', hrun, r1, r2, _⟩ := run_append_own (P := P) w base t ty e i z size bytes ht hi hz hsize hby hzs hsz v n xs hown ad m c news hl hc h1 h63 hbytes hbase
    exact ⟨v', w', hrun, r1, r2⟩

theorem wpList_append_src {P : Program} {w : World} {ops : Array Oper} {rest : List Oper} {o : Oper} {a : Act} {Q : Exit → Act → World → Prop} (hgd : o.guard = none) (s x : Operand) (t : TypeId)
    (ho : o.op = .call { callee := .builtin .append, args := #[s, x], argTypes := #[t, t] })
    (base : Nat) (e : TypeId) (z : Value) (size bytes : Nat) (ht : P.underlying t = some (.slice e)) (hinfo : (P.info? e).map (fun i => (i.zero, i.size, i.bytes)) = some (some z, size, bytes)) (hzs : z.cells.size = size) (hsz : 0 < size)
    (v : Value) (n : Nat) (xs : List Value) (hs : a.eval s = v) (hown : w.ownsRow base e size v n xs)
    (sa : Option Addr) (m c : Nat) (news : List Value) (hx : a.eval x = .slice sa m c) (hl : news.length = m * size) (hsrc : m = 0 ∨ ∃ ad, sa = some ad ∧ ∀ j u, news[j]? = some u → w.cell? (ad.add j) = some u) (h1 : ∀ u ∈ news, u.oneCell' = true)
    (h63 : n + m ≤ 1000000000) (hbytes : bytes ≤ 100000) (hbase : base ≤ w.heap.size)
    (h : ∀ v' w', w'.ownsRow base e size v' (n + m) (xs ++ news) → w.grownBy w' v.ownBlock → wpList P ops Q rest (a.put o.dst v') w') : wpList P ops Q (o :: rest) a w := by
  refine wpList_plain hgd fun K hK => ?_
  obtain ⟨i, hi, hz0, hz1, hz2⟩ := info_parts hinfo
  have hb2 : (n + m) * bytes ≤ 1000000000 * 100000 := Nat.mul_le_mul h63 hbytes
  obtain ⟨v', w', hrun, r1, r2⟩ := run_append_src (P := P) w base t o.type e i z size bytes ht hi hz0 hz1 hz2 hzs hsz v n xs hown sa m c news hl hsrc h1 (by unfold maxLen; omega) (by omega) hbase
  unfold Oper.wp
  simp [execOp, ho, resolve, invoke, builtin, hs, hx, hrun, Result.andThen]
  exact hK _ _ (h v' w' r1 r2)

/-- The shape of what is owned. -/
theorem owns_form {w : World} {B : Nat} {e : TypeId} {size : Nat} {v : Value} {n : Nat} {xs : List Value} (h : w.ownsRow B e size v n xs) : ∃ x cx, v = .slice x n cx := by
  rcases h.2 with ⟨rfl, rfl⟩ | ⟨g, cap, cur, rfl, _⟩
  · exact ⟨_, _, rfl⟩
  · exact ⟨_, _, rfl⟩
theorem owns_strs {w : World} {B : Nat} {e : TypeId} {x : Option Addr} {n cx : Nat} {S : Nat → ByteArray} (h : w.ownsRow B e 1 (.slice x n cx) n (strCells n S)) : Mine w B w.heap.size e n x (strs n S) := by
  by_cases h0 : n = 0
  · exact .inl h0
  · obtain ⟨g, cap, cur, hv, hb, hg, hs, hc⟩ := owns_mine h h0
    simp at hv
    exact .inr ⟨g, cur, hb, (Array.getElem?_eq_some_iff.1 hg).1, hv.1, hg, fun i hi => by rw [hc i (by omega)]; exact strCells_at _ _ hi⟩
theorem owns_wrts {w : World} {B : Nat} {e : TypeId} {x : Option Addr} {n cx : Nat} {T : Nat → Int} {U : Nat → ByteArray} (h : w.ownsRow B e 2 (.slice x n cx) n (wrtCells n T U)) : Mine w B w.heap.size e n x (wrts n T U) := by
  by_cases h0 : n = 0
  · exact .inl h0
  · obtain ⟨g, cap, cur, hv, hb, hg, hs, hc⟩ := owns_mine h h0
    simp at hv
    exact .inr ⟨g, cur, hb, (Array.getElem?_eq_some_iff.1 hg).1, hv.1, hg, fun i hi => by rw [hc (i * 2) (by omega), hc (i * 2 + 1) (by omega)]; exact wrtCells_at T U n i hi⟩
end Go.Proofs.Ytjalhfpjiakhoaa
