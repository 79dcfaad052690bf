import Derived.Test.YtpolhigpcllhiaaB3
import Derived.Test.YtpolhigpcllhiaaI1
/- Rows of items. -/
namespace Go.Proofs.Ytpolhigpcllhiaa
open Go.ChangeShapes Go.WideShapes Go.ChangeAt Go.RowKit
set_option linter.unusedVariables false
open Room

attribute [local go_sem] Oper.semAt_some

/-- An item as a value. -/
abbrev iv (x : It) : Value := .agg #[.int .i64 x.k, .int .i64 x.i, .int .i64 x.x.1, .int .i64 x.x.2, .int .i64 x.u]
/-- A row of items that can be read. -/
def RowI (w : World) (a : Option Addr) (n : Nat) (g : Nat → It) : Prop :=
  n ≠ 0 → ∃ b off, a = some ⟨b, off, none⟩ ∧ ∀ i, i < n → w.cell? ⟨b, off + i * 5, none⟩ = some (.int .i64 (g i).k) ∧ w.cell? ⟨b, off + i * 5 + 1, none⟩ = some (.int .i64 (g i).i) ∧ w.cell? ⟨b, off + i * 5 + 2, none⟩ = some (.int .i64 (g i).x.1) ∧ w.cell? ⟨b, off + i * 5 + 3, none⟩ = some (.int .i64 (g i).x.2) ∧ w.cell? ⟨b, off + i * 5 + 4, none⟩ = some (.int .i64 (g i).u)
theorem RowI.below {w w' : World} {a : Option Addr} {n : Nat} {g : Nat → It} (h : RowI w a n g) (hb : Below w.heap.size w w') : RowI w' a n g := by
  intro hn
  obtain ⟨b, off, rfl, hc⟩ := h hn
  exact ⟨b, off, rfl, fun i hi => ⟨cell_on (hc i hi).1 hb, cell_on (hc i hi).2.1 hb, cell_on (hc i hi).2.2.1 hb, cell_on (hc i hi).2.2.2.1 hb, cell_on (hc i hi).2.2.2.2 hb⟩⟩
abbrev Its (w : World) (a : Option Addr) (l : List It) : Prop := RowI w a l.length (gi l)
/-- A row's cells hold these items. -/
def itsN (n : Nat) (g : Nat → It) (c : Array Value) : Prop := ∀ i, i < n → c[i * 5]? = some (.int .i64 (g i).k) ∧ c[i * 5 + 1]? = some (.int .i64 (g i).i) ∧ c[i * 5 + 2]? = some (.int .i64 (g i).x.1) ∧ c[i * 5 + 3]? = some (.int .i64 (g i).x.2) ∧ c[i * 5 + 4]? = some (.int .i64 (g i).u)
/-- A row of items that was made between two marks of the heap. -/
abbrev MineI (w : World) (B C : Nat) (a : Option Addr) (n : Nat) (g : Nat → It) : Prop := Mine w B C 71 n a (itsN n g)
theorem MineI.row {w : World} {B C : Nat} {a : Option Addr} {n : Nat} {g : Nat → It} (h : MineI w B C a n g) : RowI w a n g := by
  intro hn
  rcases h with h | ⟨b, c, g1, g2, h3, h4, h5⟩
  · exact absurd h hn
  · exact ⟨b, 0, h3, fun i hi => by simp only [Nat.zero_add]; exact ⟨cell_of_block h4 (h5 i hi).1, cell_of_block h4 (h5 i hi).2.1, cell_of_block h4 (h5 i hi).2.2.1, cell_of_block h4 (h5 i hi).2.2.2.1, cell_of_block h4 (h5 i hi).2.2.2.2⟩⟩
theorem itsN_put {k n : Nat} {g : Nat → It} {c : Array Value} {p : It} (h : itsN k g c) (hc : n * 5 ≤ c.size) (hk : k < n) (hx : g k = p) :
    itsN (k + 1) g (((((c.setIfInBounds (k * 5) (.int .i64 (p).k)).setIfInBounds (k * 5 + 1) (.int .i64 (p).i)).setIfInBounds (k * 5 + 2) (.int .i64 (p).x.1)).setIfInBounds (k * 5 + 3) (.int .i64 (p).x.2)).setIfInBounds (k * 5 + 4) (.int .i64 (p).u)) := by
  intro i hi
  by_cases e : i = k
  · subst e
    rw [hx]
    refine ⟨?_, ?_, ?_, ?_, ?_⟩
    · rw [set_ne (by omega), set_ne (by omega), set_ne (by omega), set_ne (by omega), set_at (by omega)]
    · rw [set_ne (by omega), set_ne (by omega), set_ne (by omega), set_at (by simp; omega)]
    · rw [set_ne (by omega), set_ne (by omega), set_at (by simp; omega)]
    · rw [set_ne (by omega), set_at (by simp; omega)]
    · rw [set_at (by simp; omega)]
  · obtain ⟨h0, h1, h2, h3, h4⟩ := h i (by omega)
    refine ⟨?_, ?_, ?_, ?_, ?_⟩ <;> rw [set_ne (by omega), set_ne (by omega), set_ne (by omega), set_ne (by omega), set_ne (by omega)] <;> assumption
theorem infoIt : (Try.prog.info? 71).map (fun i => (i.zero, i.size, i.bytes)) = some (some (.agg #[.int .i64 0, .int .i64 0, .int .i64 0, .int .i64 0, .int .i64 0]), 5, 40) := by kernel_rfl
theorem cells5 {w : World} {b k n : Nat} {c : Array Value} {e : TypeId} (h : w.heap[b]? = some (.cells c e (0, 0))) (hc : n * 5 ≤ c.size) (hk : k < n) :
    (∃ v, w.cell? ⟨b, k * 5, none⟩ = some v) ∧ (∃ v, w.cell? ⟨b, k * 5 + 1, none⟩ = some v) ∧ (∃ v, w.cell? ⟨b, k * 5 + 2, none⟩ = some v) ∧ (∃ v, w.cell? ⟨b, k * 5 + 3, none⟩ = some v) ∧ (∃ v, w.cell? ⟨b, k * 5 + 4, none⟩ = some v) ∧ w.frozen? ⟨b, k * 5, none⟩ = false ∧ w.frozen? ⟨b, k * 5 + 1, none⟩ = false ∧ w.frozen? ⟨b, k * 5 + 2, none⟩ = false ∧ w.frozen? ⟨b, k * 5 + 3, none⟩ = false ∧ w.frozen? ⟨b, k * 5 + 4, none⟩ = false := by
  have hx : ∀ i, i < c.size → ∃ v, w.cell? ⟨b, i, none⟩ = some v := fun i hi => ⟨c[i], cell_of_block h (by simp [hi])⟩
  exact ⟨hx _ (by omega), hx _ (by omega), hx _ (by omega), hx _ (by omega), hx _ (by omega), free_of_block h, free_of_block h, free_of_block h, free_of_block h, free_of_block h⟩
def encI (p : It) : List Value := [.int .i64 (p).k, .int .i64 (p).i, .int .i64 (p).x.1, .int .i64 (p).x.2, .int .i64 (p).u]
theorem encI_one (p : It) : ∀ v ∈ encI p, v.oneCell' = true := fun v hv => by
  simp [encI] at hv
  rcases hv with rfl | rfl | rfl | rfl | rfl <;> rfl
/-- The cells of items, one behind the other. -/
def cis (l : List It) : List Value := l.flatMap encI
theorem cis_cons (p : It) (l : List It) : cis (p :: l) = .int .i64 (p).k :: .int .i64 (p).i :: .int .i64 (p).x.1 :: .int .i64 (p).x.2 :: .int .i64 (p).u :: cis l := rfl
theorem cis_app (l m : List It) : cis (l ++ m) = cis l ++ cis m := by simp [cis]
theorem cis_len : ∀ (l : List It), (cis l).length = l.length * 5
  | [] => rfl
  | x :: l => by rw [cis_cons, List.length_cons, List.length_cons, List.length_cons, List.length_cons, List.length_cons, cis_len l, List.length_cons]; omega
theorem cis_one (l : List It) : ∀ u ∈ cis l, u.oneCell' = true := by
  intro u hu
  simp only [cis, List.mem_flatMap] at hu
  obtain ⟨x, _, hx⟩ := hu
  exact encI_one x u hx
theorem cis_at : ∀ (l : List It) (i : Nat), i < l.length → (cis l)[i * 5]? = some (.int .i64 (gi l i).k) ∧ (cis l)[i * 5 + 1]? = some (.int .i64 (gi l i).i) ∧ (cis l)[i * 5 + 2]? = some (.int .i64 (gi l i).x.1) ∧ (cis l)[i * 5 + 3]? = some (.int .i64 (gi l i).x.2) ∧ (cis l)[i * 5 + 4]? = some (.int .i64 (gi l i).u)
  | [], i, h => absurd h (by simp)
  | x :: l, 0, _ => by rw [cis_cons]; simp [gi]
  | x :: l, i + 1, h => by
    have h' := cis_at l i (by simpa using h)
    have e : gi (x :: l) (i + 1) = gi l i := by simp [gi]
    rw [cis_cons, e]
    refine ⟨?_, ?_, ?_, ?_, ?_⟩
    · rw [show (i + 1) * 5 = i * 5 + 1 + 1 + 1 + 1 + 1 by omega]; simpa using h'.1
    · rw [show (i + 1) * 5 + 1 = i * 5 + 1 + 1 + 1 + 1 + 1 + 1 by omega]; simpa using h'.2.1
    · rw [show (i + 1) * 5 + 2 = i * 5 + 2 + 1 + 1 + 1 + 1 + 1 by omega]; simpa using h'.2.2.1
    · rw [show (i + 1) * 5 + 3 = i * 5 + 3 + 1 + 1 + 1 + 1 + 1 by omega]; simpa using h'.2.2.2.1
    · rw [show (i + 1) * 5 + 4 = i * 5 + 4 + 1 + 1 + 1 + 1 + 1 by omega]; simpa using h'.2.2.2.2
/-- A row of items that may be appended to. -/
abbrev OwnI (w : World) (B : Nat) (v : Value) (l : List It) : Prop := w.ownsRow B 71 5 v l.length (cis l)
theorem OwnI.nil (w : World) (B : Nat) : OwnI w B (.slice none 0 0) [] := ⟨rfl, .inl ⟨rfl, rfl⟩⟩
theorem OwnI.own {w : World} {B : Nat} {a : Option Addr} {n c : Nat} {l : List It} (h : OwnI w B (.slice a n c) l) : MineI w B w.heap.size a l.length (gi l) ∧ n = l.length ∧ l.length ≤ c := by
  rcases h.2 with ⟨h1, h2⟩ | ⟨g, cap, cur, h1, hb, hg, hc, hm, hcs, ht⟩
  · simp only [Value.slice.injEq] at h1
    obtain ⟨rfl, rfl, rfl⟩ := h1
    exact ⟨.inl h2, h2.symm, by omega⟩
  · simp only [Value.slice.injEq] at h1
    obtain ⟨rfl, rfl, rfl⟩ := h1
    refine ⟨.inr ⟨g, cur, hb, box_lt hg, rfl, hg, fun i hi => ?_⟩, rfl, hc⟩
    have k := cis_at l i hi
    rw [← ht, List.getElem?_take, if_pos (by omega), List.getElem?_take, if_pos (by omega), List.getElem?_take, if_pos (by omega), List.getElem?_take, if_pos (by omega), List.getElem?_take, if_pos (by omega)] at k
    simpa using k
theorem RowI.src {w : World} {a : Option Addr} {l : List It} (h : Its w a l) : l.length = 0 ∨ ∃ ad, a = some ad ∧ ∀ j u, (cis l)[j]? = some u → w.cell? (ad.add j) = some u := by
  by_cases h0 : l.length = 0
  · exact .inl h0
  · obtain ⟨b, off, rfl, hc⟩ := h h0
    refine .inr ⟨_, rfl, fun j u hj => ?_⟩
    have hlt : j < l.length * 5 := by have := (List.getElem?_eq_some_iff.1 hj).1; rwa [cis_len] at this
    have e : (⟨b, off, none⟩ : Addr).add j = ⟨b, off + j, none⟩ := by unfold Addr.add; split <;> simp_all
    rw [e]
    obtain ⟨k0, k1, k2, k3, k4⟩ := cis_at l (j / 5) (by omega)
    obtain ⟨g0, g1, g2, g3, g4⟩ := hc (j / 5) (by omega)
    have q : j % 5 = 0 ∨ j % 5 = 1 ∨ j % 5 = 2 ∨ j % 5 = 3 ∨ j % 5 = 4 := by omega
    rcases q with q | q | q | q | q
    · rw [show off + j = off + j / 5 * 5 by omega, g0, ← hj, ← k0, show j / 5 * 5 = j by omega]
    · rw [show off + j = off + j / 5 * 5 + 1 by omega, g1, ← hj, ← k1, show j / 5 * 5 + 1 = j by omega]
    · rw [show off + j = off + j / 5 * 5 + 2 by omega, g2, ← hj, ← k2, show j / 5 * 5 + 2 = j by omega]
    · rw [show off + j = off + j / 5 * 5 + 3 by omega, g3, ← hj, ← k3, show j / 5 * 5 + 3 = j by omega]
    · rw [show off + j = off + j / 5 * 5 + 4 by omega, g4, ← hj, ← k4, show j / 5 * 5 + 4 = j by omega]
theorem grown_onI {w0 w w' : World} {Z : Nat} {v : Value} {l : List It} (hb : Below Z w0 w) (hZ : Z ≤ w.heap.size) (h : OwnI w Z v l) (hg : w.grownBy w' v.ownBlock) : Below Z w0 w' := hb.trans (Grown.below hg hZ (owns_ge h))
/-- The number of what is done is put. -/
theorem OwnI.put {w : World} {B g n c j : Nat} {l : List It} {u : Int} (h : OwnI w B (.slice (some ⟨g, 0, none⟩) n c) l) (hj : j < l.length) : OwnI (w.setCell ⟨g, j * 5 + 4, none⟩ (.int .i64 u)) B (.slice (some ⟨g, 0, none⟩) n c) (putU l j u) := by
  rcases h.2 with ⟨h1, h2⟩ | ⟨g', cap, cur, h1, hb, hg, hc, hm, hcs, ht⟩
  · cases h1
  · simp only [Value.slice.injEq, Option.some.injEq, Addr.mk.injEq] at h1
    obtain ⟨⟨rfl, -⟩, rfl, rfl⟩ := h1
    refine ⟨by rw [cis_len], .inr ⟨g, c, cur.setIfInBounds (j * 5 + 4) (.int .i64 u), by rw [len_put], hb, block_set hg, by rw [len_put]; exact hc, hm, by simpa using hcs, ?_⟩⟩
    rw [len_put]
    refine List.ext_getElem? fun q => ?_
    rw [List.getElem?_take]
    have hs : l.length * 5 ≤ cur.size := by rw [hcs]; exact Nat.mul_le_mul_right 5 hc
    split
    · next hq =>
      have hl : (cis (putU l j u)).length = l.length * 5 := by rw [cis_len, len_put]
      obtain ⟨k0, k1, k2, k3, k4⟩ := cis_at l (q / 5) (by omega)
      obtain ⟨p0, p1, p2, p3, p4⟩ := cis_at (putU l j u) (q / 5) (by rw [len_put]; omega)
      have ht' : ∀ z, z < l.length * 5 → cur[z]? = (cis l)[z]? := fun z hz => by rw [← ht, List.getElem?_take, if_pos hz]; simp
      rw [gi_put _ _ _ _ hj] at p0 p1 p2 p3 p4
      rw [Array.getElem?_toList, Array.getElem?_setIfInBounds]
      by_cases e : q = j * 5 + 4
      · have e5 : q / 5 = j := by omega
        rw [e5, if_pos rfl] at p4
        rw [if_pos e.symm, if_pos (by omega), e, p4]
      · rw [if_neg (fun z => e z.symm), ht' q hq]
        have r : q % 5 = 0 ∨ q % 5 = 1 ∨ q % 5 = 2 ∨ q % 5 = 3 ∨ q % 5 = 4 := by omega
        by_cases e5 : q / 5 = j
        · rw [e5] at k0 k1 k2 k3 k4 p0 p1 p2 p3 p4
          rw [if_pos rfl] at p0 p1 p2 p3 p4
          rcases r with r | r | r | r | r
          · rw [show q = j * 5 by omega, k0, p0]
          · rw [show q = j * 5 + 1 by omega, k1, p1]
          · rw [show q = j * 5 + 2 by omega, k2, p2]
          · rw [show q = j * 5 + 3 by omega, k3, p3]
          · exact absurd (by omega) e
        · rw [if_neg e5] at p0 p1 p2 p3 p4
          rcases r with r | r | r | r | r
          · rw [show q = q / 5 * 5 by omega, k0, p0]
          · rw [show q = q / 5 * 5 + 1 by omega, k1, p1]
          · rw [show q = q / 5 * 5 + 2 by omega, k2, p2]
          · rw [show q = q / 5 * 5 + 3 by omega, k3, p3]
          · rw [show q = q / 5 * 5 + 4 by omega, k4, p4]
    · next hq => rw [List.getElem?_eq_none (by rw [cis_len, len_put]; omega)]
theorem gi_take {l : List It} {k i : Nat} (h : i < k) : gi (l.take k) i = gi l i := by simp [gi, h]
def subI (x : Option Addr) (k c : Nat) : Option Addr := if c = k then x else x.map (·.add (k * 5))
theorem RowI.take {w : World} {a : Option Addr} {l : List It} (h : Its w a l) (c k : Nat) (hk : k ≤ l.length) : Its w (subI a 0 c) (l.take k) := by
  intro hn
  simp at hn
  obtain ⟨b, off, rfl, hc⟩ := h (by omega)
  refine ⟨b, off, ?_, fun i hi => ?_⟩
  · unfold subI
    split
    · rfl
    · simp [Addr.add]
  · have hi' : i < k := by simp at hi; omega
    rw [gi_take hi']
    exact hc i (by omega)
theorem sizeIt (w : World) : (Go.sizeOf 71).run Try.prog w = .ok 5 w := Try.sizeOf71 w
theorem slice_toI (x : Option Addr) (n c k : Nat) (h : k ≤ c) (w : World) : (Instr.slice 25 (.slice x n c) none (some (.int .i64 (k : Int))) none).run Try.prog w = .ok (.slice (subI x 0 c) k c) w := by
  rw [run_slice_h w 25 x n c (by kernel_rfl) .i64 k (by omega) (by omega), show Try.prog.elem 25 = 71 from by kernel_rfl, sizeIt]
  simp [Result.andThen, sliced, subI]
end Go.Proofs.Ytpolhigpcllhiaa
