import Derived.Test.YtfmgaenedkjmkaaD7
import Derived.Test.YtfmgaenedkjmkaaU9
/- Parts of rows of ints and of buckets; a row of buckets with one of them cut. -/
namespace Go.Proofs.Ytfmgaenedkjmkaa
open Go.ChangeShapes Go.WideShapes Go.ChangeAt Go.RowKit
set_option linter.unusedVariables false
open Hd

attribute [local go_sem] Oper.semAt_some

def subI (x : Option Addr) (k c : Nat) : Option Addr := if c = k then x else x.map (·.add (k * 1))
theorem slice_toI (x : Option Addr) (n c k : Nat) (h : k ≤ c) (w : World) : (Instr.slice 22 (.slice x n c) none (some (.int .i64 (k : Int))) none).run Try.prog w = .ok (.slice (subI x 0 c) k c) w := by
  rw [run_slice_h w 22 x n c (by kernel_rfl) .i64 k (by omega) (by omega), show Try.prog.elem 22 = 3 from by kernel_rfl, Try.sizeOf3 w]
  simp [Result.andThen, sliced, subI]
theorem Ints.takeI {w : World} {a : Option Addr} {l : List Int} (h : Ints w a l) (c k : Nat) (hk : k ≤ l.length) : Ints w (subI a 0 c) (l.take k) := by
  intro hn
  have el : (l.take k).length = k := by simp [Nat.min_eq_left hk]
  obtain ⟨b, off, rfl, hc⟩ := h (by intro q; rw [q] at hk; exact hn (by rw [el]; omega))
  refine ⟨b, off, by unfold subI; split <;> simp [Addr.add], fun i hi => ?_⟩
  rw [el] at hi
  have := hc i (by omega)
  have e : gi (l.take k) i = gi l i := by simp [gi, hi]
  show _ = some (iv (gi (l.take k) i))
  rw [e]
  exact this
theorem slice_toB (x : Option Addr) (n c k : Nat) (h : k ≤ c) (w : World) : (Instr.slice 30 (.slice x n c) none (some (.int .i64 (k : Int))) none).run Try.prog w = .ok (.slice (subA x 0 c) k c) w := by
  rw [run_slice_h w 30 x n c (by kernel_rfl) .i64 k (by omega) (by omega), show Try.prog.elem 30 = 63 from by kernel_rfl, Try.sizeOf63 w]
  simp [Result.andThen, sliced, subA]
theorem slice_fromB (x : Option Addr) (n c k : Nat) (h : k ≤ n) (w : World) : (Instr.slice 30 (.slice x n c) (some (.int .i64 (k : Int))) none none).run Try.prog w = .ok (.slice (subA x k c) (n - k) (c - k)) w := by
  rw [run_slice_l w 30 x n c (by kernel_rfl) .i64 k (by omega) (by omega), show Try.prog.elem 30 = 63 from by kernel_rfl, Try.sizeOf63 w]
  simp [Result.andThen, sliced, subA]
theorem BkCs.below {w w' : World} {L : List Bk} {cs : List Value} (h : BkCs w L cs) (hb : Below w.heap.size w w') : BkCs w' L cs := by
  obtain ⟨h1, h2, h3⟩ := h
  exact ⟨h1, h2, fun i hi => by obtain ⟨q0, na, nc, q1, q2, q3⟩ := h3 i hi; exact ⟨q0, na, nc, q1, q2.below hb, q3⟩⟩
/-- The cells of a row of buckets, as three parts of a Concat: ahead, one, behind. -/
theorem parts_src {w : World} {x : Option Addr} {cs : List Value} {n cp c : Nat} (hl : cs.length = n * 2) (hs : n = 0 ∨ ∃ ad, x = some ad ∧ ∀ j u, cs[j]? = some u → w.cell? (ad.add j) = some u) (hx : ∀ ad, x = some ad → ad.spot = none) (hc : c ≤ n) (hcp : n ≤ cp) :
    (c = 0 ∨ ∃ ad, subA x 0 cp = some ad ∧ ∀ j u, (cs.take (c * 2))[j]? = some u → w.cell? (ad.add j) = some u) ∧ (n - c = 0 ∨ ∃ ad, subA x c cp = some ad ∧ ∀ j u, (cs.drop (c * 2))[j]? = some u → w.cell? (ad.add j) = some u) := by
  rcases hs with h0 | ⟨ad, rfl, h⟩
  · exact ⟨.inl (by omega), .inl (by omega)⟩
  · have hsp := hx ad rfl
    obtain ⟨b, o, s⟩ := ad
    simp at hsp
    subst hsp
    constructor
    · refine .inr ⟨⟨b, o, none⟩, by unfold subA; split <;> simp [Addr.add], fun j u hj => ?_⟩
      rw [List.getElem?_take] at hj
      split at hj
      · exact h j u hj
      · cases hj
    · by_cases e : n = c
      · exact .inl (by omega)
      · refine .inr ⟨⟨b, o + c * 2, none⟩, by unfold subA; rw [if_neg (by omega)]; simp [Addr.add], fun j u hj => ?_⟩
        rw [List.getElem?_drop] at hj
        have := h _ u hj
        rw [← this]
        rw [addN, addN, Nat.add_assoc]
/-- The row behind the cut. -/
theorem cutRow {W : World} {g : Nat} {xs : List Value} {cc : Array Value} {L : List Bk} {cs : List Value} {k c : Nat} {lo hi : Bk} {xl xh : Option Addr} {cl ch : Nat} (hcs : BkCs W L cs) (hk : k < c) (hc : c ≤ L.length)
    (hxs : xs = cs.take (c * 2) ++ [.int .i64 hi.dp, .slice xh hi.ns.length ch] ++ cs.drop (c * 2)) (hcc : ∀ j, j < (L.length + 1) * 2 → cc[j]? = xs[j]?) (hsz : (L.length + 1) * 2 ≤ cc.size)
    (hB : W.heap[g]? = some (.cells ((cc.setIfInBounds (k * 2) (.int .i64 lo.dp)).setIfInBounds (k * 2 + 1) (.slice xl lo.ns.length cl)) 63 (0, 0)))
    (h1 : Nms W xl lo.ns) (h2 : lo.ns.length ≤ cl) (h3 : Nms W xh hi.ns) (h4 : hi.ns.length ≤ ch) :
    Bks W (some ⟨g, 0, none⟩) (cuB L k c lo hi) := by
  intro _
  refine ⟨g, 0, rfl, fun i hi' => ?_⟩
  rw [cuB_len hc] at hi'
  have hlen := hcs.1
  have hat : ∀ j, j < (L.length + 1) * 2 → cc[j]? = if j < c * 2 then cs[j]? else if j < c * 2 + 2 then (if j = c * 2 then some (.int .i64 hi.dp) else some (.slice xh hi.ns.length ch)) else cs[j - 2]? := by
    intro j hj
    rw [hcc j hj, hxs]
    have e1 : (cs.take (c * 2)).length = c * 2 := by simp; omega
    by_cases q1 : j < c * 2
    · rw [if_pos q1, List.append_assoc, List.getElem?_append_left (by omega), List.getElem?_take, if_pos q1]
    · rw [if_neg q1, List.append_assoc, List.getElem?_append_right (by omega), e1]
      by_cases q2 : j < c * 2 + 2
      · rw [if_pos q2]
        by_cases q3 : j = c * 2
        · rw [if_pos q3, q3, Nat.sub_self]; rfl
        · rw [if_neg q3, show j - c * 2 = 1 by omega]; rfl
      · rw [if_neg q2, List.getElem?_append_right (by simp; omega), List.getElem?_drop]
        congr 1
        simp
        omega
  rw [cuB_at hc hk]
  by_cases e1 : i = k
  · subst e1
    rw [if_pos rfl]
    refine ⟨xl, cl, ?_, ?_, h1, h2⟩
    · rw [Nat.zero_add]; exact cell_of_block hB (by rw [set_ne (by omega), set_at (by omega)])
    · rw [Nat.zero_add]; exact cell_of_block hB (by rw [set_at (by simp; omega)])
  · rw [if_neg e1]
    have w0 : ((cc.setIfInBounds (k * 2) (.int .i64 lo.dp)).setIfInBounds (k * 2 + 1) (.slice xl lo.ns.length cl))[i * 2]? = cc[i * 2]? := by rw [set_ne (by omega), set_ne (by omega)]
    have w1 : ((cc.setIfInBounds (k * 2) (.int .i64 lo.dp)).setIfInBounds (k * 2 + 1) (.slice xl lo.ns.length cl))[i * 2 + 1]? = cc[i * 2 + 1]? := by rw [set_ne (by omega), set_ne (by omega)]
    by_cases e2 : i < c
    · rw [if_pos e2]
      obtain ⟨q0, na, nc, q1, q2, q3⟩ := hcs.2.2 i (by omega)
      refine ⟨na, nc, ?_, ?_, q2, q3⟩
      · rw [Nat.zero_add]; exact cell_of_block hB (by rw [w0, hat _ (by omega), if_pos (by omega)]; exact q0)
      · rw [Nat.zero_add]; exact cell_of_block hB (by rw [w1, hat _ (by omega), if_pos (by omega)]; exact q1)
    · rw [if_neg e2]
      by_cases e3 : i = c
      · rw [if_pos e3]
        refine ⟨xh, ch, ?_, ?_, h3, h4⟩
        · rw [Nat.zero_add]; exact cell_of_block hB (by rw [w0, hat _ (by omega), if_neg (by omega), if_pos (by omega), if_pos (by omega)])
        · rw [Nat.zero_add]; exact cell_of_block hB (by rw [w1, hat _ (by omega), if_neg (by omega), if_pos (by omega), if_neg (by omega)])
      · rw [if_neg e3]
        obtain ⟨q0, na, nc, q1, q2, q3⟩ := hcs.2.2 (i - 1) (by omega)
        refine ⟨na, nc, ?_, ?_, q2, q3⟩
        · rw [Nat.zero_add]; exact cell_of_block hB (by rw [w0, hat _ (by omega), if_neg (by omega), if_neg (by omega), show i * 2 - 2 = (i - 1) * 2 by omega]; exact q0)
        · rw [Nat.zero_add]; exact cell_of_block hB (by rw [w1, hat _ (by omega), if_neg (by omega), if_neg (by omega), show i * 2 + 1 - 2 = (i - 1) * 2 + 1 by omega]; exact q1)
/-- Where the names of the row behind the cut come from. -/
theorem cutRow_src {xs : List Value} {cc : Array Value} {m : Nat} {cs : List Value} {k c : Nat} {vd vl vh u0 u : Value} (hcl : cs.length = m * 2) (hk : k < c) (hc : c ≤ m)
    (hxs : xs = cs.take (c * 2) ++ [vd, vh] ++ cs.drop (c * 2)) (hcc : ∀ j, j < (m + 1) * 2 → cc[j]? = xs[j]?) (hsz : (m + 1) * 2 ≤ cc.size) (i : Nat) (hi : i < m + 1)
    (hu : ((cc.setIfInBounds (k * 2) u0).setIfInBounds (k * 2 + 1) vl)[i * 2 + 1]? = some u) : u = vl ∨ u = vh ∨ ∃ j, j < m ∧ cs[j * 2 + 1]? = some u := by
  by_cases e1 : i = k
  · subst e1
    rw [set_at (by simp; omega)] at hu
    exact .inl (Option.some.inj hu).symm
  · rw [set_ne (by omega), set_ne (by omega), hcc _ (by omega), hxs] at hu
    have e0 : (cs.take (c * 2)).length = c * 2 := by simp; omega
    by_cases q1 : i < c
    · rw [List.append_assoc, List.getElem?_append_left (by omega), List.getElem?_take, if_pos (by omega)] at hu
      exact .inr (.inr ⟨i, by omega, hu⟩)
    · rw [List.append_assoc, List.getElem?_append_right (by omega), e0] at hu
      by_cases q2 : i = c
      · rw [show i * 2 + 1 - c * 2 = 1 by omega] at hu
        exact .inr (.inl (by simpa using hu.symm))
      · rw [List.getElem?_append_right (by simp; omega), List.getElem?_drop] at hu
        refine .inr (.inr ⟨i - 1, by omega, ?_⟩)
        rw [← hu]
        congr 1
        simp
        omega
end Go.Proofs.Ytfmgaenedkjmkaa
