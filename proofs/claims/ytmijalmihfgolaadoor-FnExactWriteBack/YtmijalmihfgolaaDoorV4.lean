import Derived.Test.YtmijalmihfgolaaDoorV3
/- Logs of an open store. -/
namespace Go.Proofs.YtmijalmihfgolaaDoor
open Go.ChangeShapes Go.WideShapes Go.ChangeAt Go.RowKit
set_option linter.unusedVariables false
open Tx

attribute [local go_sem] Oper.semAt_some

/-- A row of writes that came in (below B) or that was made (a block of writes). -/
def InW (w : World) (B : Nat) (x : Option Addr) (l : List Wr) : Prop :=
  l.length = 0 ∨ ∃ b off, x = some ⟨b, off, none⟩ ∧ (∀ i, i < l.length → w.cell? ⟨b, off + i * 2, none⟩ = some (.int .i64 (Tl l i)) ∧ w.cell? ⟨b, off + i * 2 + 1, none⟩ = some (.string (Ul l i))) ∧ (b < B ∨ ∃ cs, w.heap[b]? = some (.cells cs 63 (0, 0)))
theorem InW.row {w : World} {B : Nat} {x : Option Addr} {l : List Wr} (h : InW w B x l) : RowW w x l := by
  intro hn
  rcases h with h | ⟨b, off, e, hc, _⟩
  · exact absurd h hn
  · exact ⟨b, off, e, hc⟩
theorem InW.of_mine {w : World} {B B' C : Nat} {x : Option Addr} {l : List Wr} (h : Mine w B' C 63 l.length x (wrts l.length (Tl l) (Ul l))) : InW w B x l := by
  rcases h with h | ⟨b, c, g1, g2, h3, h4, h5⟩
  · exact .inl h
  · exact .inr ⟨b, 0, h3, fun i hi => by have := h5 i hi; simp [World.cell?, h4, this], .inr ⟨c, h4⟩⟩
theorem InW.of_row {w : World} {B : Nat} {x : Option Addr} {l : List Wr} (h : RowW w x l) (hB : ∀ b off, x = some ⟨b, off, none⟩ → b < B) : InW w B x l := by
  by_cases h0 : l.length = 0
  · exact .inl h0
  · obtain ⟨b, off, e, hc⟩ := h h0
    exact .inr ⟨b, off, e, hc, .inl (hB b off e)⟩
/-- It stays where all blocks but one stay, and that one is no block of writes and none that came in. -/
theorem InW.but {w w' : World} {B g : Nat} {x : Option Addr} {l : List Wr} (h : InW w B x l) (hk : ∀ k, k < w.heap.size → k ≠ g → w'.heap[k]? = w.heap[k]?) (hB : B ≤ g) {cs : Array Value} {e : TypeId} (hg : w.heap[g]? = some (.cells cs e (0, 0))) (he : e ≠ 63) : InW w' B x l := by
  rcases h with h | ⟨b, off, ex, hc, hd⟩
  · exact .inl h
  · by_cases h0 : l.length = 0
    · exact .inl h0
    · have hlt : b < w.heap.size := lt_of_cell (hc 0 (by omega)).1
      have hne : b ≠ g := by
        rcases hd with h1 | ⟨cs', h1⟩
        · omega
        · intro e1
          subst e1
          rw [hg] at h1
          simp at h1
          exact he h1.2
      have hb := hk b hlt hne
      refine .inr ⟨b, off, ex, fun i hi => ?_, ?_⟩
      · obtain ⟨c1, c2⟩ := hc i hi
        exact ⟨(World.cell?_of_block (w := w) (a := ⟨b, off + i * 2, none⟩) hb).trans c1, (World.cell?_of_block (w := w) (a := ⟨b, off + i * 2 + 1, none⟩) hb).trans c2⟩
      · rcases hd with h1 | ⟨cs', h1⟩
        · exact .inl h1
        · exact .inr ⟨cs', hb.trans h1⟩
theorem InW.below {w w' : World} {B : Nat} {x : Option Addr} {l : List Wr} (h : InW w B x l) (hb : Below w.heap.size w w') : InW w' B x l := by
  rcases h with h | ⟨b, off, ex, hc, hd⟩
  · exact .inl h
  · by_cases h0 : l.length = 0
    · exact .inl h0
    · have hlt : b < w.heap.size := lt_of_cell (hc 0 (by omega)).1
      refine .inr ⟨b, off, ex, fun i hi => ?_, ?_⟩
      · obtain ⟨c1, c2⟩ := hc i hi
        exact ⟨(World.cell?_of_block (w := w) (a := ⟨b, off + i * 2, none⟩) (hb.block b hlt)).trans c1, (World.cell?_of_block (w := w) (a := ⟨b, off + i * 2 + 1, none⟩) (hb.block b hlt)).trans c2⟩
      · rcases hd with h1 | ⟨cs', h1⟩
        · exact .inl h1
        · exact .inr ⟨cs', (hb.block b hlt).trans h1⟩
/-- The values in a row of slices. -/
def svs (A : Nat → Option Addr) (C : Nat → Nat) (Ls : List (List Wr)) : List Value := (List.range Ls.length).map (slv A C Ls)
theorem svs_len (A : Nat → Option Addr) (C : Nat → Nat) (Ls : List (List Wr)) : (svs A C Ls).length = Ls.length := by simp [svs]
theorem svs_at {A : Nat → Option Addr} {C : Nat → Nat} {Ls : List (List Wr)} {i : Nat} (h : i < Ls.length) : (svs A C Ls)[i]? = some (slv A C Ls i) := by simp [svs, h]
theorem svs_one (A : Nat → Option Addr) (C : Nat → Nat) (Ls : List (List Wr)) : ∀ u ∈ svs A C Ls, u.oneCell' = true := by
  intro u hu
  simp only [svs, List.mem_map] at hu
  obtain ⟨i, _, rfl⟩ := hu
  rfl
theorem svs_snoc (A : Nat → Option Addr) (C : Nat → Nat) (Ls : List (List Wr)) (l : List Wr) (x : Option Addr) (c : Nat) :
    svs (fun i => if i = Ls.length then x else A i) (fun i => if i = Ls.length then c else C i) (Ls ++ [l]) = svs A C Ls ++ [.slice x l.length c] := by
  unfold svs
  rw [List.length_append, List.length_singleton, List.range_succ, List.map_append]
  congr 1
  · apply List.map_congr_left
    intro i hi
    have hi' : i < Ls.length := List.mem_range.1 hi
    simp only [slv]
    rw [if_neg (by omega), if_neg (by omega), gl_app hi']
  · simp [slv, gl_snoc]
/-- The log of an open store, in a row of its own. -/
def LogR (w : World) (Bi Bo : Nat) (v : Value) (Ls : List (List Wr)) : Prop :=
  ∃ (A : Nat → Option Addr) (C : Nat → Nat), w.ownsRow Bo 30 1 v Ls.length (svs A C Ls) ∧ ∀ i, i < Ls.length → InW w Bi (A i) (gl Ls i)
/-- A log that can be read. -/
def LogAt (w : World) (v : Value) (Ls : List (List Wr)) : Prop :=
  ∃ (x : Option Addr) (c : Nat) (A : Nat → Option Addr) (C : Nat → Nat), v = .slice x Ls.length c ∧ Ls.length ≤ c ∧ At w x Ls.length (slv A C Ls) ∧ ∀ i, i < Ls.length → RowW w (A i) (gl Ls i)
theorem LogR.nil (w : World) (Bi Bo : Nat) : LogR w Bi Bo (.slice none 0 0) [] := ⟨fun _ => none, fun _ => 0, ⟨rfl, .inl ⟨rfl, rfl⟩⟩, fun i hi => by simp at hi⟩
theorem LogR.mono {w : World} {Bi Bo Bo' : Nat} {v : Value} {Ls : List (List Wr)} (h : LogR w Bi Bo v Ls) (hb : Bo' ≤ Bo) : LogR w Bi Bo' v Ls := by
  obtain ⟨A, C, h1, h2⟩ := h
  exact ⟨A, C, owns_mono h1 hb, h2⟩
theorem LogR.below {w w' : World} {Bi Bo : Nat} {v : Value} {Ls : List (List Wr)} (h : LogR w Bi Bo v Ls) (hb : Below w.heap.size w w') : LogR w' Bi Bo v Ls := by
  obtain ⟨A, C, h1, h2⟩ := h
  exact ⟨A, C, owns_below h1 hb, fun i hi => (h2 i hi).below hb⟩
theorem LogAt.below {w w' : World} {v : Value} {Ls : List (List Wr)} (h : LogAt w v Ls) (hb : Below w.heap.size w w') : LogAt w' v Ls := by
  obtain ⟨x, c, A, C, e, h0, h1, h2⟩ := h
  exact ⟨x, c, A, C, e, h0, h1.below hb, fun i hi => At2.below (h2 i hi) hb⟩
theorem LogR.at {w : World} {Bi Bo : Nat} {v : Value} {Ls : List (List Wr)} (h : LogR w Bi Bo v Ls) : LogAt w v Ls := by
  obtain ⟨A, C, h1, h2⟩ := h
  obtain ⟨x, c, rfl⟩ := owns_form h1
  refine ⟨x, c, A, C, rfl, owns_cap (x := 0) h1, fun hn => ?_, fun i hi => (h2 i hi).row⟩
  obtain ⟨g, cap, cur, e, hb, hg, hsz, hcell⟩ := owns_mine h1 hn
  cases e
  refine ⟨g, 0, rfl, fun i hi => ?_⟩
  rw [Nat.zero_add]
  refine cell_of_block hg ?_
  rw [hcell i (by omega)]
  exact svs_at hi
theorem infoSW : (Tryd.prog.info? 30).map (fun i => (i.zero, i.size, i.bytes)) = some (some (.slice none 0 0), 1, 24) := by kernel_rfl
/-- One more transaction behind a log. -/
theorem LogR.snoc {w1 w' : World} {Bi Bo : Nat} (hB0 : Bi ≤ Bo) {v v' : Value} {Ls : List (List Wr)} {A : Nat → Option Addr} {C : Nat → Nat} {l : List Wr} {x : Option Addr} {c : Nat}
    (hi1 : w1.ownsRow Bo 30 1 v Ls.length (svs A C Ls)) (hi2 : ∀ i, i < Ls.length → InW w1 Bi (A i) (gl Ls i)) (hl : InW w1 Bi x l)
    (ho : w'.ownsRow Bo 30 1 v' (Ls.length + 1) (svs A C Ls ++ [.slice x l.length c])) (hg : w1.grownBy w' v.ownBlock) : LogR w' Bi Bo v' (Ls ++ [l]) := by
  have keep : ∀ {y : Option Addr} {m : List Wr}, InW w1 Bi y m → InW w' Bi y m := fun {y m} hy => by
    cases q : v.ownBlock with
    | none =>
      refine hy.below ⟨hg.os, hg.tape, hg.output, hg.size, fun k hk => hg.block k hk (by rw [q]; simp)⟩
    | some g =>
      obtain ⟨hB, cs, hc⟩ := own_row hi1 g q
      exact hy.but (fun k hk hne => hg.block k hk (by rw [q]; simpa using hne)) (Nat.le_trans hB0 hB) hc (by decide)
  refine ⟨fun i => if i = Ls.length then x else A i, fun i => if i = Ls.length then c else C i, ?_, fun i hi => ?_⟩
  · rw [svs_snoc, List.length_append, List.length_singleton]
    exact ho
  · rw [List.length_append, List.length_singleton] at hi
    by_cases e : i = Ls.length
    · subst e
      simp only [if_pos, gl_snoc]
      exact keep hl
    · simp only [if_neg e]
      rw [gl_app (by omega)]
      exact keep (hi2 i (by omega))
/-- A log stays where a block of another kind is written, behind what came in. -/
theorem LogR.out {w w' : World} {Bi Bo o : Nat} {v : Value} {Ls : List (List Wr)} (h : LogR w Bi Bo v Ls) (ho : Out o (o + 1) w w') (hB : Bi ≤ o) {cs : Array Value} {e : TypeId} (hg : w.heap[o]? = some (.cells cs e (0, 0))) (he : e ≠ 63) (he2 : e ≠ 30) : LogR w' Bi Bo v Ls := by
  obtain ⟨A, C, h1, h2⟩ := h
  have hk : ∀ k, k < w.heap.size → k ≠ o → w'.heap[k]? = w.heap[k]? := fun k hk hne => ho.block k hk (by omega)
  refine ⟨A, C, ⟨h1.1, ?_⟩, fun i hi => (h2 i hi).but hk hB hg he⟩
  rcases h1.2 with h3 | ⟨g, cap, cur, h3, hb, hc, h4⟩
  · exact .inl h3
  · refine .inr ⟨g, cap, cur, h3, hb, ?_, h4⟩
    rw [hk g (box_lt hc) (fun e1 => by subst e1; rw [hg] at hc; simp at hc; exact he2 hc.2)]
    exact hc
theorem Out.then_below {B C : Nat} {a b c : World} (h : Out B C a b) (k : Below a.heap.size b c) : Out B C a c :=
  ⟨k.os.trans h.os, k.tape.trans h.tape, k.output.trans h.output, Nat.le_trans h.size k.size, fun i hi hs => (k.block i hi).trans (h.block i hi hs)⟩
end Go.Proofs.YtmijalmihfgolaaDoor
