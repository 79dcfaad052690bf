import Derived.Test.YtfmgaenedkjmkaaGd
import Derived.Maps.AppendAt
/- The specification: a bucket of one's own cut into two. -/
namespace Go.Proofs.Ytfmgaenedkjmkaa
open Go.ChangeShapes Go.WideShapes Go.ChangeAt Go.RowKit
set_option linter.unusedVariables false
open Hd

attribute [local go_sem] Oper.semAt_some

theorem wpList_append_at {P : Program} {w : World} {ops : Array Oper} {rest : List Oper} {o : Oper} {a : Act} {Q : Exit → Act → World → Prop} (hgd : o.guard = none) (s x : Operand) (t : TypeId)
    (ho : o.op = .call { callee := .builtin .append, args := #[s, x], argTypes := #[t, t] })
    (base : Nat) (e : TypeId) (z : Value) (size bytes : Nat) (ht : P.underlying t = some (.slice e)) (hinfo : (P.info? e).map (fun i => (i.zero, i.size, i.bytes)) = some (some z, size, bytes)) (hzs : z.cells.size = size) (hsz : 0 < size)
    (v : Value) (n : Nat) (xs : List Value) (hs : a.eval s = v) (hown : w.ownsRow base e size v n xs)
    (ad : Addr) (m c : Nat) (news : List Value) (hx : a.eval x = .slice (some ad) m c) (hl : news.length = m * size) (hnews : ∀ j u, news[j]? = some u → w.cell? (ad.add j) = some u) (h1 : ∀ u ∈ news, u.oneCell' = true)
    (h63 : n + m ≤ 1000000000) (hbytes : bytes ≤ 100000) (hbase : base ≤ w.heap.size)
    (h : ∀ v' w', w'.ownsRow base e size v' (n + m) (xs ++ news) → w.grownBy w' v.ownBlock → (v'.ownBlock = v.ownBlock ∨ v'.ownBlock = some w.heap.size) → wpList P ops Q rest (a.put o.dst v') w') : wpList P ops Q (o :: rest) a w := by
  refine wpList_plain hgd fun K hK => ?_
  obtain ⟨i, hi, hz0, hz1, hz2⟩ := info_parts hinfo
  have hb2 : (n + m) * bytes ≤ 1000000000 * 100000 := Nat.mul_le_mul h63 hbytes
  obtain ⟨v', w', hrun, r1, r2, -, r4⟩ := run_append_own_at (P := P) w base t o.type e i z size bytes ht hi hz0 hz1 hz2 hzs hsz v n xs hown ad m c news hl hnews h1 (by unfold maxLen; omega) (by omega) hbase
  unfold Oper.wp
  simp [execOp, ho, resolve, invoke, builtin, hs, hx, hrun, Result.andThen]
  exact hK _ _ (h v' w' r1 r2 r4)
/-- Two rows of names that grow beside each other. -/
structure Tw (w : World) (Z : Nat) (vo vi : Value) (lo li : List Nm) : Prop where
  o : OwnN w Z vo lo
  i : OwnN w Z vi li
  dj : ∀ b, vo.ownBlock = some b → vi.ownBlock = some b → False
theorem own_ltN {w : World} {Z : Nat} {v : Value} {l : List Nm} (h : OwnN w Z v l) : ∀ b, v.ownBlock = some b → b < w.heap.size := by
  intro b hb
  rcases h.2 with ⟨rfl, _⟩ | ⟨g, cap, cur, rfl, _, hg, _⟩
  · simp [Value.ownBlock] at hb
  · simp [Value.ownBlock] at hb
    subst hb
    exact box_lt hg
theorem Tw.swap {w : World} {Z : Nat} {vo vi : Value} {lo li : List Nm} (h : Tw w Z vo vi lo li) : Tw w Z vi vo li lo := ⟨h.i, h.o, fun b h1 h2 => h.dj b h2 h1⟩
theorem Tw.below {w w' : World} {Z : Nat} {vo vi : Value} {lo li : List Nm} (h : Tw w Z vo vi lo li) (hb : Below w.heap.size w w') : Tw w' Z vo vi lo li := ⟨owns_below h.o hb, owns_below h.i hb, h.dj⟩
/-- The first grows. -/
theorem Tw.snoc {w w' : World} {Z : Nat} {vo vi v' : Value} {lo li : List Nm} {x : Nm} (h : Tw w Z vo vi lo li) (h1 : w'.ownsRow Z 36 2 v' (lo.length + 1) (cns lo ++ [.string x.nm, .int .i64 x.fl])) (h2 : w.grownBy w' vo.ownBlock) (h3 : v'.ownBlock = vo.ownBlock ∨ v'.ownBlock = some w.heap.size) : Tw w' Z v' vi (lo ++ [x]) li := by
  have hi := own_ltN h.i
  refine ⟨?_, h.i.kept h2 ?_, ?_⟩
  · show w'.ownsRow Z 36 2 v' (lo ++ [x]).length (cns (lo ++ [x]))
    rw [List.length_append, cns_app]
    exact h1
  · cases hv : vi.ownBlock with
    | none => exact .inl rfl
    | some b => exact .inr (fun e => h.dj b e.symm hv)
  · intro b hb hb'
    rcases h3 with h3 | h3
    · rw [h3] at hb; exact h.dj b hb hb'
    · rw [h3] at hb
      have := hi b hb'
      simp at hb
      omega
end Go.Proofs.Ytfmgaenedkjmkaa
