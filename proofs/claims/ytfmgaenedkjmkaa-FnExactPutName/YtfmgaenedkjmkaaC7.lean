import Derived.Test.YtfmgaenedkjmkaaC6
/- A bucket exchanged in a directory of one's own; an append at a step of a region that draws its order. -/
namespace Go.Proofs.Ytfmgaenedkjmkaa
open Go.ChangeShapes Go.WideShapes Go.ChangeAt Go.RowKit
set_option linter.unusedVariables false
open Hd

theorem step_append_src {P : Program} {w : World} {ops : Array Oper} {o : Oper} {a : Act} {K : Act → World → Prop} {Q : Exit → Act → World → Prop} {E : Prop} (hgd : o.guard = none) (s x : Operand) (t : TypeId)
    (ho : o.op = .call { callee := .builtin .append, args := #[s, x], argTypes := #[t, t] })
    (base : Nat) (e : TypeId) (z : Value) (size bytes : Nat) (ht : P.underlying t = some (.slice e)) (hinfo : (P.info? e).map (fun i => (i.zero, i.size, i.bytes)) = some (some z, size, bytes)) (hzs : z.cells.size = size) (hsz : 0 < size)
    (v : Value) (n : Nat) (xs : List Value) (hs : a.eval s = v) (hown : w.ownsRow base e size v n xs)
    (sa : Option Addr) (m c : Nat) (news : List Value) (hx : a.eval x = .slice sa m c) (hl : news.length = m * size) (hsrc : m = 0 ∨ ∃ ad, sa = some ad ∧ ∀ j u, news[j]? = some u → w.cell? (ad.add j) = some u) (h1 : ∀ u ∈ news, u.oneCell' = true)
    (h63 : n + m ≤ 1000000000) (hbytes : bytes ≤ 100000) (hbase : base ≤ w.heap.size)
    (h : ∀ v' w', w'.ownsRow base e size v' (n + m) (xs ++ news) → w.grownBy w' v.ownBlock → K (a.put o.dst v') w') : if Region.wanted o (yielded ops a.tmps) = true then Oper.wp P o a w K Q else E := by
  have hw : Region.wanted o (yielded ops a.tmps) = true := by simp [Region.wanted, hgd]
  rw [if_pos hw]
  obtain ⟨i, hi, hz0, hz1, hz2⟩ := info_parts hinfo
  have hb2 : (n + m) * bytes ≤ 1000000000 * 100000 := Nat.mul_le_mul h63 hbytes
  obtain ⟨v', w', hrun, r1, r2⟩ := run_append_src (P := P) w base t o.type e i z size bytes ht hi hz0 hz1 hz2 hzs hsz v n xs hown sa m c news hl hsrc h1 (by unfold maxLen; omega) (by omega) hbase
  unfold Oper.wp
  simp [execOp, ho, resolve, invoke, builtin, hs, hx, hrun, Result.andThen]
  exact h v' w' r1 r2
/-- A directory of one's own with other names in one bucket. -/
theorem swap_own {w8 ws w9 : World} {d : Dr} {j gI gB B C D g b : Nat} {c : Array Value} {kb : Nat → Nat} {xi x : Value} {cB : Nat} {R : List Nm} (hcB : d.bs.length ≤ cB) (hj : j < d.bs.length) (hI : IB w8 B C xi d.sl gI) (hB0 : B ≤ gB) (hB1 : gB < C) (hB : w8.heap[gB]? = some (.cells c 63 (0, 0))) (hc : d.bs.length * 2 ≤ c.size) (hbs : BksIn w8 B C c kb d.bs d.bs.length) (hdst : DstB gB gI kb d.bs)
    (hx : NB w8 D w8.heap.size x R g) (hD : C ≤ D) (hC : C ≤ w8.heap.size) (hgI : d.sl = [] → gI < C) (hs : ws = w8.setCell ⟨gB, j * 2 + 1, none⟩ x) (ho : Out b (b + 1) ws w9) (hb : b + 1 ≤ B) :
    DOwn w9 B w9.heap.size (.agg #[.int .i64 d.dp, xi, .slice (some ⟨gB, 0, none⟩) d.bs.length cB]) (exD d j R) := by
  subst hs
  have os : Out gB (gB + 1) w8 (w8.setCell ⟨gB, j * 2 + 1, none⟩ x) := (Out.refl _ _ _).setCell (Nat.le_refl _) (Nat.lt_succ_self _) _ _
  have zs : (w8.setCell ⟨gB, j * 2 + 1, none⟩ x).heap.size = w8.heap.size := by simp
  have z9 := ho.size
  have hlen : (d.bs.set j ⟨(gb d.bs j).dp, R⟩).length = d.bs.length := by simp
  obtain ⟨hd0, hd1⟩ := hdst
  have hg : R ≠ [] → D ≤ g := fun q => (hx.type q).1
  have hgC : gI < C := by
    by_cases q : d.sl = []
    · exact hgI q
    · obtain ⟨a0, c0, e0, h0, hr⟩ := hI
      exact (hr q).2.2.1
  refine ⟨xi, some ⟨gB, 0, none⟩, cB, gI, by simp [exD], by simpa [exD] using hcB, ?_, fun _ => ⟨gB, _, kbPut kb j g, hB0, by omega, rfl, box_out (block_set hB) ho (by omega), by simpa [exD] using hc, ?_, hd0, ?_⟩⟩
  · exact ((hI.out os (fun _ => by omega)).out' ho (.inr hb)).mono (Nat.le_refl _) (by omega)
  · show BksIn _ _ _ _ _ (d.bs.set j ⟨(gb d.bs j).dp, R⟩) (d.bs.set j ⟨(gb d.bs j).dp, R⟩).length
    rw [hlen]
    intro i hi
    obtain ⟨q0, v, q1, q3⟩ := hbs i hi
    rw [gb_set hj]
    by_cases e : i = j
    · subst e
      rw [kbPut_0, if_pos rfl]
      refine ⟨?_, x, ?_, ?_⟩
      · rw [set_ne (by omega)]; exact q0
      · rw [set_at (by omega)]
      · have n1 := hx.out os (fun q => by have := hg q; omega)
        have n2 := n1.out ho (fun q => by have := hg q; omega)
        exact n2.mono (by omega) (by omega)
    · rw [kbPut_ne _ _ _ e, if_neg e]
      refine ⟨?_, v, ?_, ?_⟩
      · rw [set_ne (by omega)]; exact q0
      · rw [set_ne (by omega)]; exact q1
      · have n1 := q3.out os (fun q => by have := (hd1 i hi q).1; omega)
        exact (n1.out' ho (.inr hb)).mono (Nat.le_refl _) (by omega)
  · show ∀ r, r < (d.bs.set j ⟨(gb d.bs j).dp, R⟩).length → (gb (d.bs.set j ⟨(gb d.bs j).dp, R⟩) r).ns ≠ [] → kbPut kb j g r ≠ gB ∧ kbPut kb j g r ≠ gI ∧ ∀ r', r' < r → (gb (d.bs.set j ⟨(gb d.bs j).dp, R⟩) r').ns ≠ [] → kbPut kb j g r' ≠ kbPut kb j g r
    rw [hlen]
    have hkb : ∀ r, r < d.bs.length → (gb d.bs r).ns ≠ [] → kb r < C := fun r hr q => by
      obtain ⟨-, v, -, q3⟩ := hbs r hr
      exact (q3.type q).2.1
    intro r hr hq
    rw [gb_set hj] at hq
    by_cases e : r = j
    · subst e
      rw [if_pos rfl] at hq
      have hG := hg hq
      rw [kbPut_0]
      refine ⟨by omega, by omega, fun r' hr' hq' => ?_⟩
      rw [gb_set hj, if_neg (by omega)] at hq'
      rw [kbPut_ne _ _ _ (by omega)]
      have := hkb r' (by omega) hq'
      omega
    · rw [if_neg e] at hq
      rw [kbPut_ne _ _ _ e]
      obtain ⟨u1, u2, u3⟩ := hd1 r hr hq
      refine ⟨u1, u2, fun r' hr' hq' => ?_⟩
      by_cases e' : r' = j
      · subst e'
        rw [gb_set hj, if_pos rfl] at hq'
        have hG := hg hq'
        have := hkb r hr hq
        rw [kbPut_0]
        omega
      · rw [gb_set hj, if_neg e'] at hq'
        rw [kbPut_ne _ _ _ e']
        exact u3 r' hr' hq'
end Go.Proofs.Ytfmgaenedkjmkaa
