import Derived.Test.YtgapplfnlndckaaC1
import Derived.Test.YtgapplfnlndckaaP3
/- spec.l6Without. -/
namespace Go.Proofs.Ytgapplfnlndckaa
open Go.ChangeShapes Go.WideShapes Go.ChangeAt Go.RowKit
set_option linter.unusedVariables false
open Room

attribute [local go_sem] Oper.semAt_some

theorem wp_append_src {P : Program} {w : World} {o : Oper} {a : Act} {K : Act → World → Prop} {Q : Exit → Act → World → Prop} (s x : Operand) (t : TypeId)
    (ho : o.op = .call { callee := .builtin .append, args := #[s, x], argTypes := #[t, t] })
    (base : Nat) (e : TypeId) (z : Value) (size bytes : Nat) (ht : P.underlying t = some (.slice e)) (hinfo : (P.info? e).map (fun i => (i.zero, i.size, i.bytes)) = some (some z, size, bytes)) (hzs : z.cells.size = size) (hsz : 0 < size)
    (v : Value) (n : Nat) (xs : List Value) (hs : a.eval s = v) (hown : w.ownsRow base e size v n xs)
    (sa : Option Addr) (m c : Nat) (news : List Value) (hx : a.eval x = .slice sa m c) (hl : news.length = m * size) (hsrc : m = 0 ∨ ∃ ad, sa = some ad ∧ ∀ j u, news[j]? = some u → w.cell? (ad.add j) = some u) (h1 : ∀ u ∈ news, u.oneCell' = true)
    (h63 : n + m ≤ 1000000000) (hbytes : bytes ≤ 100000) (hbase : base ≤ w.heap.size)
    (h : ∀ v' w', w'.ownsRow base e size v' (n + m) (xs ++ news) → w.grownBy w' v.ownBlock → K (a.put o.dst v') w') : o.wp P a w K Q := by
  obtain ⟨i, hi, hz0, hz1, hz2⟩ := info_parts hinfo
  have hb2 : (n + m) * bytes ≤ 1000000000 * 100000 := Nat.mul_le_mul h63 hbytes
  obtain ⟨v', w', hrun, r1, r2⟩ := run_append_src (P := P) w base t o.type e i z size bytes ht hi hz0 hz1 hz2 hzs hsz v n xs hown sa m c news hl hsrc h1 (by unfold maxLen; omega) (by omega) hbase
  unfold Oper.wp
  simp [execOp, ho, resolve, invoke, builtin, hs, hx, hrun, Result.andThen]
  exact h v' w' r1 r2

set_option maxHeartbeats 2000000 in
theorem l6Without_any (x : Option Addr) (cx : Nat) (l : List Ex) (k : Nat) (w : World) (hn : l.length ≤ 1000) (hcx : l.length ≤ cx) (hk : k < l.length) (hc : Exs w x l) :
    Calls Try.prog 42 #[.slice x l.length cx, .int .i64 (k : Int)] w fun e w' => Below w.heap.size w w' ∧ ∃ v, e = .returned v ∧ OwnR w' w.heap.size v (l.take k ++ l.drop (k + 1)) := by
  obtain ⟨n, hL⟩ : ∃ n, l.length = n := ⟨_, rfl⟩
  obtain ⟨Z, hZ⟩ : ∃ Z, w.heap.size = Z := ⟨_, rfl⟩
  have hto := slice_to x n cx k (by omega)
  have hfr : ∀ w, (Instr.slice 22 (.slice x n cx) (some (.int .i64 ((k : Int) + 1))) none none).run Try.prog w = .ok (.slice (subA x (k + 1) cx) (n - (k + 1)) (cx - (k + 1))) w := fun w => by
    have := slice_from x n cx (k + 1) (by omega) w
    rwa [show ((k + 1 : Nat) : Int) = (k : Int) + 1 by omega] at this
  have lt1 : (l.take k).length = k := by simp; omega
  have lt2 : (l.drop (k + 1)).length = n - (k + 1) := by simp; omega
  have S1 : Hid (∀ w2, Below Z w w2 → k = 0 ∨ ∃ ad, subA x 0 cx = some ad ∧ ∀ t u, (cxs (l.take k))[t]? = some u → w2.cell? (ad.add t) = some u) := fun w2 h => by
    have := RowX.src ((hc.below (hZ ▸ h)).take cx k (by omega))
    rwa [lt1] at this
  have S3 : Hid (∀ w2, Below Z w w2 → n - (k + 1) = 0 ∨ ∃ ad, subA x (k + 1) cx = some ad ∧ ∀ t u, (cxs (l.drop (k + 1)))[t]? = some u → w2.cell? (ad.add t) = some u) := fun w2 h => by
    have := RowX.src ((hc.below (hZ ▸ h)).drop cx (k + 1) (by omega))
    rwa [lt2] at this
  have L1 : Hid ((cxs (l.take k)).length = k * 2) := by show _ = _; rw [cxs_len, lt1]
  have L2 : Hid ((cxs (l.drop (k + 1))).length = (n - (k + 1)) * 2) := by show _ = _; rw [cxs_len, lt2]
  rw [hL]
  have hkn : k < n := by omega
  have hn1 : n ≤ 1000 := by omega
  have hcx1 : n ≤ cx := by omega
  have HC : Hid (Exs w x l) := hc
  have ew5 := wrapI (z := (k : Int) + 1) (by omega) (by omega)
  have Hl : Hid ((l.take k ++ l.drop (k + 1)).length = k + (n - (k + 1))) := by show _ = _; rw [List.length_append, lt1, lt2]
  clear hc lt1 lt2 hL hn hcx hk
  generalize hs0 : subA x 0 cx = s0 at *
  generalize hs1 : subA x (k + 1) cx = s1 at *
  clear hs0 hs1
  go_enter Try.func42, Try.ntmps42
  go_wp2
  have hB0 : (w.drew.alloc (.cells #[] 43)).heap[Z]? = some (.cells #[] 43 (0, 0)) := by rw [← hZ]; exact al1 w.drew _
  have own0 : Hid (OwnR (w.drew.alloc (.cells #[] 43)) Z (.slice (some ⟨Z, 0, none⟩) 0 0) []) := ⟨rfl, .inr ⟨Z, 0, #[], rfl, Nat.le_refl _, hB0, Nat.le_refl _, by decide, rfl, rfl⟩⟩
  have bz0 : Below Z w w.drew := Below.drew (Below.refl _ _)
  have bz1 : Below Z w (w.drew.alloc (.cells #[] 43)) := bz0.alloc (by show Z ≤ w.heap.size; omega) _
  have z1 : Z ≤ (w.drew.alloc (.cells #[] 43)).heap.size := by simp [← hZ]
  have st1 := S1.out _ bz1
  clear hB0
  go_region_held3 (fun W => Below Z w W)
    (first | assumption | exact bz1)
    (first
    | (refine wp_append_src _ _ 22 rfl Z 43 _ 2 16 Try.underlying22 info43 rfl (by decide) (.slice (some ⟨Z, 0, none⟩) 0 0) 0 [] rfl own0.out s0 k cx (cxs (l.take k)) rfl L1.out st1 (cxs_one _) (by omega) (by decide) z1 ?_; intro v1 w1 own1 gr1; have g1 : Below Z w w1 := bz1.trans (Grown.below gr1 z1 (owns_ge own0.out)); have z2 : Z ≤ w1.heap.size := Nat.le_trans z1 gr1.size; have s3 := S3.out w1 g1; clear gr1)
    | (refine wp_append_src _ _ 22 rfl Z 43 _ 2 16 Try.underlying22 info43 rfl (by decide) v1 (0 + k) ([] ++ cxs (l.take k)) rfl own1 s1 (n - (k + 1)) (cx - (k + 1)) (cxs (l.drop (k + 1))) rfl L2.out s3 (cxs_one _) (by omega) (by decide) z2 ?_; intro v2 w2 own2 gr2; have g2 : Below Z w w2 := g1.trans (Grown.below gr2 z2 (owns_ge own1)); clear gr2))
  all_goals go_wp2
  all_goals
    go_ret
    refine ⟨by first | exact g2 | exact hZ ▸ g2, _, rfl, ?_⟩
    unfold OwnR
    rw [Hl.out, cxs_app]
    simp only [Nat.zero_add, List.nil_append] at own2
    first | exact own2 | exact hZ ▸ own2
end Go.Proofs.Ytgapplfnlndckaa
