import Derived.Test.YtdbmdblghlfjfaaY2
import Derived.Test.YtdbmdblghlfjfaaY3
import Derived.Test.YtdbmdblghlfjfaaB2
/- impl.cutPieces. -/
namespace Go.Proofs.Ytdbmdblghlfjfaa
open Go.ChangeShapes Go.WideShapes Go.ChangeAt Go.RowKit
set_option linter.unusedVariables false
open Mp

attribute [local go_sem] Oper.semAt_some

theorem wp_append_grow {P : Program} {w : World} {o : Oper} {a : Act} {K : Act → World → Prop} {Q : Exit → Act → World → Prop} (s x : Operand) (t : TypeId)
    (ho : o.op = .call { callee := .builtin .append, args := #[s, x], argTypes := #[t, t] })
    (e : TypeId) (z : Value) (size bytes : Nat) (ht : P.underlying t = some (.slice e)) (hinfo : (P.info? e).map (fun i => (i.zero, i.size, i.bytes)) = some (some z, size, bytes)) (hzs : z.cells.size = size) (hsz : 0 < size)
    (b : Addr) (n cap : Nat) (olds : List Value) (hs : a.eval s = .slice (some b) n cap) (hlo : olds.length = n * size) (holds : ∀ j u, olds[j]? = some u → w.cell? (b.add j) = some u)
    (ad : Addr) (m c : Nat) (news : List Value) (hx : a.eval x = .slice (some ad) m c) (hl : news.length = m * size) (hnews : ∀ j u, news[j]? = some u → w.cell? (ad.add j) = some u)
    (hg : cap < n + m) (h63 : n + m ≤ 1000000000) (hbytes : bytes ≤ 100000)
    (h : ∀ v' w', w'.ownsRow w.heap.size e size v' (n + m) (olds ++ news) → w.grownBy w' none → K (a.put o.dst v') w') : o.wp P a w K Q := by
  obtain ⟨i, hi, hz0, hz1, hz2⟩ := info_parts hinfo
  have hb2 : (n + m) * bytes ≤ 1000000000 * 100000 := Nat.mul_le_mul h63 hbytes
  obtain ⟨v', w', hrun, r1, r2⟩ := run_append_arg_grows (P := P) w t o.type e i z size bytes ht hi hz0 hz1 hz2 hzs hsz b n cap olds hlo holds ad m c news hl hnews hg (by unfold maxLen; omega) (by omega)
  unfold Oper.wp
  simp [execOp, ho, resolve, invoke, builtin, hs, hx, hrun, Result.andThen]
  exact h v' w' r1 r2
theorem Concat2_any (Y cap : Nat) (x0 : Option Addr) (c0 : Nat) (l0 : List Pc) (x1 : Option Addr) (c1 : Nat) (l1 : List Pc) (w : World) (h0 : l0.length ≤ 1000) (h1 : l1.length ≤ 1000) (k0 : w.cell? ⟨Y, 0, none⟩ = some (.slice x0 l0.length c0)) (k1 : w.cell? ⟨Y, 1, none⟩ = some (.slice x1 l1.length c1)) (r0 : Pcs w x0 l0) (r1 : Pcs w x1 l1) :
    Calls Try.prog 79 #[.slice (some ⟨Y, 0, none⟩) 2 cap] w fun e w' => Below w.heap.size w w' ∧ ∃ x c, e = .returned (.slice x (l0 ++ l1).length c) ∧ OwnP w' w.heap.size (.slice x (l0 ++ l1).length c) (l0 ++ l1) := by
  have h := Concat_any Y 2 cap (fun i => if i = 0 then x0 else x1) (fun i => if i = 0 then c0 else c1) (fun i => if i = 0 then l0 else l1) w (by omega) (fun i hi => by split <;> assumption)
    (fun i hi => by
      have : i = 0 ∨ i = 1 := by omega
      rcases this with rfl | rfl
      · simpa using k0
      · simpa using k1)
    (fun i hi => by
      have : i = 0 ∨ i = 1 := by omega
      rcases this with rfl | rfl
      · simpa using r0
      · simpa using r1)
  have e : flat (fun i => if i = 0 then l0 else l1) 2 = l0 ++ l1 := by simp [flat]
  rw [e] at h
  exact h
theorem slice3 (x : Option Addr) (n c k : Nat) (h : k ≤ c) (w : World) : (Instr.slice 27 (.slice x n c) none (some (.int .i64 (k : Int))) (some (.int .i64 (k : Int)))).run Try.prog w = .ok (.slice (subA x 0 k) k k) w := by
  rw [run_slice_hm w 27 x n c (by kernel_rfl) .i64 .i64 k k (by omega) (by omega) (by omega), show Try.prog.elem 27 = 40 from by kernel_rfl, size40]
  simp [Result.andThen, sliced, subA]
theorem sub0 (b off k : Nat) : subA (some ⟨b, off, none⟩) 0 k = some ⟨b, off, none⟩ := by
  unfold subA
  split
  · rfl
  · simp [Addr.add]
theorem len_cutA {t : Int} {l : List Pc} : (cutA t l).length ≤ l.length := by
  induction l with
  | nil => simp [cutA]
  | cons p l ih =>
    unfold cutA at *
    rw [List.flatMap_cons, List.length_append, List.length_cons]
    have : (ahd t p).length ≤ 1 := by unfold ahd; split <;> (try split) <;> simp
    omega
theorem len_cutB {t : Int} {l : List Pc} : (cutB t l).length ≤ l.length := by
  induction l with
  | nil => simp [cutB]
  | cons p l ih =>
    unfold cutB at *
    rw [List.flatMap_cons, List.length_append, List.length_cons]
    have : (bhd t p).length ≤ 1 := by unfold bhd; split <;> (try split) <;> simp
    omega
theorem on_box {w w' : World} (hb : Below w.heap.size w w') {b : Nat} {o : Obj} (h : w.heap[b]? = some o) : w'.heap[b]? = some o := box_on h hb
theorem row_oneP {w : World} {b : Nat} {p : Pc} {e : TypeId} (h : w.heap[b]? = some (.cells #[.int .i64 p.f, .int .i64 p.n, .int .i64 p.a, .bool p.z] e (0, 0))) : Pcs w (some ⟨b, 0, none⟩) [p] := by
  intro _
  obtain ⟨h0, h1, h2, h3⟩ := box4_cells h
  refine ⟨b, 0, rfl, fun i hi => ?_⟩
  obtain rfl : i = 0 := by simpa using hi
  exact ⟨h0, h1, h2, h3⟩
theorem own_rowP {w : World} {B : Nat} {x : Option Addr} {c : Nat} {l : List Pc} (h : OwnP w B (.slice x l.length c) l) : l.length ≤ c ∧ Pcs w x l := ⟨(OwnP.own h).2.2, MineP.row (OwnP.own h).1⟩
/-- Two rows that can be read, as an answer. -/
def TwoR (w : World) (e : Ending) (l m : List Pc) : Prop := ∃ x1 c1 x2 c2, e = .returned (.tuple #[.slice x1 l.length c1, .slice x2 m.length c2]) ∧ l.length ≤ c1 ∧ m.length ≤ c2 ∧ Pcs w x1 l ∧ Pcs w x2 m

set_option maxRecDepth 20000 in
set_option maxHeartbeats 8000000 in
theorem cutPieces_any (a : Option Addr) (c : Nat) (l : List Pc) (t : Int) (w : World) (hn : l.length ≤ 1000) (hc : l.length ≤ c) (hs : Rs l) (ht : 0 ≤ t ∧ t ≤ 200) (ha : Pcs w a l) :
    Calls Try.prog 56 #[.slice a l.length c, .int .i64 t] w fun e w' => Below w.heap.size w w' ∧ TwoR w' e (cutA t l) (cutB t l) := by
  have c76 := Search_any a c l t w hn hs ha
  have hle := lbF_le t l
  have hcl := cut_clean (t := t) hs
  have hch := fun k => cut_half (t := t) (k := k) hs
  have HOk : Hid (∀ i, i < l.length → pok (gp l i)) := fun i hi => hs.ok hi
  obtain ⟨K, hK⟩ : ∃ K, lbF t l = K := ⟨_, rfl⟩
  rw [hK] at c76 hle hcl
  simp only [hK] at hch
  clear hK hs
  -- where nothing is cut
  have clean : (K = 0 ∨ (gp l (K - 1)).f + (gp l (K - 1)).n ≤ t) → ∀ w1, Below w.heap.size w w1 → TwoR w1 (.returned (.tuple #[.slice (subA a 0 K) K K, .slice (subA a K c) (l.length - K) (c - K)])) (cutA t l) (cutB t l) := fun h w1 hb => by
    obtain ⟨e1, e2⟩ := hcl h
    rw [e1, e2]
    have lt1 : (l.take K).length = K := by simp; omega
    have lt2 : (l.drop K).length = l.length - K := by simp
    exact ⟨_, _, _, _, by rw [lt1, lt2], by omega, by omega, RowP.take (ha.below hb) K K hle, RowP.drop (ha.below hb) c K hc⟩
  have HCl : Hid _ := clean
  clear clean hcl
  have hs3 := slice3 a l.length c K (by omega)
  have hfr := slice_from a l.length c K (by omega)
  obtain ⟨n, hln⟩ : ∃ n, l.length = n := ⟨_, rfl⟩
  have Hln : Hid _ := hln
  cases K with
  | zero =>
    have hs30 : ∀ w, (Instr.slice 27 (.slice a n c) none (some (.int .i64 0)) (some (.int .i64 0))).run Try.prog w = .ok (.slice (subA a 0 0) 0 0) w := hln ▸ hs3
    have hfr0 : ∀ w, (Instr.slice 27 (.slice a n c) (some (.int .i64 0)) none none).run Try.prog w = .ok (.slice (subA a 0 c) (n - 0) (c - 0)) w := hln ▸ hfr
    have HT : Hid (∀ w1, Below w.heap.size w w1 → TwoR w1 (.returned (.tuple #[.slice (subA a 0 0) 0 0, .slice (subA a 0 c) (n - 0) (c - 0)])) (cutA t l) (cutB t l)) := hln ▸ HCl.out (.inl rfl)
    rw [hln] at c76 ⊢
    clear hs3 hfr HCl hch HOk ha hle hn hc hln
    generalize cutA t l = LA at *
    generalize cutB t l = LB at *
    go_enter Try.func56, Try.ntmps56
    go_wp2_with fail
    refine c76.mono ?_
    rintro e w1 ⟨b1, r, rfl⟩
    go_wp2_with fail
    go_quiet (fail)
    go_wp2
    go_ret2
    exact ⟨below_drewN b1 _, HT.out _ (below_drewN b1 _)⟩
  | succ k =>
    have hkl : k < l.length := by omega
    have hpk := HOk.out k hkl
    obtain ⟨bb, off, rfl, hcell⟩ := ha (by omega)
    have hck := hcell k hkl
    have HRow : Hid (Pcs w (some ⟨bb, off, none⟩) l) := fun _ => ⟨bb, off, rfl, hcell⟩
    clear hcell ha
    have hs31 : ∀ w, (Instr.slice 27 (.slice (some ⟨bb, off, none⟩) n c) none (some (.int .i64 ((k : Int) + 1))) (some (.int .i64 ((k : Int) + 1)))).run Try.prog w = .ok (.slice (subA (some ⟨bb, off, none⟩) 0 (k + 1)) (k + 1) (k + 1)) w := hln ▸ hs3
    have hfr1 : ∀ w, (Instr.slice 27 (.slice (some ⟨bb, off, none⟩) n c) (some (.int .i64 ((k : Int) + 1))) none none).run Try.prog w = .ok (.slice (subA (some ⟨bb, off, none⟩) (k + 1) c) (n - (k + 1)) (c - (k + 1))) w := hln ▸ hfr
    have c53 := fun W => inFile_any (gp l k) W
    have c52 := fun W => endOf_any (gp l k).f (gp l k).n W (by unfold pok at hpk; omega) (by unfold pok at hpk; omega)
    have hkn : (k : Int) < (n : Int) := by omega
    have ek : IntKind.i64.wrap (k : Int) = k := wrapI (by omega) (by omega)
    have ek1 : ¬ ((k : Int) + 1 = 0) := by omega
    have ek2 : ((k : Int) + 1 == 0) = false := by simp; omega
    by_cases hend : (gp l k).f + (gp l k).n ≤ t
    · have HT : Hid (∀ w1, Below w.heap.size w w1 → TwoR w1 (.returned (.tuple #[.slice (subA (some ⟨bb, off, none⟩) 0 (k + 1)) (k + 1) (k + 1), .slice (subA (some ⟨bb, off, none⟩) (k + 1) c) (n - (k + 1)) (c - (k + 1))])) (cutA t l) (cutB t l)) := hln ▸ HCl.out (.inr hend)
      rw [hln] at c76 ⊢
      clear hs3 hfr HCl hch HOk hle hn hc hln hpk HRow hkl
      generalize cutA t l = LA at *
      generalize cutB t l = LB at *
      generalize gp l k = x at *
      obtain ⟨pf, pn, pa, pz⟩ := x
      simp only at *
      generalize pf + pn = E1 at *
      obtain ⟨k0, k1, k2, k3⟩ := hck
      have S0 : Hid (w.cell? ⟨bb, off + k * 4, none⟩ = some (.int .i64 pf) ∧ w.cell? ⟨bb, off + k * 4 + 1, none⟩ = some (.int .i64 pn) ∧ w.cell? ⟨bb, off + k * 4 + 2, none⟩ = some (.int .i64 pa) ∧ w.cell? ⟨bb, off + k * 4 + 3, none⟩ = some (.bool pz)) := ⟨k0, k1, k2, k3⟩
      clear k0 k1 k2 k3
      go_enter Try.func56, Try.ntmps56
      go_wp2_with fail
      refine c76.mono ?_
      rintro e w1 ⟨b1, r, rfl⟩
      have k0 := cell_on S0.out.1 b1
      have k1 := cell_on S0.out.2.1 b1
      have k2 := cell_on S0.out.2.2.1 b1
      have k3 := cell_on S0.out.2.2.2 b1
      go_wp2_with fail
      refine (c53 _).mono ?_
      rintro e w2 ⟨rfl, b2⟩
      go_wp2_with fail
      refine (c52 _).mono ?_
      rintro e w3 ⟨rfl, b3⟩
      have g3 := Below.comp b1 (Below.comp b2 b3)
      clear k0 k1 k2 k3
      go_wp2_with fail
      go_quiet (fail)
      go_wp2
      go_ret2
      exact ⟨below_drewN g3 _, HT.out _ (below_drewN g3 _)⟩
    · obtain ⟨eA, eB⟩ := hch k rfl (by omega)
      have hlfr : (gp l k).f < t ∨ True := .inr trivial
      have c78 := fun W => halvesOf_any (gp l k) t W hpk ht
      have hs3k : ∀ w, (Instr.slice 27 (.slice (some ⟨bb, off, none⟩) n c) none (some (.int .i64 (k : Int))) (some (.int .i64 (k : Int)))).run Try.prog w = .ok (.slice (some ⟨bb, off, none⟩) k k) w := fun W => by
        have := slice3 (some ⟨bb, off, none⟩) n c k (by omega) W
        rwa [sub0] at this
      have HTk : Hid (∀ W, Below w.heap.size w W → ∀ j u, (cpp (l.take k))[j]? = some u → W.cell? ((⟨bb, off, none⟩ : Addr).add j) = some u) := fun W hb => by
        by_cases h0 : k = 0
        · subst h0
          intro j u hj
          simp [cpp] at hj
        · have h1 := RowP.take (HRow.out.below hb) k k (by omega)
          rw [sub0] at h1
          rcases RowP.src h1 with h2 | ⟨ad, h2, h3⟩
          · rw [List.length_take] at h2; omega
          · cases h2; exact h3
      have HDr : Hid (∀ W, Below w.heap.size w W → Pcs W (subA (some ⟨bb, off, none⟩) (k + 1) c) (l.drop (k + 1))) := fun W hb => RowP.drop (HRow.out.below hb) c (k + 1) hc
      have lt1 : (l.take k).length = k := by simp; omega
      have lt2 : (l.drop (k + 1)).length = n - (k + 1) := by simp; omega
      have hcl1 : (cpp (l.take k)).length = k * 4 := by rw [cpp_len, lt1]
      have hd1000 : n - (k + 1) ≤ 1000 := by omega
      have hk1000 : k ≤ 1000 := by omega
      rw [hln] at c76 ⊢
      have HE : Hid (cutA t l = l.take k ++ [lft t (gp l k)] ∧ cutB t l = [rgt t (gp l k)] ++ l.drop (k + 1)) := ⟨eA, eB⟩
      generalize cutA t l = LA at *
      generalize cutB t l = LB at *
      have HLt : Hid ((l.take k).length = k ∧ (l.drop (k + 1)).length = n - (k + 1) ∧ (cpp (l.take k)).length = k * 4) := ⟨lt1, lt2, hcl1⟩
      generalize l.drop (k + 1) = LD at *
      generalize l.take k = LT at *
      generalize hsd : subA (some ⟨bb, off, none⟩) (k + 1) c = sd at *
      clear hs3 hfr HCl hch HOk hle hn hc hln hpk HRow hkl eA eB hlfr lt1 lt2 hcl1 hsd hs31
      generalize hlf : lft t (gp l k) = lf at *
      generalize hrg : rgt t (gp l k) = rg at *
      clear hlf hrg
      generalize gp l k = x at *
      obtain ⟨pf, pn, pa, pz⟩ := x
      simp only at *
      generalize pf + pn = E1 at *
      have hend' : ¬ E1 ≤ t := hend
      obtain ⟨k0, k1, k2, k3⟩ := hck
      have S0 : Hid (w.cell? ⟨bb, off + k * 4, none⟩ = some (.int .i64 pf) ∧ w.cell? ⟨bb, off + k * 4 + 1, none⟩ = some (.int .i64 pn) ∧ w.cell? ⟨bb, off + k * 4 + 2, none⟩ = some (.int .i64 pa) ∧ w.cell? ⟨bb, off + k * 4 + 3, none⟩ = some (.bool pz)) := ⟨k0, k1, k2, k3⟩
      clear k0 k1 k2 k3
      go_enter Try.func56, Try.ntmps56
      go_wp2_with fail
      refine c76.mono ?_
      rintro e w1 ⟨b1, r, rfl⟩
      have k0 := cell_on S0.out.1 b1
      have k1 := cell_on S0.out.2.1 b1
      have k2 := cell_on S0.out.2.2.1 b1
      have k3 := cell_on S0.out.2.2.2 b1
      go_wp2_with fail
      refine (c53 _).mono ?_
      rintro e w2 ⟨rfl, b2⟩
      go_wp2_with fail
      refine (c52 _).mono ?_
      rintro e w3 ⟨rfl, b3⟩
      have g3 := Below.comp b1 (Below.comp b2 b3)
      clear k0 k1 k2 k3
      have k0 := cell_on S0.out.1 g3
      have k1 := cell_on S0.out.2.1 g3
      have k2 := cell_on S0.out.2.2.1 g3
      have k3 := cell_on S0.out.2.2.2 g3
      go_wp2_with fail
      refine (c78 _).mono ?_
      rintro e w4 ⟨rfl, b4⟩
      have g4 := Below.comp g3 b4
      clear k0 k1 k2 k3
      obtain ⟨lf0, lf1, lf2, lf3⟩ := lf
      obtain ⟨rg0, rg1, rg2, rg3⟩ := rg
      obtain ⟨W5, hW5⟩ : ∃ W5, (w4.alloc (.cells #[.int .i64 lf0, .int .i64 lf1, .int .i64 lf2, .bool lf3] 40)).alloc (.cells #[.int .i64 rg0, .int .i64 rg1, .int .i64 rg2, .bool rg3] 40) = W5 := ⟨_, rfl⟩
      obtain ⟨D, hD⟩ : ∃ D, w4.heap.size = D := ⟨_, rfl⟩
      have b5 : Below w4.heap.size w4 W5 := by subst hW5; exact ba2 _ _ _
      obtain ⟨A1, A2⟩ : W5.heap[D]? = some (.cells #[.int .i64 lf0, .int .i64 lf1, .int .i64 lf2, .bool lf3] 40 (0, 0)) ∧ W5.heap[D + 1]? = some (.cells #[.int .i64 rg0, .int .i64 rg1, .int .i64 rg2, .bool rg3] 40 (0, 0)) := by subst hW5 hD; exact al2 _ _ _
      obtain ⟨u0, u1, u2, u3⟩ := box4_cells A1
      obtain ⟨v0, v1, v2, v3⟩ := box4_cells A2
      have g5 := Below.comp g4 b5
      clear A1 A2
      have SB : Hid (∀ W, Below W5.heap.size W5 W → W.cell? ⟨D, 0, none⟩ = some (.int .i64 lf0) ∧ W.cell? ⟨D, 1, none⟩ = some (.int .i64 lf1) ∧ W.cell? ⟨D, 2, none⟩ = some (.int .i64 lf2) ∧ W.cell? ⟨D, 3, none⟩ = some (.bool lf3) ∧ W.cell? ⟨D + 1, 0, none⟩ = some (.int .i64 rg0) ∧ W.cell? ⟨D + 1, 1, none⟩ = some (.int .i64 rg1) ∧ W.cell? ⟨D + 1, 2, none⟩ = some (.int .i64 rg2) ∧ W.cell? ⟨D + 1, 3, none⟩ = some (.bool rg3) ∧ Below W5.heap.size W5 W) := fun W h => ⟨cell_on u0 h, cell_on u1 h, cell_on u2 h, cell_on u3 h, cell_on v0 h, cell_on v1 h, cell_on v2 h, cell_on v3 h, h⟩
      go_wp2_with fail
      clear hW5 u0 u1 u2 u3 v0 v1 v2 v3
      go_region_held3 (fun W => W.cell? ⟨D, 0, none⟩ = some (.int .i64 lf0) ∧ W.cell? ⟨D, 1, none⟩ = some (.int .i64 lf1) ∧ W.cell? ⟨D, 2, none⟩ = some (.int .i64 lf2) ∧ W.cell? ⟨D, 3, none⟩ = some (.bool lf3) ∧ W.cell? ⟨D + 1, 0, none⟩ = some (.int .i64 rg0) ∧ W.cell? ⟨D + 1, 1, none⟩ = some (.int .i64 rg1) ∧ W.cell? ⟨D + 1, 2, none⟩ = some (.int .i64 rg2) ∧ W.cell? ⟨D + 1, 3, none⟩ = some (.bool rg3) ∧ Below W5.heap.size W5 W)
        ((refine SB.out _ ?_; first | assumption | exact Below.drew (Below.refl _ _) | exact Below.drew (below_alloc _ _) | exact Below.drew (ba2 _ _ _) | exact Below.drew (ba3 _ _ _ _) | exact below_alloc _ _ | exact ba2 _ _ _ | exact ba3 _ _ _ _ | exact Below.comp hbA (below_alloc _ _) | exact Below.comp hbA (ba2 _ _ _)))
        (first
        | (refine wp_append_grow _ _ 27 rfl 40 _ 4 32 Try.underlying27 info40 rfl (by decide) ⟨bb, off, none⟩ k k (cpp LT) rfl HLt.out.2.2 (HTk.out _ (Below.comp g5 (by obtain ⟨-, -, -, -, -, -, -, -, hwA⟩ := ‹_ ∧ _ ∧ _ ∧ _ ∧ _ ∧ _ ∧ _ ∧ _ ∧ Below W5.heap.size W5 _›; exact hwA))) _ 1 1 (cpp [(⟨lf0, lf1, lf2, lf3⟩ : Pc)]) rfl rfl (by first | exact srcP_cells (p := (⟨lf0, lf1, lf2, lf3⟩ : Pc)) (al1 W5 _) | exact srcP_cells (p := (⟨lf0, lf1, lf2, lf3⟩ : Pc)) (al2 W5 _ _).1 | exact srcP_cells (p := (⟨lf0, lf1, lf2, lf3⟩ : Pc)) (al2 W5 _ _).2 | exact srcP_cells (p := (⟨lf0, lf1, lf2, lf3⟩ : Pc)) (al3 W5 _ _ _).1 | exact srcP_cells (p := (⟨lf0, lf1, lf2, lf3⟩ : Pc)) (al3 W5 _ _ _).2.1 | exact srcP_cells (p := (⟨lf0, lf1, lf2, lf3⟩ : Pc)) (al3 W5 _ _ _).2.2) (by omega) (by omega) (by decide) ?_; intro vA wA ownA grA; obtain ⟨xA, cA, eA⟩ := owns_form ownA; subst eA; have bA := Grown.below grA (Nat.le_refl _) (fun k hk => by cases hk); have hbA := Below.comp (by obtain ⟨-, -, -, -, -, -, -, -, hwA⟩ := ‹_ ∧ _ ∧ _ ∧ _ ∧ _ ∧ _ ∧ _ ∧ _ ∧ Below W5.heap.size W5 _›; exact hwA) bA; have HOA : Hid (wA.ownsRow w.heap.size 40 4 (.slice xA (k + 1) cA) (k + 1) (cpp LT ++ cpp [(⟨lf0, lf1, lf2, lf3⟩ : Pc)])) := owns_mono ownA (Nat.le_trans g5.size (by obtain ⟨-, -, -, -, -, -, -, -, hwA⟩ := ‹_ ∧ _ ∧ _ ∧ _ ∧ _ ∧ _ ∧ _ ∧ _ ∧ Below W5.heap.size W5 _›; exact hwA.size)); clear grA ownA)
        | (go_at_call 79; refine (Concat2_any _ _ _ 1 [(⟨rg0, rg1, rg2, rg3⟩ : Pc)] sd (c - (k + 1)) LD _ (by simp) (by rw [HLt.out.2.1]; omega) (by first | exact (box2_cells (al2 wA _ _).2).1 | exact (box2_cells (al1 wA _)).1 | exact (box2_cells (on_box bA (al3 W5 _ _ _).2.2)).1 | exact (box2_cells (on_box bA (al3 W5 _ _ _).2.1)).1) (by rw [HLt.out.2.1]; first | exact (box2_cells (al2 wA _ _).2).2.1 | exact (box2_cells (al1 wA _)).2.1 | exact (box2_cells (on_box bA (al3 W5 _ _ _).2.2)).2.1 | exact (box2_cells (on_box bA (al3 W5 _ _ _).2.1)).2.1) (by first | exact row_oneP (p := (⟨rg0, rg1, rg2, rg3⟩ : Pc)) (al2 wA _ _).1 | exact row_oneP (p := (⟨rg0, rg1, rg2, rg3⟩ : Pc)) (on_box (below_alloc wA _) (on_box bA (al2 W5 _ _).2)) | exact row_oneP (p := (⟨rg0, rg1, rg2, rg3⟩ : Pc)) (on_box bA (al3 W5 _ _ _).2.1) | exact row_oneP (p := (⟨rg0, rg1, rg2, rg3⟩ : Pc)) (on_box (below_alloc wA _) (on_box bA (al2 W5 _ _).1)) | exact row_oneP (p := (⟨rg0, rg1, rg2, rg3⟩ : Pc)) (on_box bA (al3 W5 _ _ _).1)) (HDr.out _ (Below.comp g5 (by obtain ⟨-, -, -, -, -, -, -, -, hwC⟩ := ‹_ ∧ _ ∧ _ ∧ _ ∧ _ ∧ _ ∧ _ ∧ _ ∧ Below W5.heap.size W5 _›; exact hwC)))).mono ?_; rintro e wC ⟨bC, xC, cC, rfl, ownC⟩; have HOC : Hid _ := ownC; have bAC : Below wA.heap.size wA wC := (by first | exact bC | exact Below.comp (below_alloc _ _) bC | exact Below.comp (ba2 _ _ _) bC); have hbC := Below.comp hbA bAC; clear ownC bC))
      all_goals go_wp2_with fail
      all_goals go_ret2
      all_goals
        refine ⟨Below.comp g5 hbC, xA, cA, xC, cC, ?_, ?_⟩
        · rw [HE.out.1, HE.out.2, List.length_append, HLt.out.1]; rfl
        · rw [HE.out.1, HE.out.2]
          have o1 : OwnP wC w.heap.size (.slice xA (LT ++ [(⟨lf0, lf1, lf2, lf3⟩ : Pc)]).length cA) (LT ++ [(⟨lf0, lf1, lf2, lf3⟩ : Pc)]) := by
            unfold OwnP
            rw [List.length_append, HLt.out.1, cpp_app]
            exact owns_below HOA.out bAC
          have q1 := own_rowP o1
          have q2 := own_rowP HOC.out
          exact ⟨q1.1, q2.1, q1.2, q2.2⟩
end Go.Proofs.Ytdbmdblghlfjfaa
