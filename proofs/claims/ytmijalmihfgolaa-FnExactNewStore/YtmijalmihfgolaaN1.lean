import Derived.Test.YtmijalmihfgolaaS1
import Derived.Test.YtmijalmihfgolaaQN1n
/- NewStore on both sides. -/
namespace Go.Proofs.Ytmijalmihfgolaa
open Go.ChangeShapes Go.WideShapes Go.ChangeAt Go.RowKit
set_option linter.unusedVariables false
open Tx

attribute [local go_sem] Oper.semAt_some

def StRes (w w' : World) (e : Ending) (N M G : Nat) (q : Int) (ok : Bool) (S : Nat → ByteArray) (T : Nat → Int) (U : Nat → ByteArray) (L : Nat → ByteArray) : Prop :=
  Below w.heap.size w w' ∧ ∃ x cx y cy z cz, e = .returned (.tuple #[stv x N cx y M cy z G cz q, .bool ok]) ∧ MineSt w' w.heap.size w'.heap.size x y z N M G S T U L

theorem newN_ok {s : Int} (h : newOK s = false) : newN s = 0 := by simp [newN, h]


theorem set4_res {w w1 : World} {b : Nat} (o : Obj) {v0 v1 v2 v3 u0 u1 u2 u3 : Value} {t : TypeId} (g1 : Below w.heap.size w w1) (hb : w.heap.size ≤ b) (hB : w1.heap[b]? = some (.cells #[u0, u1, u2, u3] t (0, 0))) :
    Below w.heap.size w (((((w1.setCell ⟨b, 0, none⟩ v0).setCell ⟨b, 1, none⟩ v1).setCell ⟨b, 2, none⟩ v2).setCell ⟨b, 3, none⟩ v3).alloc o) ∧
    (((((w1.setCell ⟨b, 0, none⟩ v0).setCell ⟨b, 1, none⟩ v1).setCell ⟨b, 2, none⟩ v2).setCell ⟨b, 3, none⟩ v3).alloc o).heap[b]? = some (.cells #[v0, v1, v2, v3] t (0, 0)) ∧
    Out b (b + 1) w1 (((((w1.setCell ⟨b, 0, none⟩ v0).setCell ⟨b, 1, none⟩ v1).setCell ⟨b, 2, none⟩ v2).setCell ⟨b, 3, none⟩ v3).alloc o) :=
  ⟨(set4_below g1 hb _ _ _ _).trans ((below_alloc _ _).mono (by simpa using g1.size)), box_on (box4_set hB) (below_alloc _ _), (set4_out _ _ _ _ _ _).trans (Out.of_below (below_alloc _ _))⟩

set_option maxHeartbeats 800000 in
theorem specNewS_any (s : Int) (w : World) : Calls Try.prog 6 #[.int .i64 s] w fun e w' => StRes w w' e (newN s) 0 0 0 (newOK s) newS noT noU noU := by
  have K := specNew_any s
  have hz := newN_ok (s := s)
  generalize newN s = N at K hz ⊢
  generalize newOK s = ok at K hz ⊢
  have h0 : ∀ o1, Below w.heap.size w (w.alloc o1) := fun o1 => below_alloc _ _
  go_enter Try.func6, Try.ntmps6
  go_wp2_with fail
  refine (K _).mono ?_
  rintro e w1 ⟨b1, x, cx, y, cy, rfl, m1⟩
  have g1 := Below.comp (h0 _) b1
  have hB := box_on (al1 w _) b1
  obtain ⟨c0, c1, c2, c3⟩ := box4_cells hB
  obtain ⟨f0, f1, f2, f3⟩ := box4_free hB
  have hs1 : w.heap.size < w1.heap.size := box_lt hB
  have hm1 := m1.mono (B' := w.heap.size + 1) (C' := w1.heap.size) (by simp) (Nat.le_refl _)
  cases ok with
  | false =>
    have hN : N = 0 := hz rfl
    subst hN
    go_wp2
    obtain ⟨r1, r2, r3⟩ := set4_res (o := .cells #[.slice x 0 cx, .slice y 0 cy] 25) (v0 := .slice none 0 0) (v1 := .slice none 0 0) (v2 := .slice none 0 0) (v3 := .int .i64 0) g1 (Nat.le_refl _) hB
    obtain ⟨d0, d1, d2, d3⟩ := box4_cells r2
    refine bodyPost_ret (v := .tuple #[.agg #[.slice none 0 0, .slice none 0 0, .slice none 0 0, .int .i64 0], .bool false]) (by simp [results, Try.results6, go_sem, d0, d1, d2, d3]) rfl ⟨r1, _, _, _, _, _, _, rfl, ?_, mine_none _ _ _ _ _ _, .inr (.inl rfl)⟩
    exact ⟨mine_none _ _ _ _ _ _, mine_none _ _ _ _ _ _⟩
  | true =>
    go_wp2
    obtain ⟨r1, r2, r3⟩ := set4_res (o := .cells #[.slice x N cx, .slice y 0 cy] 25) (v0 := .slice x N cx) (v1 := .slice y 0 cy) (v2 := .slice none 0 0) (v3 := .int .i64 0) g1 (Nat.le_refl _) hB
    obtain ⟨d0, d1, d2, d3⟩ := box4_cells r2
    refine bodyPost_ret (v := .tuple #[.agg #[.slice x N cx, .slice y 0 cy, .slice none 0 0, .int .i64 0], .bool true]) (by simp [results, Try.results6, go_sem, d0, d1, d2, d3]) rfl ⟨r1, _, _, _, _, _, _, rfl, ?_, mine_none _ _ _ _ _ _, .inr (.inl rfl)⟩
    exact (hm1.out r3 (.inr (Nat.le_refl _))).mono (Nat.le_succ _) r3.size

set_option maxHeartbeats 800000 in
theorem implNewS_any (s : Int) (w : World) : Calls Try.prog 7 #[.int .i64 s] w fun e w' => StRes w w' e (newN s) 0 0 0 (newOK s) newS noT noU noU := by
  have K := implNew_any s
  have hz := newN_ok (s := s)
  generalize newN s = N at K hz ⊢
  generalize newOK s = ok at K hz ⊢
  have h0 : ∀ o1, Below w.heap.size w (w.alloc o1) := fun o1 => below_alloc _ _
  go_enter Try.func7, Try.ntmps7
  go_wp2_with fail
  refine (K _).mono ?_
  rintro e w1 ⟨b1, x, cx, y, cy, rfl, m1⟩
  have g1 := Below.comp (h0 _) b1
  have hB := box_on (al1 w _) b1
  obtain ⟨c0, c1, c2, c3⟩ := box4_cells hB
  obtain ⟨f0, f1, f2, f3⟩ := box4_free hB
  have hs1 : w.heap.size < w1.heap.size := box_lt hB
  have hm1 := m1.mono (B' := w.heap.size + 1) (C' := w1.heap.size) (by simp) (Nat.le_refl _)
  go_wp2
  obtain ⟨r1, r2, r3⟩ := set4_res (o := .cells #[.slice x N cx, .slice y 0 cy] 25) (v0 := .slice x N cx) (v1 := .slice y 0 cy) (v2 := .slice none 0 0) (v3 := .int .i64 0) g1 (Nat.le_refl _) hB
  obtain ⟨d0, d1, d2, d3⟩ := box4_cells r2
  refine bodyPost_ret (v := .tuple #[.agg #[.slice x N cx, .slice y 0 cy, .slice none 0 0, .int .i64 0], .bool ok]) (by simp [results, Try.results7, go_sem, d0, d1, d2, d3]) rfl ⟨r1, _, _, _, _, _, _, rfl, ?_, mine_none _ _ _ _ _ _, .inr (.inl rfl)⟩
  exact (hm1.out r3 (.inr (Nat.le_refl _))).mono (Nat.le_succ _) r3.size
end Go.Proofs.Ytmijalmihfgolaa
