import Derived.Test.YtggkpcgjmanelaaE2
/- The program: the iterator over keys, and how many there are. -/
namespace Go.Proofs.Ytggkpcgjmanelaa
open Go.ChangeShapes Go.WideShapes Go.ChangeAt Go.RowKit Go.Shelf
set_option linter.unusedVariables false
open Bt

attribute [local go_sem] Oper.semAt_some

theorem keeps_of_below {W W' : World} (h : Below W.heap.size W W') : KeepsOthers W W' := ⟨h.size, fun k o hk _ => (h.block k (Array.getElem?_eq_some_iff.1 hk).1).trans hk⟩
theorem cell1 {w : World} {b : Nat} {v : Value} {e : TypeId} (h : w.heap[b]? = some (.cells #[v] e (0, 0))) : w.cell? ⟨b, 0, none⟩ = some v ∧ w.frozen? ⟨b, 0, none⟩ = false :=
  ⟨by simp [World.cell?, h], by simp [World.frozen?, h]⟩
abbrev enck (x : Int) : Array Value := #[iv x]
set_option maxRecDepth 100000 in
set_option maxHeartbeats 2000000 in
theorem keys_stops (fu : Nat) (d : Nat) (v : Value) (t : Tr) (w0 w : World) (Bs : Nat) (hs : IN w0 d v t) (hwf : Wf t) (hb : Below w0.heap.size w0 w) (hB : w.heap[Bs]? = some (.cells #[v] 75 (0, 0))) (hN : (flat t).length ≤ 100000000) :
    SeqStopsK Fence.wide fu Try.prog 82 #[.pointer (some ⟨Bs, 0, none⟩)] enck (Kc w0.heap.size) (fun xs => xs = flat t) (fun pre => pre <+: flat t) (flat t).length w := fun l J Jx W hW hJ _ hY h0 => by
  obtain ⟨c0, -⟩ := cell1 (box_on hB hW)
  have hWW : Below w0.heap.size w0 W := hb.trans (hW.mono hb.size)
  have cE := fun m => each_in l w0 J Jx (flat t).length (fun s W' o h => hJ s W' _ none h (World.grownBy_alloc _ _ none) (fun r e => by cases e)) (fun m pre x W1 h1 h2 => yield_any (hY pre x W1 h1 h2)) hN d v t [] W m hs hwf hWW h0 (by simp)
  clear hY
  obtain ⟨T, u, rfl⟩ := hs.form
  refine callsIn_of_wp Try.func82 rfl trivial ?_ rfl
  simp only [Try.ntmps82, List.size_toArray, List.length_cons, List.length_nil, Nat.reduceAdd, Nat.reduceSub, Array.replicate_succ, Array.replicate_zero, List.push_toArray, List.append_toArray, List.nil_append, List.cons_append]
  gi_wp2_with fail
  refine ⟨trivial, fun h => absurd h (by simp [Fence.wide]), (cE _).mono ?_⟩
  rintro e w1 (⟨rfl, hJ2, hk1⟩ | ⟨rfl, q, hq, hx⟩)
  · gi_wp2_with fail
    go_end0
    exact ⟨⟨_, rfl⟩, .inl ⟨_, rfl, by simpa using hJ2⟩⟩
  · gi_wp2_with fail
    go_end0
    exact ⟨⟨_, rfl⟩, .inr ⟨q, hq, by simpa using hx⟩⟩
theorem keysIn_any (fu : Nat) (T : TypeId) (u : Value) (w : World) :
    CallsIn Fence.wide fu Try.prog 54 #[.iface T u] w fun e w' => e = .returned (.func (.func 82) #[] #[.pointer (some ⟨w.heap.size, 0, none⟩)]) ∧ w' = w.alloc (.cells #[.iface T u] 75) := by
  refine callsIn_of_wp Try.func54 rfl trivial ?_ rfl
  simp only [Try.ntmps54, List.size_toArray, List.length_cons, List.length_nil, Nat.reduceAdd, Nat.reduceSub, Array.replicate_succ, Array.replicate_zero, List.push_toArray, List.append_toArray, List.nil_append, List.cons_append]
  gi_wp2
  go_ret
  exact ⟨rfl, rfl⟩
set_option maxRecDepth 100000 in
set_option maxHeartbeats 2000000 in
theorem countKeys_any (d : Nat) (v : Value) (t : Tr) (w : World) (hs : IN w d v t) (hwf : Wf t) (hN : (flat t).length ≤ 100000000) :
    Calls Try.prog 67 #[v] w fun e w' => e = .returned (.int .i64 (flat t).length) ∧ Below w.heap.size w w' := by
  obtain ⟨T, u, rfl⟩ := hs.form
  refine (callsIn_wide (n := 8)).1 ?_
  refine callsIn_of_wp_marks Try.func67 rfl trivial ?_ rfl
  simp only [Try.ntmps67, List.size_toArray, List.length_cons, List.length_nil, Nat.reduceAdd, Nat.reduceSub, Array.replicate_succ, Array.replicate_zero, List.push_toArray, List.append_toArray, List.nil_append, List.cons_append]
  gi_wp2_with (refine ⟨trivial, ?_⟩; gi_at_call 54; refine (keysIn_any _ T u _).mono ?_; rintro e w1 ⟨rfl, rfl⟩)
  obtain ⟨W0, hW0⟩ : ∃ W0, (w.alloc (.cells #[.int .i64 0] 3)).alloc (.cells #[.iface T u] 75) = W0 := ⟨_, rfl⟩
  rw [hW0]
  have hB0 : Below w.heap.size w W0 := by rw [← hW0]; exact ba2 _ _ _
  have hsz : W0.heap.size = w.heap.size + 2 := by rw [← hW0]; simp
  obtain ⟨x0, x1⟩ : W0.heap[w.heap.size]? = some (.cells #[.int .i64 0] 3 (0, 0)) ∧ W0.heap[w.heap.size + 1]? = some (.cells #[.iface T u] 75 (0, 0)) := by rw [← hW0]; exact al2 _ _ _
  clear hW0
  refine wpIn_rangeFunc_ownH rfl (by omega) (gf := 82) (lb := #[.pointer (some ⟨w.heap.size + 1, 0, none⟩)]) rfl trivial (enters_of Try.func82 (by kernel_rfl) rfl)
    (keys_stops _ d (.iface T u) t w W0 (w.heap.size + 1) hs hwf hB0 x1 hN) Kc.trans (Kc.put (by omega)) (Below.refl _ _) (fun _ => rfl)
    (fun pre W => W.heap[w.heap.size]? = some (.cells #[.int .i64 (pre.length : Int)] 3 (0, 0)) ∧ Below w.heap.size w W)
    (fun _ _ _ => False)
    (OwnFrom.and (fun s A B row hs hg hr => (grownBy_keeps_cells hg (fun r e => (hr r e).2) hs rfl).trans hs) (ownFrom_below (Nat.le_refl _) (by omega)))
    (fun c => Own.from (fun s A B row hs hg hr => hs) _)
    ⟨x0, hB0⟩
    (fun x a' W => a' = { tmps := #[.iface T u, undef, .int .i64 0, .pointer (some ⟨w.heap.size, 0, none⟩), .iface T u, .func (.func 82) #[] #[.pointer (some ⟨w.heap.size + 1, 0, none⟩)], iv x, undef, undef, undef], defers := [] })
    (fun x a' => Own.from (fun s A B row hs hg hr => hs) _) ?assign ?body ?done ?stop
  case assign =>
    rintro l pre x W K hI hK
    gi_wp2
    exact hK _ _ ((keeps_of_below (Below.refl _ _)).from _) (Kc.refl _ _) hI (by simp [enck])
  case body =>
    rintro l pre x a' W hl hr ⟨c0, hB⟩ rfl hlen
    obtain ⟨y0, z0⟩ := cell1 c0
    have ew : IntKind.i64.wrap ((pre.length : Int) + 1) = ((pre.length + 1 : Nat) : Int) := by rw [wrapI (by omega) (by omega)]; omega
    gi_wp2
    refine ⟨(KeepsOthers.setCell _ _ _).from _, Kc.set c0 (by decide) (Nat.le_refl _), ?_, hB.setCell (by simp) _⟩
    rw [block_set c0]
    simp
  case done =>
    rintro Df ys W hDf hys ⟨c0, hB⟩ hKd
    obtain ⟨y0, z0⟩ := cell1 c0
    gi_wp2
    refine ⟨by simp, .inl ⟨_, _, rfl, run_takeDeferred hKd, ?_⟩⟩
    refine ⟨.int .i64 ((flat t).length : Int), by simp [results, Try.f67, go_sem], rfl, hB.trans (belowK_b (w := w) (Nat.le_refl _) W Df _ _ (by omega) hKd rfl rfl)⟩
  case stop =>
    rintro Df c pre W hDf hpre h
    exact h.elim
end Go.Proofs.Ytggkpcgjmanelaa
