import Derived.Test.YtggkpcgjmanelaaH2
import Derived.Test.YtggkpcgjmanelaaB2
import Derived.Laws.CopyOwn
import Derived.Test.YtggkpcgjmanelaaL7
/- NewTree, both sides. -/
namespace Go.Proofs.Ytggkpcgjmanelaa
open Go.ChangeShapes Go.WideShapes Go.ChangeAt Go.RowKit
set_option linter.unusedVariables false
open Bt

attribute [local go_sem] Oper.semAt_some

/-- The tree without a key. -/
abbrev oneN : List Nd := [⟨true, [], []⟩]
theorem one_own {w : World} {B C b c1 c2 : Nat} {a1 a2 : Option Addr} {c : Array Value} (hb1 : B ≤ b) (hb2 : b < C) (hh : w.heap[b]? = some (.cells c 73 (0, 0))) (hc : 3 ≤ c.size) (h0 : c[0]? = some (.bool true)) (h1 : c[1]? = some (.slice a1 0 c1)) (h2 : c[2]? = some (.slice a2 0 c2)) : TOwn w B C (some ⟨b, 0, none⟩) oneN := by
  intro _
  refine ⟨b, c, fun _ => 0, hb1, hb2, rfl, hh, by simpa using hc, ?_, ?_⟩
  · intro i hi
    have hi0 : i = 0 := by simpa using hi
    subst hi0
    exact ⟨h0, _, _, h1, h2, ⟨a1, c1, rfl, Nat.zero_le _, fun h => absurd rfl h⟩, ⟨a2, c2, rfl, Nat.zero_le _, fun h => absurd rfl h⟩⟩
  · intro r hr hne
    exfalso
    apply hne
    have : r = 0 ∨ r = 1 := by simp at hr; omega
    rcases this with rfl | rfl <;> rfl
theorem specNew_any (w : World) : Calls Try.prog 24 #[] w fun e w' => Below w.heap.size w w' ∧ ∃ a c, e = .returned (tv a 1 c 0) ∧ TOwn w' w.heap.size w'.heap.size a oneN := by
  go_enter Try.func24, Try.ntmps24
  go_wp2
  obtain ⟨W, hW⟩ : ∃ W, (w.alloc (.cells #[.slice (some ⟨w.heap.size + 1, 0, none⟩) 1 1, .int .i64 0] 27)).alloc (.cells #[.bool true, .slice none 0 0, .slice none 0 0] 73) = W := ⟨_, rfl⟩
  rw [hW]
  have hb : Below w.heap.size w W := by subst hW; exact ba2 _ _ _
  obtain ⟨x0, x1⟩ : W.heap[w.heap.size]? = some (.cells #[.slice (some ⟨w.heap.size + 1, 0, none⟩) 1 1, .int .i64 0] 27 (0, 0)) ∧ W.heap[w.heap.size + 1]? = some (.cells #[.bool true, .slice none 0 0, .slice none 0 0] 73 (0, 0)) := by subst hW; exact al2 _ _ _
  clear hW
  obtain ⟨t0, t1, -, -⟩ := box2_cells x0
  refine bodyPost_ret (v := tv (some ⟨w.heap.size + 1, 0, none⟩) 1 1 0) (by simp [results, Try.results24, go_sem, t0, t1]) rfl ⟨hb, _, _, rfl, one_own (by omega) (box_lt x1) x1 (by simp) rfl rfl rfl⟩
theorem size3' : (Try.prog.info? 3).map (·.size) = some 1 := by kernel_rfl
set_option maxRecDepth 100000 in
theorem copyInts_any (a : Option Addr) (cap : Nat) (l : List Int) (w : World) (hn : l.length ≤ 1048576) (hc : Ints w a l) :
    Calls Try.prog 98 #[.slice a l.length cap] w fun e w' => Below w.heap.size w w' ∧ e = .returned (.slice (some ⟨w.heap.size, 0, none⟩) l.length l.length) ∧ OwnI w' w.heap.size (.slice (some ⟨w.heap.size, 0, none⟩) l.length l.length) l := by
  have hmk := make_any (P := Try.prog) 23 3 _ 1 8 Try.underlying23 info3 .i64 .i64 l.length (by omega) (by omega)
  have hsrc := At.src (hc.below (below_alloc w (.cells (made (.int .i64 0) l.length) 3)))
  have hl : (cis l).length = l.length := cis_len l
  have hz : l.length = 0 → cis l = [] := fun h => List.eq_nil_of_length_eq_zero (by rw [hl]; exact h)
  have HL : Hid _ := hl
  have HZ : Hid _ := hz
  clear hl hz
  obtain ⟨cs, hcs⟩ : ∃ cs, cis l = cs := ⟨_, rfl⟩
  have h1 := cis_one l
  have HO : Hid (∀ W v, W.ownsRow w.heap.size 3 1 v l.length cs → OwnI W w.heap.size v l) := fun W v h => by unfold OwnI; rw [hcs]; exact h
  rw [hcs] at hsrc HL HZ h1
  clear hcs
  generalize l.length = n at *
  have hA : (w.alloc (.cells (made (.int .i64 0) n) 3)).heap[w.heap.size]? = some (.cells (made (.int .i64 0) n).toList.toArray 3 (0, 0)) := by simpa using heap_alloc_new w (.cells (made (.int .i64 0) n) 3)
  have hmin : cs.length = Nat.min n n := by rw [HL.out]; exact (Nat.min_self n).symm
  have hpos : 0 < cs.length → (some (⟨w.heap.size, 0, none⟩ : Addr)) = some ⟨w.heap.size, 0, none⟩ ∧ ∃ ad, a = some ad ∧ ∀ j v, cs[j]? = some v → (w.alloc (.cells (made (.int .i64 0) n) 3)).cell? (ad.add j) = some v := fun h => ⟨rfl, by
    rcases hsrc with h0 | h0
    · rw [HL.out, h0] at h; omega
    · exact h0⟩
  have hfit : 0 + cs.length ≤ (made (.int .i64 0) n).toList.length := by rw [HL.out]; simp [size_made]
  have HA : Hid _ := hA
  have Hmin : Hid _ := hmin
  have Hpos : Hid _ := hpos
  have Hfit : Hid _ := hfit
  have H1 : Hid _ := h1
  clear hA hmin hpos hfit hsrc h1
  go_enter Try.func98, Try.ntmps98
  go_wp2_with (refine wpList_copy_splice rfl _ _ 23 23 rfl 3 Try.underlying23 size3' (some ⟨w.heap.size, 0, none⟩) a n n n cap rfl rfl w.heap.size 0 (made (.int .i64 0) n).toList 3 HA.out cs Hmin.out Hpos.out Hfit.out H1.out w.heap.size w (below_alloc _ _) (Nat.le_refl _) ?_; intro w1 HG hB1)
  go_ret
  refine ⟨hB1, rfl, HO.out _ _ ⟨?_, .inr ⟨w.heap.size, n, _, rfl, Nat.le_refl _, HG.out, Nat.le_refl _, ?_, ?_, ?_⟩⟩⟩
  · rw [HL.out, Nat.mul_one]
  · unfold maxLen; omega
  · have := length_splice (made (.int .i64 0) n).toList 0 cs Hfit.out
    simp only [List.size_toArray, this, Nat.mul_one]
    simp [size_made]
  · rw [Nat.mul_one]
    simp only [splice, List.take_zero, List.nil_append]
    rw [List.take_append_of_le_length (by rw [HL.out]; exact Nat.le_refl _), List.take_of_length_le (by rw [HL.out]; exact Nat.le_refl _)]
set_option maxHeartbeats 1000000 in
theorem addLeaf_any (w : World) : Calls Try.prog 87 #[.slice none 0 0, .iface 91 (.agg #[.slice none 0 0])] w fun e w' => Below w.heap.size w w' ∧ ∃ a c, e = .returned (.slice a 1 c) ∧ TOwn w' w.heap.size w'.heap.size a oneN := by
  go_enter Try.func87, Try.ntmps87
  go_wp2_with fail
  refine (keyList_leaf _ _ _ _).mono ?_
  rintro e w1 ⟨rfl, b1⟩
  go_wp2_with fail
  refine (copyInts_any none 0 [] _ (by simp) (fun h => absurd rfl h)).mono ?_
  rintro e w2 ⟨b2, rfl, -⟩
  simp only [List.length_nil]
  generalize (some (⟨w1.heap.size, 0, none⟩ : Addr)) = a2 at *
  have b12 := Below.comp b1 b2
  have src : ∀ (W : World) (p q : Value), ∀ j x, [Value.bool true, p, q][j]? = some x → (W.alloc (.cells #[.bool true, p, q] 73)).cell? ((⟨W.heap.size, 0, none⟩ : Addr).add j) = some x := by
    intro W p q j x hj
    match j, hj with
    | 0, hj => simp at hj; subst hj; simp [Addr.add]
    | 1, hj => simp at hj; subst hj; simp [Addr.add]
    | 2, hj => simp at hj; subst hj; simp [Addr.add]
  obtain ⟨W3, hW3⟩ : ∃ W3, ((w2.alloc (.cells #[.bool true, .slice a2 0 0, .slice none 0 0] 73)).alloc (.cells #[.slice none 0 0] 91)).alloc (.cells #[.bool true, .slice a2 0 0, .slice none 0 0] 73) = W3 := ⟨_, rfl⟩
  have b3 : Below w2.heap.size w2 W3 := by subst hW3; exact ba3 _ _ _ _
  have s3 : ∀ j x, [Value.bool true, .slice a2 0 0, .slice none 0 0][j]? = some x → W3.cell? ((⟨w2.heap.size + 1 + 1, 0, none⟩ : Addr).add j) = some x := by
    subst hW3
    have := src ((w2.alloc (.cells #[.bool true, .slice a2 0 0, .slice none 0 0] 73)).alloc (.cells #[.slice none 0 0] 91)) (.slice a2 0 0) (.slice none 0 0)
    simpa using this
  have z3 : w.heap.size ≤ W3.heap.size := (Below.comp b12 b3).size
  go_wp2_with (at_builtin; refine wpList_append_src rfl _ _ 25 rfl w.heap.size 73 _ 3 56 Try.underlying25 info73 rfl (by decide) (.slice none 0 0) 0 [] rfl ⟨rfl, .inl ⟨rfl, rfl⟩⟩ (some ⟨w2.heap.size + 1 + 1, 0, none⟩) 1 1 [.bool true, .slice a2 0 0, .slice none 0 0] rfl rfl (.inr ⟨_, rfl, s3⟩) (by simp [Value.oneCell']) (by omega) (by decide) z3 ?_; intro v4 w4 own4 gr4)
  have b4 : Below w.heap.size w w4 := (Below.comp b12 b3).trans (Grown.below gr4 z3 (fun k e => by simp [Value.ownBlock] at e))
  go_ret
  rcases own4.2 with ⟨-, h⟩ | ⟨g, cap, cur, rfl, hb, hg, hc, hm, hcs, ht⟩
  · simp at h
  · simp only [Nat.zero_add, List.nil_append] at ht
    have hat : ∀ (j : Nat) (x : Value), [Value.bool true, .slice a2 0 0, .slice none 0 0][j]? = some x → cur[j]? = some x := by
      intro j x hj
      rw [← ht, List.getElem?_take] at hj
      split at hj
      · simpa using hj
      · simp at hj
    have h2 := hat 2 _ rfl
    exact ⟨b4, _, cap, rfl, one_own hb (box_lt hg) hg (by have := (Array.getElem?_eq_some_iff.1 h2).1; omega) (hat 0 _ rfl) (hat 1 _ rfl) h2⟩
set_option maxHeartbeats 1000000 in
theorem treeLeaf_any (w : World) : Calls Try.prog 60 #[.iface 91 (.agg #[.slice none 0 0])] w fun e w' => Below w.heap.size w w' ∧ ∃ a c, e = .returned (tv a 1 c 0) ∧ TOwn w' w.heap.size w'.heap.size a oneN := by
  have q0 := below_alloc w (.cells #[.slice none 0 0, .int .i64 0] 27)
  have x0 := al1 w (.cells #[.slice none 0 0, .int .i64 0] 27)
  have z0 : (w.alloc (.cells #[.slice none 0 0, .int .i64 0] 27)).heap.size = w.heap.size + 1 := by simp
  obtain ⟨W0, hW0⟩ : ∃ W0, w.alloc (.cells #[.slice none 0 0, .int .i64 0] 27) = W0 := ⟨_, rfl⟩
  rw [hW0] at q0 x0 z0
  have Z0 : Hid _ := z0
  have X0 : Hid (W0.heap[w.heap.size]? = some (.cells #[.slice none 0 0, .int .i64 0] 27 (0, 0))) := x0
  clear x0 z0
  have cA := addLeaf_any W0
  go_enter Try.func60, Try.ntmps60
  go_wp2_with fail
  refine cA.mono ?_
  rintro e w1 ⟨b1, a, c, rfl, ht⟩
  have X1 : Hid _ := box_on X0.out b1
  obtain ⟨y0, y1, f0, f1⟩ := box2_cells X1.out
  have HT : Hid (TOwn w1 W0.heap.size w1.heap.size a oneN) := ht
  clear ht hW0 cA
  go_wp2
  obtain ⟨W, hW⟩ : ∃ W, (w1.setCell ⟨w.heap.size, 0, none⟩ (.slice a 1 c)).setCell ⟨w.heap.size, 1, none⟩ (.int .i64 0) = W := ⟨_, rfl⟩
  rw [hW]
  have o1 : Out w.heap.size (w.heap.size + 1) w1 W := by subst hW; exact ((Out.refl _ _ _).setCell (Nat.le_refl _) (Nat.lt_succ_self _) _ _).setCell (Nat.le_refl _) (Nat.lt_succ_self _) _ _
  have R : W.heap[w.heap.size]? = some (.cells #[.slice a 1 c, .int .i64 0] 27 (0, 0)) := by subst hW; exact box2_set X1.out
  clear hW y0 y1 f0 f1
  obtain ⟨t0, t1, -, -⟩ := box2_cells R
  have g1 := Below.comp q0 b1
  refine bodyPost_ret (v := tv a 1 c 0) (by simp [results, Try.results60, go_sem, t0, t1]) rfl ⟨g1.trans (o1.below g1.size), _, _, rfl, (HT.out.out o1 (.inr (by have := Z0.out; omega))).mono (by have := Z0.out; omega) o1.size⟩
set_option maxHeartbeats 1000000 in
theorem implNew_any (w : World) : Calls Try.prog 25 #[] w fun e w' => Below w.heap.size w w' ∧ ∃ a c, e = .returned (tv a 1 c 0) ∧ TOwn w' w.heap.size w'.heap.size a oneN := by
  have q0 := below_alloc w (.cells #[.slice none 0 0, .int .i64 0] 27)
  have x0 := al1 w (.cells #[.slice none 0 0, .int .i64 0] 27)
  have z0 : (w.alloc (.cells #[.slice none 0 0, .int .i64 0] 27)).heap.size = w.heap.size + 1 := by simp
  obtain ⟨W0, hW0⟩ : ∃ W0, w.alloc (.cells #[.slice none 0 0, .int .i64 0] 27) = W0 := ⟨_, rfl⟩
  rw [hW0] at q0 x0 z0
  have Z0 : Hid _ := z0
  have X0 : Hid (W0.heap[w.heap.size]? = some (.cells #[.slice none 0 0, .int .i64 0] 27 (0, 0))) := x0
  clear x0 z0
  have cA := treeLeaf_any W0
  go_enter Try.func25, Try.ntmps25
  go_wp2_with fail
  refine cA.mono ?_
  rintro e w1 ⟨b1, a, c, rfl, ht⟩
  have X1 : Hid _ := box_on X0.out b1
  obtain ⟨y0, y1, f0, f1⟩ := box2_cells X1.out
  have HT : Hid (TOwn w1 W0.heap.size w1.heap.size a oneN) := ht
  clear ht hW0 cA
  go_wp2
  obtain ⟨W, hW⟩ : ∃ W, (w1.setCell ⟨w.heap.size, 0, none⟩ (.slice a 1 c)).setCell ⟨w.heap.size, 1, none⟩ (.int .i64 0) = W := ⟨_, rfl⟩
  rw [hW]
  have o1 : Out w.heap.size (w.heap.size + 1) w1 W := by subst hW; exact ((Out.refl _ _ _).setCell (Nat.le_refl _) (Nat.lt_succ_self _) _ _).setCell (Nat.le_refl _) (Nat.lt_succ_self _) _ _
  have R : W.heap[w.heap.size]? = some (.cells #[.slice a 1 c, .int .i64 0] 27 (0, 0)) := by subst hW; exact box2_set X1.out
  clear hW y0 y1 f0 f1
  obtain ⟨t0, t1, -, -⟩ := box2_cells R
  have g1 := Below.comp q0 b1
  refine bodyPost_ret (v := tv a 1 c 0) (by simp [results, Try.results25, go_sem, t0, t1]) rfl ⟨g1.trans (o1.below g1.size), _, _, rfl, (HT.out.out o1 (.inr (by have := Z0.out; omega))).mono (by have := Z0.out; omega) o1.size⟩
end Go.Proofs.Ytggkpcgjmanelaa
