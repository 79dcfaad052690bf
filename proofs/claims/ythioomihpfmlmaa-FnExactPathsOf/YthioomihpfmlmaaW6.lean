import Derived.Test.YthioomihpfmlmaaW5
/- All paths: the program. -/
namespace Go.Proofs.Ythioomihpfmlmaa
open Go.ChangeShapes Go.WideShapes Go.ChangeAt Go.RowKit
set_option linter.unusedVariables false
open Hd

attribute [local go_sem] Oper.semAt_some

/-- Sorting a row of its own. -/
theorem sort_any (base : Nat) (v : Value) (l R : List ByteArray) (w : World) (hown : OwnS w base v l) (hn : l ≠ []) (hl : l.length ≤ 100000) (hbase : base ≤ w.heap.size) (hs : R.Pairwise le1) (hp : R.Perm l) :
    Calls Try.prog 33 #[v] w fun e w' => e = .returned (.tuple #[]) ∧ OwnS w' base v R ∧ Below base w w' := by
  have hll : R.length = l.length := hp.length_eq
  have hs' := sort_is hs hp
  rcases hown.2 with ⟨rfl, h0⟩ | ⟨g, cap, cur, rfl, hb, hg, hc, hm, hcs, ht⟩
  · exact absurd (List.eq_nil_of_length_eq_zero h0) hn
  · rw [Nat.mul_one] at ht
    have hH : Go.Sort.Holds encStr w g 0 (l.map bt).toArray := holds_of_block hg (by rw [List.length_map, ht, css_enc])
    have c := Try.slices_Sort_string g 0 cap (l.map bt) w hH (box_lt hg) (by rw [List.length_map]; omega)
    rw [List.length_map] at c
    refine c.mono ?_
    rintro e w' ⟨rfl, n, os, rfl⟩
    rw [hs']
    have o := ownsRow_sorted (w := w) (base := base) (n := n) (os := os) (ss := l.map bt) (ts := R.map bt) (by rw [List.length_map, List.length_map, hll]) hb hg (by rw [List.length_map]; exact hc) hm hcs
    rw [List.length_map] at o
    refine ⟨rfl, ?_, Grown.below (grownBy_sorted _) hbase (fun k hk => by cases hk; exact hb)⟩
    unfold OwnS
    rw [hll, css_enc]
    exact o
set_option maxHeartbeats 1000000 in
theorem implPaths_any (B : Bool) (T : List Ino) (hB : B = true ↔ TS T) (v : Value) (w : World) (hf : FewI T) (hc : NamAt w v T) :
    Calls Try.prog 16 #[v] w fun e w' => Below w.heap.size w w' ∧ ∃ u, e = .returned (.tuple #[u, .bool B]) ∧ OwnS w' w.heap.size u (paR B T) := by
  obtain ⟨a, ca, rfl, hca, hI⟩ := hc
  obtain ⟨W0, hW0⟩ : ∃ W0, w.alloc (.cells #[.slice a T.length ca] 24) = W0 := ⟨_, rfl⟩
  have q0 : Below w.heap.size w W0 := by subst hW0; exact below_alloc _ _
  have HX : Hid (W0.heap[w.heap.size]? = some (.cells #[.slice a T.length ca] 24 (0, 0))) := by subst hW0; exact al1 _ _
  obtain ⟨x0, -⟩ := box1_cells HX.out
  have cG : Calls Try.prog 14 #[tv a T.length ca] W0 (fun e w' => e = .returned (.bool B) ∧ Below W0.heap.size W0 w') := (implGood_any _ T W0 hf ⟨a, ca, rfl, hca, hI.below q0⟩).mono (fun e w' q => ⟨q.1.is hB, q.2⟩)
  have HP : Hid (B = true → ∀ W, Below W0.heap.size W0 W → Calls Try.prog 32 #[tv a T.length ca, .int .i64 0, .string ⟨#[]⟩] W fun e w' => Below W.heap.size W w' ∧ ∃ v', e = .returned v' ∧ OwnS w' W.heap.size v' (pb T 9 0 ⟨#[]⟩)) := fun hb W hW => by
    have hT := hB.1 hb
    have hS := Sk_of hT.2.2.2.2.1
    exact below_all hT.2.2.2.2.1 W0 a ca (hI.below q0) hT.1 hT.2.1 8 0 ⟨#[]⟩ W (by have := hT.1; omega) (dz_of hS 8 0 (by have := hT.1; omega) hT.2.2.2.2.2.1) (by simp [ByteArray.size]) (Nat.le_trans (pb_few hT ⟨#[]⟩) (by omega)) hW
  have HFew : Hid (B = true → (pb T 9 0 ⟨#[]⟩).length ≤ 1200) := fun hb => pb_few (hB.1 hb) ⟨#[]⟩
  unfold paR
  clear hB hf hI hca
  unfold tv at *
  generalize T.length = n at *
  cases B with
  | false =>
    simp only [Bool.false_eq_true, if_false]
    go_enter Try.func16, Try.ntmps16
    go_wp2_with fail
    refine cG.mono ?_
    rintro e w1 ⟨rfl, b1⟩
    clear x0 hW0 cG
    go_wp2_with fail
    go_ret2
    exact ⟨Below.comp q0 b1, .slice none 0 0, rfl, OwnS.nil _ _⟩
  | true =>
    simp only [if_true]
    have HP2 : Hid _ := HP.out rfl
    have hfew := HFew.out rfl
    have HSo : Hid ((isr (pb T 9 0 ⟨#[]⟩) [sl1]).Pairwise le1 ∧ (isr (pb T 9 0 ⟨#[]⟩) [sl1]).Perm (pb T 9 0 ⟨#[]⟩ ++ [sl1])) := ⟨isr_sorted _ (List.pairwise_singleton _ _), isr_perm _ _⟩
    generalize isr (pb T 9 0 ⟨#[]⟩) [sl1] = R at *
    generalize pb T 9 0 ⟨#[]⟩ = L at *
    go_enter Try.func16, Try.ntmps16
    go_wp2_with fail
    refine cG.mono ?_
    rintro e w1 ⟨rfl, b1⟩
    clear x0 hW0 cG
    obtain ⟨x0, -⟩ := box1_cells (box_on HX.out b1)
    have cP := HP2.out w1 b1
    go_wp2_with fail
    refine cP.mono ?_
    rintro e w2 ⟨b2, v2, rfl, own2⟩
    clear x0 cP
    obtain ⟨y2, c2, hy2⟩ := owns_form own2
    subst hy2
    have own3 := owns_below own2 (below_alloc w2 (.cells #[.string ⟨#[47]⟩] 9))
    have sr := src_new w2 (.string ⟨#[47]⟩) 9
    have b3 : Below w1.heap.size w1 (w2.alloc (.cells #[.string ⟨#[47]⟩] 9)) := Below.comp b2 (below_alloc _ _)
    have z3 := b3.size
    obtain ⟨N, hN⟩ : ∃ N, L.length = N := ⟨_, rfl⟩
    have HN : Hid _ := hN
    rw [hN] at own3 hfew ⊢
    clear own2 hN
    go_wp2_with (at_builtin; refine wpList_append_src rfl _ _ 36 rfl w1.heap.size 9 _ 1 16 Try.underlying36 info9 rfl (by decide) (.slice y2 N c2) N (css L) rfl own3 (some ⟨w2.heap.size, 0, none⟩) 1 1 [.string ⟨#[47]⟩] rfl rfl sr (by simp [Value.oneCell']) (by omega) (by decide) z3 ?_; intro v4 w4 own4 gr4; have b4 : Below w1.heap.size w1 w4 := grown_on b3 z3 own3 gr4; have OW : OwnS w4 w1.heap.size v4 (L ++ [sl1]) := (by unfold OwnS; rw [List.length_append, HN.out, css_app]; exact own4); have cS := sort_any w1.heap.size v4 (L ++ [sl1]) R w4 OW (by simp) (by rw [List.length_append, HN.out]; simp; omega) b4.size HSo.out.1 HSo.out.2; obtain ⟨y4, c4, hy4⟩ := owns_form own4; subst hy4; clear gr4 own4 OW)
    refine cS.mono ?_
    rintro e w5 ⟨rfl, own5, b5⟩
    have HO : Hid _ := own5
    have HZ : Hid (w.heap.size ≤ w1.heap.size) := (Below.comp q0 b1).size
    clear own5 cS own3 sr
    go_wp2_with fail
    go_ret2
    exact ⟨Below.comp q0 (Below.comp b1 (b4.trans b5)), _, rfl, owns_mono HO.out HZ.out⟩
end Go.Proofs.Ythioomihpfmlmaa
