import Derived.Test.YtggkpcgjmanelaaB2
import Derived.Test.YtggkpcgjmanelaaP4
/- The specification: all keys, and the depth. -/
namespace Go.Proofs.Ytggkpcgjmanelaa
open Go.ChangeShapes Go.WideShapes Go.ChangeAt Go.RowKit
set_option linter.unusedVariables false
open Bt

attribute [local go_sem] Oper.semAt_some

/-- A slice of ints that can be read. -/
def IntV (w : World) (v : Value) (l : List Int) : Prop := ∃ a c, v = .slice a l.length c ∧ l.length ≤ c ∧ Ints w a l
theorem IntV.below {w w' : World} {v : Value} {l : List Int} (h : IntV w v l) (hb : Below w.heap.size w w') : IntV w' v l := by
  obtain ⟨a, c, e, h1, h2⟩ := h
  exact ⟨a, c, e, h1, h2.below hb⟩
theorem SN.form {w : World} {d : Nat} {p q : Value} {t : Tr} (h : SN w d (.agg #[p, q]) t) : ∃ a c a' c', p = .slice a t.keys.length c ∧ q = .slice a' t.kids.length c' := by
  cases d with
  | zero => exact absurd h (by simp [SN])
  | succ d =>
    obtain ⟨a, c, a', c', e, -⟩ := SN_succ.1 h
    simp at e
    exact ⟨a, c, a', c', e.1, e.2⟩
theorem take_succ' {l : List Tr} {k : Nat} (h : k < l.length) : l.take (k + 1) = l.take k ++ [gt l k] := by
  rw [List.take_add_one, List.getElem?_eq_getElem h, gt_eq h]; rfl
theorem gt_mem {l : List Tr} {k : Nat} (h : k < l.length) : gt l k ∈ l := by rw [gt_eq h]; exact List.getElem_mem h
theorem drop_take1 {l : List Int} {k : Nat} (h : k < l.length) : (l.drop k).take 1 = [gi l k] := by
  rw [gi_eq h, List.drop_eq_getElem_cons h]; rfl

set_option maxHeartbeats 2000000 in
theorem l7Keys_any (d : Nat) : ∀ (v : Value) (t : Tr) (w : World), SN w d v t → Wf t → (flat t).length ≤ 100000000 →
    Calls Try.prog 59 #[v] w fun e w' => Below w.heap.size w w' ∧ ∃ u, e = .returned u ∧ IntV w' u (flat t) := by
  induction d with
  | zero => intro v t w h; exact absurd h (by simp [SN])
  | succ d ih =>
    intro v t w hs hwf hfl
    obtain ⟨a, c, a', c', rfl, h1, h2, h3, h4⟩ := SN_succ.1 hs
    have cL := fun W h => l7Leaf_any (d := d + 1) (v := .agg #[.slice a t.keys.length c, .slice a' t.kids.length c']) (t := t) W h
    obtain ⟨ks, cs⟩ := t
    simp only at h1 h2 h3 h4 cL
    rw [Wf_eq] at hwf
    obtain ⟨W0, hW0⟩ : ∃ W0, w.alloc (.cells #[.slice a ks.length c, .slice a' cs.length c'] 67) = W0 := ⟨_, rfl⟩
    have hb0 : Below w.heap.size w W0 := by subst hW0; exact below_alloc _ _
    have H1 : Hid (W0.heap[w.heap.size]? = some (.cells #[.slice a ks.length c, .slice a' cs.length c'] 67 (0, 0))) := by subst hW0; exact al1 _ _
    obtain ⟨i0, i1, -, -⟩ := box2_cells H1.out
    by_cases hz : cs = []
    · subst hz
      simp only [List.isEmpty_nil, List.length_nil] at cL hW0 i0 i1 ⊢
      go_enter Try.func59, Try.ntmps59
      go_wp2_with fail
      refine (cL _ (SN.below hs hb0)).mono ?_
      rintro e w1 ⟨rfl, b1⟩
      obtain ⟨j0, j1, -, -⟩ := box2_cells (box_on H1.out b1)
      simp only [List.length_nil] at j0 j1
      have g1 := Below.comp hb0 b1
      have h3' := h3.below g1
      clear h3 h4 hs hW0
      go_wp2_with fail
      go_ret
      exact ⟨g1, _, rfl, a, c, by simp [flat_eq], by simpa [flat_eq] using h1, by simpa [flat_eq] using h3'⟩
    · have hz0 : cs.isEmpty = false := by cases cs <;> simp_all
      have hm0 : cs.length ≠ 0 := by cases cs <;> simp_all
      rw [hz0] at cL
      have hcl : cs.length = ks.length + 1 := by rcases hwf.1 with h | h; exact absurd h hz; exact h
      have Hcl : Hid _ := hcl
      have hfe : flat ⟨ks, cs⟩ = flatK cs ks := by rw [flat_eq, hz0]; rfl
      rw [hfe] at hfl ⊢
      have hm1 : cs.length ≤ 100000001 := by
        have := flatK_len (cs := cs) (ks := ks) (by omega)
        omega
      obtain ⟨b, off, rfl, hcell⟩ := h4 hm0
      have Hcell : Hid _ := hcell
      clear hcell h4 hcl hm0
      go_enter Try.func59, Try.ntmps59
      go_wp2_with fail
      refine (cL _ (SN.below hs hb0)).mono ?_
      rintro e w1 ⟨rfl, b1⟩
      obtain ⟨j0, j1, -, -⟩ := box2_cells (box_on H1.out b1)
      clear i0 i1 hW0
      have g1 := Below.comp hb0 b1
      go_wp2_with fail
      have K1 : Hid (w1.heap[w.heap.size]? = some (.cells #[.slice a ks.length c, .slice (some ⟨b, off, none⟩) cs.length c'] 67 (0, 0))) := box_on H1.out b1
      go_loopw [3, 13] (fun out i wr => ∃ (k : Nat), k ≤ cs.length ∧ i = .int .i64 k ∧ OwnI wr w1.heap.size out (flatK (cs.take k) ks) ∧ Below w1.heap.size w1 wr) (fun _ i _ => cs.length - (intOf i).toNat)
      case atStart => exact ⟨0, Nat.zero_le _, rfl, OwnI.nil _ _, Below.refl _ _⟩
      case round =>
        obtain ⟨k, hk, rfl, hown, hb⟩ := hrel
        by_cases hlt : k < cs.length
        · obtain ⟨p, q, k0, k1, k2⟩ := Hcell.out k hlt
          have g2 : Below w.heap.size w wr := g1.trans (hb.mono g1.size)
          have k2' := k2.below g2
          have k0' := cell_on k0 g2
          have k1' := cell_on k1 g2
          clear k0 k1 k2 Hcell
          have hmem := gt_mem hlt
          have hwfk := hwf.2 _ hmem
          have hlenk : (flatK (cs.take k) ks).length + (flat (gt cs k)).length ≤ 100000000 ∧ ((k < ks.length) → (flatK (cs.take k) ks).length + (flat (gt cs k)).length + 1 ≤ 100000000) := by
            have e := flatK_take_len cs ks (k + 1)
            rw [take_succ' hlt, flatK_snoc] at e
            simp only [List.length_append, List.length_take, List.length_drop] at e
            constructor
            · omega
            · intro h; rw [Nat.min_eq_left (by omega)] at e; omega
          have hsnoc := flatK_snoc (cs.take k) (gt cs k) ks
          rw [← take_succ' hlt, List.length_take, Nat.min_eq_left hk] at hsnoc
          have Hsnoc : Hid _ := hsnoc
          clear hsnoc
          obtain ⟨ka, kc, ca, cc, rfl, rfl⟩ := SN.form k2'
          generalize gt cs k = x at *
          generalize hacc : flatK (cs.take k) ks = acc at *
          clear hacc
          obtain ⟨Wa, hWa⟩ : ∃ Wa, wr.alloc (.cells #[.slice ka x.keys.length kc, .slice ca x.kids.length cc] 67) = Wa := ⟨_, rfl⟩
          have ba : Below wr.heap.size wr Wa := by subst hWa; exact below_alloc _ _
          have hbZ : w1.heap.size ≤ wr.heap.size := hb.size
          have KA : Wa.heap[wr.heap.size]? = some (.cells #[.slice ka x.keys.length kc, .slice ca x.kids.length cc] 67 (0, 0)) := by subst hWa; exact al1 _ _
          obtain ⟨x0, x1, -, -⟩ := box2_cells KA
          clear KA
          have K2 : Hid (Wa.heap[w.heap.size]? = some (.cells #[.slice a ks.length c, .slice (some ⟨b, off, none⟩) cs.length c'] 67 (0, 0))) := box_on (box_on K1.out hb) ba
          have own1 := owns_below hown ba
          have sn1 := k2'.below ba
          obtain ⟨o, co, eo⟩ := owns_form hown
          subst eo
          have cI := ih _ x Wa sn1 hwfk (by omega)
          have h3w := h3.below g1
          clear hown k2' hs ih h3
          by_cases hkk : k < ks.length
          · obtain ⟨kb, ko, rfl, hkc⟩ := h3w (by omega)
            have Hkc : Hid (w1.cell? ⟨kb, ko + k, none⟩ = some (iv (gi ks k))) := hkc k hkk
            clear hkc h3w
            have hl2 := hlenk.2 hkk
            obtain ⟨K, hK⟩ : ∃ K, gi ks k = K := ⟨_, rfl⟩
            rw [hK] at Hkc
            have HK : Hid _ := hK
            clear hK
            go_wp2_with (first
              | (go_at_call 59; refine cI.mono ?_; rintro e w2 ⟨b2, u, rfl, au, cu, rfl, hu1, hu2⟩; have own2 := owns_below own1 b2; have z2 : w1.heap.size ≤ w2.heap.size := (by have := ba.size; have := b2.size; omega); have st2 := At.src hu2; have bb2 : Below w1.heap.size w1 w2 := (hb.trans (ba.mono hbZ)).trans (b2.mono (by have := ba.size; omega)))
              | (at_builtin; refine wpList_append_src rfl _ _ 23 rfl w1.heap.size 3 _ 1 8 Try.underlying23 info3 rfl (by decide) (.slice o acc.length co) acc.length (cis acc) rfl own2 au (flat x).length cu (cis (flat x)) rfl (by rw [cis_len]; omega) st2 (cis_one _) (by omega) (by decide) z2 ?_; intro v3 w3 own3 gr3; have b3 : Below w1.heap.size w1 w3 := grown_on bb2 z2 own2 gr3; have z3 := b3.size; have K3 := (b3.block w.heap.size (box_lt K1.out)).trans K1.out; obtain ⟨q0, q1, -, -⟩ := box2_cells K3; have kk := cell_on Hkc.out b3; clear K3; obtain ⟨o3, co3, eo3⟩ := owns_form own3; subst eo3; have own3a := owns_below own3 (below_alloc w3 (.cells #[iv K] 3)); have z3a : w1.heap.size ≤ (w3.alloc (.cells #[iv K] 3)).heap.size := Nat.le_trans z3 (below_alloc _ _).size; clear own2 st2)
              | (at_builtin; refine wpList_append_src rfl _ _ 23 rfl w1.heap.size 3 _ 1 8 Try.underlying23 info3 rfl (by decide) (.slice o3 (acc.length + (flat x).length) co3) (acc.length + (flat x).length) (cis acc ++ cis (flat x)) rfl own3a (some ⟨w3.heap.size, 0, none⟩) 1 1 [iv K] rfl rfl (src_new w3 (iv K) 3) (by simp [Value.oneCell']) (by omega) (by decide) z3a ?_; intro v4 w4 own4 gr4; have b4 : Below w1.heap.size w1 w4 := (b3.alloc (by omega) _).trans (Grown.below gr4 z3a (owns_ge own3a)); clear own3a own3))
            go_roundw
            case rel => exact ⟨k + 1, by omega, by go_num, by rw [Hsnoc.out, drop_take1 hkk, HK.out]; simpa [OwnI, cis, Nat.add_assoc] using own4, b4⟩
            case measure => simp [intOf]; omega
          · go_wp2_with (first
              | (go_at_call 59; refine cI.mono ?_; rintro e w2 ⟨b2, u, rfl, au, cu, rfl, hu1, hu2⟩; have own2 := owns_below own1 b2; have z2 : w1.heap.size ≤ w2.heap.size := (by have := ba.size; have := b2.size; omega); have st2 := At.src hu2; have bb2 : Below w1.heap.size w1 w2 := (hb.trans (ba.mono hbZ)).trans (b2.mono (by have := ba.size; omega)))
              | (at_builtin; refine wpList_append_src rfl _ _ 23 rfl w1.heap.size 3 _ 1 8 Try.underlying23 info3 rfl (by decide) (.slice o acc.length co) acc.length (cis acc) rfl own2 au (flat x).length cu (cis (flat x)) rfl (by rw [cis_len]; omega) st2 (cis_one _) (by omega) (by decide) z2 ?_; intro v3 w3 own3 gr3; have b3 : Below w1.heap.size w1 w3 := grown_on bb2 z2 own2 gr3; have K3 := (b3.block w.heap.size (box_lt K1.out)).trans K1.out; obtain ⟨q0, q1, -, -⟩ := box2_cells K3; clear K3 own2 st2))
            go_roundw
            case rel => exact ⟨k + 1, by omega, by go_num, by rw [Hsnoc.out, List.drop_of_length_le (by omega)]; simpa [OwnI, cis, Nat.add_assoc] using own3, b3⟩
            case measure => simp [intOf]; omega
        · go_wp2
          go_ret
          have hkn : k = cs.length := by omega
          subst hkn
          rw [List.take_length] at hown
          obtain ⟨ao, co, e, h5, h6⟩ := hown.ints
          exact ⟨g1.trans (hb.mono g1.size), _, rfl, ao, co, e, h5, h6⟩
end Go.Proofs.Ytggkpcgjmanelaa
