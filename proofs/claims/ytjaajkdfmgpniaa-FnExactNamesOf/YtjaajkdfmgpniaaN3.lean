import Derived.Test.YtjaajkdfmgpniaaN2
/- The program: all names of a directory. -/
namespace Go.Proofs.Ytjaajkdfmgpniaa
open Go.ChangeShapes Go.WideShapes Go.ChangeAt Go.RowKit
set_option linter.unusedVariables false
open Hd

attribute [local go_sem] Oper.semAt_some

set_option maxHeartbeats 4000000 in
theorem implNames_any (v : Value) (d : Dr) (w : World) (hsm : Sml d) (hf : FewD d) (hc : DirAt w v d) {R : List Nm} {B : Bool} (hNB : NaOk d R B) :
    Calls Try.prog 32 #[v] w fun e w' => NaA w R B e w' := by
  have cG : ∀ W x, DirAt W x d → Calls Try.prog 22 #[x] W (fun e w' => e = .returned (.bool B) ∧ Below W.heap.size W w') := fun W x h => (implGood_any x d W hsm hf h).mono (fun e w' q => ⟨q.1.is hNB.1, q.2⟩)
  obtain ⟨a, c, a', c', rfl, hca, hca', ha, ha'⟩ := hc
  have HD : Hid (∀ W, Below w.heap.size w W → DirAt W (dv d.dp a d.sl.length c a' d.bs.length c') d) := fun W h => ⟨a, c, a', c', rfl, hca, hca', ha.below h, ha'.below h⟩
  have HBk : Hid (Bks w a' d.bs) := ha'
  have HNB : Hid (NaOk d R B) := hNB
  have hsm2 := hsm.2.1
  clear ha ha' hca hca' hNB hsm hf
  unfold dv at *
  obtain ⟨DP, hDP⟩ : ∃ DP, d.dp = DP := ⟨_, rfl⟩
  rw [hDP] at HD ⊢
  clear hDP
  obtain ⟨n, hnn⟩ : ∃ n, d.sl.length = n := ⟨_, rfl⟩
  rw [hnn] at HD ⊢
  clear hnn
  obtain ⟨m, hm⟩ : ∃ m, d.bs.length = m := ⟨_, rfl⟩
  have Hm : Hid _ := hm
  rw [hm] at HD hsm2 ⊢
  clear hm
  obtain ⟨W0, hW0⟩ : ∃ W0, w.alloc (.cells #[.int .i64 DP, .slice a n c, .slice a' m c'] 27) = W0 := ⟨_, rfl⟩
  have q0 : Below w.heap.size w W0 := by subst hW0; exact below_alloc _ _
  have HA : Hid (W0.heap[w.heap.size]? = some (.cells #[.int .i64 DP, .slice a n c, .slice a' m c'] 27 (0, 0))) := by subst hW0; exact al1 _ _
  obtain ⟨x0, x1, x2, -, -, -⟩ := box3_cells HA.out
  go_enter Try.func32, Try.ntmps32
  go_wp2_with fail
  refine (cG _ _ (HD.out _ q0)).mono ?_
  rintro e w1 ⟨rfl, b1⟩
  have g1 := Below.comp q0 b1
  clear x0 x1 x2 hW0 cG
  cases B with
  | false =>
    have hR := HNB.out.2.1 rfl
    go_wp2_with fail
    go_ret2
    exact ⟨g1, _, 0, rfl, by rw [hR]; exact NB.nil⟩
  | true =>
    have hG : GS d := HNB.out.1.1 rfl
    have HG : Hid (GS d) := hG
    have HR : Hid (So R ∧ ∀ x, x ∈ R ↔ x ∈ alN d.bs m) := by have := HNB.out.2.2 rfl; rw [Hm.out] at this; exact this
    have HAn : Hid (∀ k, k ≤ m → (alN d.bs k).length ≤ 4 * k) := fun k hk => alN_len k (fun i hi => (good_names hG hi).1) (by rw [Hm.out]; exact hk)
    have hm256 : m ≤ 256 := by
      have h1 := hG.2.1
      have h2 := hG.1.2.2
      have h3 : 2 ^ d.dp.toNat ≤ 2 ^ 8 := Nat.pow_le_pow_right (by omega) (by have := hG.1.2.1; omega)
      rw [Hm.out] at h1
      omega
    have HNe : Hid ((alN d.bs m).Pairwise fun x y => x.nm ≠ y.nm) := by have := alN_ne hG d.bs.length (Nat.le_refl _); rw [Hm.out] at this; exact this
    clear hG HNB
    obtain ⟨x0, x1, x2, -, -, -⟩ := box3_cells (box_on HA.out b1)
    go_wp2_with fail
    clear x0 x1 x2
    go_loopw [4, 13] (fun out i wr => ∃ (k : Nat), k ≤ m ∧ i = .int .i64 k ∧ Hid (OwnN wr w1.heap.size out (alN d.bs k)) ∧ Below w1.heap.size w1 wr) (fun _ i _ => m - (intOf i).toNat)
    case atStart => exact ⟨0, Nat.zero_le _, rfl, OwnN.nil _ _, Below.refl _ _⟩
    case round =>
      obtain ⟨k, hk, rfl, HO, hb⟩ := hrel
      obtain ⟨z, cz, rfl⟩ := owns_form HO.out
      have hA := HAn.out k hk
      by_cases hlt : k < m
      · obtain ⟨bb, boff, rfl, hbc⟩ := HBk.out (by rw [Hm.out]; omega)
        obtain ⟨na, nc, y0, y1, y2, y3⟩ := (hbc k (by rw [Hm.out]; exact hlt)).below (Below.comp g1 hb)
        have h4 := (good_names HG.out (j := k) (by rw [Hm.out]; exact hlt)).1
        have Hsucc : Hid (alN d.bs (k + 1) = alN d.bs k ++ (gb d.bs k).ns) := alN_succ (by rw [Hm.out]; exact hlt)
        clear hbc y3
        generalize (gb d.bs k).dp = dk at y0
        generalize (gb d.bs k).ns = l at *
        generalize alN d.bs k = A at *
        obtain ⟨W1, hW1⟩ : ∃ W1, wr.alloc (.cells #[.int .i64 dk, .slice na l.length nc] 67) = W1 := ⟨_, rfl⟩
        have b2 : Below wr.heap.size wr W1 := by subst hW1; exact below_alloc _ _
        have BX : W1.heap[wr.heap.size]? = some (.cells #[.int .i64 dk, .slice na l.length nc] 67 (0, 0)) := by subst hW1; exact al1 wr _
        obtain ⟨u0, u1, -, -⟩ := box2_cells BX
        have hb2 := Below.comp hb b2
        have own1 : W1.ownsRow w1.heap.size 47 2 (.slice z A.length cz) A.length (cns A) := owns_below HO.out b2
        have st1 := (y2.below b2).src
        have z1 : w1.heap.size ≤ W1.heap.size := hb2.size
        have Hcl : Hid ((cns l).length = l.length * 2) := cns_len l
        obtain ⟨nl, hnl⟩ : ∃ nl, l.length = nl := ⟨_, rfl⟩
        obtain ⟨nA, hnA⟩ : ∃ nA, A.length = nA := ⟨_, rfl⟩
        have Hnl : Hid _ := hnl
        have HnA : Hid _ := hnA
        rw [hnl] at y1 h4 u1 st1 Hcl hW1
        rw [hnA] at own1 hA ⊢
        clear hnl hnA BX y2
        go_wp2_with (at_builtin; refine wpList_append_src rfl _ _ 51 rfl w1.heap.size 47 _ 2 24 Try.underlying51 info47 rfl (by decide) (.slice z nA cz) nA (cns A) rfl own1 na nl nc (cns l) rfl Hcl.out st1 (cns_one _) (by omega) (by decide) z1 ?_; intro v2 w2 own2 gr2; have b3 : Below w1.heap.size w1 w2 := grown_on hb2 z1 own1 gr2)
        go_roundw
        case rel => exact ⟨k + 1, by omega, by go_num, by show OwnN _ _ _ _; rw [Hsucc.out]; unfold OwnN; rw [List.length_append, HnA.out, Hnl.out, cns_app]; exact own2, b3⟩
        case measure => simp [intOf]; omega
      · have hkn : k = m := by omega
        subst hkn
        have hlen : R.length = (alN d.bs k).length := so_len HNe.out HR.out.1 HR.out.2
        by_cases h0 : alN d.bs k = []
        · have hR0 : R = [] := List.eq_nil_of_length_eq_zero (by rw [hlen, h0]; rfl)
          have cN := fun W => AnyF.slices_SortFunc_none Try.sortL z cz (.func (.func 72) #[] #[]) W
          change ∀ W, Calls Try.prog 71 _ _ _ at cN
          have HRR : Hid _ := hR0
          clear hR0 hlen
          rw [h0] at ⊢
          simp only [List.length_nil]
          clear h0
          go_wp2_with fail
          refine (cN _).mono ?_
          rintro e w2 ⟨rfl, hww⟩
          have hww := hww.symm
          subst hww
          go_wp2_with fail
          go_ret2
          exact ⟨Below.comp g1 hb, _, 0, rfl, z, cz, by rw [HRR.out]; rfl, by rw [HRR.out]; exact Nat.zero_le _, fun h => absurd HRR.out h⟩
        · obtain ⟨g, aa, cc, ev, hcc, hr⟩ := HO.out.nb
          simp only [Value.slice.injEq, true_and] at ev
          obtain ⟨rfl, rfl⟩ := ev
          obtain ⟨rfl, hg1, hg2, cs, hB, hcs⟩ := hr h0
          have cS := SortFunc_any g cz (alN d.bs k) R wr HNe.out HR.out.1 (fun x => (HR.out.2 x).symm) (by omega) cs hB hcs
          have Hl : Hid _ := hlen
          have HB : Hid _ := hB
          clear hB hcs hr h0 hlen
          generalize (alN d.bs k).length = nA at *
          go_wp2_with fail
          refine cS.mono ?_
          rintro e w2 ⟨rfl, o2, ⟨c', hB', hn'⟩, -⟩
          have z2 := o2.size
          go_wp2_with fail
          go_ret2
          refine ⟨(Below.comp g1 hb).trans ((o2.below (by omega)).mono (Nat.le_trans g1.size hg1)), _, g, rfl, some ⟨g, 0, none⟩, cz, by rw [Hl.out]; rfl, by rw [Hl.out]; exact hcc, fun _ => ⟨rfl, Nat.le_trans g1.size hg1, by omega, c', hB', hn'⟩⟩
end Go.Proofs.Ytjaajkdfmgpniaa
