import Derived.Test.YtjaajkdfmgpniaaN1
import Derived.Test.YtjaajkdfmgpniaaP6
import Derived.Test.YtjaajkdfmgpniaaS1
/- All names of a directory, on both sides. -/
namespace Go.Proofs.Ytjaajkdfmgpniaa
open Go.ChangeShapes Go.WideShapes Go.ChangeAt Go.RowKit
set_option linter.unusedVariables false
open Hd

attribute [local go_sem] Oper.semAt_some

/-- An answer of names: a row in a block of its own. -/
def NaA (w : World) (R : List Nm) (B : Bool) (e : Ending) (w' : World) : Prop :=
  Below w.heap.size w w' ∧ ∃ u g, e = .returned (.tuple #[u, .bool B]) ∧ NB w' w.heap.size w'.heap.size u R g
theorem drop_take1 {l : List Nm} {q : Nat} (h : q < l.length) : l.take (q + 1) = l.take q ++ [gm l q] := by
  rw [List.take_succ_eq_append_getElem h, gm_eq h]
set_option maxHeartbeats 4000000 in
theorem specNames_any (v : Value) (d : Dr) (w : World) (hsm : Sml d) (hf : FewD d) (hc : DirAt w v d) {R : List Nm} {B : Bool} (hNB : NaOk d R B) :
    Calls Try.prog 31 #[v] w fun e w' => NaA w R B e w' := by
  have cG : ∀ W x, DirAt W x d → Calls Try.prog 20 #[x] W (fun e w' => e = .returned (.bool B) ∧ Below W.heap.size W w') := fun W x h => (specGood_any x d W hsm hf h).mono (fun e w' q => ⟨q.1.is hNB.1, q.2⟩)
  obtain ⟨a, c, a', c', rfl, hca, hca', ha, ha'⟩ := hc
  have HD : Hid (∀ W, Below w.heap.size w W → DirAt W (dv d.dp a d.sl.length c a' d.bs.length c') d) := fun W h => ⟨a, c, a', c', rfl, hca, hca', ha.below h, ha'.below h⟩
  have HBk : Hid (Bks w a' d.bs) := ha'
  have HNB : Hid (NaOk d R B) := hNB
  have hsm2 := hsm.2.1
  clear ha ha' hca hca' hNB hsm hf
  unfold dv at *
  generalize d.dp = DP at *
  generalize d.sl.length = n at *
  obtain ⟨m, hm⟩ : ∃ m, d.bs.length = m := ⟨_, rfl⟩
  have Hm : Hid _ := hm
  rw [hm] at HD hsm2 ⊢
  clear hm
  obtain ⟨W0, hW0⟩ : ∃ W0, w.alloc (.cells #[.int .i64 DP, .slice a n c, .slice a' m c'] 27) = W0 := ⟨_, rfl⟩
  have q0 : Below w.heap.size w W0 := by subst hW0; exact below_alloc _ _
  have HA : Hid (W0.heap[w.heap.size]? = some (.cells #[.int .i64 DP, .slice a n c, .slice a' m c'] 27 (0, 0))) := by subst hW0; exact al1 _ _
  obtain ⟨x0, x1, x2, -, -, -⟩ := box3_cells HA.out
  go_enter Try.func31, Try.ntmps31
  go_wp2_with fail
  refine (cG _ _ (HD.out _ q0)).mono ?_
  rintro e w1 ⟨rfl, b1⟩
  have g1 := Below.comp q0 b1
  clear x0 x1 x2 hW0 cG
  cases B with
  | false =>
    have hR := HNB.out.2.1 rfl
    go_wp2_with fail
    go_ret2
    exact ⟨g1, _, 0, rfl, by rw [hR]; exact NB.nil⟩
  | true =>
    have hG : GS d := HNB.out.1.1 rfl
    have HG : Hid (GS d) := hG
    have HR : Hid (So R ∧ ∀ x, x ∈ R ↔ x ∈ alN d.bs m) := by have := HNB.out.2.2 rfl; rw [Hm.out] at this; exact this
    have HAn : Hid (∀ k, k ≤ m → (alN d.bs k).length ≤ 4 * k) := fun k hk => alN_len k (fun i hi => (good_names hG hi).1) (by rw [Hm.out]; exact hk)
    clear hG HNB
    obtain ⟨x0, x1, x2, -, -, -⟩ := box3_cells (box_on HA.out b1)
    go_wp2_with fail
    clear x0 x1 x2
    go_loopw [4, 15] (fun out i wr => ∃ (k : Nat) (A : List Nm), k ≤ m ∧ i = .int .i64 k ∧ Hid (OwnN wr w1.heap.size out A) ∧ Hid (So A ∧ (∀ x, x ∈ A ↔ x ∈ alN d.bs k) ∧ A.length ≤ 4 * k) ∧ Below w1.heap.size w1 wr) (fun _ i _ => m - (intOf i).toNat)
    case atStart => exact ⟨0, [], Nat.zero_le _, rfl, OwnN.nil _ _, ⟨List.Pairwise.nil, fun x => by simp [alN], by simp⟩, Below.refl _ _⟩
    case round =>
      obtain ⟨k, A, hk, rfl, HO, HI, hb⟩ := hrel
      obtain ⟨z, cz, rfl⟩ := owns_form HO.out
      by_cases hlt : k < m
      · obtain ⟨bb, boff, rfl, hbc⟩ := HBk.out (by rw [Hm.out]; omega)
        obtain ⟨na, nc, y0, y1, y2, y3⟩ := (hbc k (by rw [Hm.out]; exact hlt)).below (Below.comp g1 hb)
        have h4 := (good_names HG.out (j := k) (by rw [Hm.out]; exact hlt)).1
        have Hnew : Hid (∀ q, q < (gb d.bs k).ns.length → ∀ y, y ∈ alN d.bs k ++ (gb d.bs k).ns.take q → y.nm ≠ (gm (gb d.bs k).ns q).nm) := fun q hq => alN_new HG.out (by rw [Hm.out]; exact hlt) hq
        have Hsucc : Hid (alN d.bs (k + 1) = alN d.bs k ++ (gb d.bs k).ns) := alN_succ (by rw [Hm.out]; exact hlt)
        clear hbc y3
        generalize (gb d.bs k).dp = dk at y0
        generalize (gb d.bs k).ns = l at *
        have HI0 : Hid (So A ∧ (∀ x, x ∈ A ↔ x ∈ alN d.bs k ++ l.take 0) ∧ A.length ≤ 4 * k + 0) := ⟨HI.out.1, by simpa using HI.out.2.1, by simpa using HI.out.2.2⟩
        have HY2 : Hid (Nms wr na l) := y2
        clear y2 HI
        obtain ⟨nl, hnl⟩ : ∃ nl, l.length = nl := ⟨_, rfl⟩
        have Hnl : Hid _ := hnl
        rw [hnl] at y1 h4
        clear hnl
        obtain ⟨W1, hW1⟩ : ∃ W1, wr.alloc (.cells #[.int .i64 dk, .slice na nl nc] 67) = W1 := ⟨_, rfl⟩
        have b2 : Below wr.heap.size wr W1 := by subst hW1; exact below_alloc _ _
        obtain ⟨u0, u1, -, -⟩ := box2_cells (by subst hW1; exact al1 wr (.cells #[.int .i64 dk, .slice na nl nc] 67) : W1.heap[wr.heap.size]? = some (.cells #[.int .i64 dk, .slice na nl nc] 67 (0, 0)))
        have hb2 := Below.comp hb b2
        have HO2 : Hid (OwnN W1 w1.heap.size (.slice z A.length cz) A) := owns_below HO.out b2
        go_wp2
        clear y0 y1 u0 u1 hW1
        go_loopw [4, 22] (fun out i wr' => ∃ (q : Nat) (A : List Nm), q ≤ nl ∧ i = .int .i64 q ∧ Hid (OwnN wr' w1.heap.size out A) ∧ Hid (So A ∧ (∀ x, x ∈ A ↔ x ∈ alN d.bs k ++ l.take q) ∧ A.length ≤ 4 * k + q) ∧ Below W1.heap.size W1 wr' ∧ Below w1.heap.size w1 wr') (fun _ i _ => nl - (intOf i).toNat)
        case atStart => exact ⟨0, A, Nat.zero_le _, rfl, HO2, HI0, Below.refl _ _, hb2⟩
        case round =>
          obtain ⟨q, A2, hq, rfl, HO3, HI3, hb3, hb3'⟩ := hrel
          obtain ⟨z3, cz3, rfl⟩ := owns_form HO3.out
          by_cases hql : q < nl
          · obtain ⟨nb, noff, rfl, hnc⟩ := HY2.out (by rw [Hnl.out]; omega)
            obtain ⟨k0, k1⟩ := ((hnc q (by rw [Hnl.out]; exact hql)).below b2).below hb3
            clear hnc
            obtain ⟨p3, pc3, ep3, hp3, hn3⟩ := HO3.out.names
            simp only [Value.slice.injEq] at ep3
            obtain ⟨rfl, -, rfl⟩ := ep3
            obtain ⟨x, hx⟩ : ∃ x, gm l q = x := ⟨_, rfl⟩
            obtain ⟨kq, hkq⟩ := at_ex A2 x.nm
            have hpn := put_new HI3.out.1 hkq (fun y hy => by
              have := Hnew.out q (by rw [Hnl.out]; exact hql) y ((HI3.out.2.1 y).1 hy)
              rw [hx] at this
              exact this)
            have HPn : Hid (So (putL A2 x kq) ∧ (∀ y, y ∈ putL A2 x kq ↔ y ∈ alN d.bs k ++ l.take (q + 1)) ∧ (putL A2 x kq).length ≤ 4 * k + (q + 1)) := ⟨hpn.2.1, fun y => by
              rw [hpn.2.2.1, HI3.out.2.1, drop_take1 (by rw [Hnl.out]; exact hql), hx, ← List.append_assoc]
              simp only [List.mem_append, List.mem_singleton]
              exact or_comm, by rw [hpn.2.2.2]; have := HI3.out.2.2; omega⟩
            rw [hx] at k0 k1
            have hA2 := HI3.out.2.2
            have cP := fun W h => l8Put_any z3 A2 cz3 x kq W (by omega) hp3 h hkq
            have HN3 : Hid (Nms wr z3 A2) := hn3
            clear hx hpn hkq hn3
            obtain ⟨s, f⟩ := x
            unfold nv at cP
            simp only at k0 k1 cP
            generalize putL A2 ⟨s, f⟩ kq = A3 at *
            obtain ⟨n2, hn2⟩ : ∃ n2, A2.length = n2 := ⟨_, rfl⟩
            rw [hn2] at cP ⊢
            clear hn2
            go_wp2_with fail
            refine (cP _ (HN3.out.below (below_alloc _ _))).mono ?_
            rintro e w4 ⟨b4, v4, rfl, own4⟩
            have b44 := Below.comp (below_alloc wr (.cells #[.string s, .int .i64 f] 47)) b4
            have hz : w1.heap.size ≤ (wr.alloc (.cells #[.string s, .int .i64 f] 47)).heap.size := by have := hb3'.size; simp; omega
            clear k0 k1 cP
            go_wp2_with fail
            go_roundw
            case rel => exact ⟨q + 1, A3, by omega, by go_num, owns_mono own4 hz, HPn, Below.comp hb3 b44, Below.comp hb3' b44⟩
            case measure => simp [intOf]; omega
          · have hqn : q = nl := by omega
            have HF : Hid (So A2 ∧ (∀ x, x ∈ A2 ↔ x ∈ alN d.bs (k + 1)) ∧ A2.length ≤ 4 * (k + 1)) := ⟨HI3.out.1, fun x => by rw [HI3.out.2.1, Hsucc.out, List.take_of_length_le (by rw [Hnl.out]; omega)], by have := HI3.out.2.2; omega⟩
            clear hqn
            go_wp2
            go_roundw
            case rel => exact ⟨k + 1, A2, by omega, by go_num, HO3, HF, hb3'⟩
            case measure => simp [intOf]; omega
      · have hkn : k = m := by omega
        have hRA : A = R := so_uniq HI.out.1 HR.out.1 (fun x => by rw [HI.out.2.1, HR.out.2, hkn])
        have HRA : Hid _ := hRA
        clear hRA hkn
        go_wp2
        go_ret2
        obtain ⟨g, hg⟩ := HO.out.nb
        exact ⟨Below.comp g1 hb, _, g, rfl, by rw [← HRA.out]; exact hg.mono g1.size (Nat.le_refl _)⟩
end Go.Proofs.Ytjaajkdfmgpniaa
