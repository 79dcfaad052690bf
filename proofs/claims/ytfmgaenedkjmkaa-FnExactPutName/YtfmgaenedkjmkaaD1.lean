import Derived.Test.YtfmgaenedkjmkaaC3a
import Derived.Test.YtfmgaenedkjmkaaU9
/- The program: the names of a list that some function takes. -/
namespace Go.Proofs.Ytfmgaenedkjmkaa
open Go.ChangeShapes Go.WideShapes Go.ChangeAt Go.RowKit
set_option linter.unusedVariables false
open Hd

attribute [local go_sem] Oper.semAt_some

theorem take_filter {l : List Nm} {p : Nm → Bool} {k : Nat} (hk : k < l.length) : (l.take (k + 1)).filter p = (l.take k).filter p ++ (bif p (gm l k) then [gm l k] else []) := by
  rw [List.take_add_one, List.getElem?_eq_getElem hk, gm_eq hk, List.filter_append]
  cases h : p l[k] <;> simp [h]
set_option maxHeartbeats 2000000 in
theorem namesThat_any (a : Option Addr) (l : List Nm) (cap : Nat) (f : Nat) (pre : Array Value) (cap' : Array Value) (p : Nm → Bool) (w : World) (hn : l.length ≤ 1000) (hc : Nms w a l)
    (hcf : ∀ (args : Array Value) (u : World), (callFunc f args).run Try.prog u = .ok (.enter f args) u)
    (hp : ∀ i W, i < l.length → Calls Try.prog f (pre.push (nv (gm l i)) ++ cap') W fun e W' => e = .returned (.bool (p (gm l i))) ∧ Below W.heap.size W W') :
    Calls Try.prog 94 #[.slice a l.length cap, .func (.func f) pre cap'] w fun e w' => Below w.heap.size w w' ∧ ∃ x c, e = .returned (.slice x (l.filter p).length c) ∧ OwnN w' w.heap.size (.slice x (l.filter p).length c) (l.filter p) := by
  unfold Nms at hc
  have Hc : Hid _ := hc
  have Hp : Hid _ := hp
  have HT : Hid (∀ k, k < l.length → (l.take (k + 1)).filter p = (l.take k).filter p ++ (bif p (gm l k) then [gm l k] else [])) := fun k hk => take_filter hk
  have HL : Hid (∀ k, ((l.take k).filter p).length ≤ 1000) := fun k => Nat.le_trans (List.length_filter_le _ _) (by simp; omega)
  have HE : Hid ((l.take l.length).filter p = l.filter p) := by show _ = _; rw [List.take_length]
  clear hc hp
  obtain ⟨n, hln⟩ : ∃ n, l.length = n := ⟨_, rfl⟩
  rw [hln] at hn Hc Hp HT HE ⊢
  clear hln
  go_enter Try.func94, Try.ntmps94
  go_wp2
  go_loopw [10, 5] (fun i o wr => ∃ (k : Nat) (y : Option Addr) (cy : Nat), k ≤ n ∧ i = .int .i64 k ∧ o = .slice y ((l.take k).filter p).length cy ∧ Hid (OwnN wr w.heap.size (.slice y ((l.take k).filter p).length cy) ((l.take k).filter p)) ∧ Below w.heap.size w wr) (fun i _ _ => n - (intOf i).toNat)
  case atStart => exact ⟨0, none, 0, Nat.zero_le _, rfl, rfl, OwnN.nil _ _, Below.refl _ _⟩
  case round =>
    obtain ⟨k, y, cy, hk, rfl, rfl, HJ, hb⟩ := hrel
    by_cases hlt : k < n
    · obtain ⟨b, off, rfl, hcell⟩ := Hc.out (by omega)
      obtain ⟨k0, k1⟩ := (hcell k hlt).below hb
      clear hcell Hc
      have cp := fun W => Hp.out k W hlt
      have ht := HT.out k hlt
      have hll := HL.out k
      obtain ⟨r, hr⟩ : ∃ r, p (gm l k) = r := ⟨_, rfl⟩
      rw [hr] at cp ht
      clear hr
      unfold nv at cp
      obtain ⟨x, hx⟩ : ∃ x, gm l k = x := ⟨_, rfl⟩
      rw [hx] at cp ht k0 k1
      clear hx
      obtain ⟨s, fl⟩ := x
      simp only at cp k0 k1
      obtain ⟨Q, hQ⟩ : ∃ Q, (l.take k).filter p = Q := ⟨_, rfl⟩
      rw [hQ] at HJ ht hll
      simp only [hQ]
      clear hQ
      have Ht : Hid _ := ht
      clear ht
      obtain ⟨W2, hW2⟩ : ∃ W2, wr.alloc (.cells #[.string s, .int .i64 fl] 36) = W2 := ⟨_, rfl⟩
      have b2 : Below wr.heap.size wr W2 := by subst hW2; exact below_alloc _ _
      have HE2 : Hid (W2.heap[wr.heap.size]? = some (.cells #[.string s, .int .i64 fl] 36 (0, 0))) := by subst hW2; exact al1 _ _
      obtain ⟨e0, e1, -, -⟩ := box2_cells HE2.out
      obtain ⟨nq, hnq⟩ : ∃ nq, Q.length = nq := ⟨_, rfl⟩
      have HNQ : Hid _ := hnq
      have HO0 : Hid (wr.ownsRow w.heap.size 36 2 (.slice y nq cy) nq (cns Q)) := by have := HJ.out; unfold OwnN at this; rw [hnq] at this; exact this
      rw [hnq] at hll ⊢
      clear hnq HJ
      go_wp2_with fail
      refine (cp _).mono ?_
      rintro e w1 ⟨rfl, b1⟩
      clear k0 k1 cp hW2 e0 e1
      have g1 := Below.comp hb (Below.comp b2 b1)
      have HO1 : Hid (w1.ownsRow w.heap.size 36 2 (.slice y nq cy) nq (cns Q)) := owns_below HO0.out (Below.comp b2 b1)
      cases r with
      | false =>
        go_wp2_with fail
        go_roundw
        case rel => exact ⟨k + 1, y, cy, by omega, by go_num, by rw [Ht.out]; simp [HNQ.out], by show OwnN _ _ _ _; unfold OwnN; rw [Ht.out]; simp [HNQ.out]; exact HO1.out, g1⟩
        case measure => simp [intOf]; omega
      | true =>
        obtain ⟨e0, e1, -, -⟩ := box2_cells (box_on HE2.out b1)
        have own2a := owns_below HO1.out (below_alloc w1 (.cells #[.string s, .int .i64 fl] 36))
        have HA2 : Hid _ := own2a
        have sr2 := src_two w1 (.string s) (.int .i64 fl) 36
        have HS2 : Hid _ := sr2
        have bb2 := g1.trans ((below_alloc w1 (.cells #[.string s, .int .i64 fl] 36)).mono g1.size)
        have z2 : w.heap.size ≤ (w1.alloc (.cells #[.string s, .int .i64 fl] 36)).heap.size := bb2.size
        clear own2a sr2
        go_wp2_with (at_builtin; refine wpList_append_src rfl _ _ 48 rfl w.heap.size 36 _ 2 24 Try.underlying48 info47 rfl (by decide) (.slice y nq cy) nq (cns Q) rfl HA2.out (some ⟨w1.heap.size, 0, none⟩) 1 1 [.string s, .int .i64 fl] rfl rfl HS2.out (by simp [Value.oneCell']) (by omega) (by decide) z2 ?_; intro v3 w3 own3 gr3; obtain ⟨y3, cy3, e3⟩ := owns_form own3; subst e3; have b3 : Below w.heap.size w w3 := grown_on bb2 z2 HA2.out gr3; have HO3 : Hid (w3.ownsRow w.heap.size 36 2 (.slice y3 (nq + 1) cy3) (nq + 1) (cns Q ++ [.string s, .int .i64 fl])) := own3; clear own3 gr3)
        go_roundw
        case rel =>
          have h1 : ((l.take (k + 1)).filter p).length = nq + 1 := by rw [Ht.out]; simp [HNQ.out]
          refine ⟨k + 1, y3, cy3, by omega, by go_num, by rw [h1], ?_, b3⟩
          show OwnN _ _ _ _
          unfold OwnN
          rw [h1, Ht.out, cond_true, cns_app]
          exact HO3.out
        case measure => simp [intOf]; omega
    · have hkn : k = n := by omega
      subst hkn
      rw [HE.out] at HJ ⊢
      go_wp2_with fail
      go_ret
      exact ⟨hb, _, _, rfl, HJ.out⟩
end Go.Proofs.Ytfmgaenedkjmkaa
