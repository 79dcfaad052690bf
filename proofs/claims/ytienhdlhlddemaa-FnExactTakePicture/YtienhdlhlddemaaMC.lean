import Derived.Test.YtienhdlhlddemaaL4s
import Derived.Test.YtienhdlhlddemaaN2
/- What the laws do with rows of cells: mark. -/
namespace Go.Proofs.Ytienhdlhlddemaa
open Go.ChangeShapes Go.WideShapes Go.ChangeAt Go.RowKit
set_option linter.unusedVariables false
open Hd

attribute [local go_sem] Oper.semAt_some

/-- The mark ahead of a bucket. -/
def kAt (L : List Ce) (k i : Nat) : Nat := k + 2 * i + kk L i
def mkB (k : Nat) (x : Ce) : Ce := ⟨(k : Int), mkText (k + 1), mkl (k + 2) x.kd.length⟩
/-- Marked buckets: the first so many, and all. -/
def mkQ (k : Nat) (L : List Ce) (q : Nat) : List Ce := (List.range L.length).map fun i => if i < q then mkB (kAt L k i) (gc L i) else gc L i
def mkT (k : Nat) (L : List Ce) : List Ce := mkQ k L L.length
theorem mkQ_len (k : Nat) (L : List Ce) (q : Nat) : (mkQ k L q).length = L.length := by simp [mkQ]
theorem mkQ_at {k : Nat} {L : List Ce} {q i : Nat} (h : i < L.length) : gc (mkQ k L q) i = if i < q then mkB (kAt L k i) (gc L i) else gc L i := by simp [mkQ, gc, h]
theorem mkQ_zero (k : Nat) (L : List Ce) : mkQ k L 0 = L := by
  apply List.ext_getElem
  · rw [mkQ_len]
  · intro i h1 h2
    have := mkQ_at (k := k) (q := 0) h2
    rw [gc_eq h1, gc_eq h2] at this
    simpa using this
theorem mkQ_ns {k : Nat} {L : List Ce} {q i : Nat} (h : i < L.length) : (gc (mkQ k L q) i).kd.length = (gc L i).kd.length := by
  rw [mkQ_at h]
  split <;> simp [mkB, mkl_len]
theorem nil_lenI {l : List Int} : l ≠ [] ↔ l.length ≠ 0 := by cases l <;> simp
theorem DstC.q {b : Nat} {kb : Nat → Nat} {L : List Ce} {k q : Nat} (h : DstC b kb L) : DstC b kb (mkQ k L q) := by
  have key : ∀ r, r < L.length → (gc (mkQ k L q) r).kd ≠ [] → (gc L r).kd ≠ [] := by
    intro r hr hne
    rw [nil_lenI] at hne ⊢
    rwa [mkQ_ns hr] at hne
  intro r hr hne
  rw [mkQ_len] at hr
  obtain ⟨h1, h3⟩ := h r hr (key r hr hne)
  exact ⟨h1, fun r' hr' hne' => h3 r' hr' (key r' (by omega) hne')⟩
/-- What marking a row keeps. -/
theorem markI_keeps {l : List Int} {g : Nat} {w w' : World} (h : if l = [] then w' = w else Out g (g + 1) w w') : w.heap.size ≤ w'.heap.size ∧ ∀ j, j < w.heap.size → (l ≠ [] → j ≠ g) → w'.heap[j]? = w.heap[j]? := by
  by_cases hz : l = []
  · rw [if_pos hz] at h; subst h; exact ⟨Nat.le_refl _, fun _ _ _ => rfl⟩
  · rw [if_neg hz] at h; exact ⟨h.size, fun j hj hne => h.block j hj (by have := hne hz; omega)⟩
theorem markI_out {l : List Int} {g B C : Nat} {w w' : World} (h : if l = [] then w' = w else Out g (g + 1) w w') (hg : l ≠ [] → B ≤ g ∧ g < C) : Out B C w w' := by
  by_cases hz : l = []
  · rw [if_pos hz] at h; subst h; exact Out.refl _ _ _
  · rw [if_neg hz] at h; obtain ⟨h1, h2⟩ := hg hz; exact h.mono h1 h2
theorem IB.within {w : World} {B C : Nat} {v : Value} {l : List Int} {g : Nat} (h : IB w B C v l g) : l ≠ [] → B ≤ g ∧ g < C := by
  obtain ⟨a, c, e, hc, hr⟩ := h
  exact fun hn => by obtain ⟨-, r2, r3, -⟩ := hr hn; exact ⟨r2, r3⟩
/-- Two rows that are not empty lie apart. -/
theorem DstC.ne {b : Nat} {kb : Nat → Nat} {L : List Ce} (h : DstC b kb L) {r r' : Nat} (hr : r < L.length) (hr' : r' < L.length) (hne : r ≠ r') (h1 : (gc L r).kd ≠ []) (h2 : (gc L r').kd ≠ []) : kb r ≠ kb r' := by
  by_cases hlt : r < r'
  · exact (h r' hr' h2).2 r hlt h1
  · exact fun e => (h r hr h1).2 r' (by omega) h2 e.symm
set_option maxHeartbeats 4000000 in
theorem markCellS_any (B C : Nat) (a : Option Addr) (cap : Nat) (L : List Ce) (k : Nat) (w : World) (hk1 : 1 ≤ k) (hk : k + 2 * L.length + kk L L.length ≤ 100000000) (h : COwn w B C a L) :
    Calls Try.prog 25 #[.slice a L.length cap, .int .i64 k] w fun e w' => e = .returned (.int .i64 ((k + 2 * L.length + kk L L.length : Nat) : Int)) ∧ Out B C w w' ∧ COwn w' B C a (mkT k L) := by
  by_cases hz : L = []
  · subst hz
    simp only [List.length_nil, kk]
    go_enter Try.func25, Try.ntmps25
    go_wp2
    refine wp_loop_rounds 1 ?_
    rw [rounds_succ]
    go_wp2
    go_ret
    exact ⟨rfl, Out.refl _ _ _, fun h => absurd (by simp [mkT, mkQ]) h⟩
  · obtain ⟨b, c0, kb, hb1, hb2, rfl, hB0, hsz, hnd, hD⟩ := h hz
    have HB0 : Hid (w.heap[b]? = some (.cells c0 42 (0, 0))) := hB0
    have HND : Hid (CeIn w B C c0 kb L L.length) := hnd
    have HD : Hid (DstC b kb L) := hD
    clear hB0 hnd hD h hz
    go_enter Try.func25, Try.ntmps25
    go_wp2
    go_loopw [1, 5] (fun kk i wr => ∃ (q : Nat) (c : Array Value), q ≤ L.length ∧ kk = .int .i64 ((kAt L k q : Nat) : Int) ∧ i = .int .i64 q ∧ Hid (wr.heap[b]? = some (.cells c 42 (0, 0))) ∧ L.length * 3 ≤ c.size ∧ Hid (CeIn wr B C c kb (mkQ k L q) L.length) ∧ Out B C w wr) (fun _ i _ => L.length - (intOf i).toNat)
    case atStart => exact ⟨0, c0, Nat.zero_le _, by simp [kAt, kk], rfl, HB0, hsz, by rw [mkQ_zero]; exact HND, Out.refl _ _ _⟩
    case round =>
      obtain ⟨q, c, hq, rfl, rfl, hB, hcs, hst, ho⟩ := hrel
      by_cases hlt : q < L.length
      · obtain ⟨n0, n0a, v1, n1, m1⟩ := hst.out q hlt
        rw [mkQ_at hlt, if_neg (Nat.lt_irrefl _)] at n0 n0a m1
        have hbk1 : kk L (q + 1) = kk L q + (gc L q).kd.length := rfl
        have hmono := kk_mono hlt
        have hka : kAt L k q = k + 2 * q + kk L q := rfl
        have hkb : kAt L k (q + 1) = kAt L k q + 2 + (gc L q).kd.length := by unfold kAt; omega
        have hK : Hid (kAt L k q + 2 + (gc L q).kd.length ≤ 100000000) := by show _ ≤ _; unfold kAt; omega
        have hne1 : Hid ((gc L q).kd ≠ [] → kb q ≠ b) := fun h => (HD.out q hlt h).1
        have hoth : Hid (∀ i, i < L.length → i ≠ q → (gc L i).kd ≠ [] → kb i ≠ b ∧ ((gc L q).kd ≠ [] → kb i ≠ kb q)) := fun i hi hiq h => ⟨(HD.out i hi h).1, fun h' => HD.out.ne hi hlt hiq h h'⟩
        have hmq : Hid (gc (mkQ k L (q + 1)) q = mkB (kAt L k q) (gc L q)) := by show _ = _; rw [mkQ_at hlt, if_pos (by omega)]
        obtain ⟨ka, kc, rfl, -, -⟩ := id m1
        obtain ⟨nd, hnd⟩ : ∃ nd, gc L q = nd := ⟨_, rfl⟩
        rw [hnd] at n0 n0a n1 m1 hkb hK hne1 hoth hmq
        have Hkb : Hid _ := hkb
        clear hnd hbk1 hmono hkb hka
        obtain ⟨dp, lk, ns⟩ := nd
        simp only at n0 n0a n1 m1 Hkb hK hne1 hoth
        obtain ⟨Q, hQ⟩ : ∃ Q, kAt L k q = Q := ⟨_, rfl⟩
        have hQ1 : 1 ≤ Q := by rw [← hQ]; unfold kAt; omega
        rw [hQ] at Hkb hK hmq ⊢
        clear hQ
        have g0 : wr.cell? ⟨b, q * 3, none⟩ = some (.int .i64 dp) := cell_of_block hB.out n0
        have f0 := free_of_block (i := q * 3) hB.out
        have hQb : Q + 2 ≤ 100000000 := by have := hK.out; omega
        have cM1 := fun W h => markIntS_any B C (kb q) ka kc ns (Q + 2) W (by have := hK.out; omega) h
        have cT := fun W => markText_any (Q + 1) W (by omega) (by omega)
        have w1 : IntKind.i64.wrap ((Q : Int) + 1) = ((Q + 1 : Nat) : Int) := by rw [wrapI (by omega) (by omega)]; omega
        have w2 : IntKind.i64.wrap (((Q + 1 : Nat) : Int) + 1) = ((Q + 2 : Nat) : Int) := by rw [wrapI (by omega) (by omega)]; omega
        have HTX : Hid (mkB Q ⟨dp, lk, ns⟩ = ⟨(Q : Int), mkText (Q + 1), mkl (Q + 2) ns.length⟩) := rfl
        generalize mkText (Q + 1) = tx at cT HTX
        generalize ((Q + 1 : Nat) : Int) = Q1 at w1 w2 cT
        generalize ((Q + 2 : Nat) : Int) = Q2 at w2 cM1
        generalize hK2 : ((Q + 2 + ns.length : Nat) : Int) = K2 at cM1
        have HK2 : Hid _ := hK2
        clear hK2
        obtain ⟨Wa, hWa⟩ : ∃ Wa, wr.setCell ⟨b, q * 3, none⟩ (.int .i64 (Q : Int)) = Wa := ⟨_, rfl⟩
        have HBa : Hid (Wa.heap[b]? = some (.cells (c.setIfInBounds (q * 3) (.int .i64 (Q : Int))) 42 (0, 0))) := by subst hWa; exact block_set hB.out
        have oa : Out b (b + 1) wr Wa := by subst hWa; exact (Out.refl _ _ _).setCell (Nat.le_refl _) (Nat.lt_succ_self _) _ _
        go_wp2_with fail
        refine (cT _).mono ?_
        rintro e wt ⟨rfl, bt⟩
        have HBt := box_on HBa.out bt
        have ga : wt.cell? ⟨b, q * 3 + 1, none⟩ = some (.string lk) := cell_of_block HBt (by rw [set_ne (by omega)]; exact n0a)
        have fa := free_of_block (i := q * 3 + 1) HBt
        obtain ⟨W1, hW1⟩ : ∃ W1, wt.setCell ⟨b, q * 3 + 1, none⟩ (.string tx) = W1 := ⟨_, rfl⟩
        have o1 : Out b (b + 1) wr W1 := by subst hW1; exact (oa.trans (Out.of_below bt)).setCell (Nat.le_refl _) (Nat.lt_succ_self _) _ _
        have HB1 : Hid (W1.heap[b]? = some (.cells ((c.setIfInBounds (q * 3) (.int .i64 (Q : Int))).setIfInBounds (q * 3 + 1) (.string tx)) 42 (0, 0))) := by subst hW1; exact block_set HBt
        have c1 : W1.cell? ⟨b, q * 3 + 2, none⟩ = some (.slice ka ns.length kc) := cell_of_block HB1.out (by rw [set_ne (by omega), set_ne (by omega)]; exact n1)
        have m1' : IB W1 B C (.slice ka ns.length kc) ns (kb q) := m1.same (fun h hl => o1.block _ hl (by have := hne1.out h; omega))
        clear HBt g0 f0
        have hzz : Hid (wr.heap.size ≤ W1.heap.size) := o1.size
        have hbl : b < wr.heap.size := box_lt hB.out
        have hz0 : Hid (w.heap.size ≤ wr.heap.size) := ho.size
        clear m1
        go_wp2_with fail
        refine (cM1 _ m1').mono ?_
        rintro e w2 ⟨rfl, hm1, i1⟩
        obtain ⟨z2, kp2⟩ := markI_keeps hm1
        have oo2 : Out B C W1 w2 := markI_out hm1 m1'.within
        have HB2 : Hid (w2.heap[b]? = some (.cells ((c.setIfInBounds (q * 3) (.int .i64 (Q : Int))).setIfInBounds (q * 3 + 1) (.string tx)) 42 (0, 0))) := by show _ = _; rw [kp2 b (Nat.lt_of_lt_of_le hbl hzz.out) (fun h e => hne1.out h e.symm)]; exact HB1.out
        have I1 : Hid (IB w2 B C (.slice ka ns.length kc) (mkl (Q + 2) ns.length) (kb q)) := i1
        clear c1 hW1 hWa ga fa cM1 hm1 i1 cT
        go_wp2_with fail
        go_roundw
        case rel =>
          refine ⟨q + 1, _, by omega, by rw [Hkb.out, HK2.out], by go_num, HB2, by simpa using hcs, ?_, ho.trans ((o1.mono hb1 hb2).trans oo2)⟩
          · intro i hi
            by_cases e : i = q
            · subst e
              rw [hmq.out, HTX.out]
              refine ⟨by rw [set_ne (by omega), set_at (by omega)], by rw [set_at (by simp; omega)], _, by rw [set_ne (by omega), set_ne (by omega)]; exact n1, ?_⟩
              exact I1.out
            · have heq : gc (mkQ k L (q + 1)) i = gc (mkQ k L q) i := by
                rw [mkQ_at hi, mkQ_at hi]
                by_cases h1 : i < q
                · rw [if_pos h1, if_pos (by omega)]
                · rw [if_neg h1, if_neg (by omega)]
              rw [heq]
              obtain ⟨p0, p0a, v, p1, p3⟩ := hst.out i hi
              have hl := mkQ_ns (k := k) (q := q) hi
              refine ⟨by rw [set_ne (by omega), set_ne (by omega)]; exact p0, by rw [set_ne (by omega), set_ne (by omega)]; exact p0a, v, by rw [set_ne (by omega), set_ne (by omega)]; exact p1, p3.same (fun h hl' => ?_)⟩
              have ot := hoth.out i hi e (by rw [nil_lenI] at h ⊢; omega)
              rw [kp2 _ (Nat.lt_of_lt_of_le hl' hzz.out) (fun h' => ot.2 h'), o1.block _ hl' (by have := ot.1; omega)]
        case measure => simp [intOf]; omega
      · have hqn : q = L.length := by omega
        go_wp2
        go_ret
        refine ⟨by rw [hqn]; simp [kAt], ho, fun _ => ⟨b, c, kb, hb1, hb2, rfl, hB.out, by rw [show (mkT k L).length = L.length from mkQ_len _ _ _]; exact hcs, ?_, HD.out.q⟩⟩
        have := hst.out
        rw [hqn] at this
        rw [show (mkT k L).length = L.length from mkQ_len _ _ _]
        exact this
end Go.Proofs.Ytienhdlhlddemaa
