import Derived.Test.YtfmgaenedkjmkaaL6
/- What the laws do with buckets and directories: mark and hold. -/
namespace Go.Proofs.Ytfmgaenedkjmkaa
open Go.ChangeShapes Go.WideShapes Go.ChangeAt Go.RowKit
set_option linter.unusedVariables false
open Hd

attribute [local go_sem] Oper.semAt_some

/-- The mark ahead of a bucket. -/
def kAt (L : List Bk) (k i : Nat) : Nat := k + i + 2 * nk L i
def mkB (k : Nat) (x : Bk) : Bk := ⟨(k : Int), mkN (k + 1) x.ns.length⟩
/-- Marked buckets: the first so many, and all. -/
def mkQ (k : Nat) (L : List Bk) (q : Nat) : List Bk := (List.range L.length).map fun i => if i < q then mkB (kAt L k i) (gb L i) else gb L i
def mkT (k : Nat) (L : List Bk) : List Bk := mkQ k L L.length
theorem mkQ_len (k : Nat) (L : List Bk) (q : Nat) : (mkQ k L q).length = L.length := by simp [mkQ]
theorem mkQ_at {k : Nat} {L : List Bk} {q i : Nat} (h : i < L.length) : gb (mkQ k L q) i = if i < q then mkB (kAt L k i) (gb L i) else gb L i := by simp [mkQ, gb, h]
theorem mkQ_zero (k : Nat) (L : List Bk) : mkQ k L 0 = L := by
  apply List.ext_getElem
  · rw [mkQ_len]
  · intro i h1 h2
    have := mkQ_at (k := k) (q := 0) h2
    rw [gb_eq h1, gb_eq h2] at this
    simpa using this
theorem mkQ_ns {k : Nat} {L : List Bk} {q i : Nat} (h : i < L.length) : (gb (mkQ k L q) i).ns.length = (gb L i).ns.length := by
  rw [mkQ_at h]
  split <;> simp [mkB, mkN_len]
theorem nil_lenN {l : List Nm} : l ≠ [] ↔ l.length ≠ 0 := by cases l <;> simp
theorem DstB.q {b gs : Nat} {kb : Nat → Nat} {L : List Bk} {k q : Nat} (h : DstB b gs kb L) : DstB b gs kb (mkQ k L q) := by
  have key : ∀ r, r < L.length → (gb (mkQ k L q) r).ns ≠ [] → (gb L r).ns ≠ [] := by
    intro r hr hne
    rw [nil_lenN] at hne ⊢
    rwa [mkQ_ns hr] at hne
  refine ⟨h.1, fun r hr hne => ?_⟩
  rw [mkQ_len] at hr
  obtain ⟨h1, h2, h3⟩ := h.2 r hr (key r hr hne)
  exact ⟨h1, h2, fun r' hr' hne' => h3 r' hr' (key r' (by omega) hne')⟩
theorem IB.same {w w' : World} {B C : Nat} {v : Value} {l : List Int} {g : Nat} (h : IB w B C v l g) (hs : l ≠ [] → g < w.heap.size → w'.heap[g]? = w.heap[g]?) : IB w' B C v l g := by
  obtain ⟨a, c, e, hc, hr⟩ := h
  exact ⟨a, c, e, hc, fun hn => by obtain ⟨r1, r2, r3, cs, r4, r5⟩ := hr hn; exact ⟨r1, r2, r3, cs, by rw [hs hn (box_lt r4)]; exact r4, r5⟩⟩
/-- What marking a row keeps. -/
theorem markN_keeps {l : List Nm} {g : Nat} {w w' : World} (h : if l = [] then w' = w else Out g (g + 1) w w') : w.heap.size ≤ w'.heap.size ∧ ∀ j, j < w.heap.size → (l ≠ [] → j ≠ g) → w'.heap[j]? = w.heap[j]? := by
  by_cases hz : l = []
  · rw [if_pos hz] at h; subst h; exact ⟨Nat.le_refl _, fun _ _ _ => rfl⟩
  · rw [if_neg hz] at h; exact ⟨h.size, fun j hj hne => h.block j hj (by have := hne hz; omega)⟩
theorem markN_out {l : List Nm} {g B C : Nat} {w w' : World} (h : if l = [] then w' = w else Out g (g + 1) w w') (hg : l ≠ [] → B ≤ g ∧ g < C) : Out B C w w' := by
  by_cases hz : l = []
  · rw [if_pos hz] at h; subst h; exact Out.refl _ _ _
  · rw [if_neg hz] at h; obtain ⟨h1, h2⟩ := hg hz; exact h.mono h1 h2
theorem markI_out {l : List Int} {g B C : Nat} {w w' : World} (h : if l = [] then w' = w else Out g (g + 1) w w') (hg : l ≠ [] → B ≤ g ∧ g < C) : Out B C w w' := by
  by_cases hz : l = []
  · rw [if_pos hz] at h; subst h; exact Out.refl _ _ _
  · rw [if_neg hz] at h; obtain ⟨h1, h2⟩ := hg hz; exact h.mono h1 h2
theorem NB.within {w : World} {B C : Nat} {v : Value} {l : List Nm} {g : Nat} (h : NB w B C v l g) : l ≠ [] → B ≤ g ∧ g < C := by
  obtain ⟨a, c, e, hc, hr⟩ := h
  exact fun hn => by obtain ⟨-, r2, r3, -⟩ := hr hn; exact ⟨r2, r3⟩
theorem IB.within {w : World} {B C : Nat} {v : Value} {l : List Int} {g : Nat} (h : IB w B C v l g) : l ≠ [] → B ≤ g ∧ g < C := by
  obtain ⟨a, c, e, hc, hr⟩ := h
  exact fun hn => by obtain ⟨-, r2, r3, -⟩ := hr hn; exact ⟨r2, r3⟩
/-- Two rows that are not empty lie apart. -/
theorem DstB.ne {b gs : Nat} {kb : Nat → Nat} {L : List Bk} (h : DstB b gs kb L) {r r' : Nat} (hr : r < L.length) (hr' : r' < L.length) (hne : r ≠ r') (h1 : (gb L r).ns ≠ []) (h2 : (gb L r').ns ≠ []) : kb r ≠ kb r' := by
  by_cases hlt : r < r'
  · exact (h.2 r' hr' h2).2.2 r hlt h1
  · exact fun e => (h.2 r hr h1).2.2 r' (by omega) h2 e.symm
set_option maxHeartbeats 4000000 in
theorem markBucketS_any (B C gs : Nat) (a : Option Addr) (cap : Nat) (L : List Bk) (k : Nat) (w : World) (hk1 : 1 ≤ k) (hk : k + L.length + 2 * nk L L.length ≤ 100000000) (h : BOwn w B C gs a L) :
    Calls Try.prog 46 #[.slice a L.length cap, .int .i64 k] w fun e w' => e = .returned (.int .i64 ((k + L.length + 2 * nk L L.length : Nat) : Int)) ∧ Out B C w w' ∧ (gs < w.heap.size → w'.heap[gs]? = w.heap[gs]?) ∧ BOwn w' B C gs a (mkT k L) := by
  by_cases hz : L = []
  · subst hz
    simp only [List.length_nil, nk]
    go_enter Try.func46, Try.ntmps46
    go_wp2
    refine wp_loop_rounds 1 ?_
    rw [rounds_succ]
    go_wp2
    go_ret
    exact ⟨rfl, Out.refl _ _ _, fun _ => rfl, fun h => absurd (by simp [mkT, mkQ]) h⟩
  · obtain ⟨b, c0, kb, hb1, hb2, rfl, hB0, hsz, hnd, hD⟩ := h hz
    have HB0 : Hid (w.heap[b]? = some (.cells c0 63 (0, 0))) := hB0
    have HND : Hid (BksIn w B C c0 kb L L.length) := hnd
    have HD : Hid (DstB b gs kb L) := hD
    clear hB0 hnd hD h hz
    go_enter Try.func46, Try.ntmps46
    go_wp2
    go_loopw [1, 5] (fun kk i wr => ∃ (q : Nat) (c : Array Value), q ≤ L.length ∧ kk = .int .i64 ((kAt L k q : Nat) : Int) ∧ i = .int .i64 q ∧ Hid (wr.heap[b]? = some (.cells c 63 (0, 0))) ∧ L.length * 2 ≤ c.size ∧ Hid (BksIn wr B C c kb (mkQ k L q) L.length) ∧ Out B C w wr ∧ Hid (gs < w.heap.size → wr.heap[gs]? = w.heap[gs]?)) (fun _ i _ => L.length - (intOf i).toNat)
    case atStart => exact ⟨0, c0, Nat.zero_le _, by simp [kAt, nk], rfl, HB0, hsz, by rw [mkQ_zero]; exact HND, Out.refl _ _ _, fun _ => rfl⟩
    case round =>
      obtain ⟨q, c, hq, rfl, rfl, hB, hcs, hst, ho, HGs⟩ := hrel
      by_cases hlt : q < L.length
      · obtain ⟨n0, v1, n1, m1⟩ := hst.out q hlt
        rw [mkQ_at hlt, if_neg (Nat.lt_irrefl _)] at n0 m1
        have hbk1 : nk L (q + 1) = nk L q + (gb L q).ns.length := rfl
        have hmono := nk_mono hlt
        have hka : kAt L k q = k + q + 2 * nk L q := rfl
        have hkb : kAt L k (q + 1) = kAt L k q + 1 + 2 * (gb L q).ns.length := by unfold kAt; omega
        have hK : Hid (kAt L k q + 1 + 2 * (gb L q).ns.length ≤ 100000000) := by show _ ≤ _; unfold kAt; omega
        have hne1 : Hid ((gb L q).ns ≠ [] → kb q ≠ b ∧ kb q ≠ gs) := fun h => ⟨(HD.out.2 q hlt h).1, (HD.out.2 q hlt h).2.1⟩
        have hoth : Hid (∀ i, i < L.length → i ≠ q → (gb L i).ns ≠ [] → kb i ≠ b ∧ ((gb L q).ns ≠ [] → kb i ≠ kb q)) := fun i hi hiq h => ⟨(HD.out.2 i hi h).1, fun h' => HD.out.ne hi hlt hiq h h'⟩
        have hmq : Hid (gb (mkQ k L (q + 1)) q = mkB (kAt L k q) (gb L q)) := by show _ = _; rw [mkQ_at hlt, if_pos (by omega)]
        obtain ⟨ka, kc, rfl, -, -⟩ := id m1
        obtain ⟨nd, hnd⟩ : ∃ nd, gb L q = nd := ⟨_, rfl⟩
        rw [hnd] at n0 n1 m1 hkb hK hne1 hoth hmq
        have Hkb : Hid _ := hkb
        clear hnd hbk1 hmono hkb hka
        obtain ⟨dp, ns⟩ := nd
        simp only at n0 n1 m1 Hkb hK hne1 hoth
        obtain ⟨Q, hQ⟩ : ∃ Q, kAt L k q = Q := ⟨_, rfl⟩
        have hQ1 : 1 ≤ Q := by rw [← hQ]; unfold kAt; omega
        rw [hQ] at Hkb hK hmq ⊢
        clear hQ
        have g0 : wr.cell? ⟨b, q * 2, none⟩ = some (.int .i64 dp) := cell_of_block hB.out n0
        have f0 := free_of_block (i := q * 2) hB.out
        have hQb : Q + 1 ≤ 100000000 := by have := hK.out; omega
        have cM1 := fun W h => markNameS_any B C (kb q) ka kc ns (Q + 1) W (by omega) (by have := hK.out; omega) h
        rw [show (((Q + 1 : Nat)) : Int) = (Q : Int) + 1 by omega] at cM1
        generalize hK2 : ((Q + 1 + 2 * ns.length : Nat) : Int) = K2 at cM1
        have HK2 : Hid _ := hK2
        clear hK2
        obtain ⟨W1, hW1⟩ : ∃ W1, wr.setCell ⟨b, q * 2, none⟩ (.int .i64 (Q : Int)) = W1 := ⟨_, rfl⟩
        have o1 : Out b (b + 1) wr W1 := by subst hW1; exact out_setCell _ _ _ _
        have HB1 : Hid (W1.heap[b]? = some (.cells (c.setIfInBounds (q * 2) (.int .i64 (Q : Int))) 63 (0, 0))) := by subst hW1; exact block_set hB.out
        have c1 : W1.cell? ⟨b, q * 2 + 1, none⟩ = some (.slice ka ns.length kc) := cell_of_block HB1.out (by rw [set_ne (by omega)]; exact n1)
        have m1' : NB W1 B C (.slice ka ns.length kc) ns (kb q) := m1.out o1 (fun h => by have := (hne1.out h).1; omega)
        have hzz : Hid (wr.heap.size ≤ W1.heap.size) := o1.size
        have hbl : b < wr.heap.size := box_lt hB.out
        have hz0 : Hid (w.heap.size ≤ wr.heap.size) := ho.size
        clear m1
        go_wp2_with fail
        refine (cM1 _ m1').mono ?_
        rintro e w2 ⟨rfl, hm1, i1⟩
        obtain ⟨z2, kp2⟩ := markN_keeps hm1
        have oo2 : Out B C W1 w2 := markN_out hm1 m1'.within
        have HB2 : Hid (w2.heap[b]? = some (.cells (c.setIfInBounds (q * 2) (.int .i64 (Q : Int))) 63 (0, 0))) := by show _ = _; rw [kp2 b (Nat.lt_of_lt_of_le hbl hzz.out) (fun h e => (hne1.out h).1 e.symm)]; exact HB1.out
        have I1 : Hid (NB w2 B C (.slice ka ns.length kc) (mkN (Q + 1) ns.length) (kb q)) := i1
        clear c1 hW1 cM1 hm1 i1
        go_wp2_with fail
        go_roundw
        case rel =>
          refine ⟨q + 1, _, by omega, by rw [Hkb.out, HK2.out], by go_num, HB2, by simpa using hcs, ?_, ho.trans ((o1.mono hb1 hb2).trans oo2), ?_⟩
          · intro i hi
            by_cases e : i = q
            · subst e
              rw [hmq.out]
              refine ⟨by rw [set_at (by omega)]; rfl, _, by rw [set_ne (by omega)]; exact n1, ?_⟩
              simp only [mkB]
              exact I1.out
            · have heq : gb (mkQ k L (q + 1)) i = gb (mkQ k L q) i := by
                rw [mkQ_at hi, mkQ_at hi]
                by_cases h1 : i < q
                · rw [if_pos h1, if_pos (by omega)]
                · rw [if_neg h1, if_neg (by omega)]
              rw [heq]
              obtain ⟨p0, v, p1, p3⟩ := hst.out i hi
              have hl := mkQ_ns (k := k) (q := q) hi
              refine ⟨by rw [set_ne (by omega)]; exact p0, v, by rw [set_ne (by omega)]; exact p1, p3.same (fun h hl' => ?_)⟩
              have ot := hoth.out i hi e (by rw [nil_lenN] at h ⊢; omega)
              rw [kp2 _ (Nat.lt_of_lt_of_le hl' hzz.out) (fun h' => ot.2 h'), o1.block _ hl' (by have := ot.1; omega)]
          · intro hgs
            have hgs' : gs < wr.heap.size := Nat.lt_of_lt_of_le hgs hz0.out
            rw [kp2 gs (Nat.lt_of_lt_of_le hgs' hzz.out) (fun h' => Ne.symm (hne1.out h').2), o1.block gs hgs' (by have := HD.out.1; omega)]
            exact HGs.out hgs
        case measure => simp [intOf]; omega
      · have hqn : q = L.length := by omega
        go_wp2
        go_ret
        refine ⟨by rw [hqn]; simp [kAt], ho, HGs.out, fun _ => ⟨b, c, kb, hb1, hb2, rfl, hB.out, by rw [show (mkT k L).length = L.length from mkQ_len _ _ _]; exact hcs, ?_, HD.out.q⟩⟩
        have := hst.out
        rw [hqn] at this
        rw [show (mkT k L).length = L.length from mkQ_len _ _ _]
        exact this
set_option maxHeartbeats 4000000 in
theorem heldBucketS_any (a : Option Addr) (cap : Nat) (L : List Bk) (k : Nat) (w : World) (hk1 : 1 ≤ k) (hk : k + L.length + 2 * nk L L.length ≤ 100000000) (h : Bks w a (mkT k L)) :
    Calls Try.prog 48 #[.slice a L.length cap, .int .i64 k] w fun e w' => e = .returned (.int .i64 ((k + L.length + 2 * nk L L.length : Nat) : Int)) ∧ Below w.heap.size w w' := by
  unfold Bks at h
  rw [show (mkT k L).length = L.length from mkQ_len _ _ _] at h
  have Hc : Hid _ := h
  clear h
  go_enter Try.func48, Try.ntmps48
  go_wp2
  go_loopw [1, 5] (fun kk i wr => ∃ (q : Nat), q ≤ L.length ∧ kk = .int .i64 ((kAt L k q : Nat) : Int) ∧ i = .int .i64 q ∧ Below w.heap.size w wr) (fun _ i _ => L.length - (intOf i).toNat)
  case atStart => exact ⟨0, Nat.zero_le _, by simp [kAt, nk], rfl, Below.refl _ _⟩
  case round =>
    obtain ⟨q, hq, rfl, rfl, hb⟩ := hrel
    by_cases hlt : q < L.length
    · obtain ⟨b, off, rfl, hcell⟩ := Hc.out (by omega)
      have hnd0 := (hcell q hlt).below hb
      have hbk1 : nk L (q + 1) = nk L q + (gb L q).ns.length := rfl
      have hmono := nk_mono hlt
      have hka : kAt L k q = k + q + 2 * nk L q := rfl
      have hkb : kAt L k (q + 1) = kAt L k q + 1 + 2 * (gb L q).ns.length := by unfold kAt; omega
      have hK : kAt L k q + 1 + 2 * (gb L q).ns.length ≤ 100000000 := by unfold kAt; omega
      rw [show gb (mkT k L) q = mkB (kAt L k q) (gb L q) by unfold mkT; rw [mkQ_at hlt, if_pos hlt]] at hnd0
      obtain ⟨nd, hnd⟩ : ∃ nd, gb L q = nd := ⟨_, rfl⟩
      rw [hnd] at hnd0 hkb hK
      have Hkb : Hid _ := hkb
      clear hnd hbk1 hmono hkb hka hcell Hc
      obtain ⟨dp, ns⟩ := nd
      obtain ⟨ka, kc, g0, g1, i1, -⟩ := hnd0
      simp only [mkB, mkN_len] at g0 g1 i1
      simp only at Hkb hK
      obtain ⟨Q, hQ⟩ : ∃ Q, kAt L k q = Q := ⟨_, rfl⟩
      have hQ1 : 1 ≤ Q := by rw [← hQ]; unfold kAt; omega
      rw [hQ] at Hkb hK g0 i1 ⊢
      clear hQ
      have cM1 := fun W h => heldNameS_any ka kc ns.length (Q + 1) W (by omega) (by omega) h
      have hQb : Q + 1 ≤ 100000000 := by omega
      have Hi1 : Hid (Nms wr ka (mkN (Q + 1) ns.length)) := i1
      clear i1
      rw [show (((Q + 1 : Nat)) : Int) = (Q : Int) + 1 by omega] at cM1
      have hK20 : 0 ≤ ((Q + 1 + 2 * ns.length : Nat) : Int) := by omega
      generalize hK2 : ((Q + 1 + 2 * ns.length : Nat) : Int) = K2 at cM1 hK20
      have HK2 : Hid _ := hK2
      have HK : Hid _ := hK
      clear hK2 hK
      have n2 : decide (K2 < 0) = false := by simp; omega
      have eQ : ((Q : Int) != (Q : Int)) = false := by simp
      go_wp2_with fail
      refine (cM1 _ Hi1.out).mono ?_
      rintro e w2 ⟨rfl, b2⟩
      go_wp2_with fail
      go_roundw
      case rel => exact ⟨q + 1, by omega, by rw [Hkb.out, HK2.out], by go_num, Below.comp hb b2⟩
      case measure => simp [intOf]; omega
    · have hqn : q = L.length := by omega
      go_wp2
      go_ret
      exact ⟨by rw [hqn]; simp [kAt], hb⟩
/-- A marked directory. -/
def mkD (k : Nat) (d : Dr) : Dr := ⟨d.dp, mkl k d.sl.length, mkT (k + d.sl.length) d.bs⟩
def kD (k : Nat) (d : Dr) : Nat := k + d.sl.length + d.bs.length + 2 * nk d.bs d.bs.length
set_option maxHeartbeats 1000000 in
theorem markDir_any (B C : Nat) (v : Value) (d : Dr) (k : Nat) (w : World) (hk1 : 1 ≤ k) (hk : kD k d ≤ 100000000) (h : DOwn w B C v d) :
    Calls Try.prog 13 #[v, .int .i64 k] w fun e w' => e = .returned (.int .i64 ((kD k d : Nat) : Int)) ∧ (∃ W, Below w.heap.size w W ∧ Out B C W w') ∧ DOwn w' B C v (mkD k d) := by
  obtain ⟨x, a', c', gs, rfl, hc', hI, hB⟩ := h
  obtain ⟨a, c, rfl, hac, hIr⟩ := id hI
  unfold kD at *
  have c1 := fun W h => markIntS_any B C gs a c d.sl k W (by omega) h
  have c2 := fun W h => markBucketS_any B C gs a' c' d.bs (k + d.sl.length) W (by omega) (by omega) h
  obtain ⟨dp, S, L⟩ := d
  simp only [mkD] at *
  obtain ⟨W0, hW0⟩ : ∃ W0, w.alloc (.cells #[.int .i64 dp, .slice a S.length c, .slice a' L.length c'] 32) = W0 := ⟨_, rfl⟩
  have q0 : Below w.heap.size w W0 := by subst hW0; exact below_alloc _ _
  have HA : Hid (W0.heap[w.heap.size]? = some (.cells #[.int .i64 dp, .slice a S.length c, .slice a' L.length c'] 32 (0, 0))) := by subst hW0; exact al1 _ _
  obtain ⟨x0, x1, x2, -, -, -⟩ := box3_cells HA.out
  have HI0 : Hid (IB W0 B C (.slice a S.length c) S gs) := hI.below q0
  have HB0 : Hid (BOwn W0 B C gs a' L) := hB.below q0
  have HOut : Hid (∀ W, (if S = [] then W = W0 else Out gs (gs + 1) W0 W) → BOwn W B C gs a' L ∧ Out B C W0 W ∧ W.heap[w.heap.size]? = W0.heap[w.heap.size]?) := by
    intro W hW
    refine ⟨?_, markI_out hW hI.within, ?_⟩
    · by_cases hz : S = []
      · rw [if_pos hz] at hW; rw [hW]; exact HB0.out
      · rw [if_neg hz] at hW
        intro hn
        obtain ⟨b, cc, kb, h1, h2, h3, h4, h5, h6, h7⟩ := HB0.out hn
        refine ⟨b, cc, kb, h1, h2, h3, box_out h4 hW (by have := h7.1; omega), h5, fun i hi => ?_, h7⟩
        obtain ⟨u0, v, u1, u3⟩ := h6 i hi
        exact ⟨u0, v, u1, u3.out hW (fun hne => by have := (h7.2 i hi hne).2.1; omega)⟩
    · by_cases hz : S = []
      · rw [if_pos hz] at hW; rw [hW]
      · rw [if_neg hz] at hW
        have : gs < w.heap.size := by
          obtain ⟨aa, cc, e, -, hr⟩ := hI
          obtain ⟨-, -, -, cs, r4, -⟩ := hr hz
          exact box_lt r4
        exact hW.block _ (box_lt HA.out) (by omega)
  clear hI hB hIr
  generalize hK1 : ((k + S.length : Nat) : Int) = K1 at c1 c2
  have HK1 : Hid _ := hK1
  clear hK1
  generalize hn : S.length = n at *
  generalize hm : L.length = m at *
  have Hn : Hid _ := hn
  have Hm : Hid _ := hm
  clear hn hm
  go_enter Try.func13, Try.ntmps13
  go_wp2_with fail
  refine (c1 _ HI0.out).mono ?_
  rintro e w1 ⟨rfl, o1, i1⟩
  obtain ⟨hB1, oo1, hbox⟩ := HOut.out _ o1
  obtain ⟨y0, y1, y2, -, -, -⟩ := box3_cells (hbox.trans HA.out)
  clear x0 x1 x2 hW0
  have I1 : Hid (IB w1 B C (.slice a n c) (mkl k n) gs) := i1
  clear i1 o1 c1 hbox
  go_wp2_with fail
  refine (c2 _ hB1).mono ?_
  rintro e w2 ⟨rfl, o2, hg2, hB2⟩
  go_wp2_with fail
  go_ret
  refine ⟨?_, ⟨W0, q0, oo1.trans o2⟩, .slice a n c, a', c', gs, by rw [show (mkT (k + n) L).length = L.length from mkQ_len _ _ _, Hm.out], by rw [show (mkT (k + n) L).length = L.length from mkQ_len _ _ _, Hm.out]; exact hc', ?_, hB2⟩
  · rfl
  · exact I1.out.same (fun _ h => hg2 h)
set_option maxHeartbeats 1000000 in
theorem heldDir_any (v : Value) (d : Dr) (k : Nat) (w : World) (hk1 : 1 ≤ k) (hk : kD k d ≤ 100000000) (h : DirAt w v (mkD k d)) :
    Calls Try.prog 14 #[v, .int .i64 k] w fun e w' => e = .returned (.int .i64 ((kD k d : Nat) : Int)) ∧ Below w.heap.size w w' := by
  obtain ⟨a, c, a', c', rfl, -, -, hI, hB⟩ := h
  unfold kD at *
  have c1 := fun W h => heldIntS_any a c d.sl.length k W (by omega) h
  have c2 := fun W h => heldBucketS_any a' c' d.bs (k + d.sl.length) W (by omega) (by omega) h
  obtain ⟨dp, S, L⟩ := d
  simp only [mkD, mkl_len] at *
  unfold dv
  rw [show (mkT (k + S.length) L).length = L.length from mkQ_len _ _ _]
  have p1 : 0 ≤ ((k + S.length : Nat) : Int) := by omega
  have p2 : 0 ≤ ((k + S.length + L.length + 2 * nk L L.length : Nat) : Int) := by omega
  have HI : Hid (Ints w a (mkl k S.length)) := hI
  have HB : Hid (Bks w a' (mkT (k + S.length) L)) := hB
  clear hI hB
  obtain ⟨W0, hW0⟩ : ∃ W0, w.alloc (.cells #[.int .i64 dp, .slice a S.length c, .slice a' L.length c'] 32) = W0 := ⟨_, rfl⟩
  have q0 : Below w.heap.size w W0 := by subst hW0; exact below_alloc _ _
  have HA : Hid (W0.heap[w.heap.size]? = some (.cells #[.int .i64 dp, .slice a S.length c, .slice a' L.length c'] 32 (0, 0))) := by subst hW0; exact al1 _ _
  obtain ⟨x0, x1, x2, -, -, -⟩ := box3_cells HA.out
  generalize hK2 : ((k + S.length + L.length + 2 * nk L L.length : Nat) : Int) = K2 at *
  generalize hK1 : ((k + S.length : Nat) : Int) = K1 at *
  have n1 : decide (K1 < 0) = false := by simp; omega
  have n2 : decide (K2 < 0) = false := by simp; omega
  clear hK1 hK2
  generalize hn : S.length = n at *
  generalize hm : L.length = m at *
  clear hn hm
  go_enter Try.func14, Try.ntmps14
  go_wp2_with fail
  refine (c1 _ (HI.out.below q0)).mono ?_
  rintro e w1 ⟨rfl, hww⟩
  have hww := hww.symm
  subst hww
  go_wp2_with fail
  refine (c2 _ (HB.out.below q0)).mono ?_
  rintro e w2 ⟨rfl, b2⟩
  go_wp2_with fail
  go_ret
  exact ⟨rfl, Below.comp q0 b2⟩
end Go.Proofs.Ytfmgaenedkjmkaa
