import Derived.Test.YtggkpcgjmanelaaL5
/- What the laws do with nodes and trees: mark and hold. -/
namespace Go.Proofs.Ytggkpcgjmanelaa
open Go.ChangeShapes Go.WideShapes Go.ChangeAt Go.RowKit
set_option linter.unusedVariables false
open Bt

attribute [local go_sem] Oper.semAt_some

/-- The mark ahead of a node. -/
def kAt (N : List Nd) (k i : Nat) : Nat := k + i + bk N i
def mkNd (k : Nat) (nd : Nd) : Nd := ⟨decide (k % 3 = 0), mkl (k + 1) nd.ks.length, mkl (k + 1 + nd.ks.length) nd.cs.length⟩
/-- Marked nodes: the first so many, and all. -/
def mkQ (k : Nat) (N : List Nd) (q : Nat) : List Nd := (List.range N.length).map fun i => if i < q then mkNd (kAt N k i) (gn N i) else gn N i
def mkT (k : Nat) (N : List Nd) : List Nd := mkQ k N N.length
theorem mkQ_len (k : Nat) (N : List Nd) (q : Nat) : (mkQ k N q).length = N.length := by simp [mkQ]
theorem mkQ_at {k : Nat} {N : List Nd} {q i : Nat} (h : i < N.length) : gn (mkQ k N q) i = if i < q then mkNd (kAt N k i) (gn N i) else gn N i := by simp [mkQ, gn, h]
theorem mkQ_zero (k : Nat) (N : List Nd) : mkQ k N 0 = N := by
  apply List.ext_getElem
  · rw [mkQ_len]
  · intro i h1 h2
    have := mkQ_at (k := k) (q := 0) h2
    rw [gn_eq h1, gn_eq h2] at this
    simpa using this
theorem mkQ_ks {k : Nat} {N : List Nd} {q i : Nat} (h : i < N.length) : (gn (mkQ k N q) i).ks.length = (gn N i).ks.length ∧ (gn (mkQ k N q) i).cs.length = (gn N i).cs.length := by
  rw [mkQ_at h]
  split <;> simp [mkNd, mkl_len]
theorem nil_len {l : List Int} : l ≠ [] ↔ l.length ≠ 0 := by cases l <;> simp
theorem row_even (N : List Nd) (i : Nat) : rowOf N (2 * i) = (gn N i).ks := by unfold rowOf; rw [if_pos (by omega), show 2 * i / 2 = i by omega]
theorem row_odd (N : List Nd) (i : Nat) : rowOf N (2 * i + 1) = (gn N i).cs := by unfold rowOf; rw [if_neg (by omega), show (2 * i + 1) / 2 = i by omega]
theorem Dst.q {b : Nat} {kb : Nat → Nat} {N : List Nd} {k q : Nat} (h : Dst b kb N) : Dst b kb (mkQ k N q) := by
  have key : ∀ r, r < 2 * N.length → rowOf (mkQ k N q) r ≠ [] → rowOf N r ≠ [] := by
    intro r hr hne
    rw [nil_len] at hne ⊢
    have := mkQ_ks (k := k) (q := q) (i := r / 2) (N := N) (by omega)
    unfold rowOf at hne ⊢
    split at hne
    · rename_i h2; rw [if_pos h2]; omega
    · rename_i h2; rw [if_neg h2]; omega
  intro r hr hne
  rw [mkQ_len] at hr
  obtain ⟨h1, h2⟩ := h r hr (key r hr hne)
  exact ⟨h1, fun r' hr' hne' => h2 r' hr' (key r' (by omega) hne')⟩
theorem IB.same {w w' : World} {B C : Nat} {v : Value} {l : List Int} {g : Nat} (h : IB w B C v l g) (hs : l ≠ [] → g < w.heap.size → w'.heap[g]? = w.heap[g]?) : IB w' B C v l g := by
  obtain ⟨a, c, e, hc, hr⟩ := h
  exact ⟨a, c, e, hc, fun hn => by obtain ⟨r1, r2, r3, cs, r4, r5⟩ := hr hn; exact ⟨r1, r2, r3, cs, by rw [hs hn (box_lt r4)]; exact r4, r5⟩⟩
/-- What marking a row of ints keeps. -/
theorem mark_keeps {l : List Int} {g : Nat} {w w' : World} (h : if l = [] then w' = w else Out g (g + 1) w w') : w.heap.size ≤ w'.heap.size ∧ ∀ j, j < w.heap.size → (l ≠ [] → j ≠ g) → w'.heap[j]? = w.heap[j]? := by
  by_cases hz : l = []
  · rw [if_pos hz] at h; subst h; exact ⟨Nat.le_refl _, fun _ _ _ => rfl⟩
  · rw [if_neg hz] at h; exact ⟨h.size, fun j hj hne => h.block j hj (by have := hne hz; omega)⟩
theorem mark_out {l : List Int} {g B C : Nat} {w w' : World} (h : if l = [] then w' = w else Out g (g + 1) w w') (hg : l ≠ [] → B ≤ g ∧ g < C) : Out B C w w' := by
  by_cases hz : l = []
  · rw [if_pos hz] at h; subst h; exact Out.refl _ _ _
  · rw [if_neg hz] at h; obtain ⟨h1, h2⟩ := hg hz; exact h.mono h1 h2
theorem IB.within {w : World} {B C : Nat} {v : Value} {l : List Int} {g : Nat} (h : IB w B C v l g) : l ≠ [] → B ≤ g ∧ g < C := by
  obtain ⟨a, c, e, hc, hr⟩ := h
  exact fun hn => by obtain ⟨-, r2, r3, -⟩ := hr hn; exact ⟨r2, r3⟩
/-- Two rows that are not empty lie apart. -/
theorem Dst.ne {b : Nat} {kb : Nat → Nat} {N : List Nd} (h : Dst b kb N) {r r' : Nat} (hr : r < 2 * N.length) (hr' : r' < 2 * N.length) (hne : r ≠ r') (h1 : rowOf N r ≠ []) (h2 : rowOf N r' ≠ []) : kb r ≠ kb r' := by
  by_cases hlt : r < r'
  · exact (h r' hr' h2).2 r hlt h1
  · exact fun e => (h r hr h1).2 r' (by omega) h2 e.symm
set_option maxHeartbeats 4000000 in
theorem markNodeS_any (B C : Nat) (a : Option Addr) (cap : Nat) (N : List Nd) (k : Nat) (w : World) (hk : k + N.length + bk N N.length ≤ 100000000) (h : TOwn w B C a N) :
    Calls Try.prog 62 #[.slice a N.length cap, .int .i64 k] w fun e w' => e = .returned (.int .i64 ((k + N.length + bk N N.length : Nat) : Int)) ∧ Out B C w w' ∧ TOwn w' B C a (mkT k N) := by
  by_cases hz : N = []
  · subst hz
    simp only [List.length_nil, bk]
    go_enter Try.func62, Try.ntmps62
    go_wp2
    refine wp_loop_rounds 1 ?_
    rw [rounds_succ]
    go_wp2
    go_ret
    exact ⟨by simp, Out.refl _ _ _, fun h => absurd rfl h⟩
  · obtain ⟨b, c0, kb, hb1, hb2, rfl, hB0, hsz, hnd, hdst⟩ := h hz
    have HD : Hid (Dst b kb N) := hdst
    clear h hdst
    go_enter Try.func62, Try.ntmps62
    go_wp2
    go_loopw [1, 5] (fun kk i wr => ∃ (q : Nat) (c : Array Value), q ≤ N.length ∧ kk = .int .i64 ((kAt N k q : Nat) : Int) ∧ i = .int .i64 q ∧ Hid (wr.heap[b]? = some (.cells c 73 (0, 0))) ∧ N.length * 3 ≤ c.size ∧ Hid (NdsIn wr B C c kb (mkQ k N q) N.length) ∧ Out B C w wr) (fun _ i _ => N.length - (intOf i).toNat)
    case atStart => exact ⟨0, c0, Nat.zero_le _, by simp [kAt, bk], rfl, hB0, hsz, by rw [mkQ_zero]; exact hnd, Out.refl _ _ _⟩
    case round =>
      obtain ⟨q, c, hq, rfl, rfl, hB, hcs, hst, ho⟩ := hrel
      by_cases hlt : q < N.length
      · obtain ⟨n0, v1, v2, n1, n2, m1, m2⟩ := hst.out q hlt
        rw [mkQ_at hlt, if_neg (Nat.lt_irrefl _)] at n0 m1 m2
        have hbk1 : bk N (q + 1) = bk N q + ((gn N q).ks.length + (gn N q).cs.length) := rfl
        have hmono : bk N (q + 1) ≤ bk N N.length := by
          have key : ∀ j, q + 1 + j ≤ N.length → bk N (q + 1) ≤ bk N (q + 1 + j) := by
            intro j
            induction j with
            | zero => intro _; exact Nat.le_refl _
            | succ j ih => intro hj; have := ih (by omega); show _ ≤ bk N (q + 1 + j) + _; omega
          have := key (N.length - (q + 1)) (by omega)
          rwa [show q + 1 + (N.length - (q + 1)) = N.length by omega] at this
        have hka : kAt N k q = k + q + bk N q := rfl
        have hkb : kAt N k (q + 1) = kAt N k q + 1 + (gn N q).ks.length + (gn N q).cs.length := by unfold kAt; omega
        have hK : Hid (kAt N k q + 1 + (gn N q).ks.length + (gn N q).cs.length ≤ 100000000) := by show _ ≤ _; unfold kAt; omega
        have hne1 : Hid ((gn N q).ks ≠ [] → kb (2 * q) ≠ b) := fun h => (HD.out (2 * q) (by omega) (by rw [row_even]; exact h)).1
        have hne2 : Hid ((gn N q).cs ≠ [] → kb (2 * q + 1) ≠ b) := fun h => (HD.out (2 * q + 1) (by omega) (by rw [row_odd]; exact h)).1
        have hne12 : Hid ((gn N q).ks ≠ [] → (gn N q).cs ≠ [] → kb (2 * q) ≠ kb (2 * q + 1)) := fun h h' => HD.out.ne (by omega) (by omega) (by omega) (by rw [row_even]; exact h) (by rw [row_odd]; exact h')
        have hoth : Hid (∀ i, i < N.length → i ≠ q → ((gn N i).ks ≠ [] → kb (2 * i) ≠ b ∧ ((gn N q).ks ≠ [] → kb (2 * i) ≠ kb (2 * q)) ∧ ((gn N q).cs ≠ [] → kb (2 * i) ≠ kb (2 * q + 1))) ∧ ((gn N i).cs ≠ [] → kb (2 * i + 1) ≠ b ∧ ((gn N q).ks ≠ [] → kb (2 * i + 1) ≠ kb (2 * q)) ∧ ((gn N q).cs ≠ [] → kb (2 * i + 1) ≠ kb (2 * q + 1)))) := fun i hi hiq =>
          ⟨fun h => ⟨(HD.out (2 * i) (by omega) (by rw [row_even]; exact h)).1, fun h' => HD.out.ne (by omega) (by omega) (by omega) (by rw [row_even]; exact h) (by rw [row_even]; exact h'), fun h' => HD.out.ne (by omega) (by omega) (by omega) (by rw [row_even]; exact h) (by rw [row_odd]; exact h')⟩,
           fun h => ⟨(HD.out (2 * i + 1) (by omega) (by rw [row_odd]; exact h)).1, fun h' => HD.out.ne (by omega) (by omega) (by omega) (by rw [row_odd]; exact h) (by rw [row_even]; exact h'), fun h' => HD.out.ne (by omega) (by omega) (by omega) (by rw [row_odd]; exact h) (by rw [row_odd]; exact h')⟩⟩
        have hmq : Hid (gn (mkQ k N (q + 1)) q = mkNd (kAt N k q) (gn N q)) := by show _ = _; rw [mkQ_at hlt, if_pos (by omega)]
        obtain ⟨ka, kc, rfl, -, -⟩ := id m1
        obtain ⟨ca, cc, rfl, -, -⟩ := id m2
        obtain ⟨nd, hnd⟩ : ∃ nd, gn N q = nd := ⟨_, rfl⟩
        rw [hnd] at n0 n1 n2 m1 m2 hkb hK hne1 hne2 hne12 hoth hmq
        have Hkb : Hid _ := hkb
        clear hnd hbk1 hmono hkb hka
        obtain ⟨lf, ks, cs⟩ := nd
        simp only at n0 n1 n2 m1 m2 Hkb hK hne1 hne2 hne12 hoth
        obtain ⟨Q, hQ⟩ : ∃ Q, kAt N k q = Q := ⟨_, rfl⟩
        rw [hQ] at Hkb hK hmq ⊢
        clear hQ
        have g0 : wr.cell? ⟨b, q * 3, none⟩ = some (.bool lf) := cell_of_block hB.out n0
        have f0 := free_of_block (i := q * 3) hB.out
        have er : ((Q : Int) % 3 == 0) = decide (Q % 3 = 0) := by
          rw [Bool.eq_iff_iff]
          simp
          omega
        obtain ⟨X, hX⟩ : ∃ X, decide (Q % 3 = 0) = X := ⟨_, rfl⟩
        rw [hX] at er
        have HX : Hid _ := hX
        have hQb : Q + 1 ≤ 100000000 := by have := hK.out; omega
        have cM1 := fun W h => markIntS_any B C (kb (2 * q)) ka kc ks (Q + 1) W (by have := hK.out; omega) h
        have cM2 := fun W h => markIntS_any B C (kb (2 * q + 1)) ca cc cs (Q + 1 + ks.length) W (by have := hK.out; omega) h
        rw [show (((Q + 1 : Nat)) : Int) = (Q : Int) + 1 by omega] at cM1
        generalize hK2 : ((Q + 1 + ks.length : Nat) : Int) = K2 at cM1 cM2
        generalize hK3 : ((Q + 1 + ks.length + cs.length : Nat) : Int) = K3 at cM2
        have HK3 : Hid _ := hK3
        clear hX hK2 hK3
        obtain ⟨W1, hW1⟩ : ∃ W1, wr.setCell ⟨b, q * 3, none⟩ (.bool X) = W1 := ⟨_, rfl⟩
        have o1 : Out b (b + 1) wr W1 := by subst hW1; exact out_setCell _ _ _ _
        have HB1 : Hid (W1.heap[b]? = some (.cells (c.setIfInBounds (q * 3) (.bool X)) 73 (0, 0))) := by subst hW1; exact block_set hB.out
        have c1 : W1.cell? ⟨b, q * 3 + 1, none⟩ = some (.slice ka ks.length kc) := cell_of_block HB1.out (by rw [set_ne (by omega)]; exact n1)
        have m1' : IB W1 B C (.slice ka ks.length kc) ks (kb (2 * q)) := m1.out o1 (fun h => by have := hne1.out h; omega)
        have m2' : IB W1 B C (.slice ca cs.length cc) cs (kb (2 * q + 1)) := m2.out o1 (fun h => by have := hne2.out h; omega)
        have hzz : Hid (wr.heap.size ≤ W1.heap.size) := o1.size
        have hbl : b < wr.heap.size := box_lt hB.out
        clear m1 m2
        go_wp2_with fail
        refine (cM1 _ m1').mono ?_
        rintro e w2 ⟨rfl, hm1, i1⟩
        obtain ⟨z2, kp2⟩ := mark_keeps hm1
        have oo2 : Out B C W1 w2 := mark_out hm1 m1'.within
        have HB2 : Hid (w2.heap[b]? = some (.cells (c.setIfInBounds (q * 3) (.bool X)) 73 (0, 0))) := by show _ = _; rw [kp2 b (Nat.lt_of_lt_of_le hbl hzz.out) (fun h e => hne1.out h e.symm)]; exact HB1.out
        have c2 : w2.cell? ⟨b, q * 3 + 2, none⟩ = some (.slice ca cs.length cc) := cell_of_block HB2.out (by rw [set_ne (by omega)]; exact n2)
        have m3 : IB w2 B C (.slice ca cs.length cc) cs (kb (2 * q + 1)) := m2'.same (fun h hl => kp2 _ hl (fun h' e => hne12.out h' h e.symm))
        have I1 : Hid (IB w2 B C (.slice ka ks.length kc) (mkl (Q + 1) ks.length) (kb (2 * q))) := i1
        have Hm1 : Hid _ := hm1
        clear c1 hW1 cM1 hm1 i1
        go_wp2_with fail
        refine (cM2 _ m3).mono ?_
        rintro e w3 ⟨rfl, hm2, i2⟩
        obtain ⟨z3, kp3⟩ := mark_keeps hm2
        have oo3 : Out B C w2 w3 := mark_out hm2 m3.within
        have HB3 : Hid (w3.heap[b]? = some (.cells (c.setIfInBounds (q * 3) (.bool X)) 73 (0, 0))) := by show _ = _; rw [kp3 b (Nat.lt_of_lt_of_le (Nat.lt_of_lt_of_le hbl hzz.out) z2) (fun h e => hne2.out h e.symm)]; exact HB2.out
        have I2 : Hid (IB w3 B C (.slice ca cs.length cc) (mkl (Q + 1 + ks.length) cs.length) (kb (2 * q + 1))) := i2
        clear c2 cM2 hm2 i2
        go_wp2_with fail
        go_roundw
        case rel =>
          refine ⟨q + 1, _, by omega, by rw [Hkb.out, HK3.out], by go_num, HB3, by simpa using hcs, ?_, ho.trans ((o1.mono hb1 hb2).trans (oo2.trans oo3))⟩
          intro i hi
          by_cases e : i = q
          · subst e
            rw [hmq.out]
            refine ⟨by rw [set_at (by omega)]; simp only [mkNd]; rw [HX.out], _, _, by rw [set_ne (by omega)]; exact n1, by rw [set_ne (by omega)]; exact n2, ?_, ?_⟩
            · simp only [mkNd]
              refine IB.same I1.out (fun h hl => kp3 _ hl (fun h' e => hne12.out ?_ h' e))
              intro h0
              rw [h0] at h
              exact h rfl
            · simp only [mkNd]
              exact I2.out
          · have heq : gn (mkQ k N (q + 1)) i = gn (mkQ k N q) i := by
              rw [mkQ_at hi, mkQ_at hi]
              by_cases h1 : i < q
              · rw [if_pos h1, if_pos (by omega)]
              · rw [if_neg h1, if_neg (by omega)]
            rw [heq]
            obtain ⟨p0, v, v', p1, p2, p3, p4⟩ := hst.out i hi
            have hl := mkQ_ks (k := k) (q := q) hi
            obtain ⟨ot1, ot2⟩ := hoth.out i hi e
            have step : ∀ g, g < wr.heap.size → g ≠ b → (ks ≠ [] → g ≠ kb (2 * q)) → (cs ≠ [] → g ≠ kb (2 * q + 1)) → w3.heap[g]? = wr.heap[g]? := fun g hg h1 h2 h3 => by
              rw [kp3 g (by have := hzz.out; omega) h3, kp2 g (by have := hzz.out; omega) h2, o1.block g hg (by omega)]
            refine ⟨by rw [set_ne (by omega)]; exact p0, v, v', by rw [set_ne (by omega)]; exact p1, by rw [set_ne (by omega)]; exact p2, p3.same (fun h hl' => ?_), p4.same (fun h hl' => ?_)⟩
            · have := ot1 (by rw [nil_len] at h ⊢; omega)
              exact step _ hl' this.1 this.2.1 this.2.2
            · have := ot2 (by rw [nil_len] at h ⊢; omega)
              exact step _ hl' this.1 this.2.1 this.2.2
        case measure => simp [intOf]; omega
      · have hqn : q = N.length := by omega
        go_wp2
        go_ret
        refine ⟨by rw [hqn]; simp [kAt], ho, fun _ => ⟨b, c, kb, hb1, hb2, rfl, hB.out, by rw [show (mkT k N).length = N.length from mkQ_len _ _ _]; exact hcs, ?_, HD.out.q⟩⟩
        have := hst.out
        rw [hqn] at this
        rw [show (mkT k N).length = N.length from mkQ_len _ _ _]
        exact this
end Go.Proofs.Ytggkpcgjmanelaa
