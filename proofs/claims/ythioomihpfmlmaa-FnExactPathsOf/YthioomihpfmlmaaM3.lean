import Derived.Test.YthioomihpfmlmaaL6
import Derived.Test.YthioomihpfmlmaaM2
/- What the laws do with inodes and names: mark and hold. -/
namespace Go.Proofs.Ythioomihpfmlmaa
open Go.ChangeShapes Go.WideShapes Go.ChangeAt Go.RowKit
set_option linter.unusedVariables false
open Hd

attribute [local go_sem] Oper.semAt_some

/-- The mark ahead of a bucket. -/
def kAt (L : List Ino) (k i : Nat) : Nat := k + 2 * i + 2 * nk3 L i
def md (k : Nat) : Bool := ((k : Int) % 3 == 0)
def mkB (k : Nat) (x : Ino) : Ino := ⟨md k, ((k + 1 : Nat) : Int), mkN (k + 2) x.ns.length⟩
/-- Marked buckets: the first so many, and all. -/
def mkQ (k : Nat) (L : List Ino) (q : Nat) : List Ino := (List.range L.length).map fun i => if i < q then mkB (kAt L k i) (gn L i) else gn L i
def mkT (k : Nat) (L : List Ino) : List Ino := mkQ k L L.length
theorem mkQ_len (k : Nat) (L : List Ino) (q : Nat) : (mkQ k L q).length = L.length := by simp [mkQ]
theorem mkQ_at {k : Nat} {L : List Ino} {q i : Nat} (h : i < L.length) : gn (mkQ k L q) i = if i < q then mkB (kAt L k i) (gn L i) else gn L i := by simp [mkQ, gn, h]
theorem mkQ_zero (k : Nat) (L : List Ino) : mkQ k L 0 = L := by
  apply List.ext_getElem
  · rw [mkQ_len]
  · intro i h1 h2
    have := mkQ_at (k := k) (q := 0) h2
    rw [gn_eq h1, gn_eq h2] at this
    simpa using this
theorem mkQ_ns {k : Nat} {L : List Ino} {q i : Nat} (h : i < L.length) : (gn (mkQ k L q) i).ns.length = (gn L i).ns.length := by
  rw [mkQ_at h]
  split <;> simp [mkB, mkN_len]
theorem nil_lenN {l : List Nm} : l ≠ [] ↔ l.length ≠ 0 := by cases l <;> simp
theorem DstI.q {b : Nat} {kb : Nat → Nat} {L : List Ino} {k q : Nat} (h : DstI b kb L) : DstI b kb (mkQ k L q) := by
  have key : ∀ r, r < L.length → (gn (mkQ k L q) r).ns ≠ [] → (gn L r).ns ≠ [] := by
    intro r hr hne
    rw [nil_lenN] at hne ⊢
    rwa [mkQ_ns hr] at hne
  intro r hr hne
  rw [mkQ_len] at hr
  obtain ⟨h1, h3⟩ := h r hr (key r hr hne)
  exact ⟨h1, fun r' hr' hne' => h3 r' hr' (key r' (by omega) hne')⟩
/-- What marking a row keeps. -/
theorem markN_keeps {l : List Nm} {g : Nat} {w w' : World} (h : if l = [] then w' = w else Out g (g + 1) w w') : w.heap.size ≤ w'.heap.size ∧ ∀ j, j < w.heap.size → (l ≠ [] → j ≠ g) → w'.heap[j]? = w.heap[j]? := by
  by_cases hz : l = []
  · rw [if_pos hz] at h; subst h; exact ⟨Nat.le_refl _, fun _ _ _ => rfl⟩
  · rw [if_neg hz] at h; exact ⟨h.size, fun j hj hne => h.block j hj (by have := hne hz; omega)⟩
theorem markN_out {l : List Nm} {g B C : Nat} {w w' : World} (h : if l = [] then w' = w else Out g (g + 1) w w') (hg : l ≠ [] → B ≤ g ∧ g < C) : Out B C w w' := by
  by_cases hz : l = []
  · rw [if_pos hz] at h; subst h; exact Out.refl _ _ _
  · rw [if_neg hz] at h; obtain ⟨h1, h2⟩ := hg hz; exact h.mono h1 h2
theorem NB.within {w : World} {B C : Nat} {v : Value} {l : List Nm} {g : Nat} (h : NB w B C v l g) : l ≠ [] → B ≤ g ∧ g < C := by
  obtain ⟨a, c, e, hc, hr⟩ := h
  exact fun hn => by obtain ⟨-, r2, r3, -⟩ := hr hn; exact ⟨r2, r3⟩
/-- Two rows that are not empty lie apart. -/
theorem DstI.ne {b : Nat} {kb : Nat → Nat} {L : List Ino} (h : DstI b kb L) {r r' : Nat} (hr : r < L.length) (hr' : r' < L.length) (hne : r ≠ r') (h1 : (gn L r).ns ≠ []) (h2 : (gn L r').ns ≠ []) : kb r ≠ kb r' := by
  by_cases hlt : r < r'
  · exact (h r' hr' h2).2 r hlt h1
  · exact fun e => (h r hr h1).2 r' (by omega) h2 e.symm
set_option maxHeartbeats 4000000 in
theorem markInodeS_any (B C : Nat) (a : Option Addr) (cap : Nat) (L : List Ino) (k : Nat) (w : World) (hk1 : 1 ≤ k) (hk : k + 2 * L.length + 2 * nk3 L L.length ≤ 100000000) (h : IOwn w B C a L) :
    Calls Try.prog 21 #[.slice a L.length cap, .int .i64 k] w fun e w' => e = .returned (.int .i64 ((k + 2 * L.length + 2 * nk3 L L.length : Nat) : Int)) ∧ Out B C w w' ∧ IOwn w' B C a (mkT k L) := by
  by_cases hz : L = []
  · subst hz
    simp only [List.length_nil, nk3]
    go_enter Try.func21, Try.ntmps21
    go_wp2
    refine wp_loop_rounds 1 ?_
    rw [rounds_succ]
    go_wp2
    go_ret
    exact ⟨rfl, Out.refl _ _ _, fun h => absurd (by simp [mkT, mkQ]) h⟩
  · obtain ⟨b, c0, kb, hb1, hb2, rfl, hB0, hsz, hnd, hD⟩ := h hz
    have HB0 : Hid (w.heap[b]? = some (.cells c0 43 (0, 0))) := hB0
    have HND : Hid (InoIn w B C c0 kb L L.length) := hnd
    have HD : Hid (DstI b kb L) := hD
    clear hB0 hnd hD h hz
    go_enter Try.func21, Try.ntmps21
    go_wp2
    go_loopw [1, 5] (fun kk i wr => ∃ (q : Nat) (c : Array Value), q ≤ L.length ∧ kk = .int .i64 ((kAt L k q : Nat) : Int) ∧ i = .int .i64 q ∧ Hid (wr.heap[b]? = some (.cells c 43 (0, 0))) ∧ L.length * 3 ≤ c.size ∧ Hid (InoIn wr B C c kb (mkQ k L q) L.length) ∧ Out B C w wr) (fun _ i _ => L.length - (intOf i).toNat)
    case atStart => exact ⟨0, c0, Nat.zero_le _, by simp [kAt, nk3], rfl, HB0, hsz, by rw [mkQ_zero]; exact HND, Out.refl _ _ _⟩
    case round =>
      obtain ⟨q, c, hq, rfl, rfl, hB, hcs, hst, ho⟩ := hrel
      by_cases hlt : q < L.length
      · obtain ⟨n0, n0a, v1, n1, m1⟩ := hst.out q hlt
        rw [mkQ_at hlt, if_neg (Nat.lt_irrefl _)] at n0 n0a m1
        have hbk1 : nk3 L (q + 1) = nk3 L q + (gn L q).ns.length := rfl
        have hmono := nk3_mono hlt
        have hka : kAt L k q = k + 2 * q + 2 * nk3 L q := rfl
        have hkb : kAt L k (q + 1) = kAt L k q + 2 + 2 * (gn L q).ns.length := by unfold kAt; omega
        have hK : Hid (kAt L k q + 2 + 2 * (gn L q).ns.length ≤ 100000000) := by show _ ≤ _; unfold kAt; omega
        have hne1 : Hid ((gn L q).ns ≠ [] → kb q ≠ b) := fun h => (HD.out q hlt h).1
        have hoth : Hid (∀ i, i < L.length → i ≠ q → (gn L i).ns ≠ [] → kb i ≠ b ∧ ((gn L q).ns ≠ [] → kb i ≠ kb q)) := fun i hi hiq h => ⟨(HD.out i hi h).1, fun h' => HD.out.ne hi hlt hiq h h'⟩
        have hmq : Hid (gn (mkQ k L (q + 1)) q = mkB (kAt L k q) (gn L q)) := by show _ = _; rw [mkQ_at hlt, if_pos (by omega)]
        obtain ⟨ka, kc, rfl, -, -⟩ := id m1
        obtain ⟨nd, hnd⟩ : ∃ nd, gn L q = nd := ⟨_, rfl⟩
        rw [hnd] at n0 n0a n1 m1 hkb hK hne1 hoth hmq
        have Hkb : Hid _ := hkb
        clear hnd hbk1 hmono hkb hka
        obtain ⟨dp, lk, ns⟩ := nd
        simp only at n0 n0a n1 m1 Hkb hK hne1 hoth
        obtain ⟨Q, hQ⟩ : ∃ Q, kAt L k q = Q := ⟨_, rfl⟩
        have hQ1 : 1 ≤ Q := by rw [← hQ]; unfold kAt; omega
        rw [hQ] at Hkb hK hmq ⊢
        clear hQ
        have g0 : wr.cell? ⟨b, q * 3, none⟩ = some (.bool dp) := cell_of_block hB.out n0
        have f0 := free_of_block (i := q * 3) hB.out
        have hQb : Q + 2 ≤ 100000000 := by have := hK.out; omega
        have cM1 := fun W h => markNameS_any B C (kb q) ka kc ns (Q + 2) W (by omega) (by have := hK.out; omega) h
        have w1 : IntKind.i64.wrap ((Q : Int) + 1) = ((Q + 1 : Nat) : Int) := by rw [wrapI (by omega) (by omega)]; omega
        have w2 : IntKind.i64.wrap (((Q + 1 : Nat) : Int) + 1) = ((Q + 2 : Nat) : Int) := by rw [wrapI (by omega) (by omega)]; omega
        have hmd : ((Q : Int) % 3 == 0) = md Q := rfl
        generalize hMD : md Q = MD at hmd
        have HMD : Hid _ := hMD.symm
        generalize hQ1 : ((Q + 1 : Nat) : Int) = Q1 at w1 w2
        have HQ1 : Hid _ := hQ1.symm
        clear hMD hQ1
        generalize ((Q + 2 : Nat) : Int) = Q2 at w2 cM1
        generalize hK2 : ((Q + 2 + 2 * ns.length : Nat) : Int) = K2 at cM1
        have HK2 : Hid _ := hK2
        clear hK2
        obtain ⟨Wa, hWa⟩ : ∃ Wa, wr.setCell ⟨b, q * 3, none⟩ (.bool MD) = Wa := ⟨_, rfl⟩
        have HBa : Wa.heap[b]? = some (.cells (c.setIfInBounds (q * 3) (.bool MD)) 43 (0, 0)) := by subst hWa; exact block_set hB.out
        have ga : Wa.cell? ⟨b, q * 3 + 1, none⟩ = some (.int .i64 lk) := cell_of_block HBa (by rw [set_ne (by omega)]; exact n0a)
        have fa := free_of_block (i := q * 3 + 1) HBa
        obtain ⟨W1, hW1⟩ : ∃ W1, Wa.setCell ⟨b, q * 3 + 1, none⟩ (.int .i64 Q1) = W1 := ⟨_, rfl⟩
        have o1 : Out b (b + 1) wr W1 := by subst hW1 hWa; exact ((Out.refl _ _ _).setCell (Nat.le_refl _) (Nat.lt_succ_self _) _ _).setCell (Nat.le_refl _) (Nat.lt_succ_self _) _ _
        have HB1 : Hid (W1.heap[b]? = some (.cells ((c.setIfInBounds (q * 3) (.bool MD)).setIfInBounds (q * 3 + 1) (.int .i64 Q1)) 43 (0, 0))) := by subst hW1; exact block_set HBa
        have c1 : W1.cell? ⟨b, q * 3 + 2, none⟩ = some (.slice ka ns.length kc) := cell_of_block HB1.out (by rw [set_ne (by omega), set_ne (by omega)]; exact n1)
        have m1' : NB W1 B C (.slice ka ns.length kc) ns (kb q) := m1.out o1 (fun h => by have := hne1.out h; omega)
        clear HBa
        have hzz : Hid (wr.heap.size ≤ W1.heap.size) := o1.size
        have hbl : b < wr.heap.size := box_lt hB.out
        have hz0 : Hid (w.heap.size ≤ wr.heap.size) := ho.size
        clear m1
        go_wp2_with fail
        refine (cM1 _ m1').mono ?_
        rintro e w2 ⟨rfl, hm1, i1⟩
        obtain ⟨z2, kp2⟩ := markN_keeps hm1
        have oo2 : Out B C W1 w2 := markN_out hm1 m1'.within
        have HB2 : Hid (w2.heap[b]? = some (.cells ((c.setIfInBounds (q * 3) (.bool MD)).setIfInBounds (q * 3 + 1) (.int .i64 Q1)) 43 (0, 0))) := by show _ = _; rw [kp2 b (Nat.lt_of_lt_of_le hbl hzz.out) (fun h e => hne1.out h e.symm)]; exact HB1.out
        have I1 : Hid (NB w2 B C (.slice ka ns.length kc) (mkN (Q + 2) ns.length) (kb q)) := i1
        clear c1 hW1 hWa ga fa cM1 hm1 i1
        go_wp2_with fail
        go_roundw
        case rel =>
          refine ⟨q + 1, _, by omega, by rw [Hkb.out, HK2.out], by go_num, HB2, by simpa using hcs, ?_, ho.trans ((o1.mono hb1 hb2).trans oo2)⟩
          · intro i hi
            by_cases e : i = q
            · subst e
              rw [hmq.out]
              refine ⟨by rw [set_ne (by omega), set_at (by omega), HMD.out]; rfl, by rw [set_at (by simp; omega), HQ1.out]; rfl, _, by rw [set_ne (by omega), set_ne (by omega)]; exact n1, ?_⟩
              simp only [mkB]
              exact I1.out
            · have heq : gn (mkQ k L (q + 1)) i = gn (mkQ k L q) i := by
                rw [mkQ_at hi, mkQ_at hi]
                by_cases h1 : i < q
                · rw [if_pos h1, if_pos (by omega)]
                · rw [if_neg h1, if_neg (by omega)]
              rw [heq]
              obtain ⟨p0, p0a, v, p1, p3⟩ := hst.out i hi
              have hl := mkQ_ns (k := k) (q := q) hi
              refine ⟨by rw [set_ne (by omega), set_ne (by omega)]; exact p0, by rw [set_ne (by omega), set_ne (by omega)]; exact p0a, v, by rw [set_ne (by omega), set_ne (by omega)]; exact p1, p3.same (fun h hl' => ?_)⟩
              have ot := hoth.out i hi e (by rw [nil_lenN] at h ⊢; omega)
              rw [kp2 _ (Nat.lt_of_lt_of_le hl' hzz.out) (fun h' => ot.2 h'), o1.block _ hl' (by have := ot.1; omega)]
        case measure => simp [intOf]; omega
      · have hqn : q = L.length := by omega
        go_wp2
        go_ret
        refine ⟨by rw [hqn]; simp [kAt], ho, fun _ => ⟨b, c, kb, hb1, hb2, rfl, hB.out, by rw [show (mkT k L).length = L.length from mkQ_len _ _ _]; exact hcs, ?_, HD.out.q⟩⟩
        have := hst.out
        rw [hqn] at this
        rw [show (mkT k L).length = L.length from mkQ_len _ _ _]
        exact this
set_option maxHeartbeats 4000000 in
theorem heldInodeS_any (a : Option Addr) (cap : Nat) (L : List Ino) (k : Nat) (w : World) (hk1 : 1 ≤ k) (hk : k + 2 * L.length + 2 * nk3 L L.length ≤ 100000000) (h : Inos w a (mkT k L)) :
    Calls Try.prog 22 #[.slice a L.length cap, .int .i64 k] w fun e w' => e = .returned (.int .i64 ((k + 2 * L.length + 2 * nk3 L L.length : Nat) : Int)) ∧ Below w.heap.size w w' := by
  unfold Inos at h
  rw [show (mkT k L).length = L.length from mkQ_len _ _ _] at h
  have Hc : Hid _ := h
  clear h
  go_enter Try.func22, Try.ntmps22
  go_wp2
  go_loopw [1, 5] (fun kk i wr => ∃ (q : Nat), q ≤ L.length ∧ kk = .int .i64 ((kAt L k q : Nat) : Int) ∧ i = .int .i64 q ∧ Below w.heap.size w wr) (fun _ i _ => L.length - (intOf i).toNat)
  case atStart => exact ⟨0, Nat.zero_le _, by simp [kAt, nk3], rfl, Below.refl _ _⟩
  case round =>
    obtain ⟨q, hq, rfl, rfl, hb⟩ := hrel
    by_cases hlt : q < L.length
    · obtain ⟨b, off, rfl, hcell⟩ := Hc.out (by omega)
      have hnd0 := (hcell q hlt).below hb
      have hbk1 : nk3 L (q + 1) = nk3 L q + (gn L q).ns.length := rfl
      have hmono := nk3_mono hlt
      have hka : kAt L k q = k + 2 * q + 2 * nk3 L q := rfl
      have hkb : kAt L k (q + 1) = kAt L k q + 2 + 2 * (gn L q).ns.length := by unfold kAt; omega
      have hK : kAt L k q + 2 + 2 * (gn L q).ns.length ≤ 100000000 := by unfold kAt; omega
      rw [show gn (mkT k L) q = mkB (kAt L k q) (gn L q) by unfold mkT; rw [mkQ_at hlt, if_pos hlt]] at hnd0
      obtain ⟨nd, hnd⟩ : ∃ nd, gn L q = nd := ⟨_, rfl⟩
      rw [hnd] at hnd0 hkb hK
      have Hkb : Hid _ := hkb
      clear hnd hbk1 hmono hkb hka hcell Hc
      obtain ⟨dp, lk, ns⟩ := nd
      obtain ⟨ka, kc, g0, g0a, g1, i1, -⟩ := hnd0
      simp only [mkB, mkN_len] at g0 g0a g1 i1
      simp only at Hkb hK
      obtain ⟨Q, hQ⟩ : ∃ Q, kAt L k q = Q := ⟨_, rfl⟩
      have hQ1 : 1 ≤ Q := by rw [← hQ]; unfold kAt; omega
      rw [hQ] at Hkb hK g0 g0a i1 ⊢
      clear hQ
      have cM1 := fun W h => heldNameS_any ka kc ns.length (Q + 2) W (by omega) (by omega) h
      have hQb : Q + 2 ≤ 100000000 := by omega
      have Hi1 : Hid (Nms wr ka (mkN (Q + 2) ns.length)) := i1
      clear i1
      have w1 : IntKind.i64.wrap ((Q : Int) + 1) = ((Q + 1 : Nat) : Int) := by rw [wrapI (by omega) (by omega)]; omega
      have w2 : IntKind.i64.wrap (((Q + 1 : Nat) : Int) + 1) = ((Q + 2 : Nat) : Int) := by rw [wrapI (by omega) (by omega)]; omega
      have hmd : ((Q : Int) % 3 == 0) = md Q := rfl
      have hMM : (md Q != md Q) = false := by cases md Q <;> rfl
      generalize md Q = MD at hmd g0 hMM
      have eQ1 : (((Q + 1 : Nat) : Int) != ((Q + 1 : Nat) : Int)) = false := by simp
      generalize ((Q + 1 : Nat) : Int) = Q1 at w1 w2 g0a eQ1
      generalize ((Q + 2 : Nat) : Int) = Q2 at w2 cM1
      have hK20 : 0 ≤ ((Q + 2 + 2 * ns.length : Nat) : Int) := by omega
      generalize hK2 : ((Q + 2 + 2 * ns.length : Nat) : Int) = K2 at cM1 hK20
      have HK2 : Hid _ := hK2
      have HK : Hid _ := hK
      clear hK2 hK
      have n2 : decide (K2 < 0) = false := by simp; omega
      have eQ : ((Q : Int) != (Q : Int)) = false := by simp
      go_wp2_with fail
      refine (cM1 _ Hi1.out).mono ?_
      rintro e w2 ⟨rfl, b2⟩
      go_wp2_with fail
      go_roundw
      case rel => exact ⟨q + 1, by omega, by rw [Hkb.out, HK2.out], by go_num, Below.comp hb b2⟩
      case measure => simp [intOf]; omega
    · have hqn : q = L.length := by omega
      go_wp2
      go_ret
      exact ⟨by rw [hqn]; simp [kAt], hb⟩
/-- Where marking names ends. -/
def kT (k : Nat) (T : List Ino) : Nat := k + 2 * T.length + 2 * nk3 T T.length
theorem mkT_len (k : Nat) (T : List Ino) : (mkT k T).length = T.length := mkQ_len _ _ _
theorem markNames_any (B C : Nat) (v : Value) (T : List Ino) (k : Nat) (w : World) (hk1 : 1 ≤ k) (hk : kT k T ≤ 100000000) (h : NOwn w B C v T) :
    Calls Try.prog 9 #[v, .int .i64 k] w fun e w' => e = .returned (.int .i64 ((kT k T : Nat) : Int)) ∧ (∃ W, Below w.heap.size w W ∧ Out B C W w') ∧ NOwn w' B C v (mkT k T) := by
  obtain ⟨a, c, rfl, hc, hI⟩ := h
  have hml := mkT_len k T
  unfold kT at *
  have c1 := fun W h => markInodeS_any B C a c T k W hk1 hk h
  obtain ⟨W0, hW0⟩ : ∃ W0, w.alloc (.cells #[.slice a T.length c] 24) = W0 := ⟨_, rfl⟩
  have q0 : Below w.heap.size w W0 := by subst hW0; exact below_alloc _ _
  obtain ⟨x0, -⟩ := box1_cells (show W0.heap[w.heap.size]? = some (.cells #[.slice a T.length c] 24 (0, 0)) by subst hW0; exact al1 _ _)
  have HI0 : Hid (IOwn W0 B C a T) := hI.below q0
  have HML : Hid _ := hml
  clear hI hml
  unfold tv
  generalize ((k + 2 * T.length + 2 * nk3 T T.length : Nat) : Int) = K at *
  generalize hn : T.length = n at *
  have Hn : Hid _ := hn
  clear hn
  go_enter Try.func9, Try.ntmps9
  go_wp2_with fail
  refine (c1 _ HI0.out).mono ?_
  rintro e w1 ⟨rfl, o1, i1⟩
  have I1 : Hid (IOwn w1 B C a (mkT k T)) := i1
  clear i1
  go_wp2_with fail
  go_ret
  exact ⟨rfl, ⟨W0, q0, o1⟩, a, c, by rw [HML.out], by rw [HML.out]; exact hc, I1.out⟩
theorem heldNames_any (v : Value) (T : List Ino) (k : Nat) (w : World) (hk1 : 1 ≤ k) (hk : kT k T ≤ 100000000) (h : NamAt w v (mkT k T)) :
    Calls Try.prog 10 #[v, .int .i64 k] w fun e w' => e = .returned (.int .i64 ((kT k T : Nat) : Int)) ∧ Below w.heap.size w w' := by
  obtain ⟨a, c, rfl, hc, hI⟩ := h
  rw [mkT_len]
  unfold kT at *
  have c1 := fun W h => heldInodeS_any a c T k W hk1 hk h
  obtain ⟨W0, hW0⟩ : ∃ W0, w.alloc (.cells #[.slice a T.length c] 24) = W0 := ⟨_, rfl⟩
  have q0 : Below w.heap.size w W0 := by subst hW0; exact below_alloc _ _
  obtain ⟨x0, -⟩ := box1_cells (show W0.heap[w.heap.size]? = some (.cells #[.slice a T.length c] 24 (0, 0)) by subst hW0; exact al1 _ _)
  have HI0 : Hid (Inos W0 a (mkT k T)) := hI.below q0
  clear hI hc
  unfold tv
  have p2 : 0 ≤ ((k + 2 * T.length + 2 * nk3 T T.length : Nat) : Int) := by omega
  generalize ((k + 2 * T.length + 2 * nk3 T T.length : Nat) : Int) = K at *
  have n2 : decide (K < 0) = false := by simp; omega
  generalize hn : T.length = n at *
  have Hn : Hid _ := hn
  clear hn
  go_enter Try.func10, Try.ntmps10
  go_wp2_with fail
  refine (c1 _ HI0.out).mono ?_
  rintro e w1 ⟨rfl, b1⟩
  go_wp2_with fail
  go_ret
  exact ⟨rfl, Below.comp q0 b1⟩
end Go.Proofs.Ythioomihpfmlmaa
