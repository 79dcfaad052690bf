import Derived.Test.YtienhdlhlddemaaMC3
/- A cow whose cells' kids lie in the arrays of its forks, and its marks. -/
namespace Go.Proofs.Ytienhdlhlddemaa
namespace Fk
open Go.ChangeShapes Go.WideShapes Go.ChangeAt Go.RowKit
set_option linter.unusedVariables false
open Hd

attribute [local go_sem] Oper.semAt_some

/-- A slice of ints that lies in a block of its own, between two marks. -/
def IB (w : World) (B C : Nat) (v : Value) (l : List Int) (g : Nat) : Prop :=
  ∃ a c, v = .slice a l.length c ∧ l.length ≤ c ∧ (l ≠ [] → a = some ⟨g, 0, none⟩ ∧ B ≤ g ∧ g < C ∧ ∃ cs, w.heap[g]? = some (.cells cs 74 (0, 0)) ∧ intsN l.length l cs)
theorem IB.mono {w : World} {B C B' C' : Nat} {v : Value} {l : List Int} {g : Nat} (h : IB w B C v l g) (h1 : B' ≤ B) (h2 : C ≤ C') : IB w B' C' v l g := by
  obtain ⟨a, c, e, hc, hr⟩ := h
  exact ⟨a, c, e, hc, fun hn => by obtain ⟨r1, r2, r3, r4⟩ := hr hn; exact ⟨r1, by omega, by omega, r4⟩⟩
theorem IB.out {w w' : World} {B C B' C' : Nat} {v : Value} {l : List Int} {g : Nat} (h : IB w B C v l g) (ho : Out B' C' w w') (hd : l ≠ [] → g < B' ∨ C' ≤ g) : IB w' B C v l g := by
  obtain ⟨a, c, e, hc, hr⟩ := h
  exact ⟨a, c, e, hc, fun hn => by obtain ⟨r1, r2, r3, cs, r4, r5⟩ := hr hn; exact ⟨r1, r2, r3, cs, box_out r4 ho (hd hn), r5⟩⟩
theorem IB.below {w w' : World} {B C : Nat} {v : Value} {l : List Int} {g : Nat} (h : IB w B C v l g) (hb : Below w.heap.size w w') : IB w' B C v l g := by
  obtain ⟨a, c, e, hc, hr⟩ := h
  exact ⟨a, c, e, hc, fun hn => by obtain ⟨r1, r2, r3, cs, r4, r5⟩ := hr hn; exact ⟨r1, r2, r3, cs, box_on r4 hb, r5⟩⟩
theorem IB.ints {w : World} {B C : Nat} {v : Value} {l : List Int} {g : Nat} (h : IB w B C v l g) : ∃ a c, v = .slice a l.length c ∧ l.length ≤ c ∧ Ints w a l := by
  obtain ⟨a, c, e, hc, hr⟩ := h
  refine ⟨a, c, e, hc, fun hn => ?_⟩
  obtain ⟨r1, r2, r3, cs, r4, r5⟩ := hr (fun h => hn (by rw [h]; rfl))
  exact ⟨g, 0, r1, fun i hi => by rw [Nat.zero_add]; exact cell_of_block r4 (r5 i hi)⟩
theorem IB.nil {w : World} {B C g : Nat} : IB w B C (.slice none 0 0) [] g := ⟨none, 0, rfl, Nat.le_refl _, fun h => absurd rfl h⟩
theorem IB.out' {w w' : World} {B C B' C' : Nat} {v : Value} {l : List Int} {g : Nat} (h : IB w B C v l g) (ho : Out B' C' w w') (hd : C ≤ B' ∨ C' ≤ B) : IB w' B C v l g := by
  obtain ⟨a, c, e, hc, hr⟩ := h
  exact ⟨a, c, e, hc, fun hn => by obtain ⟨r1, r2, r3, cs, r4, r5⟩ := hr hn; exact ⟨r1, r2, r3, cs, box_out r4 ho (by omega), r5⟩⟩
theorem IB.same {w w' : World} {B C : Nat} {v : Value} {l : List Int} {g : Nat} (h : IB w B C v l g) (hs : l ≠ [] → g < w.heap.size → w'.heap[g]? = w.heap[g]?) : IB w' B C v l g := by
  obtain ⟨a, c, e, hc, hr⟩ := h
  exact ⟨a, c, e, hc, fun hn => by obtain ⟨r1, r2, r3, cs, r4, r5⟩ := hr hn; exact ⟨r1, r2, r3, cs, by rw [hs hn (box_lt r4)]; exact r4, r5⟩⟩
set_option maxHeartbeats 1000000 in
theorem markIntS_any (B C g : Nat) (a : Option Addr) (cap : Nat) (l : List Int) (k : Nat) (w : World) (hk : k + l.length ≤ 100000000) (h : IB w B C (.slice a l.length cap) l g) :
    Calls Try.prog 26 #[.slice a l.length cap, .int .i64 k] w fun e w' => e = .returned (.int .i64 ((k + l.length : Nat) : Int)) ∧ (if l = [] then w' = w else Out g (g + 1) w w') ∧ IB w' B C (.slice a l.length cap) (mkl k l.length) g := by
  obtain ⟨a1, c1, e1, hc1, hr⟩ := id h
  simp only [Value.slice.injEq, true_and] at e1
  obtain ⟨rfl, rfl⟩ := e1
  by_cases hz : l = []
  · subst hz
    simp only [if_true, List.length_nil]
    go_enter Try.func26, Try.ntmps26
    go_wp2
    refine wp_loop_rounds 1 ?_
    rw [rounds_succ]
    go_wp2
    go_ret
    exact ⟨rfl, rfl, h⟩
  · simp only [hz, if_false]
    obtain ⟨rfl, hg1, hg2, c0, hB0, hS0⟩ := hr hz
    obtain ⟨n, hn⟩ : ∃ n, l.length = n := ⟨_, rfl⟩
    have hn0 : n ≠ 0 := by rw [← hn]; intro h0; exact hz (List.eq_nil_of_length_eq_zero h0)
    have hsz : n ≤ c0.size := by
      have := (Array.getElem?_eq_some_iff.1 (hS0 (n - 1) (by omega))).1
      omega
    rw [hn] at hk hc1 ⊢
    clear hn hr h hS0
    have HB0 : Hid _ := hB0
    clear hB0
    go_enter Try.func26, Try.ntmps26
    go_wp2
    go_loopw [1, 5] (fun kk i wr => ∃ (q : Nat) (c : Array Value), q ≤ n ∧ kk = .int .i64 ((k + q : Nat) : Int) ∧ i = .int .i64 q ∧ Hid (wr.heap[g]? = some (.cells c 74 (0, 0))) ∧ n ≤ c.size ∧ intsN q (mkl k n) c ∧ Out g (g + 1) w wr) (fun _ i _ => n - (intOf i).toNat)
    case atStart => exact ⟨0, c0, Nat.zero_le _, rfl, rfl, HB0, hsz, fun i hi => absurd hi (by omega), Out.refl _ _ _⟩
    case round =>
      obtain ⟨q, c, hq, rfl, rfl, hB, hcs, hst, ho⟩ := hrel
      by_cases hlt : q < n
      · have g0 : wr.cell? ⟨g, q, none⟩ = some c[q] := cell_of_block hB.out (by simp)
        have f0 := free_of_block (i := q) hB.out
        have e1 : IntKind.i64.wrap (((k + q : Nat) : Int) + 1) = ((k + (q + 1) : Nat) : Int) := by rw [wrapI (by omega) (by omega)]; omega
        generalize hk0 : ((k + q : Nat) : Int) = K0 at *
        generalize hk1 : ((k + (q + 1) : Nat) : Int) = K1 at *
        have H0 : Hid _ := hk0
        have H1 : Hid _ := hk1
        clear hk0 hk1
        go_wp2
        go_roundw
        case rel =>
          refine ⟨q + 1, _, by omega, by rw [H1.out], by go_num, block_set hB.out, by simpa using hcs, ?_, ho.setCell (Nat.le_refl _) (Nat.lt_succ_self _) _ _⟩
          intro i hi
          by_cases e : i = q
          · subst e; rw [set_at (by omega), mkl_at hlt, H0.out]
          · rw [set_ne e]; exact hst i (by omega)
        case measure => simp [intOf]; omega
      · have hqn : q = n := by omega
        subst hqn
        go_wp2
        go_ret
        refine ⟨rfl, ho, some ⟨g, 0, none⟩, cap, by rw [mkl_len], by rw [mkl_len]; exact hc1, fun _ => ⟨rfl, hg1, hg2, c, hB.out, by rw [mkl_len]; exact hst⟩⟩
/-- The first cells lie in a row, their kids in blocks of their own. -/
def CeIn (w : World) (B C : Nat) (c : Array Value) (kb : Nat → Nat) (L : List Ce) (k : Nat) : Prop :=
  ∀ i, i < k → c[i * 3]? = some (.int .i64 (gc L i).ct) ∧ c[i * 3 + 1]? = some (.string (gc L i).lf) ∧ ∃ v, c[i * 3 + 2]? = some v ∧ IB w B C v (gc L i).kd (kb i)
/-- A row of cells whose memory lies between two marks, no two rows in one block. -/
def COwn (w : World) (B C : Nat) (a : Option Addr) (L : List Ce) : Prop :=
  L ≠ [] → ∃ b c kb, B ≤ b ∧ b < C ∧ a = some ⟨b, 0, none⟩ ∧ w.heap[b]? = some (.cells c 42 (0, 0)) ∧ L.length * 3 ≤ c.size ∧ CeIn w B C c kb L L.length ∧ DstC b kb L
theorem CeIn.below {w w' : World} {B C : Nat} {c : Array Value} {kb : Nat → Nat} {L : List Ce} {k : Nat} (h : CeIn w B C c kb L k) (hb : Below w.heap.size w w') : CeIn w' B C c kb L k := by
  intro i hi
  obtain ⟨h0, h0a, v, h1, h3⟩ := h i hi
  exact ⟨h0, h0a, v, h1, h3.below hb⟩
theorem CeIn.mono {w : World} {B C B' C' : Nat} {c : Array Value} {kb : Nat → Nat} {L : List Ce} {k : Nat} (h : CeIn w B C c kb L k) (h1 : B' ≤ B) (h2 : C ≤ C') : CeIn w B' C' c kb L k := by
  intro i hi
  obtain ⟨h0, h0a, v, k1, h3⟩ := h i hi
  exact ⟨h0, h0a, v, k1, h3.mono h1 h2⟩
theorem COwn.below {w w' : World} {B C : Nat} {a : Option Addr} {L : List Ce} (h : COwn w B C a L) (hb : Below w.heap.size w w') : COwn w' B C a L := by
  intro hn
  obtain ⟨b, c, kb, h1, h2, h3, h4, h5, h6, h7⟩ := h hn
  exact ⟨b, c, kb, h1, h2, h3, box_on h4 hb, h5, h6.below hb, h7⟩
theorem COwn.mono {w : World} {B C B' C' : Nat} {a : Option Addr} {L : List Ce} (h : COwn w B C a L) (k1 : B' ≤ B) (k2 : C ≤ C') : COwn w B' C' a L := by
  intro hn
  obtain ⟨b, c, kb, h1, h2, h3, h4, h5, h6, h7⟩ := h hn
  exact ⟨b, c, kb, by omega, by omega, h3, h4, h5, h6.mono k1 k2, h7⟩
theorem COwn.out {w w' : World} {B C B' C' : Nat} {a : Option Addr} {L : List Ce} (h : COwn w B C a L) (ho : Out B' C' w w') (hd : C ≤ B' ∨ C' ≤ B) : COwn w' B C a L := by
  intro hn
  obtain ⟨b, c, kb, h1, h2, h3, h4, h5, h6, h7⟩ := h hn
  refine ⟨b, c, kb, h1, h2, h3, box_out h4 ho (by omega), h5, fun i hi => ?_, h7⟩
  obtain ⟨h0, h0a, v, k1, h3⟩ := h6 i hi
  exact ⟨h0, h0a, v, k1, h3.out' ho hd⟩
theorem CeIn.ino {w : World} {B C b : Nat} {c : Array Value} {kb : Nat → Nat} {L : List Ce} {k i : Nat} (h : CeIn w B C c kb L k) (hi : i < k) (hb : w.heap[b]? = some (.cells c 42 (0, 0))) : CeAt w b (i * 3) (gc L i) := by
  obtain ⟨h0, h0a, v, h1, h3⟩ := h i hi
  obtain ⟨a, cp, rfl, e1, e2⟩ := h3.ints
  exact ⟨a, cp, cell_of_block hb h0, cell_of_block hb h0a, cell_of_block hb h1, e2, e1⟩
theorem COwn.inos {w : World} {B C : Nat} {a : Option Addr} {L : List Ce} (h : COwn w B C a L) : Ces w a L := by
  intro hn
  obtain ⟨b, c, kb, h1, h2, h3, h4, h5, h6, h7⟩ := h (fun e => hn (by rw [e]; rfl))
  exact ⟨b, 0, h3, fun i hi => by rw [Nat.zero_add]; exact h6.ino hi h4⟩
theorem COwn.nil {w : World} {B C : Nat} {a : Option Addr} : COwn w B C a [] := fun h => absurd rfl h

theorem CeIn.put {w W : World} {B s C C' : Nat} {c : Array Value} {kb : Nat → Nat} {L : List Ce} {k g : Nat} {x : Value} (h : CeIn w B C c kb L k) (ho : Out s (s + 1) w W) (hC : C ≤ C') (hcs : k * 3 + 3 ≤ c.size) (hkb : ∀ r, r < k → kb r ≠ s)
    (m1 : IB w B C' x (gc L k).kd g) (hg : g ≠ s) :
    CeIn W B C' (((c.setIfInBounds (k * 3) (.int .i64 (gc L k).ct)).setIfInBounds (k * 3 + 1) (.string (gc L k).lf)).setIfInBounds (k * 3 + 2) x) (kbPut kb k g) L (k + 1) := by
  intro i hi
  by_cases e : i = k
  · subst e
    rw [kbPut_0]
    refine ⟨?_, ?_, x, ?_, m1.out ho (fun _ => by omega)⟩
    · rw [set_ne (by omega), set_ne (by omega), set_at (by omega)]
    · rw [set_ne (by omega), set_at (by simp; omega)]
    · rw [set_at (by simp; omega)]
  · obtain ⟨h0, h0a, v, h1, h3⟩ := h i (by omega)
    rw [kbPut_ne _ _ _ (by omega)]
    refine ⟨?_, ?_, v, ?_, (h3.mono (Nat.le_refl _) hC).out ho (fun _ => by have := hkb i (by omega); omega)⟩
    · rw [set_ne (by omega), set_ne (by omega), set_ne (by omega)]; exact h0
    · rw [set_ne (by omega), set_ne (by omega), set_ne (by omega)]; exact h0a
    · rw [set_ne (by omega), set_ne (by omega), set_ne (by omega)]; exact h1
/-- A cow whose memory lies between two marks, each row in a block of its own. -/
def WOwn (w : World) (B C : Nat) (v : Value) (c : Co) : Prop :=
  ∃ a k x gs B' C', v = .agg #[.slice a c.cs.length k, x, .int .i64 c.lv] ∧ c.cs.length ≤ k ∧ B ≤ B' ∧ C' ≤ C ∧ (gs < B' ∨ C' ≤ gs) ∧ Go.Proofs.Ytienhdlhlddemaa.IB w B C x c.rs gs ∧ COwn w B' C' a c.cs
theorem WOwn.below {w w' : World} {B C : Nat} {v : Value} {c : Co} (h : WOwn w B C v c) (hb : Below w.heap.size w w') : WOwn w' B C v c := by
  obtain ⟨a, k, x, gs, B', C', e, h1, h2, h3, h4, h5, h6⟩ := h
  exact ⟨a, k, x, gs, B', C', e, h1, h2, h3, h4, h5.below hb, h6.below hb⟩
theorem WOwn.mono {w : World} {B C B1 C1 : Nat} {v : Value} {c : Co} (h : WOwn w B C v c) (k1 : B1 ≤ B) (k2 : C ≤ C1) : WOwn w B1 C1 v c := by
  obtain ⟨a, k, x, gs, B', C', e, h1, h2, h3, h4, h5, h6⟩ := h
  exact ⟨a, k, x, gs, B', C', e, h1, by omega, by omega, h4, h5.mono k1 k2, h6⟩
theorem WOwn.out {w w' : World} {B C B1 C1 : Nat} {v : Value} {c : Co} (h : WOwn w B C v c) (ho : Out B1 C1 w w') (hd : C ≤ B1 ∨ C1 ≤ B) : WOwn w' B C v c := by
  obtain ⟨a, k, x, gs, B', C', e, h1, h2, h3, h4, h5, h6⟩ := h
  exact ⟨a, k, x, gs, B', C', e, h1, h2, h3, h4, h5.out' ho hd, h6.out ho (by omega)⟩
theorem WOwn.at_ {w : World} {B C : Nat} {v : Value} {c : Co} (h : WOwn w B C v c) : CowAt w v c := by
  obtain ⟨a, k, x, gs, B', C', rfl, h1, h2, h3, h4, h5, h6⟩ := h
  obtain ⟨a', k', rfl, h7, h8⟩ := h5.ints
  exact ⟨a, k, a', k', rfl, h1, h7, h6.inos, h8⟩
theorem IB.within {w : World} {B C : Nat} {v : Value} {l : List Int} {g : Nat} (h : IB w B C v l g) : l ≠ [] → B ≤ g ∧ g < C := by
  obtain ⟨a, c, e, hc, hr⟩ := h
  exact fun hn => by obtain ⟨-, r2, r3, -⟩ := hr hn; exact ⟨r2, r3⟩
set_option maxHeartbeats 4000000 in
theorem markCellS_any (B C : Nat) (a : Option Addr) (cap : Nat) (L : List Ce) (k : Nat) (w : World) (hk1 : 1 ≤ k) (hk : k + 2 * L.length + kk L L.length ≤ 100000000) (h : COwn w B C a L) :
    Calls Try.prog 25 #[.slice a L.length cap, .int .i64 k] w fun e w' => e = .returned (.int .i64 ((k + 2 * L.length + kk L L.length : Nat) : Int)) ∧ Out B C w w' ∧ COwn w' B C a (mkT k L) := by
  by_cases hz : L = []
  · subst hz
    simp only [List.length_nil, kk]
    go_enter Try.func25, Try.ntmps25
    go_wp2
    refine wp_loop_rounds 1 ?_
    rw [rounds_succ]
    go_wp2
    go_ret
    exact ⟨rfl, Out.refl _ _ _, fun h => absurd (by simp [mkT, mkQ]) h⟩
  · obtain ⟨b, c0, kb, hb1, hb2, rfl, hB0, hsz, hnd, hD⟩ := h hz
    have HB0 : Hid (w.heap[b]? = some (.cells c0 42 (0, 0))) := hB0
    have HND : Hid (CeIn w B C c0 kb L L.length) := hnd
    have HD : Hid (DstC b kb L) := hD
    clear hB0 hnd hD h hz
    go_enter Try.func25, Try.ntmps25
    go_wp2
    go_loopw [1, 5] (fun kk i wr => ∃ (q : Nat) (c : Array Value), q ≤ L.length ∧ kk = .int .i64 ((kAt L k q : Nat) : Int) ∧ i = .int .i64 q ∧ Hid (wr.heap[b]? = some (.cells c 42 (0, 0))) ∧ L.length * 3 ≤ c.size ∧ Hid (CeIn wr B C c kb (mkQ k L q) L.length) ∧ Out B C w wr) (fun _ i _ => L.length - (intOf i).toNat)
    case atStart => exact ⟨0, c0, Nat.zero_le _, by simp [kAt, kk], rfl, HB0, hsz, by rw [mkQ_zero]; exact HND, Out.refl _ _ _⟩
    case round =>
      obtain ⟨q, c, hq, rfl, rfl, hB, hcs, hst, ho⟩ := hrel
      by_cases hlt : q < L.length
      · obtain ⟨n0, n0a, v1, n1, m1⟩ := hst.out q hlt
        rw [mkQ_at hlt, if_neg (Nat.lt_irrefl _)] at n0 n0a m1
        have hbk1 : kk L (q + 1) = kk L q + (gc L q).kd.length := rfl
        have hmono := kk_mono hlt
        have hka : kAt L k q = k + 2 * q + kk L q := rfl
        have hkb : kAt L k (q + 1) = kAt L k q + 2 + (gc L q).kd.length := by unfold kAt; omega
        have hK : Hid (kAt L k q + 2 + (gc L q).kd.length ≤ 100000000) := by show _ ≤ _; unfold kAt; omega
        have hne1 : Hid ((gc L q).kd ≠ [] → kb q ≠ b) := fun h => (HD.out q hlt h).1
        have hoth : Hid (∀ i, i < L.length → i ≠ q → (gc L i).kd ≠ [] → kb i ≠ b ∧ ((gc L q).kd ≠ [] → kb i ≠ kb q)) := fun i hi hiq h => ⟨(HD.out i hi h).1, fun h' => HD.out.ne hi hlt hiq h h'⟩
        have hmq : Hid (gc (mkQ k L (q + 1)) q = mkB (kAt L k q) (gc L q)) := by show _ = _; rw [mkQ_at hlt, if_pos (by omega)]
        obtain ⟨ka, kc, rfl, -, -⟩ := id m1
        obtain ⟨nd, hnd⟩ : ∃ nd, gc L q = nd := ⟨_, rfl⟩
        rw [hnd] at n0 n0a n1 m1 hkb hK hne1 hoth hmq
        have Hkb : Hid _ := hkb
        clear hnd hbk1 hmono hkb hka
        obtain ⟨dp, lk, ns⟩ := nd
        simp only at n0 n0a n1 m1 Hkb hK hne1 hoth
        obtain ⟨Q, hQ⟩ : ∃ Q, kAt L k q = Q := ⟨_, rfl⟩
        have hQ1 : 1 ≤ Q := by rw [← hQ]; unfold kAt; omega
        rw [hQ] at Hkb hK hmq ⊢
        clear hQ
        have g0 : wr.cell? ⟨b, q * 3, none⟩ = some (.int .i64 dp) := cell_of_block hB.out n0
        have f0 := free_of_block (i := q * 3) hB.out
        have hQb : Q + 2 ≤ 100000000 := by have := hK.out; omega
        have cM1 := fun W h => markIntS_any B C (kb q) ka kc ns (Q + 2) W (by have := hK.out; omega) h
        have cT := fun W => markText_any (Q + 1) W (by omega) (by omega)
        have w1 : IntKind.i64.wrap ((Q : Int) + 1) = ((Q + 1 : Nat) : Int) := by rw [wrapI (by omega) (by omega)]; omega
        have w2 : IntKind.i64.wrap (((Q + 1 : Nat) : Int) + 1) = ((Q + 2 : Nat) : Int) := by rw [wrapI (by omega) (by omega)]; omega
        have HTX : Hid (mkB Q ⟨dp, lk, ns⟩ = ⟨(Q : Int), mkText (Q + 1), mkl (Q + 2) ns.length⟩) := rfl
        generalize mkText (Q + 1) = tx at cT HTX
        generalize ((Q + 1 : Nat) : Int) = Q1 at w1 w2 cT
        generalize ((Q + 2 : Nat) : Int) = Q2 at w2 cM1
        generalize hK2 : ((Q + 2 + ns.length : Nat) : Int) = K2 at cM1
        have HK2 : Hid _ := hK2
        clear hK2
        obtain ⟨Wa, hWa⟩ : ∃ Wa, wr.setCell ⟨b, q * 3, none⟩ (.int .i64 (Q : Int)) = Wa := ⟨_, rfl⟩
        have HBa : Hid (Wa.heap[b]? = some (.cells (c.setIfInBounds (q * 3) (.int .i64 (Q : Int))) 42 (0, 0))) := by subst hWa; exact block_set hB.out
        have oa : Out b (b + 1) wr Wa := by subst hWa; exact (Out.refl _ _ _).setCell (Nat.le_refl _) (Nat.lt_succ_self _) _ _
        go_wp2_with fail
        refine (cT _).mono ?_
        rintro e wt ⟨rfl, bt⟩
        have HBt := box_on HBa.out bt
        have ga : wt.cell? ⟨b, q * 3 + 1, none⟩ = some (.string lk) := cell_of_block HBt (by rw [set_ne (by omega)]; exact n0a)
        have fa := free_of_block (i := q * 3 + 1) HBt
        obtain ⟨W1, hW1⟩ : ∃ W1, wt.setCell ⟨b, q * 3 + 1, none⟩ (.string tx) = W1 := ⟨_, rfl⟩
        have o1 : Out b (b + 1) wr W1 := by subst hW1; exact (oa.trans (Out.of_below bt)).setCell (Nat.le_refl _) (Nat.lt_succ_self _) _ _
        have HB1 : Hid (W1.heap[b]? = some (.cells ((c.setIfInBounds (q * 3) (.int .i64 (Q : Int))).setIfInBounds (q * 3 + 1) (.string tx)) 42 (0, 0))) := by subst hW1; exact block_set HBt
        have c1 : W1.cell? ⟨b, q * 3 + 2, none⟩ = some (.slice ka ns.length kc) := cell_of_block HB1.out (by rw [set_ne (by omega), set_ne (by omega)]; exact n1)
        have m1' : IB W1 B C (.slice ka ns.length kc) ns (kb q) := m1.same (fun h hl => o1.block _ hl (by have := hne1.out h; omega))
        clear HBt g0 f0
        have hzz : Hid (wr.heap.size ≤ W1.heap.size) := o1.size
        have hbl : b < wr.heap.size := box_lt hB.out
        have hz0 : Hid (w.heap.size ≤ wr.heap.size) := ho.size
        clear m1
        go_wp2_with fail
        refine (cM1 _ m1').mono ?_
        rintro e w2 ⟨rfl, hm1, i1⟩
        obtain ⟨z2, kp2⟩ := markI_keeps hm1
        have oo2 : Out B C W1 w2 := markI_out hm1 m1'.within
        have HB2 : Hid (w2.heap[b]? = some (.cells ((c.setIfInBounds (q * 3) (.int .i64 (Q : Int))).setIfInBounds (q * 3 + 1) (.string tx)) 42 (0, 0))) := by show _ = _; rw [kp2 b (Nat.lt_of_lt_of_le hbl hzz.out) (fun h e => hne1.out h e.symm)]; exact HB1.out
        have I1 : Hid (IB w2 B C (.slice ka ns.length kc) (mkl (Q + 2) ns.length) (kb q)) := i1
        clear c1 hW1 hWa ga fa cM1 hm1 i1 cT
        go_wp2_with fail
        go_roundw
        case rel =>
          refine ⟨q + 1, _, by omega, by rw [Hkb.out, HK2.out], by go_num, HB2, by simpa using hcs, ?_, ho.trans ((o1.mono hb1 hb2).trans oo2)⟩
          · intro i hi
            by_cases e : i = q
            · subst e
              rw [hmq.out, HTX.out]
              refine ⟨by rw [set_ne (by omega), set_at (by omega)], by rw [set_at (by simp; omega)], _, by rw [set_ne (by omega), set_ne (by omega)]; exact n1, ?_⟩
              exact I1.out
            · have heq : gc (mkQ k L (q + 1)) i = gc (mkQ k L q) i := by
                rw [mkQ_at hi, mkQ_at hi]
                by_cases h1 : i < q
                · rw [if_pos h1, if_pos (by omega)]
                · rw [if_neg h1, if_neg (by omega)]
              rw [heq]
              obtain ⟨p0, p0a, v, p1, p3⟩ := hst.out i hi
              have hl := mkQ_ns (k := k) (q := q) hi
              refine ⟨by rw [set_ne (by omega), set_ne (by omega)]; exact p0, by rw [set_ne (by omega), set_ne (by omega)]; exact p0a, v, by rw [set_ne (by omega), set_ne (by omega)]; exact p1, p3.same (fun h hl' => ?_)⟩
              have ot := hoth.out i hi e (by rw [nil_lenI] at h ⊢; omega)
              rw [kp2 _ (Nat.lt_of_lt_of_le hl' hzz.out) (fun h' => ot.2 h'), o1.block _ hl' (by have := ot.1; omega)]
        case measure => simp [intOf]; omega
      · have hqn : q = L.length := by omega
        go_wp2
        go_ret
        refine ⟨by rw [hqn]; simp [kAt], ho, fun _ => ⟨b, c, kb, hb1, hb2, rfl, hB.out, by rw [show (mkT k L).length = L.length from mkQ_len _ _ _]; exact hcs, ?_, HD.out.q⟩⟩
        have := hst.out
        rw [hqn] at this
        rw [show (mkT k L).length = L.length from mkQ_len _ _ _]
        exact this
theorem IB.low {w : World} {B C : Nat} {v : Value} {l : List Int} {g : Nat} (h : IB w B C v l g) : IB w B (min C w.heap.size) v l g := by
  obtain ⟨a, c, e, hc, hr⟩ := h
  exact ⟨a, c, e, hc, fun hn => by obtain ⟨r1, r2, r3, cs, r4, r5⟩ := hr hn; have := box_lt r4; exact ⟨r1, r2, by omega, cs, r4, r5⟩⟩
theorem COwn.low {w : World} {B C : Nat} {a : Option Addr} {L : List Ce} (h : COwn w B C a L) : COwn w B (min C w.heap.size) a L := by
  intro hn
  obtain ⟨b, c, kb, h1, h2, h3, h4, h5, h6, h7⟩ := h hn
  have := box_lt h4
  refine ⟨b, c, kb, h1, by omega, h3, h4, h5, fun i hi => ?_, h7⟩
  obtain ⟨g0, g0a, v, k1, g3⟩ := h6 i hi
  exact ⟨g0, g0a, v, k1, g3.low⟩
set_option maxHeartbeats 1000000 in
theorem markCow_any (B C : Nat) (v : Value) (c : Co) (k : Nat) (w : World) (hk1 : 1 ≤ k) (hk : kW k c ≤ 100000000) (h : WOwn w B C v c) :
    Calls Try.prog 10 #[v, .int .i64 k] w fun e w' => e = .returned (.int .i64 ((kW k c : Nat) : Int)) ∧ (∃ W, Below w.heap.size w W ∧ Out B C W w') ∧ WOwn w' B C v (mkCo k c) := by
  obtain ⟨a, ka, x, gs, B', C', rfl, h1, h2, h3, h4, h5, h6⟩ := h
  have hkC : kW k c = kC k c + c.rs.length := rfl
  have hkk : kC k c = k + 2 * c.cs.length + kk c.cs c.cs.length := rfl
  obtain ⟨a', k', rfl, hk', -⟩ := id h5
  have h6' := h6.low
  obtain ⟨D', hD'⟩ : ∃ D', min C' w.heap.size = D' := ⟨_, rfl⟩
  rw [hD'] at h6'
  have hD1 : D' ≤ C' := by omega
  have hD2 : D' ≤ w.heap.size := by omega
  have c0 := fun W h => markCellS_any B' D' a ka c.cs k W hk1 (by omega) h
  have c1 := fun W h => Go.Proofs.Ytienhdlhlddemaa.markIntS_any B C gs a' k' c.rs (kC k c) W (by omega) h
  rw [← hkk] at c0
  rw [← hkC] at c1
  have hmC : (mkT k c.cs).length = c.cs.length := mkQ_len _ _ _
  obtain ⟨W0, hW0⟩ : ∃ W0, w.alloc (.cells #[.slice a c.cs.length ka, .slice a' c.rs.length k', .int .i64 c.lv] 29) = W0 := ⟨_, rfl⟩
  have q0 : Below w.heap.size w W0 := by subst hW0; exact below_alloc _ _
  have HA : Hid (W0.heap[w.heap.size]? = some (.cells #[.slice a c.cs.length ka, .slice a' c.rs.length k', .int .i64 c.lv] 29 (0, 0))) := by subst hW0; exact al1 _ _
  obtain ⟨x0, x1, x2⟩ := box3_one HA.out
  have H5 : Hid (Go.Proofs.Ytienhdlhlddemaa.IB W0 B C (.slice a' c.rs.length k') c.rs gs) := h5.below q0
  have H6 : Hid (COwn W0 B' D' a c.cs) := h6'.below q0
  have hw5 := Go.Proofs.Ytienhdlhlddemaa.IB.within h5
  have HBD : Hid _ := hw5
  clear h5 h6 h6' hw5 hD'
  obtain ⟨MT, hMT⟩ : ∃ MT, mkT k c.cs = MT := ⟨_, rfl⟩
  have HMT : Hid _ := hMT
  rw [hMT] at c0 hmC
  clear hMT
  obtain ⟨KC, hKC⟩ : ∃ KC, kC k c = KC := ⟨_, rfl⟩
  have HKC : Hid _ := hKC
  rw [hKC] at c0 c1
  clear hKC hkC hkk
  generalize ((kW k c : Nat) : Int) = K at *
  go_enter Try.func10, Try.ntmps10
  go_wp2_with fail
  refine (c0 _ H6.out).mono ?_
  rintro e w1 ⟨rfl, o1, i1⟩
  have I1 : Hid (COwn w1 B' D' a MT) := i1
  have O1 : Hid (Out B' D' W0 w1) := o1
  clear x0 x1 x2
  obtain ⟨x0, x1, x2⟩ := box3_one (box_out HA.out o1 (by omega))
  have J1 : Hid (Go.Proofs.Ytienhdlhlddemaa.IB w1 B C (.slice a' c.rs.length k') c.rs gs) := Go.Proofs.Ytienhdlhlddemaa.IB.same H5.out (fun hne hl => o1.block _ hl (by omega))
  clear i1 o1
  go_wp2_with fail
  refine (c1 _ J1.out).mono ?_
  rintro e w2 ⟨rfl, o2, i2⟩
  have I2 : Hid (Go.Proofs.Ytienhdlhlddemaa.IB w2 B C (.slice a' c.rs.length k') (mkl KC c.rs.length) gs) := i2
  have O2 : Hid (Out B C w1 w2 ∧ COwn w2 B' C' a MT) := by
    by_cases hs : c.rs = []
    · rw [if_pos hs] at o2; subst o2; exact ⟨Out.refl _ _ _, I1.out.mono (Nat.le_refl _) hD1⟩
    · rw [if_neg hs] at o2
      obtain ⟨u1, u2⟩ := HBD.out hs
      exact ⟨o2.mono u1 u2, (I1.out.out o2 (by omega)).mono (Nat.le_refl _) hD1⟩
  clear o2 i2
  go_wp2_with fail
  go_ret
  refine ⟨rfl, ⟨W0, q0, (O1.out.mono h2 (Nat.le_trans hD1 h3)).trans O2.out.1⟩, a, ka, .slice a' c.rs.length k', gs, B', C', ?_, ?_, h2, h3, h4, ?_, ?_⟩
  · show Value.agg #[.slice a c.cs.length ka, _, _] = Value.agg #[.slice a (mkT k c.cs).length ka, _, _]
    rw [HMT.out, hmC]
    rfl
  · show (mkT k c.cs).length ≤ ka
    rw [HMT.out, hmC]
    exact h1
  · show Go.Proofs.Ytienhdlhlddemaa.IB w2 B C _ (mkl (kC k c) c.rs.length) gs
    rw [HKC.out]
    exact I2.out
  · show COwn w2 B' C' a (mkT k c.cs)
    rw [HMT.out]
    exact O2.out.2
end Fk
end Go.Proofs.Ytienhdlhlddemaa
