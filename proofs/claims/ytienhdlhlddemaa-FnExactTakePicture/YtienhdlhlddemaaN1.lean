import Derived.Test.YtienhdlhlddemaaL1
import Derived.Test.YtienhdlhlddemaaC2
/- Rows of cells in memory; what the laws do with them: copy, compare and measure. -/
namespace Go.Proofs.Ytienhdlhlddemaa
open Go.ChangeShapes Go.WideShapes Go.ChangeAt Go.RowKit
set_option linter.unusedVariables false
open Hd

attribute [local go_sem] Oper.semAt_some

theorem IB.out' {w w' : World} {B C B' C' : Nat} {v : Value} {l : List Int} {g : Nat} (h : IB w B C v l g) (ho : Out B' C' w w') (hd : C ≤ B' ∨ C' ≤ B) : IB w' B C v l g := by
  obtain ⟨a, c, e, hc, hr⟩ := h
  exact ⟨a, c, e, hc, fun hn => by obtain ⟨r1, r2, r3, cs, r4, r5⟩ := hr hn; exact ⟨r1, r2, r3, cs, box_out r4 ho (by omega), r5⟩⟩
theorem IB.same {w w' : World} {B C : Nat} {v : Value} {l : List Int} {g : Nat} (h : IB w B C v l g) (hs : l ≠ [] → g < w.heap.size → w'.heap[g]? = w.heap[g]?) : IB w' B C v l g := by
  obtain ⟨a, c, e, hc, hr⟩ := h
  exact ⟨a, c, e, hc, fun hn => by obtain ⟨r1, r2, r3, cs, r4, r5⟩ := hr hn; exact ⟨r1, r2, r3, cs, by rw [hs hn (box_lt r4)]; exact r4, r5⟩⟩
/-- A cell's memory. -/
def CeAt (w : World) (b o : Nat) (x : Ce) : Prop :=
  ∃ a c, w.cell? ⟨b, o, none⟩ = some (.int .i64 x.ct) ∧ w.cell? ⟨b, o + 1, none⟩ = some (.string x.lf) ∧ w.cell? ⟨b, o + 2, none⟩ = some (.slice a x.kd.length c) ∧ Ints w a x.kd ∧ x.kd.length ≤ c
theorem CeAt.below {w w' : World} {b o : Nat} {x : Ce} (h : CeAt w b o x) (hb : Below w.heap.size w w') : CeAt w' b o x := by
  obtain ⟨a, c, h0, h1, h2, h3, h4⟩ := h
  exact ⟨a, c, cell_on h0 hb, cell_on h1 hb, cell_on h2 hb, h3.below hb, h4⟩
/-- A row of cells that can be read. -/
def Ces (w : World) (a : Option Addr) (l : List Ce) : Prop :=
  l.length ≠ 0 → ∃ b off, a = some ⟨b, off, none⟩ ∧ ∀ i, i < l.length → CeAt w b (off + i * 3) (gc l i)
theorem Ces.nil {w : World} {a : Option Addr} : Ces w a [] := fun h => absurd rfl h
theorem Ces.below {w w' : World} {a : Option Addr} {l : List Ce} (h : Ces w a l) (hb : Below w.heap.size w w') : Ces w' a l := by
  intro hn
  obtain ⟨b, off, rfl, hc⟩ := h hn
  exact ⟨b, off, rfl, fun i hi => (hc i hi).below hb⟩
/-- How many kids the first cells hold. -/
def kk (L : List Ce) : Nat → Nat
  | 0 => 0
  | k + 1 => kk L k + (gc L k).kd.length
theorem kk_le {L : List Ce} {i k : Nat} (h : i < k) : (gc L i).kd.length ≤ kk L k := by
  induction k with
  | zero => omega
  | succ k ih =>
    rw [kk]
    by_cases e : i = k
    · subst e; omega
    · have := ih (by omega); omega
theorem kk_mono {L : List Ce} {q : Nat} (h : q < L.length) : kk L (q + 1) ≤ kk L L.length := by
  have key : ∀ j, q + 1 + j ≤ L.length → kk L (q + 1) ≤ kk L (q + 1 + j) := by
    intro j
    induction j with
    | zero => intro _; exact Nat.le_refl _
    | succ j ih => intro hj; have := ih (by omega); show _ ≤ kk L (q + 1 + j) + _; omega
  have := key (L.length - (q + 1)) (by omega)
  rwa [show q + 1 + (L.length - (q + 1)) = L.length by omega] at this
theorem infoC : (Try.prog.info? 42).map (fun i => (i.zero, i.size, i.bytes)) = some (some (.agg #[.int .i64 0, .string ⟨#[]⟩, .slice none 0 0]), 3, 48) := by kernel_rfl
/-- The first cells lie in a row, their kids in blocks of their own. -/
def CeIn (w : World) (B C : Nat) (c : Array Value) (kb : Nat → Nat) (L : List Ce) (k : Nat) : Prop :=
  ∀ i, i < k → c[i * 3]? = some (.int .i64 (gc L i).ct) ∧ c[i * 3 + 1]? = some (.string (gc L i).lf) ∧ ∃ v, c[i * 3 + 2]? = some v ∧ IB w B C v (gc L i).kd (kb i)
/-- No two rows share a block, and none has this one. -/
def DstC (b : Nat) (kb : Nat → Nat) (L : List Ce) : Prop := ∀ r, r < L.length → (gc L r).kd ≠ [] → kb r ≠ b ∧ ∀ r', r' < r → (gc L r').kd ≠ [] → kb r' ≠ kb r
/-- A row of cells whose memory lies between two marks, no two rows in one block. -/
def COwn (w : World) (B C : Nat) (a : Option Addr) (L : List Ce) : Prop :=
  L ≠ [] → ∃ b c kb, B ≤ b ∧ b < C ∧ a = some ⟨b, 0, none⟩ ∧ w.heap[b]? = some (.cells c 42 (0, 0)) ∧ L.length * 3 ≤ c.size ∧ CeIn w B C c kb L L.length ∧ DstC b kb L
theorem CeIn.below {w w' : World} {B C : Nat} {c : Array Value} {kb : Nat → Nat} {L : List Ce} {k : Nat} (h : CeIn w B C c kb L k) (hb : Below w.heap.size w w') : CeIn w' B C c kb L k := by
  intro i hi
  obtain ⟨h0, h0a, v, h1, h3⟩ := h i hi
  exact ⟨h0, h0a, v, h1, h3.below hb⟩
theorem CeIn.mono {w : World} {B C B' C' : Nat} {c : Array Value} {kb : Nat → Nat} {L : List Ce} {k : Nat} (h : CeIn w B C c kb L k) (h1 : B' ≤ B) (h2 : C ≤ C') : CeIn w B' C' c kb L k := by
  intro i hi
  obtain ⟨h0, h0a, v, k1, h3⟩ := h i hi
  exact ⟨h0, h0a, v, k1, h3.mono h1 h2⟩
theorem COwn.below {w w' : World} {B C : Nat} {a : Option Addr} {L : List Ce} (h : COwn w B C a L) (hb : Below w.heap.size w w') : COwn w' B C a L := by
  intro hn
  obtain ⟨b, c, kb, h1, h2, h3, h4, h5, h6, h7⟩ := h hn
  exact ⟨b, c, kb, h1, h2, h3, box_on h4 hb, h5, h6.below hb, h7⟩
theorem COwn.mono {w : World} {B C B' C' : Nat} {a : Option Addr} {L : List Ce} (h : COwn w B C a L) (k1 : B' ≤ B) (k2 : C ≤ C') : COwn w B' C' a L := by
  intro hn
  obtain ⟨b, c, kb, h1, h2, h3, h4, h5, h6, h7⟩ := h hn
  exact ⟨b, c, kb, by omega, by omega, h3, h4, h5, h6.mono k1 k2, h7⟩
theorem COwn.out {w w' : World} {B C B' C' : Nat} {a : Option Addr} {L : List Ce} (h : COwn w B C a L) (ho : Out B' C' w w') (hd : C ≤ B' ∨ C' ≤ B) : COwn w' B C a L := by
  intro hn
  obtain ⟨b, c, kb, h1, h2, h3, h4, h5, h6, h7⟩ := h hn
  refine ⟨b, c, kb, h1, h2, h3, box_out h4 ho (by omega), h5, fun i hi => ?_, h7⟩
  obtain ⟨h0, h0a, v, k1, h3⟩ := h6 i hi
  exact ⟨h0, h0a, v, k1, h3.out' ho hd⟩
theorem CeIn.ino {w : World} {B C b : Nat} {c : Array Value} {kb : Nat → Nat} {L : List Ce} {k i : Nat} (h : CeIn w B C c kb L k) (hi : i < k) (hb : w.heap[b]? = some (.cells c 42 (0, 0))) : CeAt w b (i * 3) (gc L i) := by
  obtain ⟨h0, h0a, v, h1, h3⟩ := h i hi
  obtain ⟨a, cp, rfl, e1, e2⟩ := h3.ints
  exact ⟨a, cp, cell_of_block hb h0, cell_of_block hb h0a, cell_of_block hb h1, e2, e1⟩
theorem COwn.inos {w : World} {B C : Nat} {a : Option Addr} {L : List Ce} (h : COwn w B C a L) : Ces w a L := by
  intro hn
  obtain ⟨b, c, kb, h1, h2, h3, h4, h5, h6, h7⟩ := h (fun e => hn (by rw [e]; rfl))
  exact ⟨b, 0, h3, fun i hi => by rw [Nat.zero_add]; exact h6.ino hi h4⟩
theorem COwn.nil {w : World} {B C : Nat} {a : Option Addr} : COwn w B C a [] := fun h => absurd rfl h

def kbPut (kb : Nat → Nat) (k g : Nat) : Nat → Nat := fun r => if r = k then g else kb r
theorem kbPut_0 (kb : Nat → Nat) (k g : Nat) : kbPut kb k g k = g := by simp [kbPut]
theorem kbPut_ne (kb : Nat → Nat) (k g : Nat) {r : Nat} (h : r ≠ k) : kbPut kb k g r = kb r := by
  unfold kbPut
  rw [if_neg h]
theorem CeIn.put {w W : World} {B s C C' : Nat} {c : Array Value} {kb : Nat → Nat} {L : List Ce} {k g : Nat} {x : Value} (h : CeIn w B C c kb L k) (ho : Out s (s + 1) w W) (hC : C ≤ C') (hcs : k * 3 + 3 ≤ c.size) (hkb : ∀ r, r < k → kb r ≠ s)
    (m1 : IB w B C' x (gc L k).kd g) (hg : g ≠ s) :
    CeIn W B C' (((c.setIfInBounds (k * 3) (.int .i64 (gc L k).ct)).setIfInBounds (k * 3 + 1) (.string (gc L k).lf)).setIfInBounds (k * 3 + 2) x) (kbPut kb k g) L (k + 1) := by
  intro i hi
  by_cases e : i = k
  · subst e
    rw [kbPut_0]
    refine ⟨?_, ?_, x, ?_, m1.out ho (fun _ => by omega)⟩
    · rw [set_ne (by omega), set_ne (by omega), set_at (by omega)]
    · rw [set_ne (by omega), set_at (by simp; omega)]
    · rw [set_at (by simp; omega)]
  · obtain ⟨h0, h0a, v, h1, h3⟩ := h i (by omega)
    rw [kbPut_ne _ _ _ (by omega)]
    refine ⟨?_, ?_, v, ?_, (h3.mono (Nat.le_refl _) hC).out ho (fun _ => by have := hkb i (by omega); omega)⟩
    · rw [set_ne (by omega), set_ne (by omega), set_ne (by omega)]; exact h0
    · rw [set_ne (by omega), set_ne (by omega), set_ne (by omega)]; exact h0a
    · rw [set_ne (by omega), set_ne (by omega), set_ne (by omega)]; exact h1
theorem toCell_any (d : Int) (lk : ByteArray) (a : Option Addr) (ca : Nat) (l : List Int) (w : World) (hn : l.length ≤ 1048576) (ha : Ints w a l) :
    Calls Try.prog 34 #[.agg #[.int .i64 d, .string lk, .slice a l.length ca]] w fun e w' => Below w.heap.size w w' ∧ ∃ v g, e = .returned (.agg #[.int .i64 d, .string lk, v]) ∧ w.heap.size ≤ g ∧ g < w'.heap.size ∧ IB w' w.heap.size w'.heap.size v l g := by
  obtain ⟨s, hs⟩ : ∃ s, w.heap.size = s := ⟨_, rfl⟩
  obtain ⟨W0, hW0⟩ : ∃ W0, ((w.alloc (.cells #[.int .i64 d, .string lk, .slice a l.length ca] 57)).alloc (.cells #[.int .i64 0, .string ⟨#[]⟩, .slice none 0 0] 42)).alloc (.cells #[.int .i64 0, .string ⟨#[]⟩, .slice none 0 0] 42) = W0 := ⟨_, rfl⟩
  have hb0 : Below s w W0 := by subst hW0 hs; exact ba3 _ _ _ _
  obtain ⟨B1, B2, B3⟩ : W0.heap[s]? = some (.cells #[.int .i64 d, .string lk, .slice a l.length ca] 57 (0, 0)) ∧ W0.heap[s + 1]? = some (.cells #[.int .i64 0, .string ⟨#[]⟩, .slice none 0 0] 42 (0, 0)) ∧ W0.heap[s + 1 + 1]? = some (.cells #[.int .i64 0, .string ⟨#[]⟩, .slice none 0 0] 42 (0, 0)) := by subst hW0 hs; exact al3 _ _ _ _
  have z0 : s + 1 + 1 < W0.heap.size := box_lt B3
  obtain ⟨i0, i1, i2, -, -, -⟩ := box3_cells B1
  obtain ⟨j0, j1, j2, p0, p1, p2⟩ := box3_cells B3
  obtain ⟨W1, hW1⟩ : ∃ W1, (W0.setCell ⟨s + 1 + 1, 0, none⟩ (.int .i64 d)).setCell ⟨s + 1 + 1, 1, none⟩ (.string lk) = W1 := ⟨_, rfl⟩
  have o1 : Out (s + 1 + 1) (s + 1 + 1 + 1) W0 W1 := by subst hW1; exact ((Out.refl _ _ _).setCell (by omega) (by omega) _ _).setCell (by omega) (by omega) _ _
  have H2 : Hid (W1.heap[s + 1]? = _) := box_out B2 o1 (by omega)
  have H3 : Hid (W1.heap[s + 1 + 1]? = some (.cells #[.int .i64 d, .string lk, .slice none 0 0] 42 (0, 0))) := by subst hW1; exact block_set (block_set B3)
  have H1 : Hid (W1.heap[s]? = _) := box_out B1 o1 (by omega)
  obtain ⟨u0, u1, u2, -, -, -⟩ := box3_cells H1.out
  have z1 := o1.size
  have hb1 : Below w.heap.size w W1 := hs ▸ hb0.trans ((o1.below (by omega)).mono (by omega))
  clear B1 B2 B3
  go_enter Try.func34, Try.ntmps34
  go_wp2_with fail
  refine (toIntS_any a l ca _ hn (ha.below hb1)).mono ?_
  rintro e w1 ⟨b1, zz1, v, rfl, m1⟩
  clear hW0 hW1 i0 i1 i2 j0 j1 j2 p0 p1 p2 u0 u1 u2
  have z2 := b1.size
  obtain ⟨x, cx, rfl, -, -⟩ := id m1
  obtain ⟨K2, K3⟩ : Hid (w1.heap[s + 1]? = _) ∧ Hid (w1.heap[s + 1 + 1]? = _) := ⟨box_on H2.out b1, box_on H3.out b1⟩
  obtain ⟨r0, r1, r2, q0, q1, q2⟩ := box3_cells K3.out
  obtain ⟨e0, e1, e2, d0, d1, d2⟩ := box3_cells K2.out
  have m1' : Hid (IB w1 W1.heap.size w1.heap.size (.slice x l.length cx) l W1.heap.size) := m1
  clear m1
  go_wp2
  obtain ⟨W3, hW3⟩ : ∃ W3, (((w1.setCell ⟨s + 1 + 1, 2, none⟩ (.slice x l.length cx)).setCell ⟨s + 1, 0, none⟩ (.int .i64 d)).setCell ⟨s + 1, 1, none⟩ (.string lk)).setCell ⟨s + 1, 2, none⟩ (.slice x l.length cx) = W3 := ⟨_, rfl⟩
  have o2 : Out (s + 1) (s + 1 + 1 + 1) w1 W3 := by
    subst hW3
    exact ((((Out.refl _ _ _).setCell (by omega) (by omega) _ _).setCell (by omega) (by omega) _ _).setCell (by omega) (by omega) _ _).setCell (by omega) (by omega) _ _
  have R : W3.heap[s + 1]? = some (.cells #[.int .i64 d, .string lk, .slice x l.length cx] 42 (0, 0)) := by
    subst hW3
    exact box3_set (box_out K2.out (out_setCell _ _ _ _) (by omega))
  rw [hW3]
  clear hW3 r0 r1 r2 q0 q1 q2 e0 e1 e2 d0 d1 d2
  obtain ⟨t0, t1, t2, -, -, -⟩ := box3_cells R
  have z4 := o2.size
  refine bodyPost_ret (v := .agg #[.int .i64 d, .string lk, .slice x l.length cx]) (by simp [results, Try.results34, go_sem, t0, t1, t2]) rfl ⟨?_, .slice x l.length cx, W1.heap.size, rfl, by omega, by omega, ?_⟩
  · exact (Below.comp hb1 b1).trans ((o2.below (by omega)).mono (by omega))
  · exact (m1'.out.out o2 (fun _ => .inr (by omega))).mono (by omega) (by omega)
set_option maxHeartbeats 400000 in
theorem toCellS_any (a : Option Addr) (L : List Ce) (cap : Nat) (w : World) (hn : L.length ≤ 1048576) (hbk : kk L L.length ≤ 1048576) (hc : Ces w a L) :
    Calls Try.prog 19 #[.slice a L.length cap] w fun e w' => Below w.heap.size w w' ∧ ∃ a' c', e = .returned (.slice a' L.length c') ∧ L.length ≤ c' ∧ COwn w' w.heap.size w'.heap.size a' L := by
  have hmk := make_any (P := Try.prog) 27 42 _ 3 48 Try.underlying27 infoC .i64 .i64 L.length (by omega) (by omega)
  obtain ⟨n, hln⟩ : ∃ n, L.length = n := ⟨_, rfl⟩
  have Hln : Hid _ := hln
  unfold Ces at hc
  rw [hln] at hn hmk hc hbk ⊢
  clear hln
  have Hc : Hid _ := hc
  clear hc
  go_enter Try.func19, Try.ntmps19
  go_wp2
  go_loopw [4] (fun i wr => ∃ (k : Nat) (c : Array Value) (kb : Nat → Nat), k ≤ n ∧ i = .int .i64 k ∧ Hid (wr.heap[w.heap.size]? = some (.cells c 42 (0, 0))) ∧ c.size = n * 3 ∧ CeIn wr w.heap.size wr.heap.size c kb L k ∧ (∀ r, r < k → w.heap.size < kb r ∧ kb r < wr.heap.size ∧ ∀ r', r' < r → kb r' < kb r) ∧ Below w.heap.size w wr) (fun i _ => n - (intOf i).toNat)
  case atStart => exact ⟨0, _, fun _ => 0, Nat.zero_le _, rfl, heap_alloc_new w _, by simp [size_made], fun i hi => absurd hi (by simp), fun r hr => absurd hr (by simp), (Below.refl _ _).alloc (Nat.le_refl _) _⟩
  case round =>
    obtain ⟨k, c, kb, hk, rfl, HB, hcs, hst, hkb, hb⟩ := hrel
    by_cases hlt : k < n
    · obtain ⟨b, off, rfl, hcell⟩ := Hc.out (by omega)
      obtain ⟨ka, kc, k0, k0a, k1, k2, -⟩ := (hcell k hlt).below hb
      clear hcell
      have hBs : w.heap.size < wr.heap.size := box_lt HB.out
      have hbn := kk_le (L := L) hlt
      have hst' : Hid (CeIn wr w.heap.size wr.heap.size c kb L k) := hst
      have hkb' : Hid _ := hkb
      clear hst hkb Hc
      obtain ⟨nd, hnd⟩ : ∃ nd, gc L k = nd := ⟨_, rfl⟩
      have Hnd : Hid _ := hnd
      rw [hnd] at k0 k0a k1 k2 hbn
      clear hnd
      obtain ⟨dp, lk, ns⟩ := nd
      simp only at k0 k0a k1 k2 hbn
      have cN := fun W h => toCell_any dp lk ka kc ns W (by omega) h
      have S3 : Hid (Ints wr ka ns) := k2
      clear k2
      generalize hm : ns.length = m at k1 cN
      have Hm : Hid _ := hm
      clear hm
      go_wp2_with (go_at_call 34; refine (cN _ S3.out).mono ?_; rintro e w1 ⟨b1, v, g, rfl, hg1, hg3, m1⟩; have HB1 : Hid (w1.heap[w.heap.size]? = some (.cells c 42 (0, 0))) := box_on HB.out b1; have g0 : w1.cell? ⟨w.heap.size, k * 3, none⟩ = some c[k * 3] := cell_of_block HB1.out (by simp); have g1 : w1.cell? ⟨w.heap.size, k * 3 + 1, none⟩ = some c[k * 3 + 1] := cell_of_block HB1.out (by simp); have g2 : w1.cell? ⟨w.heap.size, k * 3 + 2, none⟩ = some c[k * 3 + 2] := cell_of_block HB1.out (by simp); have f0 := free_of_block (i := k * 3) HB1.out; have f1 := free_of_block (i := k * 3 + 1) HB1.out; have f2 := free_of_block (i := k * 3 + 2) HB1.out; have M1 : Hid _ := m1; obtain ⟨x, cx, rfl, -, -⟩ := m1)
      go_roundw
      case rel =>
        have z1 := b1.size
        have hm := Hm.out
        subst hm
        have o3 : Out w.heap.size (w.heap.size + 1) w1 (((w1.setCell ⟨w.heap.size, k * 3, none⟩ (.int .i64 dp)).setCell ⟨w.heap.size, k * 3 + 1, none⟩ (.string lk)).setCell ⟨w.heap.size, k * 3 + 2, none⟩ (.slice x ns.length cx)) :=
          (((Out.refl _ _ _).setCell (Nat.le_refl _) (Nat.lt_succ_self _) _ _).setCell (Nat.le_refl _) (Nat.lt_succ_self _) _ _).setCell (Nat.le_refl _) (Nat.lt_succ_self _) _ _
        have hz3 : w1.heap.size ≤ (((w1.setCell ⟨w.heap.size, k * 3, none⟩ (.int .i64 dp)).setCell ⟨w.heap.size, k * 3 + 1, none⟩ (.string lk)).setCell ⟨w.heap.size, k * 3 + 2, none⟩ (.slice x ns.length cx)).heap.size := o3.size
        refine ⟨k + 1, _, kbPut kb k g, by omega, by go_num, block_set (block_set (block_set HB1.out)), by simpa using hcs, ?_, ?_, (((Below.comp hb b1).setCell (by simp) _).setCell (by simp) _).setCell (by simp) _⟩
        · have := CeIn.put (hst'.out.below b1) o3 (C' := (((w1.setCell ⟨w.heap.size, k * 3, none⟩ (.int .i64 dp)).setCell ⟨w.heap.size, k * 3 + 1, none⟩ (.string lk)).setCell ⟨w.heap.size, k * 3 + 2, none⟩ (.slice x ns.length cx)).heap.size) (by omega) (by omega) (fun r hr => by have := (hkb'.out r hr).1; omega) (by rw [Hnd.out]; exact IB.mono M1.out (by omega) hz3) (g := g) (by omega)
          rw [Hnd.out] at this
          simpa using this
        · intro r hr
          by_cases e0 : r = k
          · subst e0
            rw [kbPut_0]
            exact ⟨by omega, Nat.lt_of_lt_of_le (by omega : g < w1.heap.size) hz3, fun r' hr' => by rw [kbPut_ne _ _ _ (by omega)]; have := (hkb'.out r' hr').2.1; omega⟩
          · have hr2 : r < k := by omega
            rw [kbPut_ne _ _ _ e0]
            obtain ⟨u1, u2, u3⟩ := hkb'.out r hr2
            exact ⟨u1, Nat.lt_of_lt_of_le (by omega : kb r < w1.heap.size) hz3, fun r' hr' => by rw [kbPut_ne _ _ _ (by omega)]; exact u3 r' hr'⟩
      case measure => simp [intOf]; omega
    · go_wp2
      go_ret
      have hkn : k = n := by omega
      subst hkn
      refine ⟨hb, some ⟨w.heap.size, 0, none⟩, k, rfl, Nat.le_refl _, fun _ => ⟨w.heap.size, c, kb, Nat.le_refl _, box_lt HB.out, rfl, HB.out, by rw [Hln.out]; omega, by rw [Hln.out]; exact hst, ?_⟩⟩
      intro r hr _
      rw [Hln.out] at hr
      obtain ⟨u1, u2, u3⟩ := hkb r hr
      exact ⟨by omega, fun r' hr' _ => by have := u3 r' hr'; omega⟩
theorem eqCell_same (d : Int) (lk : ByteArray) (a c : Option Addr) (ca cc : Nat) (l : List Int) (w : World) (hn : l.length ≤ 9223372036854775807) (ha : Ints w a l) (hc : Ints w c l) :
    Calls Try.prog 43 #[.agg #[.int .i64 d, .string lk, .slice a l.length ca], .agg #[.int .i64 d, .string lk, .slice c l.length cc]] w fun e w' => e = .returned (.bool true) ∧ Below w.heap.size w w' := by
  obtain ⟨s, hs⟩ : ∃ s, w.heap.size = s := ⟨_, rfl⟩
  obtain ⟨W0, hW0⟩ : ∃ W0, (w.alloc (.cells #[.int .i64 d, .string lk, .slice a l.length ca] 42)).alloc (.cells #[.int .i64 d, .string lk, .slice c l.length cc] 42) = W0 := ⟨_, rfl⟩
  have hb0' : Below w.heap.size w W0 := by subst hW0; exact ba2 _ _ _
  obtain ⟨B1, B2⟩ : W0.heap[s]? = some (.cells #[.int .i64 d, .string lk, .slice a l.length ca] 42 (0, 0)) ∧ W0.heap[s + 1]? = some (.cells #[.int .i64 d, .string lk, .slice c l.length cc] 42 (0, 0)) := by subst hW0 hs; exact al2 _ _ _
  obtain ⟨i0, i1, i2, -, -, -⟩ := box3_cells B1
  obtain ⟨j0, j1, j2, -, -, -⟩ := box3_cells B2
  clear B1 B2
  have hdd : (d != d) = false := by simp
  go_enter Try.func43, Try.ntmps43
  go_wp2_with fail
  refine (eqIntS_same a c ca cc l _ hn (ha.below hb0') (hc.below hb0')).mono ?_
  rintro e w1 ⟨rfl, b1⟩
  go_wp2
  go_ret
  exact ⟨rfl, Below.comp hb0' b1⟩
set_option maxHeartbeats 1000000 in
theorem eqCellS_same (a a' : Option Addr) (L : List Ce) (cap cap' : Nat) (w : World) (hn : L.length ≤ 9223372036854775807) (hnk : ∀ i, i < L.length → (gc L i).kd.length ≤ 9223372036854775807) (hc : Ces w a L) (hc' : Ces w a' L) :
    Calls Try.prog 23 #[.slice a L.length cap, .slice a' L.length cap'] w fun e w' => e = .returned (.bool true) ∧ Below w.heap.size w w' := by
  unfold Ces at hc hc'
  have Hc : Hid _ := hc
  have Hc' : Hid _ := hc'
  clear hc hc'
  generalize L.length = n at *
  go_enter Try.func23, Try.ntmps23
  go_wp2
  go_loopw [5] (fun i wr => ∃ (k : Nat), k ≤ n ∧ i = .int .i64 k ∧ Below w.heap.size w wr) (fun i _ => n - (intOf i).toNat)
  case atStart => exact ⟨0, Nat.zero_le _, rfl, Below.refl _ _⟩
  case round =>
    obtain ⟨k, hk, rfl, hb⟩ := hrel
    by_cases hlt : k < n
    · obtain ⟨b, off, rfl, hcell⟩ := Hc.out (by omega)
      obtain ⟨b', off', rfl, hcell'⟩ := Hc'.out (by omega)
      obtain ⟨ka, kc, k0, k0a, k1, k2, -⟩ := (hcell k hlt).below hb
      obtain ⟨ka', kc', k0', k0a', k1', k2', -⟩ := (hcell' k hlt).below hb
      clear hcell hcell' Hc Hc'
      have hlt' : (k : Int) < (n : Int) := by omega
      have hnk' := hnk k hlt
      generalize gc L k = nd at k0 k0a k1 k2 k0' k0a' k1' k2' hnk'
      obtain ⟨dp, lk, ns⟩ := nd
      simp only at k0 k0a k1 k2 k0' k0a' k1' k2' hnk'
      have cE := fun W h1 h2 => eqCell_same dp lk ka ka' kc kc' ns W hnk' h1 h2
      have SI : Hid (∀ W, Below wr.heap.size wr W → Ints W ka ns ∧ Ints W ka' ns) := fun W g => ⟨k2.below g, k2'.below g⟩
      clear k2 k2'
      generalize ns.length = m at *
      have SB : Hid (∀ W, Below wr.heap.size wr W → W.cell? ⟨b, off + k * 3, none⟩ = some (.int .i64 dp) ∧ W.cell? ⟨b, off + k * 3 + 1, none⟩ = some (.string lk) ∧ W.cell? ⟨b, off + k * 3 + 2, none⟩ = some (.slice ka m kc) ∧ W.cell? ⟨b', off' + k * 3, none⟩ = some (.int .i64 dp) ∧ W.cell? ⟨b', off' + k * 3 + 1, none⟩ = some (.string lk) ∧ W.cell? ⟨b', off' + k * 3 + 2, none⟩ = some (.slice ka' m kc') ∧ Below wr.heap.size wr W) := fun W g => ⟨cell_on k0 g, cell_on k0a g, cell_on k1 g, cell_on k0' g, cell_on k0a' g, cell_on k1' g, g⟩
      clear k0 k0a k1 k0' k0a' k1' hnk hnk'
      go_wp2
      go_region_held3 (fun W => W.cell? ⟨b, off + k * 3, none⟩ = some (.int .i64 dp) ∧ W.cell? ⟨b, off + k * 3 + 1, none⟩ = some (.string lk) ∧ W.cell? ⟨b, off + k * 3 + 2, none⟩ = some (.slice ka m kc) ∧ W.cell? ⟨b', off' + k * 3, none⟩ = some (.int .i64 dp) ∧ W.cell? ⟨b', off' + k * 3 + 1, none⟩ = some (.string lk) ∧ W.cell? ⟨b', off' + k * 3 + 2, none⟩ = some (.slice ka' m kc') ∧ Below wr.heap.size wr W)
        ((refine SB.out _ ?_; first | assumption | exact Below.drew (Below.refl _ _)))
        (first
        | (go_at_call 43; obtain ⟨-, -, -, -, -, -, hw0⟩ := ‹_ ∧ _ ∧ _ ∧ _ ∧ _ ∧ _ ∧ Below wr.heap.size wr _›; obtain ⟨u1, u2⟩ := SI.out _ hw0; refine (cE _ u1 u2).mono ?_; rintro e w1 ⟨rfl, g1⟩; have g2 := Below.comp hw0 g1))
      all_goals go_wp2
      go_roundw
      case rel => exact ⟨k + 1, by omega, by go_num, Below.comp hb (by assumption)⟩
      case measure => simp [intOf]; omega
    · go_wp2
      go_ret
      exact ⟨rfl, hb⟩
/-- Cells that can be read. -/
def FewL (x : Ce) : Prop := x.lf.size ≤ 9223372036854775807 ∧ x.kd.length ≤ 9223372036854775807
def FewC (L : List Ce) : Prop := L.length ≤ 9223372036854775807 ∧ ∀ i, i < L.length → FewL (gc L i)
theorem szCell_any (d : Int) (lk : ByteArray) (a : Option Addr) (ca : Nat) (l : List Int) (left : Int) (w : World) (hs : lk.size ≤ 9223372036854775807) (hf : l.length ≤ 9223372036854775807) (h0 : 0 ≤ left) (h1 : left ≤ 1048576) :
    Calls Try.prog 31 #[.agg #[.int .i64 d, .string lk, .slice a l.length ca], .int .i64 left] w fun e w' => Below w.heap.size w w' ∧ ∃ r : Int, e = .returned (.int .i64 r) ∧ r ≤ left ∧ (r < 0 ∨ r + l.length ≤ left) := by
  generalize l.length = n at *
  have e1 : IntKind.i64.wrap (left - (lk.size : Int)) = left - lk.size := wrapI (by omega) (by omega)
  by_cases hl : left - (lk.size : Int) < 0
  · go_enter Try.func31, Try.ntmps31
    go_wp2_with fail
    go_ret
    exact ⟨below_alloc _ _, -1, rfl, by omega, .inl (by omega)⟩
  · have hl' : 0 ≤ left - (lk.size : Int) := by omega
    have c1 := fun W => szIntS_any a n ca (left - (lk.size : Int)) W hf (by omega) (by omega)
    by_cases h : left - (lk.size : Int) - (n : Int) < 0
    · rw [if_pos h] at c1
      go_enter Try.func31, Try.ntmps31
      go_wp2_with (go_at_call 15; refine (c1 _).mono ?_; rintro e w1 ⟨rfl, rfl⟩)
      go_ret
      exact ⟨below_alloc _ _, -1, rfl, by omega, .inl (by omega)⟩
    · rw [if_neg h] at c1
      go_enter Try.func31, Try.ntmps31
      go_wp2_with (go_at_call 15; refine (c1 _).mono ?_; rintro e w1 ⟨rfl, rfl⟩)
      go_ret
      exact ⟨below_alloc _ _, left - (lk.size : Int) - n, rfl, by omega, .inr (by omega)⟩
set_option maxHeartbeats 1000000 in
theorem szCellS_any (a : Option Addr) (L : List Ce) (cap : Nat) (left : Int) (w : World) (hf : FewC L) (hc : Ces w a L) (h0 : 0 ≤ left) (h1 : left ≤ 1048576) :
    Calls Try.prog 14 #[.slice a L.length cap, .int .i64 left] w fun e w' => Below w.heap.size w w' ∧ ∃ r : Int, e = .returned (.int .i64 r) ∧ (r < 0 ∨ r + L.length + kk L L.length ≤ left) := by
  unfold Ces at hc
  have Hc : Hid _ := hc
  clear hc
  obtain ⟨hn, hnk⟩ := hf
  generalize L.length = n at *
  have e1 : IntKind.i64.wrap (left - (n : Int)) = left - n := wrapI (by omega) (by omega)
  by_cases hl : left - (n : Int) < 0
  · go_enter Try.func14, Try.ntmps14
    go_wp2
    go_ret
    exact ⟨Below.refl _ _, -1, rfl, .inl (by omega)⟩
  · have hl' : 0 ≤ left - (n : Int) := by omega
    go_enter Try.func14, Try.ntmps14
    go_wp2
    go_loopw [1, 5] (fun lv i wr => ∃ (k : Nat) (q : Int), k ≤ n ∧ lv = .int .i64 q ∧ i = .int .i64 k ∧ 0 ≤ q ∧ q + kk L k ≤ left - n ∧ Below w.heap.size w wr) (fun _ i _ => n - (intOf i).toNat)
    case atStart => exact ⟨0, left - n, Nat.zero_le _, rfl, rfl, hl', by simp [kk], Below.refl _ _⟩
    case round =>
      obtain ⟨k, q, hk, rfl, rfl, hq0, hq1, hb⟩ := hrel
      by_cases hlt : k < n
      · obtain ⟨b, off, rfl, hcell⟩ := Hc.out (by omega)
        obtain ⟨ka, kc, k0, k0a, k1, k2, -⟩ := (hcell k hlt).below hb
        clear hcell Hc
        have hnk' := hnk k hlt
        have hbk : kk L (k + 1) = kk L k + (gc L k).kd.length := rfl
        generalize gc L k = nd at k0 k0a k1 k2 hnk' hbk
        obtain ⟨dp, lk, ns⟩ := nd
        simp only at k0 k0a k1 k2 hnk' hbk
        have cE := fun W => szCell_any dp lk ka kc ns q W hnk'.1 hnk'.2 hq0 (by omega)
        have K2 : Hid (Ints wr ka ns) := k2
        have HQ : Hid _ := hbk
        clear hbk k2 hnk'
        generalize hm : ns.length = m at *
        have Hm : Hid _ := hm
        clear hm
        go_wp2_with fail
        refine (cE _).mono ?_
        rintro e w1 ⟨b1, r, rfl, hr1, hr2⟩
        by_cases hr : r < 0
        · go_wp2_with fail
          go_ret
          exact ⟨Below.comp hb b1, -1, rfl, .inl (by omega)⟩
        · go_wp2_with fail
          go_roundw
          case rel => exact ⟨k + 1, r, by omega, rfl, by go_num, by omega, by have := HQ.out; have := Hm.out; omega, Below.comp hb b1⟩
          case measure => simp [intOf]; omega
      · go_wp2
        go_ret
        have hkn : k = n := by omega
        subst hkn
        exact ⟨hb, q, rfl, .inr (by omega)⟩
end Go.Proofs.Ytienhdlhlddemaa
