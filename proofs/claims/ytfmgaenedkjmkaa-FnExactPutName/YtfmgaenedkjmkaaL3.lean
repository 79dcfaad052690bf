import Derived.Test.YtfmgaenedkjmkaaL2
/- What the laws do with rows of buckets: copy, compare and measure. -/
namespace Go.Proofs.Ytfmgaenedkjmkaa
open Go.ChangeShapes Go.WideShapes Go.ChangeAt Go.RowKit
set_option linter.unusedVariables false
open Hd

attribute [local go_sem] Oper.semAt_some

/-- The first buckets lie in a row's cells, their names in blocks of their own. -/
def BksIn (w : World) (B C : Nat) (c : Array Value) (kb : Nat → Nat) (L : List Bk) (k : Nat) : Prop :=
  ∀ i, i < k → c[i * 2]? = some (.int .i64 (gb L i).dp) ∧ ∃ v, c[i * 2 + 1]? = some v ∧ NB w B C v (gb L i).ns (kb i)
/-- No two rows share a block, and none has this one. -/
def DstB (b gs : Nat) (kb : Nat → Nat) (L : List Bk) : Prop := b ≠ gs ∧ ∀ r, r < L.length → (gb L r).ns ≠ [] → kb r ≠ b ∧ kb r ≠ gs ∧ ∀ r', r' < r → (gb L r').ns ≠ [] → kb r' ≠ kb r
/-- A row of buckets whose memory lies between two marks, no two rows in one block, none in that of the slots. -/
def BOwn (w : World) (B C gs : Nat) (a : Option Addr) (L : List Bk) : Prop :=
  L ≠ [] → ∃ b c kb, B ≤ b ∧ b < C ∧ a = some ⟨b, 0, none⟩ ∧ w.heap[b]? = some (.cells c 63 (0, 0)) ∧ L.length * 2 ≤ c.size ∧ BksIn w B C c kb L L.length ∧ DstB b gs kb L
theorem BksIn.below {w w' : World} {B C : Nat} {c : Array Value} {kb : Nat → Nat} {L : List Bk} {k : Nat} (h : BksIn w B C c kb L k) (hb : Below w.heap.size w w') : BksIn w' B C c kb L k := by
  intro i hi
  obtain ⟨h0, v, h1, h3⟩ := h i hi
  exact ⟨h0, v, h1, h3.below hb⟩
theorem BksIn.mono {w : World} {B C B' C' : Nat} {c : Array Value} {kb : Nat → Nat} {L : List Bk} {k : Nat} (h : BksIn w B C c kb L k) (h1 : B' ≤ B) (h2 : C ≤ C') : BksIn w B' C' c kb L k := by
  intro i hi
  obtain ⟨h0, v, k1, h3⟩ := h i hi
  exact ⟨h0, v, k1, h3.mono h1 h2⟩
theorem BOwn.below {w w' : World} {B C gs : Nat} {a : Option Addr} {L : List Bk} (h : BOwn w B C gs a L) (hb : Below w.heap.size w w') : BOwn w' B C gs a L := by
  intro hn
  obtain ⟨b, c, kb, h1, h2, h3, h4, h5, h6, h7⟩ := h hn
  exact ⟨b, c, kb, h1, h2, h3, box_on h4 hb, h5, h6.below hb, h7⟩
theorem BOwn.mono {w : World} {B C B' C' gs : Nat} {a : Option Addr} {L : List Bk} (h : BOwn w B C gs a L) (k1 : B' ≤ B) (k2 : C ≤ C') : BOwn w B' C' gs a L := by
  intro hn
  obtain ⟨b, c, kb, h1, h2, h3, h4, h5, h6, h7⟩ := h hn
  exact ⟨b, c, kb, by omega, by omega, h3, h4, h5, h6.mono k1 k2, h7⟩
theorem BOwn.out {w w' : World} {B C B' C' gs : Nat} {a : Option Addr} {L : List Bk} (h : BOwn w B C gs a L) (ho : Out B' C' w w') (hd : C ≤ B' ∨ C' ≤ B) : BOwn w' B C gs a L := by
  intro hn
  obtain ⟨b, c, kb, h1, h2, h3, h4, h5, h6, h7⟩ := h hn
  refine ⟨b, c, kb, h1, h2, h3, box_out h4 ho (by omega), h5, fun i hi => ?_, h7⟩
  obtain ⟨h0, v, k1, h3⟩ := h6 i hi
  exact ⟨h0, v, k1, h3.out' ho hd⟩
theorem BksIn.bk {w : World} {B C b : Nat} {c : Array Value} {kb : Nat → Nat} {L : List Bk} {k i : Nat} (h : BksIn w B C c kb L k) (hi : i < k) (hb : w.heap[b]? = some (.cells c 63 (0, 0))) : BkAt w b (i * 2) (gb L i) := by
  obtain ⟨h0, v, h1, h3⟩ := h i hi
  obtain ⟨a, cp, rfl, e1, e2⟩ := h3.names
  exact ⟨a, cp, cell_of_block hb h0, cell_of_block hb h1, e2, e1⟩
theorem BOwn.bks {w : World} {B C gs : Nat} {a : Option Addr} {L : List Bk} (h : BOwn w B C gs a L) : Bks w a L := by
  intro hn
  obtain ⟨b, c, kb, h1, h2, h3, h4, h5, h6, h7⟩ := h (fun e => hn (by rw [e]; rfl))
  exact ⟨b, 0, h3, fun i hi => by rw [Nat.zero_add]; exact h6.bk hi h4⟩
theorem BOwn.nil {w : World} {B C gs : Nat} {a : Option Addr} : BOwn w B C gs a [] := fun h => absurd rfl h

def kbPut (kb : Nat → Nat) (k g : Nat) : Nat → Nat := fun r => if r = k then g else kb r
theorem kbPut_0 (kb : Nat → Nat) (k g : Nat) : kbPut kb k g k = g := by simp [kbPut]
theorem kbPut_ne (kb : Nat → Nat) (k g : Nat) {r : Nat} (h : r ≠ k) : kbPut kb k g r = kb r := by
  unfold kbPut
  rw [if_neg h]
theorem BksIn.put {w W : World} {B s C C' : Nat} {c : Array Value} {kb : Nat → Nat} {L : List Bk} {k g : Nat} {x : Value} (h : BksIn w B C c kb L k) (ho : Out s (s + 1) w W) (hC : C ≤ C') (hcs : k * 2 + 2 ≤ c.size) (hkb : ∀ r, r < k → kb r ≠ s)
    (m1 : NB w B C' x (gb L k).ns g) (hg : g ≠ s) :
    BksIn W B C' ((c.setIfInBounds (k * 2) (.int .i64 (gb L k).dp)).setIfInBounds (k * 2 + 1) x) (kbPut kb k g) L (k + 1) := by
  intro i hi
  by_cases e : i = k
  · subst e
    rw [kbPut_0]
    refine ⟨?_, x, ?_, m1.out ho (fun _ => by omega)⟩
    · rw [set_ne (by omega), set_at (by omega)]
    · rw [set_at (by simp; omega)]
  · obtain ⟨h0, v, h1, h3⟩ := h i (by omega)
    rw [kbPut_ne _ _ _ (by omega)]
    refine ⟨?_, v, ?_, (h3.mono (Nat.le_refl _) hC).out ho (fun _ => by have := hkb i (by omega); omega)⟩
    · rw [set_ne (by omega), set_ne (by omega)]; exact h0
    · rw [set_ne (by omega), set_ne (by omega)]; exact h1
theorem toBucket_any (d : Int) (a : Option Addr) (ca : Nat) (l : List Nm) (w : World) (hn : l.length ≤ 1048576) (ha : Nms w a l) :
    Calls Try.prog 59 #[.agg #[.int .i64 d, .slice a l.length ca]] w fun e w' => Below w.heap.size w w' ∧ ∃ v g, e = .returned (.agg #[.int .i64 d, v]) ∧ w.heap.size ≤ g ∧ g < w'.heap.size ∧ NB w' w.heap.size w'.heap.size v l g := by
  obtain ⟨s, hs⟩ : ∃ s, w.heap.size = s := ⟨_, rfl⟩
  obtain ⟨W0, hW0⟩ : ∃ W0, ((w.alloc (.cells #[.int .i64 d, .slice a l.length ca] 83)).alloc (.cells #[.int .i64 0, .slice none 0 0] 63)).alloc (.cells #[.int .i64 0, .slice none 0 0] 63) = W0 := ⟨_, rfl⟩
  have hb0 : Below s w W0 := by subst hW0 hs; exact ba3 _ _ _ _
  obtain ⟨B1, B2, B3⟩ : W0.heap[s]? = some (.cells #[.int .i64 d, .slice a l.length ca] 83 (0, 0)) ∧ W0.heap[s + 1]? = some (.cells #[.int .i64 0, .slice none 0 0] 63 (0, 0)) ∧ W0.heap[s + 1 + 1]? = some (.cells #[.int .i64 0, .slice none 0 0] 63 (0, 0)) := by subst hW0 hs; exact al3 _ _ _ _
  have z0 : s + 1 + 1 < W0.heap.size := box_lt B3
  obtain ⟨i0, i1, -, -⟩ := box2_cells B1
  obtain ⟨j0, j1, p0, p1⟩ := box2_cells B3
  obtain ⟨W1, hW1⟩ : ∃ W1, W0.setCell ⟨s + 1 + 1, 0, none⟩ (.int .i64 d) = W1 := ⟨_, rfl⟩
  have o1 : Out (s + 1 + 1) (s + 1 + 1 + 1) W0 W1 := by subst hW1; exact out_setCell _ _ _ _
  have H2 : Hid (W1.heap[s + 1]? = _) := box_out B2 o1 (by omega)
  have H3 : Hid (W1.heap[s + 1 + 1]? = some (.cells #[.int .i64 d, .slice none 0 0] 63 (0, 0))) := by subst hW1; exact block_set B3
  have H1 : Hid (W1.heap[s]? = _) := box_out B1 o1 (by omega)
  obtain ⟨u0, u1, -, -⟩ := box2_cells H1.out
  have z1 := o1.size
  have hb1 : Below w.heap.size w W1 := hs ▸ hb0.trans ((o1.below (by omega)).mono (by omega))
  clear B1 B2 B3
  go_enter Try.func59, Try.ntmps59
  go_wp2_with fail
  refine (toNameS_any a l ca _ hn (ha.below hb1)).mono ?_
  rintro e w1 ⟨b1, zz1, v, rfl, m1⟩
  clear hW0 hW1 i0 i1 j0 j1 p0 p1 u0 u1
  have z2 := b1.size
  obtain ⟨x, cx, rfl, -, -⟩ := id m1
  obtain ⟨K2, K3⟩ : Hid (w1.heap[s + 1]? = _) ∧ Hid (w1.heap[s + 1 + 1]? = _) := ⟨box_on H2.out b1, box_on H3.out b1⟩
  obtain ⟨r0, r1, q0, q1⟩ := box2_cells K3.out
  obtain ⟨e0, e1, d0, d1⟩ := box2_cells K2.out
  have m1' : Hid (NB w1 W1.heap.size w1.heap.size (.slice x l.length cx) l W1.heap.size) := m1
  clear m1
  go_wp2
  obtain ⟨W3, hW3⟩ : ∃ W3, ((w1.setCell ⟨s + 1 + 1, 1, none⟩ (.slice x l.length cx)).setCell ⟨s + 1, 0, none⟩ (.int .i64 d)).setCell ⟨s + 1, 1, none⟩ (.slice x l.length cx) = W3 := ⟨_, rfl⟩
  have o2 : Out (s + 1) (s + 1 + 1 + 1) w1 W3 := by
    subst hW3
    exact (((Out.refl _ _ _).setCell (by omega) (by omega) _ _).setCell (by omega) (by omega) _ _).setCell (by omega) (by omega) _ _
  have R : W3.heap[s + 1]? = some (.cells #[.int .i64 d, .slice x l.length cx] 63 (0, 0)) := by
    subst hW3
    exact box2_set (box_out K2.out (out_setCell _ _ _ _) (by omega))
  rw [hW3]
  clear hW3 r0 r1 q0 q1 e0 e1 d0 d1
  obtain ⟨t0, t1, -, -⟩ := box2_cells R
  have z4 := o2.size
  refine bodyPost_ret (v := .agg #[.int .i64 d, .slice x l.length cx]) (by simp [results, Try.results59, go_sem, t0, t1]) rfl ⟨?_, .slice x l.length cx, W1.heap.size, rfl, by omega, by omega, ?_⟩
  · exact (Below.comp hb1 b1).trans ((o2.below (by omega)).mono (by omega))
  · exact (m1'.out.out o2 (fun _ => .inr (by omega))).mono (by omega) (by omega)
set_option maxHeartbeats 400000 in
theorem toBucketS_any (a : Option Addr) (L : List Bk) (cap : Nat) (w : World) (hn : L.length ≤ 1048576) (hbk : nk L L.length ≤ 1048576) (hc : Bks w a L) :
    Calls Try.prog 38 #[.slice a L.length cap] w fun e w' => Below w.heap.size w w' ∧ ∃ a' c', e = .returned (.slice a' L.length c') ∧ L.length ≤ c' ∧ ∀ gs, gs < w.heap.size → BOwn w' w.heap.size w'.heap.size gs a' L := by
  have hmk := make_any (P := Try.prog) 30 63 _ 2 32 Try.underlying30 info67 .i64 .i64 L.length (by omega) (by omega)
  obtain ⟨n, hln⟩ : ∃ n, L.length = n := ⟨_, rfl⟩
  have Hln : Hid _ := hln
  unfold Bks at hc
  rw [hln] at hn hmk hc hbk ⊢
  clear hln
  have Hc : Hid _ := hc
  clear hc
  go_enter Try.func38, Try.ntmps38
  go_wp2
  go_loopw [4] (fun i wr => ∃ (k : Nat) (c : Array Value) (kb : Nat → Nat), k ≤ n ∧ i = .int .i64 k ∧ Hid (wr.heap[w.heap.size]? = some (.cells c 63 (0, 0))) ∧ c.size = n * 2 ∧ BksIn wr w.heap.size wr.heap.size c kb L k ∧ (∀ r, r < k → w.heap.size < kb r ∧ kb r < wr.heap.size ∧ ∀ r', r' < r → kb r' < kb r) ∧ Below w.heap.size w wr) (fun i _ => n - (intOf i).toNat)
  case atStart => exact ⟨0, _, fun _ => 0, Nat.zero_le _, rfl, heap_alloc_new w _, by simp [size_made], fun i hi => absurd hi (by simp), fun r hr => absurd hr (by simp), (Below.refl _ _).alloc (Nat.le_refl _) _⟩
  case round =>
    obtain ⟨k, c, kb, hk, rfl, HB, hcs, hst, hkb, hb⟩ := hrel
    by_cases hlt : k < n
    · obtain ⟨b, off, rfl, hcell⟩ := Hc.out (by omega)
      obtain ⟨ka, kc, k0, k1, k2, -⟩ := (hcell k hlt).below hb
      clear hcell
      have hBs : w.heap.size < wr.heap.size := box_lt HB.out
      have hbn := nk_le (L := L) hlt
      have hst' : Hid (BksIn wr w.heap.size wr.heap.size c kb L k) := hst
      have hkb' : Hid _ := hkb
      clear hst hkb Hc
      obtain ⟨nd, hnd⟩ : ∃ nd, gb L k = nd := ⟨_, rfl⟩
      have Hnd : Hid _ := hnd
      rw [hnd] at k0 k1 k2 hbn
      clear hnd
      obtain ⟨dp, ns⟩ := nd
      simp only at k0 k1 k2 hbn
      have cN := fun W h => toBucket_any dp ka kc ns W (by omega) h
      have S3 : Hid (Nms wr ka ns) := k2
      clear k2
      generalize hm : ns.length = m at k1 cN
      have Hm : Hid _ := hm
      clear hm
      go_wp2_with (go_at_call 59; refine (cN _ S3.out).mono ?_; rintro e w1 ⟨b1, v, g, rfl, hg1, hg3, m1⟩; have HB1 : Hid (w1.heap[w.heap.size]? = some (.cells c 63 (0, 0))) := box_on HB.out b1; have g0 : w1.cell? ⟨w.heap.size, k * 2, none⟩ = some c[k * 2] := cell_of_block HB1.out (by simp); have g1 : w1.cell? ⟨w.heap.size, k * 2 + 1, none⟩ = some c[k * 2 + 1] := cell_of_block HB1.out (by simp); have f0 := free_of_block (i := k * 2) HB1.out; have f1 := free_of_block (i := k * 2 + 1) HB1.out; have M1 : Hid _ := m1; obtain ⟨x, cx, rfl, -, -⟩ := m1)
      go_roundw
      case rel =>
        have z1 := b1.size
        have hm := Hm.out
        subst hm
        have o3 : Out w.heap.size (w.heap.size + 1) w1 ((w1.setCell ⟨w.heap.size, k * 2, none⟩ (.int .i64 dp)).setCell ⟨w.heap.size, k * 2 + 1, none⟩ (.slice x ns.length cx)) :=
          ((Out.refl _ _ _).setCell (Nat.le_refl _) (Nat.lt_succ_self _) _ _).setCell (Nat.le_refl _) (Nat.lt_succ_self _) _ _
        have hz3 : w1.heap.size ≤ ((w1.setCell ⟨w.heap.size, k * 2, none⟩ (.int .i64 dp)).setCell ⟨w.heap.size, k * 2 + 1, none⟩ (.slice x ns.length cx)).heap.size := o3.size
        refine ⟨k + 1, _, kbPut kb k g, by omega, by go_num, block_set (block_set HB1.out), by simpa using hcs, ?_, ?_, ((Below.comp hb b1).setCell (by simp) _).setCell (by simp) _⟩
        · have := BksIn.put (hst'.out.below b1) o3 (C' := ((w1.setCell ⟨w.heap.size, k * 2, none⟩ (.int .i64 dp)).setCell ⟨w.heap.size, k * 2 + 1, none⟩ (.slice x ns.length cx)).heap.size) (by omega) (by omega) (fun r hr => by have := (hkb'.out r hr).1; omega) (by rw [Hnd.out]; exact NB.mono M1.out (by omega) hz3) (g := g) (by omega)
          rw [Hnd.out] at this
          simpa using this
        · intro r hr
          by_cases e0 : r = k
          · subst e0
            rw [kbPut_0]
            exact ⟨by omega, Nat.lt_of_lt_of_le (by omega : g < w1.heap.size) hz3, fun r' hr' => by rw [kbPut_ne _ _ _ (by omega)]; have := (hkb'.out r' hr').2.1; omega⟩
          · have hr2 : r < k := by omega
            rw [kbPut_ne _ _ _ e0]
            obtain ⟨u1, u2, u3⟩ := hkb'.out r hr2
            exact ⟨u1, Nat.lt_of_lt_of_le (by omega : kb r < w1.heap.size) hz3, fun r' hr' => by rw [kbPut_ne _ _ _ (by omega)]; exact u3 r' hr'⟩
      case measure => simp [intOf]; omega
    · go_wp2
      go_ret
      have hkn : k = n := by omega
      subst hkn
      refine ⟨hb, some ⟨w.heap.size, 0, none⟩, k, rfl, Nat.le_refl _, fun gs hgs _ => ⟨w.heap.size, c, kb, Nat.le_refl _, box_lt HB.out, rfl, HB.out, by rw [Hln.out]; omega, by rw [Hln.out]; exact hst, by omega, ?_⟩⟩
      intro r hr _
      rw [Hln.out] at hr
      obtain ⟨u1, u2, u3⟩ := hkb r hr
      exact ⟨by omega, by omega, fun r' hr' _ => by have := u3 r' hr'; omega⟩
theorem eqBucket_same (d : Int) (a c : Option Addr) (ca cc : Nat) (l : List Nm) (w : World) (hn : l.length ≤ 9223372036854775807) (ha : Nms w a l) (hc : Nms w c l) :
    Calls Try.prog 74 #[.agg #[.int .i64 d, .slice a l.length ca], .agg #[.int .i64 d, .slice c l.length cc]] w fun e w' => e = .returned (.bool true) ∧ Below w.heap.size w w' := by
  obtain ⟨s, hs⟩ : ∃ s, w.heap.size = s := ⟨_, rfl⟩
  obtain ⟨W0, hW0⟩ : ∃ W0, (w.alloc (.cells #[.int .i64 d, .slice a l.length ca] 63)).alloc (.cells #[.int .i64 d, .slice c l.length cc] 63) = W0 := ⟨_, rfl⟩
  have hb0' : Below w.heap.size w W0 := by subst hW0; exact ba2 _ _ _
  obtain ⟨B1, B2⟩ : W0.heap[s]? = some (.cells #[.int .i64 d, .slice a l.length ca] 63 (0, 0)) ∧ W0.heap[s + 1]? = some (.cells #[.int .i64 d, .slice c l.length cc] 63 (0, 0)) := by subst hW0 hs; exact al2 _ _ _
  obtain ⟨i0, i1, -, -⟩ := box2_cells B1
  obtain ⟨j0, j1, -, -⟩ := box2_cells B2
  clear B1 B2
  have hdd : (d != d) = false := by simp
  go_enter Try.func74, Try.ntmps74
  go_wp2_with fail
  refine (eqNameS_same a c l ca cc _ hn (ha.below hb0') (hc.below hb0')).mono ?_
  rintro e w1 ⟨rfl, b1⟩
  go_wp2
  go_ret
  exact ⟨rfl, Below.comp hb0' b1⟩
set_option maxHeartbeats 1000000 in
theorem eqBucketS_same (a a' : Option Addr) (L : List Bk) (cap cap' : Nat) (w : World) (hn : L.length ≤ 9223372036854775807) (hnk : ∀ i, i < L.length → (gb L i).ns.length ≤ 9223372036854775807) (hc : Bks w a L) (hc' : Bks w a' L) :
    Calls Try.prog 44 #[.slice a L.length cap, .slice a' L.length cap'] w fun e w' => e = .returned (.bool true) ∧ Below w.heap.size w w' := by
  unfold Bks at hc hc'
  have Hc : Hid _ := hc
  have Hc' : Hid _ := hc'
  clear hc hc'
  generalize L.length = n at *
  go_enter Try.func44, Try.ntmps44
  go_wp2
  go_loopw [5] (fun i wr => ∃ (k : Nat), k ≤ n ∧ i = .int .i64 k ∧ Below w.heap.size w wr) (fun i _ => n - (intOf i).toNat)
  case atStart => exact ⟨0, Nat.zero_le _, rfl, Below.refl _ _⟩
  case round =>
    obtain ⟨k, hk, rfl, hb⟩ := hrel
    by_cases hlt : k < n
    · obtain ⟨b, off, rfl, hcell⟩ := Hc.out (by omega)
      obtain ⟨b', off', rfl, hcell'⟩ := Hc'.out (by omega)
      obtain ⟨ka, kc, k0, k1, k2, -⟩ := (hcell k hlt).below hb
      obtain ⟨ka', kc', k0', k1', k2', -⟩ := (hcell' k hlt).below hb
      clear hcell hcell' Hc Hc'
      have hlt' : (k : Int) < (n : Int) := by omega
      have hnk' := hnk k hlt
      generalize gb L k = nd at k0 k1 k2 k0' k1' k2' hnk'
      obtain ⟨dp, ns⟩ := nd
      simp only at k0 k1 k2 k0' k1' k2' hnk'
      have cE := fun W h1 h2 => eqBucket_same dp ka ka' kc kc' ns W hnk' h1 h2
      have SI : Hid (∀ W, Below wr.heap.size wr W → Nms W ka ns ∧ Nms W ka' ns) := fun W g => ⟨k2.below g, k2'.below g⟩
      clear k2 k2'
      generalize ns.length = m at *
      have SB : Hid (∀ W, Below wr.heap.size wr W → W.cell? ⟨b, off + k * 2, none⟩ = some (.int .i64 dp) ∧ W.cell? ⟨b, off + k * 2 + 1, none⟩ = some (.slice ka m kc) ∧ W.cell? ⟨b', off' + k * 2, none⟩ = some (.int .i64 dp) ∧ W.cell? ⟨b', off' + k * 2 + 1, none⟩ = some (.slice ka' m kc') ∧ Below wr.heap.size wr W) := fun W g => ⟨cell_on k0 g, cell_on k1 g, cell_on k0' g, cell_on k1' g, g⟩
      clear k0 k1 k0' k1' hnk hnk'
      go_wp2
      go_region_held3 (fun W => W.cell? ⟨b, off + k * 2, none⟩ = some (.int .i64 dp) ∧ W.cell? ⟨b, off + k * 2 + 1, none⟩ = some (.slice ka m kc) ∧ W.cell? ⟨b', off' + k * 2, none⟩ = some (.int .i64 dp) ∧ W.cell? ⟨b', off' + k * 2 + 1, none⟩ = some (.slice ka' m kc') ∧ Below wr.heap.size wr W)
        ((refine SB.out _ ?_; first | assumption | exact Below.drew (Below.refl _ _)))
        (first
        | (go_at_call 74; obtain ⟨-, -, -, -, hw0⟩ := ‹_ ∧ _ ∧ _ ∧ _ ∧ Below wr.heap.size wr _›; obtain ⟨u1, u2⟩ := SI.out _ hw0; refine (cE _ u1 u2).mono ?_; rintro e w1 ⟨rfl, g1⟩; have g2 := Below.comp hw0 g1))
      all_goals go_wp2
      go_roundw
      case rel => exact ⟨k + 1, by omega, by go_num, Below.comp hb (by assumption)⟩
      case measure => simp [intOf]; omega
    · go_wp2
      go_ret
      exact ⟨rfl, hb⟩
/-- Lists that can be read. -/
def FewN (l : List Nm) : Prop := l.length ≤ 9223372036854775807 ∧ ∀ i, i < l.length → (gm l i).nm.size ≤ 9223372036854775807
def FewB (L : List Bk) : Prop := L.length ≤ 9223372036854775807 ∧ ∀ i, i < L.length → FewN (gb L i).ns
theorem szBucket_any (d : Int) (a : Option Addr) (ca : Nat) (l : List Nm) (left : Int) (w : World) (hf : FewN l) (ha : Nms w a l) (h0 : 0 ≤ left) (h1 : left ≤ 1048576) :
    Calls Try.prog 56 #[.agg #[.int .i64 d, .slice a l.length ca], .int .i64 left] w fun e w' => Below w.heap.size w w' ∧ ∃ r : Int, e = .returned (.int .i64 r) ∧ r ≤ left ∧ (r < 0 ∨ r + l.length ≤ left) := by
  have c1 := fun W h => szNameS_any a l ca left W hf.1 hf.2 h h0 h1
  generalize l.length = n at *
  go_enter Try.func56, Try.ntmps56
  go_wp2_with fail
  refine (c1 _ (ha.below (below_alloc _ _))).mono ?_
  rintro e w1 ⟨b1, r, rfl, hr1, hr⟩
  by_cases h : r < 0
  · go_wp2
    go_ret
    exact ⟨Below.comp (below_alloc _ _) b1, -1, rfl, by omega, .inl (by omega)⟩
  · go_wp2
    go_ret
    exact ⟨Below.comp (below_alloc _ _) b1, r, rfl, hr1, .inr (by omega)⟩
theorem szBucketS_any (a : Option Addr) (L : List Bk) (cap : Nat) (left : Int) (w : World) (hf : FewB L) (hc : Bks w a L) (h0 : 0 ≤ left) (h1 : left ≤ 1048576) :
    Calls Try.prog 27 #[.slice a L.length cap, .int .i64 left] w fun e w' => Below w.heap.size w w' ∧ ∃ r : Int, e = .returned (.int .i64 r) ∧ (r < 0 ∨ r + L.length + nk L L.length ≤ left) := by
  unfold Bks at hc
  have Hc : Hid _ := hc
  clear hc
  obtain ⟨hn, hnk⟩ := hf
  generalize L.length = n at *
  have e1 : IntKind.i64.wrap (left - (n : Int)) = left - n := wrapI (by omega) (by omega)
  by_cases hl : left - (n : Int) < 0
  · go_enter Try.func27, Try.ntmps27
    go_wp2
    go_ret
    exact ⟨Below.refl _ _, -1, rfl, .inl (by omega)⟩
  · have hl' : 0 ≤ left - (n : Int) := by omega
    go_enter Try.func27, Try.ntmps27
    go_wp2
    go_loopw [1, 5] (fun lv i wr => ∃ (k : Nat) (q : Int), k ≤ n ∧ lv = .int .i64 q ∧ i = .int .i64 k ∧ 0 ≤ q ∧ q + nk L k ≤ left - n ∧ Below w.heap.size w wr) (fun _ i _ => n - (intOf i).toNat)
    case atStart => exact ⟨0, left - n, Nat.zero_le _, rfl, rfl, hl', by simp [nk], Below.refl _ _⟩
    case round =>
      obtain ⟨k, q, hk, rfl, rfl, hq0, hq1, hb⟩ := hrel
      by_cases hlt : k < n
      · obtain ⟨b, off, rfl, hcell⟩ := Hc.out (by omega)
        obtain ⟨ka, kc, k0, k1, k2, -⟩ := (hcell k hlt).below hb
        clear hcell Hc
        have hnk' := hnk k hlt
        have hbk : nk L (k + 1) = nk L k + (gb L k).ns.length := rfl
        generalize gb L k = nd at k0 k1 k2 hnk' hbk
        obtain ⟨dp, ns⟩ := nd
        simp only at k0 k1 k2 hnk' hbk
        have cE := fun W h => szBucket_any dp ka kc ns q W hnk' h hq0 (by omega)
        have K2 : Hid (Nms wr ka ns) := k2
        have HQ : Hid _ := hbk
        clear hbk k2 hnk'
        generalize hm : ns.length = m at *
        have Hm : Hid _ := hm
        clear hm
        go_wp2_with fail
        refine (cE _ K2.out).mono ?_
        rintro e w1 ⟨b1, r, rfl, hr1, hr2⟩
        by_cases hr : r < 0
        · go_wp2_with fail
          go_ret
          exact ⟨Below.comp hb b1, -1, rfl, .inl (by omega)⟩
        · go_wp2_with fail
          go_roundw
          case rel => exact ⟨k + 1, r, by omega, rfl, by go_num, by omega, by have := HQ.out; have := Hm.out; omega, Below.comp hb b1⟩
          case measure => simp [intOf]; omega
      · go_wp2
        go_ret
        have hkn : k = n := by omega
        subst hkn
        exact ⟨hb, q, rfl, .inr (by omega)⟩
end Go.Proofs.Ytfmgaenedkjmkaa
