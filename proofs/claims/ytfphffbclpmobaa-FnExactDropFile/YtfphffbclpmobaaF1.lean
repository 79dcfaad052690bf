import Derived.Test.YtfphffbclpmobaaL2
/- Rows of files in memory; what the laws do with them: copy, compare and measure. -/
namespace Go.Proofs.Ytfphffbclpmobaa
open Go.ChangeShapes Go.WideShapes Go.ChangeAt Go.RowKit
set_option linter.unusedVariables false
open Hd

attribute [local go_sem] Oper.semAt_some

theorem IB.out' {w w' : World} {B C B' C' : Nat} {v : Value} {l : List Int} {g : Nat} (h : IB w B C v l g) (ho : Out B' C' w w') (hd : C ≤ B' ∨ C' ≤ B) : IB w' B C v l g := by
  obtain ⟨a, c, e, hc, hr⟩ := h
  exact ⟨a, c, e, hc, fun hn => by obtain ⟨r1, r2, r3, cs, r4, r5⟩ := hr hn; exact ⟨r1, r2, r3, cs, box_out r4 ho (by omega), r5⟩⟩
theorem IB.same {w w' : World} {B C : Nat} {v : Value} {l : List Int} {g : Nat} (h : IB w B C v l g) (hs : l ≠ [] → g < w.heap.size → w'.heap[g]? = w.heap[g]?) : IB w' B C v l g := by
  obtain ⟨a, c, e, hc, hr⟩ := h
  exact ⟨a, c, e, hc, fun hn => by obtain ⟨r1, r2, r3, cs, r4, r5⟩ := hr hn; exact ⟨r1, r2, r3, cs, by rw [hs hn (box_lt r4)]; exact r4, r5⟩⟩
theorem box1_set {w : World} {b : Nat} {v0 x0 : Value} {e : TypeId} {z : Nat × Nat} (h : w.heap[b]? = some (.cells #[v0] e z)) : (w.setCell ⟨b, 0, none⟩ x0).heap[b]? = some (.cells #[x0] e z) := by
  rw [block_setz h]; rfl
theorem box1_cells {w : World} {b : Nat} {v0 : Value} {e : TypeId} (h : w.heap[b]? = some (.cells #[v0] e (0, 0))) : w.cell? ⟨b, 0, none⟩ = some v0 ∧ w.frozen? ⟨b, 0, none⟩ = false :=
  ⟨cell_of_block h rfl, free_of_block h⟩
/-- A file's memory. -/
def FiAt (w : World) (b o : Nat) (l : List Int) : Prop :=
  ∃ a c, w.cell? ⟨b, o, none⟩ = some (.slice a l.length c) ∧ Ints w a l ∧ l.length ≤ c
theorem FiAt.below {w w' : World} {b o : Nat} {l : List Int} (h : FiAt w b o l) (hb : Below w.heap.size w w') : FiAt w' b o l := by
  obtain ⟨a, c, h2, h3, h4⟩ := h
  exact ⟨a, c, cell_on h2 hb, h3.below hb, h4⟩
/-- A row of files that can be read. -/
def Fis (w : World) (a : Option Addr) (l : List (List Int)) : Prop :=
  l.length ≠ 0 → ∃ b off, a = some ⟨b, off, none⟩ ∧ ∀ i, i < l.length → FiAt w b (off + i) (gf l i)
theorem Fis.nil {w : World} {a : Option Addr} : Fis w a [] := fun h => absurd rfl h
theorem Fis.below {w w' : World} {a : Option Addr} {l : List (List Int)} (h : Fis w a l) (hb : Below w.heap.size w w') : Fis w' a l := by
  intro hn
  obtain ⟨b, off, rfl, hc⟩ := h hn
  exact ⟨b, off, rfl, fun i hi => (hc i hi).below hb⟩
theorem infoF : (Try.prog.info? 44).map (fun i => (i.zero, i.size, i.bytes)) = some (some (.agg #[.slice none 0 0]), 1, 24) := by kernel_rfl
/-- The first files lie in a row, their parts in blocks of their own. -/
def FiIn (w : World) (B C : Nat) (c : Array Value) (kb : Nat → Nat) (L : List (List Int)) (k : Nat) : Prop :=
  ∀ i, i < k → ∃ v, c[i]? = some v ∧ IB w B C v (gf L i) (kb i)
/-- No two rows share a block, and none has this one. -/
def DstF (b : Nat) (kb : Nat → Nat) (L : List (List Int)) : Prop := ∀ r, r < L.length → gf L r ≠ [] → kb r ≠ b ∧ ∀ r', r' < r → gf L r' ≠ [] → kb r' ≠ kb r
/-- A row of files whose memory lies between two marks, no two rows in one block. -/
def FOwn (w : World) (B C : Nat) (a : Option Addr) (L : List (List Int)) : Prop :=
  L ≠ [] → ∃ b c kb, B ≤ b ∧ b < C ∧ a = some ⟨b, 0, none⟩ ∧ w.heap[b]? = some (.cells c 44 (0, 0)) ∧ L.length ≤ c.size ∧ FiIn w B C c kb L L.length ∧ DstF b kb L
theorem FiIn.below {w w' : World} {B C : Nat} {c : Array Value} {kb : Nat → Nat} {L : List (List Int)} {k : Nat} (h : FiIn w B C c kb L k) (hb : Below w.heap.size w w') : FiIn w' B C c kb L k := by
  intro i hi
  obtain ⟨v, h1, h3⟩ := h i hi
  exact ⟨v, h1, h3.below hb⟩
theorem FiIn.mono {w : World} {B C B' C' : Nat} {c : Array Value} {kb : Nat → Nat} {L : List (List Int)} {k : Nat} (h : FiIn w B C c kb L k) (h1 : B' ≤ B) (h2 : C ≤ C') : FiIn w B' C' c kb L k := by
  intro i hi
  obtain ⟨v, k1, h3⟩ := h i hi
  exact ⟨v, k1, h3.mono h1 h2⟩
theorem FOwn.out {w w' : World} {B C B' C' : Nat} {a : Option Addr} {L : List (List Int)} (h : FOwn w B C a L) (ho : Out B' C' w w') (hd : C ≤ B' ∨ C' ≤ B) : FOwn w' B C a L := by
  intro hn
  obtain ⟨b, c, kb, h1, h2, h3, h4, h5, h6, h7⟩ := h hn
  refine ⟨b, c, kb, h1, h2, h3, box_out h4 ho (by omega), h5, fun i hi => ?_, h7⟩
  obtain ⟨v, k1, h3⟩ := h6 i hi
  exact ⟨v, k1, h3.out' ho hd⟩
theorem FiIn.ino {w : World} {B C b : Nat} {c : Array Value} {kb : Nat → Nat} {L : List (List Int)} {k i : Nat} (h : FiIn w B C c kb L k) (hi : i < k) (hb : w.heap[b]? = some (.cells c 44 (0, 0))) : FiAt w b i (gf L i) := by
  obtain ⟨v, h1, h3⟩ := h i hi
  obtain ⟨a, cp, rfl, e1, e2⟩ := h3.ints
  exact ⟨a, cp, cell_of_block hb h1, e2, e1⟩
theorem FOwn.inos {w : World} {B C : Nat} {a : Option Addr} {L : List (List Int)} (h : FOwn w B C a L) : Fis w a L := by
  intro hn
  obtain ⟨b, c, kb, h1, h2, h3, h4, h5, h6, h7⟩ := h (fun e => hn (by rw [e]; rfl))
  exact ⟨b, 0, h3, fun i hi => by rw [Nat.zero_add]; exact h6.ino hi h4⟩
/-- How many kids the first cells hold. -/
def kk (L : List (List Int)) : Nat → Nat
  | 0 => 0
  | k + 1 => kk L k + (gf L k).length
theorem kk_le {L : List (List Int)} {i k : Nat} (h : i < k) : (gf L i).length ≤ kk L k := by
  induction k with
  | zero => omega
  | succ k ih =>
    rw [kk]
    by_cases e : i = k
    · subst e; omega
    · have := ih (by omega); omega
theorem kk_mono {L : List (List Int)} {q : Nat} (h : q < L.length) : kk L (q + 1) ≤ kk L L.length := by
  have key : ∀ j, q + 1 + j ≤ L.length → kk L (q + 1) ≤ kk L (q + 1 + j) := by
    intro j
    induction j with
    | zero => intro _; exact Nat.le_refl _
    | succ j ih => intro hj; have := ih (by omega); show _ ≤ kk L (q + 1 + j) + _; omega
  have := key (L.length - (q + 1)) (by omega)
  rwa [show q + 1 + (L.length - (q + 1)) = L.length by omega] at this
theorem FOwn.below {w w' : World} {B C : Nat} {a : Option Addr} {L : List (List Int)} (h : FOwn w B C a L) (hb : Below w.heap.size w w') : FOwn w' B C a L := by
  intro hn
  obtain ⟨b, c, kb, h1, h2, h3, h4, h5, h6, h7⟩ := h hn
  exact ⟨b, c, kb, h1, h2, h3, box_on h4 hb, h5, h6.below hb, h7⟩
theorem FOwn.mono {w : World} {B C B' C' : Nat} {a : Option Addr} {L : List (List Int)} (h : FOwn w B C a L) (k1 : B' ≤ B) (k2 : C ≤ C') : FOwn w B' C' a L := by
  intro hn
  obtain ⟨b, c, kb, h1, h2, h3, h4, h5, h6, h7⟩ := h hn
  exact ⟨b, c, kb, by omega, by omega, h3, h4, h5, h6.mono k1 k2, h7⟩
def kbPut (kb : Nat → Nat) (k g : Nat) : Nat → Nat := fun r => if r = k then g else kb r
theorem kbPut_0 (kb : Nat → Nat) (k g : Nat) : kbPut kb k g k = g := by simp [kbPut]
theorem kbPut_ne (kb : Nat → Nat) (k g : Nat) {r : Nat} (h : r ≠ k) : kbPut kb k g r = kb r := by
  unfold kbPut
  rw [if_neg h]
theorem FOwn.nil {w : World} {B C : Nat} {a : Option Addr} : FOwn w B C a [] := fun h => absurd rfl h
theorem FiIn.put {w W : World} {B s C C' : Nat} {c : Array Value} {kb : Nat → Nat} {L : List (List Int)} {k g : Nat} {x : Value} (h : FiIn w B C c kb L k) (ho : Out s (s + 1) w W) (hC : C ≤ C') (hcs : k + 1 ≤ c.size) (hkb : ∀ r, r < k → kb r ≠ s)
    (m1 : IB w B C' x (gf L k) g) (hg : g ≠ s) :
    FiIn W B C' (c.setIfInBounds k x) (kbPut kb k g) L (k + 1) := by
  intro i hi
  by_cases e : i = k
  · subst e
    rw [kbPut_0]
    exact ⟨x, by rw [set_at (by omega)], m1.out ho (fun _ => by omega)⟩
  · obtain ⟨v, h1, h3⟩ := h i (by omega)
    rw [kbPut_ne _ _ _ (by omega)]
    exact ⟨v, by rw [set_ne (by omega)]; exact h1, (h3.mono (Nat.le_refl _) hC).out ho (fun _ => by have := hkb i (by omega); omega)⟩
theorem toFile_any (a : Option Addr) (ca : Nat) (l : List Int) (w : World) (hn : l.length ≤ 1048576) (ha : Ints w a l) :
    Calls Try.prog 32 #[.agg #[.slice a l.length ca]] w fun e w' => Below w.heap.size w w' ∧ ∃ v g, e = .returned (.agg #[v]) ∧ w.heap.size ≤ g ∧ g < w'.heap.size ∧ IB w' w.heap.size w'.heap.size v l g := by
  obtain ⟨s, hs⟩ : ∃ s, w.heap.size = s := ⟨_, rfl⟩
  obtain ⟨W0, hW0⟩ : ∃ W0, ((w.alloc (.cells #[.slice a l.length ca] 65)).alloc (.cells #[.slice none 0 0] 44)).alloc (.cells #[.slice none 0 0] 44) = W0 := ⟨_, rfl⟩
  have hb0 : Below s w W0 := by subst hW0 hs; exact ba3 _ _ _ _
  obtain ⟨B1, B2, B3⟩ : W0.heap[s]? = some (.cells #[.slice a l.length ca] 65 (0, 0)) ∧ W0.heap[s + 1]? = some (.cells #[.slice none 0 0] 44 (0, 0)) ∧ W0.heap[s + 1 + 1]? = some (.cells #[.slice none 0 0] 44 (0, 0)) := by subst hW0 hs; exact al3 _ _ _ _
  have z0 : s + 1 + 1 < W0.heap.size := box_lt B3
  obtain ⟨i0, -⟩ := box1_cells B1
  obtain ⟨j0, p0⟩ := box1_cells B3
  have H2 : Hid (W0.heap[s + 1]? = _) := B2
  have H3 : Hid (W0.heap[s + 1 + 1]? = _) := B3
  have hb1 : Below w.heap.size w W0 := hs ▸ hb0
  clear B1 B2 B3
  go_enter Try.func32, Try.ntmps32
  go_wp2_with fail
  refine (toIntS_any a l ca _ hn (ha.below hb1)).mono ?_
  rintro e w1 ⟨b1, zz1, v, rfl, m1⟩
  clear hW0 i0 j0 p0
  have z2 := b1.size
  obtain ⟨x, cx, rfl, -, -⟩ := id m1
  obtain ⟨K2, K3⟩ : Hid (w1.heap[s + 1]? = _) ∧ Hid (w1.heap[s + 1 + 1]? = _) := ⟨box_on H2.out b1, box_on H3.out b1⟩
  obtain ⟨r0, q0⟩ := box1_cells K3.out
  obtain ⟨e0, d0⟩ := box1_cells K2.out
  have m1' : Hid (IB w1 W0.heap.size w1.heap.size (.slice x l.length cx) l W0.heap.size) := m1
  clear m1
  go_wp2
  obtain ⟨W3, hW3⟩ : ∃ W3, (w1.setCell ⟨s + 1 + 1, 0, none⟩ (.slice x l.length cx)).setCell ⟨s + 1, 0, none⟩ (.slice x l.length cx) = W3 := ⟨_, rfl⟩
  have o2 : Out (s + 1) (s + 1 + 1 + 1) w1 W3 := by
    subst hW3
    exact ((Out.refl _ _ _).setCell (by omega) (by omega) _ _).setCell (by omega) (by omega) _ _
  have R : W3.heap[s + 1]? = some (.cells #[.slice x l.length cx] 44 (0, 0)) := by
    subst hW3
    exact box1_set (box_out K2.out (out_setCell _ _ _ _) (by omega))
  rw [hW3]
  clear hW3 r0 q0 e0 d0
  obtain ⟨t0, -⟩ := box1_cells R
  have z4 := o2.size
  refine bodyPost_ret (v := .agg #[.slice x l.length cx]) (by simp [results, Try.results32, go_sem, t0]) rfl ⟨?_, .slice x l.length cx, W0.heap.size, rfl, by omega, by omega, ?_⟩
  · exact (Below.comp hb1 b1).trans ((o2.below (by omega)).mono (by omega))
  · exact (m1'.out.out o2 (fun _ => .inr (by omega))).mono (by omega) (by omega)
set_option maxHeartbeats 400000 in
theorem toFileS_any (a : Option Addr) (L : List (List Int)) (cap : Nat) (w : World) (hn : L.length ≤ 1048576) (hbk : kk L L.length ≤ 1048576) (hc : Fis w a L) :
    Calls Try.prog 17 #[.slice a L.length cap] w fun e w' => Below w.heap.size w w' ∧ ∃ a' c', e = .returned (.slice a' L.length c') ∧ L.length ≤ c' ∧ FOwn w' w.heap.size w'.heap.size a' L := by
  have hmk := make_any (P := Try.prog) 28 44 _ 1 24 Try.underlying28 infoF .i64 .i64 L.length (by omega) (by omega)
  obtain ⟨n, hln⟩ : ∃ n, L.length = n := ⟨_, rfl⟩
  have Hln : Hid _ := hln
  unfold Fis at hc
  rw [hln] at hn hmk hc hbk ⊢
  clear hln
  have Hc : Hid _ := hc
  clear hc
  go_enter Try.func17, Try.ntmps17
  go_wp2
  go_loopw [4] (fun i wr => ∃ (k : Nat) (c : Array Value) (kb : Nat → Nat), k ≤ n ∧ i = .int .i64 k ∧ Hid (wr.heap[w.heap.size]? = some (.cells c 44 (0, 0))) ∧ c.size = n ∧ FiIn wr w.heap.size wr.heap.size c kb L k ∧ (∀ r, r < k → w.heap.size < kb r ∧ kb r < wr.heap.size ∧ ∀ r', r' < r → kb r' < kb r) ∧ Below w.heap.size w wr) (fun i _ => n - (intOf i).toNat)
  case atStart => exact ⟨0, _, fun _ => 0, Nat.zero_le _, rfl, heap_alloc_new w _, by simp [size_made], fun i hi => absurd hi (by simp), fun r hr => absurd hr (by simp), (Below.refl _ _).alloc (Nat.le_refl _) _⟩
  case round =>
    obtain ⟨k, c, kb, hk, rfl, HB, hcs, hst, hkb, hb⟩ := hrel
    by_cases hlt : k < n
    · obtain ⟨b, off, rfl, hcell⟩ := Hc.out (by omega)
      obtain ⟨ka, kc, k1, k2, -⟩ := (hcell k hlt).below hb
      clear hcell
      have hBs : w.heap.size < wr.heap.size := box_lt HB.out
      have hbn := kk_le (L := L) hlt
      have hst' : Hid (FiIn wr w.heap.size wr.heap.size c kb L k) := hst
      have hkb' : Hid _ := hkb
      clear hst hkb Hc
      obtain ⟨ns, hnd⟩ : ∃ ns, gf L k = ns := ⟨_, rfl⟩
      have Hnd : Hid _ := hnd
      rw [hnd] at k1 k2 hbn
      clear hnd
      have cN := fun W h => toFile_any ka kc ns W (by omega) h
      have S3 : Hid (Ints wr ka ns) := k2
      clear k2
      generalize hm : ns.length = m at k1 cN
      have Hm : Hid _ := hm
      clear hm
      go_wp2_with (go_at_call 32; refine (cN _ S3.out).mono ?_; rintro e w1 ⟨b1, v, g, rfl, hg1, hg3, m1⟩; have HB1 : Hid (w1.heap[w.heap.size]? = some (.cells c 44 (0, 0))) := box_on HB.out b1; have g0 : w1.cell? ⟨w.heap.size, k, none⟩ = some c[k] := cell_of_block HB1.out (by simp); have f0 := free_of_block (i := k) HB1.out; have M1 : Hid _ := m1; obtain ⟨x, cx, rfl, -, -⟩ := m1)
      go_roundw
      case rel =>
        have z1 := b1.size
        have hm := Hm.out
        subst hm
        have o3 : Out w.heap.size (w.heap.size + 1) w1 (w1.setCell ⟨w.heap.size, k, none⟩ (.slice x ns.length cx)) :=
          (Out.refl _ _ _).setCell (Nat.le_refl _) (Nat.lt_succ_self _) _ _
        have hz3 : w1.heap.size ≤ (w1.setCell ⟨w.heap.size, k, none⟩ (.slice x ns.length cx)).heap.size := o3.size
        refine ⟨k + 1, _, kbPut kb k g, by omega, by go_num, block_set HB1.out, by simpa using hcs, ?_, ?_, (Below.comp hb b1).setCell (by simp) _⟩
        · have := FiIn.put (hst'.out.below b1) o3 (C' := (w1.setCell ⟨w.heap.size, k, none⟩ (.slice x ns.length cx)).heap.size) (by omega) (by omega) (fun r hr => by have := (hkb'.out r hr).1; omega) (by rw [Hnd.out]; exact IB.mono M1.out (by omega) hz3) (g := g) (by omega)
          simpa using this
        · intro r hr
          by_cases e0 : r = k
          · subst e0
            rw [kbPut_0]
            exact ⟨by omega, Nat.lt_of_lt_of_le (by omega : g < w1.heap.size) hz3, fun r' hr' => by rw [kbPut_ne _ _ _ (by omega)]; have := (hkb'.out r' hr').2.1; omega⟩
          · have hr2 : r < k := by omega
            rw [kbPut_ne _ _ _ e0]
            obtain ⟨u1, u2, u3⟩ := hkb'.out r hr2
            exact ⟨u1, Nat.lt_of_lt_of_le (by omega : kb r < w1.heap.size) hz3, fun r' hr' => by rw [kbPut_ne _ _ _ (by omega)]; exact u3 r' hr'⟩
      case measure => simp [intOf]; omega
    · go_wp2
      go_ret
      have hkn : k = n := by omega
      subst hkn
      refine ⟨hb, some ⟨w.heap.size, 0, none⟩, k, rfl, Nat.le_refl _, fun _ => ⟨w.heap.size, c, kb, Nat.le_refl _, box_lt HB.out, rfl, HB.out, by rw [Hln.out]; omega, by rw [Hln.out]; exact hst, ?_⟩⟩
      intro r hr _
      rw [Hln.out] at hr
      obtain ⟨u1, u2, u3⟩ := hkb r hr
      exact ⟨by omega, fun r' hr' _ => by have := u3 r' hr'; omega⟩
theorem eqFile_same (a c : Option Addr) (ca cc : Nat) (l : List Int) (w : World) (hn : l.length ≤ 9223372036854775807) (ha : Ints w a l) (hc : Ints w c l) :
    Calls Try.prog 40 #[.agg #[.slice a l.length ca], .agg #[.slice c l.length cc]] w fun e w' => e = .returned (.bool true) ∧ Below w.heap.size w w' := by
  obtain ⟨s, hs⟩ : ∃ s, w.heap.size = s := ⟨_, rfl⟩
  obtain ⟨W0, hW0⟩ : ∃ W0, (w.alloc (.cells #[.slice a l.length ca] 44)).alloc (.cells #[.slice c l.length cc] 44) = W0 := ⟨_, rfl⟩
  have hb0' : Below w.heap.size w W0 := by subst hW0; exact ba2 _ _ _
  obtain ⟨B1, B2⟩ : W0.heap[s]? = some (.cells #[.slice a l.length ca] 44 (0, 0)) ∧ W0.heap[s + 1]? = some (.cells #[.slice c l.length cc] 44 (0, 0)) := by subst hW0 hs; exact al2 _ _ _
  obtain ⟨i0, -⟩ := box1_cells B1
  obtain ⟨j0, -⟩ := box1_cells B2
  clear B1 B2
  go_enter Try.func40, Try.ntmps40
  go_wp2_with fail
  refine (eqIntS_same a c ca cc l _ hn (ha.below hb0') (hc.below hb0')).mono ?_
  rintro e w1 ⟨rfl, b1⟩
  go_wp2
  go_ret
  exact ⟨rfl, Below.comp hb0' b1⟩
set_option maxHeartbeats 1000000 in
theorem eqFileS_same (a a' : Option Addr) (L : List (List Int)) (cap cap' : Nat) (w : World) (hn : L.length ≤ 9223372036854775807) (hnk : ∀ i, i < L.length → (gf L i).length ≤ 9223372036854775807) (hc : Fis w a L) (hc' : Fis w a' L) :
    Calls Try.prog 23 #[.slice a L.length cap, .slice a' L.length cap'] w fun e w' => e = .returned (.bool true) ∧ Below w.heap.size w w' := by
  unfold Fis at hc hc'
  have Hc : Hid _ := hc
  have Hc' : Hid _ := hc'
  clear hc hc'
  generalize L.length = n at *
  go_enter Try.func23, Try.ntmps23
  go_wp2
  go_loopw [5] (fun i wr => ∃ (k : Nat), k ≤ n ∧ i = .int .i64 k ∧ Below w.heap.size w wr) (fun i _ => n - (intOf i).toNat)
  case atStart => exact ⟨0, Nat.zero_le _, rfl, Below.refl _ _⟩
  case round =>
    obtain ⟨k, hk, rfl, hb⟩ := hrel
    by_cases hlt : k < n
    · obtain ⟨b, off, rfl, hcell⟩ := Hc.out (by omega)
      obtain ⟨b', off', rfl, hcell'⟩ := Hc'.out (by omega)
      obtain ⟨ka, kc, k1, k2, -⟩ := (hcell k hlt).below hb
      obtain ⟨ka', kc', k1', k2', -⟩ := (hcell' k hlt).below hb
      clear hcell hcell' Hc Hc'
      have hlt' : (k : Int) < (n : Int) := by omega
      have hnk' := hnk k hlt
      generalize gf L k = ns at k1 k2 k1' k2' hnk'
      have cE := fun W h1 h2 => eqFile_same ka ka' kc kc' ns W hnk' h1 h2
      have SI : Hid (∀ W, Below wr.heap.size wr W → Ints W ka ns ∧ Ints W ka' ns) := fun W g => ⟨k2.below g, k2'.below g⟩
      clear k2 k2'
      generalize ns.length = m at *
      have SB : Hid (∀ W, Below wr.heap.size wr W → W.cell? ⟨b, off + k, none⟩ = some (.slice ka m kc) ∧ W.cell? ⟨b', off' + k, none⟩ = some (.slice ka' m kc') ∧ Below wr.heap.size wr W) := fun W g => ⟨cell_on k1 g, cell_on k1' g, g⟩
      clear k1 k1' hnk hnk'
      go_wp2
      go_region_held3 (fun W => W.cell? ⟨b, off + k, none⟩ = some (.slice ka m kc) ∧ W.cell? ⟨b', off' + k, none⟩ = some (.slice ka' m kc') ∧ Below wr.heap.size wr W)
        ((refine SB.out _ ?_; first | assumption | exact Below.drew (Below.refl _ _)))
        (first
        | (go_at_call 40; obtain ⟨-, -, hw0⟩ := ‹_ ∧ _ ∧ Below wr.heap.size wr _›; obtain ⟨u1, u2⟩ := SI.out _ hw0; refine (cE _ u1 u2).mono ?_; rintro e w1 ⟨rfl, g1⟩; have g2 := Below.comp hw0 g1))
      all_goals go_wp2
      go_roundw
      case rel => exact ⟨k + 1, by omega, by go_num, Below.comp hb (by assumption)⟩
      case measure => simp [intOf]; omega
    · go_wp2
      go_ret
      exact ⟨rfl, hb⟩
/-- Files that can be read. -/
def FewF (L : List (List Int)) : Prop := L.length ≤ 9223372036854775807 ∧ ∀ i, i < L.length → (gf L i).length ≤ 9223372036854775807
theorem szFile_any (a : Option Addr) (ca : Nat) (l : List Int) (left : Int) (w : World) (hf : l.length ≤ 9223372036854775807) (h0 : 0 ≤ left) (h1 : left ≤ 1048576) :
    Calls Try.prog 29 #[.agg #[.slice a l.length ca], .int .i64 left] w fun e w' => Below w.heap.size w w' ∧ ∃ r : Int, e = .returned (.int .i64 r) ∧ r ≤ left ∧ (r < 0 ∨ r + l.length ≤ left) := by
  generalize l.length = n at *
  have c1 := fun W => szIntS_any a n ca left W hf (by omega) (by omega)
  by_cases h : left - (n : Int) < 0
  · rw [if_pos h] at c1
    go_enter Try.func29, Try.ntmps29
    go_wp2_with (go_at_call 44; refine (c1 _).mono ?_; rintro e w1 ⟨rfl, rfl⟩)
    go_ret
    exact ⟨below_alloc _ _, -1, rfl, by omega, .inl (by omega)⟩
  · rw [if_neg h] at c1
    go_enter Try.func29, Try.ntmps29
    go_wp2_with (go_at_call 44; refine (c1 _).mono ?_; rintro e w1 ⟨rfl, rfl⟩)
    go_ret
    exact ⟨below_alloc _ _, left - n, rfl, by omega, .inr (by omega)⟩
set_option maxHeartbeats 1000000 in
theorem szFileS_any (a : Option Addr) (L : List (List Int)) (cap : Nat) (left : Int) (w : World) (hf : FewF L) (hc : Fis w a L) (h0 : 0 ≤ left) (h1 : left ≤ 1048576) :
    Calls Try.prog 12 #[.slice a L.length cap, .int .i64 left] w fun e w' => Below w.heap.size w w' ∧ ∃ r : Int, e = .returned (.int .i64 r) ∧ (r < 0 ∨ r + L.length + kk L L.length ≤ left) := by
  unfold Fis at hc
  have Hc : Hid _ := hc
  clear hc
  obtain ⟨hn, hnk⟩ := hf
  generalize L.length = n at *
  have e1 : IntKind.i64.wrap (left - (n : Int)) = left - n := wrapI (by omega) (by omega)
  by_cases hl : left - (n : Int) < 0
  · go_enter Try.func12, Try.ntmps12
    go_wp2
    go_ret
    exact ⟨Below.refl _ _, -1, rfl, .inl (by omega)⟩
  · have hl' : 0 ≤ left - (n : Int) := by omega
    go_enter Try.func12, Try.ntmps12
    go_wp2
    go_loopw [1, 5] (fun lv i wr => ∃ (k : Nat) (q : Int), k ≤ n ∧ lv = .int .i64 q ∧ i = .int .i64 k ∧ 0 ≤ q ∧ q + kk L k ≤ left - n ∧ Below w.heap.size w wr) (fun _ i _ => n - (intOf i).toNat)
    case atStart => exact ⟨0, left - n, Nat.zero_le _, rfl, rfl, hl', by simp [kk], Below.refl _ _⟩
    case round =>
      obtain ⟨k, q, hk, rfl, rfl, hq0, hq1, hb⟩ := hrel
      by_cases hlt : k < n
      · obtain ⟨b, off, rfl, hcell⟩ := Hc.out (by omega)
        obtain ⟨ka, kc, k1, k2, -⟩ := (hcell k hlt).below hb
        clear hcell Hc
        have hnk' := hnk k hlt
        have hbk : kk L (k + 1) = kk L k + (gf L k).length := rfl
        generalize gf L k = ns at k1 k2 hnk' hbk
        have cE := fun W => szFile_any ka kc ns q W hnk' hq0 (by omega)
        have K2 : Hid (Ints wr ka ns) := k2
        have HQ : Hid _ := hbk
        clear hbk k2 hnk'
        generalize hm : ns.length = m at *
        have Hm : Hid _ := hm
        clear hm
        go_wp2_with fail
        refine (cE _).mono ?_
        rintro e w1 ⟨b1, r, rfl, hr1, hr2⟩
        by_cases hr : r < 0
        · go_wp2_with fail
          go_ret
          exact ⟨Below.comp hb b1, -1, rfl, .inl (by omega)⟩
        · go_wp2_with fail
          go_roundw
          case rel => exact ⟨k + 1, r, by omega, rfl, by go_num, by omega, by have := HQ.out; have := Hm.out; omega, Below.comp hb b1⟩
          case measure => simp [intOf]; omega
      · go_wp2
        go_ret
        have hkn : k = n := by omega
        subst hkn
        exact ⟨hb, q, rfl, .inr (by omega)⟩
end Go.Proofs.Ytfphffbclpmobaa
