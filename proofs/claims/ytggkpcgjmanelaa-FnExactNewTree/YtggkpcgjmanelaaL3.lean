import Derived.Test.YtggkpcgjmanelaaL2
/- What the laws do with rows of nodes and trees: copy, compare, measure. -/
namespace Go.Proofs.Ytggkpcgjmanelaa
open Go.ChangeShapes Go.WideShapes Go.ChangeAt Go.RowKit
set_option linter.unusedVariables false
open Bt

attribute [local go_sem] Oper.semAt_some

/-- How many ints the first nodes hold. -/
def bk (N : List Nd) : Nat → Nat
  | 0 => 0
  | k + 1 => bk N k + ((gn N k).ks.length + (gn N k).cs.length)
theorem bk_le {N : List Nd} {i k : Nat} (h : i < k) : (gn N i).ks.length + (gn N i).cs.length ≤ bk N k := by
  induction k with
  | zero => omega
  | succ k ih =>
    rw [bk]
    by_cases e : i = k
    · subst e; omega
    · have := ih (by omega); omega
/-- The first nodes lie in a row's cells, their ints in blocks of their own. -/
def NdsIn (w : World) (B C : Nat) (c : Array Value) (kb : Nat → Nat) (N : List Nd) (k : Nat) : Prop :=
  ∀ i, i < k → c[i * 3]? = some (.bool (gn N i).leaf) ∧ ∃ v v', c[i * 3 + 1]? = some v ∧ c[i * 3 + 2]? = some v' ∧ IB w B C v (gn N i).ks (kb (2 * i)) ∧ IB w B C v' (gn N i).cs (kb (2 * i + 1))
def rowOf (N : List Nd) (r : Nat) : List Int := if r % 2 = 0 then (gn N (r / 2)).ks else (gn N (r / 2)).cs
/-- No two rows share a block. -/
def Dst (b : Nat) (kb : Nat → Nat) (N : List Nd) : Prop := ∀ r, r < 2 * N.length → rowOf N r ≠ [] → kb r ≠ b ∧ ∀ r', r' < r → rowOf N r' ≠ [] → kb r' ≠ kb r
/-- A row of nodes whose memory lies between two marks, no two rows in one block. -/
def TOwn (w : World) (B C : Nat) (a : Option Addr) (N : List Nd) : Prop :=
  N ≠ [] → ∃ b c kb, B ≤ b ∧ b < C ∧ a = some ⟨b, 0, none⟩ ∧ w.heap[b]? = some (.cells c 73 (0, 0)) ∧ N.length * 3 ≤ c.size ∧ NdsIn w B C c kb N N.length ∧ Dst b kb N
theorem NdsIn.below {w w' : World} {B C : Nat} {c : Array Value} {kb : Nat → Nat} {N : List Nd} {k : Nat} (h : NdsIn w B C c kb N k) (hb : Below w.heap.size w w') : NdsIn w' B C c kb N k := by
  intro i hi
  obtain ⟨h0, v, v', h1, h2, h3, h4⟩ := h i hi
  exact ⟨h0, v, v', h1, h2, h3.below hb, h4.below hb⟩
theorem NdsIn.mono {w : World} {B C B' C' : Nat} {c : Array Value} {kb : Nat → Nat} {N : List Nd} {k : Nat} (h : NdsIn w B C c kb N k) (h1 : B' ≤ B) (h2 : C ≤ C') : NdsIn w B' C' c kb N k := by
  intro i hi
  obtain ⟨h0, v, v', k1, k2, h3, h4⟩ := h i hi
  exact ⟨h0, v, v', k1, k2, h3.mono h1 h2, h4.mono h1 h2⟩
theorem TOwn.below {w w' : World} {B C : Nat} {a : Option Addr} {N : List Nd} (h : TOwn w B C a N) (hb : Below w.heap.size w w') : TOwn w' B C a N := by
  intro hn
  obtain ⟨b, c, kb, h1, h2, h3, h4, h5, h6, h7⟩ := h hn
  exact ⟨b, c, kb, h1, h2, h3, box_on h4 hb, h5, h6.below hb, h7⟩
theorem TOwn.mono {w : World} {B C B' C' : Nat} {a : Option Addr} {N : List Nd} (h : TOwn w B C a N) (k1 : B' ≤ B) (k2 : C ≤ C') : TOwn w B' C' a N := by
  intro hn
  obtain ⟨b, c, kb, h1, h2, h3, h4, h5, h6, h7⟩ := h hn
  exact ⟨b, c, kb, by omega, by omega, h3, h4, h5, h6.mono k1 k2, h7⟩
theorem IB.out' {w w' : World} {B C B' C' : Nat} {v : Value} {l : List Int} {g : Nat} (h : IB w B C v l g) (ho : Out B' C' w w') (hd : C ≤ B' ∨ C' ≤ B) : IB w' B C v l g := by
  obtain ⟨a, c, e, hc, hr⟩ := h
  exact ⟨a, c, e, hc, fun hn => by obtain ⟨r1, r2, r3, cs, r4, r5⟩ := hr hn; exact ⟨r1, r2, r3, cs, box_out r4 ho (by omega), r5⟩⟩
theorem TOwn.out {w w' : World} {B C B' C' : Nat} {a : Option Addr} {N : List Nd} (h : TOwn w B C a N) (ho : Out B' C' w w') (hd : C ≤ B' ∨ C' ≤ B) : TOwn w' B C a N := by
  intro hn
  obtain ⟨b, c, kb, h1, h2, h3, h4, h5, h6, h7⟩ := h hn
  refine ⟨b, c, kb, h1, h2, h3, box_out h4 ho (by omega), h5, fun i hi => ?_, h7⟩
  obtain ⟨h0, v, v', k1, k2, h3, h4⟩ := h6 i hi
  exact ⟨h0, v, v', k1, k2, h3.out' ho hd, h4.out' ho hd⟩
theorem NdsIn.nd {w : World} {B C b : Nat} {c : Array Value} {kb : Nat → Nat} {N : List Nd} {k i : Nat} (h : NdsIn w B C c kb N k) (hi : i < k) (hb : w.heap[b]? = some (.cells c 73 (0, 0))) : NdAt w b (i * 3) (gn N i) := by
  obtain ⟨h0, v, v', h1, h2, h3, h4⟩ := h i hi
  obtain ⟨a, cp, rfl, e1, e2⟩ := h3.ints
  obtain ⟨a', cp', rfl, e3, e4⟩ := h4.ints
  exact ⟨a, cp, a', cp', cell_of_block hb h0, cell_of_block hb h1, cell_of_block hb h2, e2, e4, e1, e3⟩
theorem TOwn.nodes {w : World} {B C : Nat} {a : Option Addr} {N : List Nd} (h : TOwn w B C a N) : Nodes w a N := by
  intro hn
  obtain ⟨b, c, kb, h1, h2, h3, h4, h5, h6, h7⟩ := h (fun e => hn (by rw [e]; rfl))
  exact ⟨b, 0, h3, fun i hi => by rw [Nat.zero_add]; exact h6.nd hi h4⟩

def kbPut (kb : Nat → Nat) (k g g' : Nat) : Nat → Nat := fun r => if r = 2 * k then g else if r = 2 * k + 1 then g' else kb r
theorem kbPut_0 (kb : Nat → Nat) (k g g' : Nat) : kbPut kb k g g' (2 * k) = g := by simp [kbPut]
theorem kbPut_1 (kb : Nat → Nat) (k g g' : Nat) : kbPut kb k g g' (2 * k + 1) = g' := by simp [kbPut]
theorem kbPut_lt (kb : Nat → Nat) (k g g' : Nat) {r : Nat} (h : r < 2 * k) : kbPut kb k g g' r = kb r := by
  unfold kbPut
  rw [if_neg (by omega), if_neg (by omega)]
theorem NdsIn.put {w W : World} {B s C C' : Nat} {c : Array Value} {kb : Nat → Nat} {N : List Nd} {k g g' : Nat} {x x' : Value} (h : NdsIn w B C c kb N k) (ho : Out s (s + 1) w W) (hC : C ≤ C') (hcs : k * 3 + 3 ≤ c.size) (hkb : ∀ r, r < 2 * k → kb r ≠ s)
    (m1 : IB w B C' x (gn N k).ks g) (m2 : IB w B C' x' (gn N k).cs g') (hg : g ≠ s) (hg' : g' ≠ s) :
    NdsIn W B C' (((c.setIfInBounds (k * 3) (.bool (gn N k).leaf)).setIfInBounds (k * 3 + 1) x).setIfInBounds (k * 3 + 2) x') (kbPut kb k g g') N (k + 1) := by
  intro i hi
  by_cases e : i = k
  · subst e
    rw [kbPut_0, kbPut_1]
    refine ⟨?_, x, x', ?_, ?_, m1.out ho (fun _ => by omega), m2.out ho (fun _ => by omega)⟩
    · rw [set_ne (by omega), set_ne (by omega), set_at (by omega)]
    · rw [set_ne (by omega), set_at (by simp; omega)]
    · rw [set_at (by simp; omega)]
  · obtain ⟨h0, v, v', h1, h2, h3, h4⟩ := h i (by omega)
    rw [kbPut_lt _ _ _ _ (by omega), kbPut_lt _ _ _ _ (by omega)]
    refine ⟨?_, v, v', ?_, ?_, (h3.mono (Nat.le_refl _) hC).out ho (fun _ => by have := hkb (2 * i) (by omega); omega), (h4.mono (Nat.le_refl _) hC).out ho (fun _ => by have := hkb (2 * i + 1) (by omega); omega)⟩
    · rw [set_ne (by omega), set_ne (by omega), set_ne (by omega)]; exact h0
    · rw [set_ne (by omega), set_ne (by omega), set_ne (by omega)]; exact h1
    · rw [set_ne (by omega), set_ne (by omega), set_ne (by omega)]; exact h2
theorem toNodeS_any (a : Option Addr) (N : List Nd) (cap : Nat) (w : World) (hn : N.length ≤ 1048576) (hbk : bk N N.length ≤ 1048576) (hc : Nodes w a N) :
    Calls Try.prog 65 #[.slice a N.length cap] w fun e w' => Below w.heap.size w w' ∧ ∃ a' c', e = .returned (.slice a' N.length c') ∧ N.length ≤ c' ∧ TOwn w' w.heap.size w'.heap.size a' N := by
  have hmk := make_any (P := Try.prog) 25 73 _ 3 56 Try.underlying25 info73 .i64 .i64 N.length (by omega) (by omega)
  obtain ⟨n, hln⟩ : ∃ n, N.length = n := ⟨_, rfl⟩
  have Hln : Hid _ := hln
  unfold Nodes at hc
  rw [hln] at hn hmk hc hbk ⊢
  clear hln
  have Hc : Hid _ := hc
  clear hc
  go_enter Try.func65, Try.ntmps65
  go_wp2
  go_loopw [4] (fun i wr => ∃ (k : Nat) (c : Array Value) (kb : Nat → Nat), k ≤ n ∧ i = .int .i64 k ∧ wr.heap[w.heap.size]? = some (.cells c 73 (0, 0)) ∧ c.size = n * 3 ∧ NdsIn wr w.heap.size wr.heap.size c kb N k ∧ (∀ r, r < 2 * k → w.heap.size < kb r ∧ kb r < wr.heap.size ∧ ∀ r', r' < r → kb r' < kb r) ∧ Below w.heap.size w wr) (fun i _ => n - (intOf i).toNat)
  case atStart => exact ⟨0, _, fun _ => 0, Nat.zero_le _, rfl, heap_alloc_new w _, by simp [size_made], fun i hi => absurd hi (by simp), fun r hr => absurd hr (by simp), (Below.refl _ _).alloc (Nat.le_refl _) _⟩
  case round =>
    obtain ⟨k, c, kb, hk, rfl, hB, hcs, hst, hkb, hb⟩ := hrel
    by_cases hlt : k < n
    · obtain ⟨b, off, rfl, hcell⟩ := Hc.out (by omega)
      obtain ⟨ka, kc, ca, cc, k0, k1, k2, k3, k4, -, -⟩ := (hcell k hlt).below hb
      clear hcell
      have HB : Hid (wr.heap[w.heap.size]? = some (.cells c 73 (0, 0))) := hB
      have hBs : w.heap.size < wr.heap.size := box_lt hB
      clear hB
      have hbn := bk_le (N := N) hlt
      have hst' : Hid (NdsIn wr w.heap.size wr.heap.size c kb N k) := hst
      have hkb' : Hid _ := hkb
      clear hst hkb Hc
      obtain ⟨nd, hnd⟩ : ∃ nd, gn N k = nd := ⟨_, rfl⟩
      have Hnd : Hid _ := hnd
      rw [hnd] at k0 k1 k2 k3 k4 hbn
      clear hnd
      obtain ⟨lf, ks, cs⟩ := nd
      simp only at k0 k1 k2 k3 k4 hbn
      have cN := fun W h h' => toNode_any lf ka kc ca cc ks cs W (by omega) (by omega) h h'
      have S3 : Hid (Ints wr ka ks ∧ Ints wr ca cs) := ⟨k3, k4⟩
      clear k3 k4
      generalize hm : ks.length = m at k1 cN
      generalize hm' : cs.length = m' at k2 cN
      have Hm : Hid _ := hm
      have Hm' : Hid _ := hm'
      clear hm hm'
      go_wp2_with (go_at_call 90; refine (cN _ S3.out.1 S3.out.2).mono ?_; rintro e w1 ⟨b1, v, v', g, g', rfl, hg1, hg2, hg3, m1, m2⟩; have HB1 : Hid (w1.heap[w.heap.size]? = some (.cells c 73 (0, 0))) := box_on HB.out b1; have g0 : w1.cell? ⟨w.heap.size, k * 3, none⟩ = some c[k * 3] := cell_of_block HB1.out (by simp); have g1 : w1.cell? ⟨w.heap.size, k * 3 + 1, none⟩ = some c[k * 3 + 1] := cell_of_block HB1.out (by simp); have g2 : w1.cell? ⟨w.heap.size, k * 3 + 2, none⟩ = some c[k * 3 + 2] := cell_of_block HB1.out (by simp); have f0 := free_of_block (i := k * 3) HB1.out; have f1 := free_of_block (i := k * 3 + 1) HB1.out; have f2 := free_of_block (i := k * 3 + 2) HB1.out; have M1 : Hid _ := m1; have M2 : Hid _ := m2; obtain ⟨x, cx, rfl, -, -⟩ := m1; obtain ⟨x', cx', rfl, -, -⟩ := m2)
      go_roundw
      case rel =>
        have z1 := b1.size
        have hm := Hm.out
        have hm' := Hm'.out
        subst hm hm'
        have o3 : Out w.heap.size (w.heap.size + 1) w1 (((w1.setCell ⟨w.heap.size, k * 3, none⟩ (.bool lf)).setCell ⟨w.heap.size, k * 3 + 1, none⟩ (.slice x ks.length cx)).setCell ⟨w.heap.size, k * 3 + 2, none⟩ (.slice x' cs.length cx')) :=
          (((Out.refl _ _ _).setCell (Nat.le_refl _) (Nat.lt_succ_self _) _ _).setCell (Nat.le_refl _) (Nat.lt_succ_self _) _ _).setCell (Nat.le_refl _) (Nat.lt_succ_self _) _ _
        have hz3 : w1.heap.size ≤ (((w1.setCell ⟨w.heap.size, k * 3, none⟩ (.bool lf)).setCell ⟨w.heap.size, k * 3 + 1, none⟩ (.slice x ks.length cx)).setCell ⟨w.heap.size, k * 3 + 2, none⟩ (.slice x' cs.length cx')).heap.size := o3.size
        refine ⟨k + 1, _, kbPut kb k g g', by omega, by go_num, block_set (block_set (block_set HB1.out)), by simpa using hcs, ?_, ?_, (((Below.comp hb b1).setCell (by simp) _).setCell (by simp) _).setCell (by simp) _⟩
        · have := NdsIn.put (hst'.out.below b1) o3 (C' := (((w1.setCell ⟨w.heap.size, k * 3, none⟩ (.bool lf)).setCell ⟨w.heap.size, k * 3 + 1, none⟩ (.slice x ks.length cx)).setCell ⟨w.heap.size, k * 3 + 2, none⟩ (.slice x' cs.length cx')).heap.size) (by omega) (by omega) (fun r hr => by have := (hkb'.out r hr).1; omega) (by rw [Hnd.out]; exact IB.mono M1.out (by omega) hz3) (by rw [Hnd.out]; exact IB.mono M2.out (by omega) hz3) (g := g) (g' := g') (by omega) (by omega)
          rw [Hnd.out] at this
          simpa using this
        · intro r hr
          by_cases e0 : r = 2 * k
          · subst e0
            rw [kbPut_0]
            exact ⟨by omega, Nat.lt_of_lt_of_le (by omega : g < w1.heap.size) hz3, fun r' hr' => by rw [kbPut_lt _ _ _ _ hr']; have := (hkb'.out r' hr').2.1; omega⟩
          · by_cases e1 : r = 2 * k + 1
            · subst e1
              rw [kbPut_1]
              refine ⟨by omega, Nat.lt_of_lt_of_le (by omega : g' < w1.heap.size) hz3, fun r' hr' => ?_⟩
              by_cases e2 : r' = 2 * k
              · subst e2; rw [kbPut_0]; exact hg2
              · rw [kbPut_lt _ _ _ _ (by omega)]; have := (hkb'.out r' (by omega)).2.1; omega
            · have hr2 : r < 2 * k := by omega
              rw [kbPut_lt _ _ _ _ hr2]
              obtain ⟨u1, u2, u3⟩ := hkb'.out r hr2
              exact ⟨u1, Nat.lt_of_lt_of_le (by omega : kb r < w1.heap.size) hz3, fun r' hr' => by rw [kbPut_lt _ _ _ _ (by omega)]; exact u3 r' hr'⟩
      case measure => simp [intOf]; omega
    · go_wp2
      go_ret
      have hkn : k = n := by omega
      subst hkn
      refine ⟨hb, some ⟨w.heap.size, 0, none⟩, k, rfl, Nat.le_refl _, fun _ => ⟨w.heap.size, c, kb, Nat.le_refl _, box_lt hB, rfl, hB, by rw [Hln.out]; omega, by rw [Hln.out]; exact hst, ?_⟩⟩
      intro r hr _
      rw [Hln.out] at hr
      obtain ⟨u1, u2, u3⟩ := hkb r hr
      exact ⟨by omega, fun r' hr' _ => by have := u3 r' hr'; omega⟩
end Go.Proofs.Ytggkpcgjmanelaa
