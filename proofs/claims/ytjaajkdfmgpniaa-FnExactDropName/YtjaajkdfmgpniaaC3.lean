import Derived.Test.YtjaajkdfmgpniaaC2
import Derived.Test.YtjaajkdfmgpniaaL7
import Derived.Deep.DeepCutAuto
/- The program: a directory's lists copied. -/
namespace Go.Proofs.Ytjaajkdfmgpniaa
open Go.ChangeShapes Go.WideShapes Go.ChangeAt Go.RowKit
set_option linter.unusedVariables false
open Hd

attribute [local go_sem] Oper.semAt_some

/-- The cells of a row of buckets as they lie. -/
def BkCs (w : World) (L : List Bk) (cs : List Value) : Prop :=
  cs.length = L.length * 2 ∧ (∀ u ∈ cs, u.oneCell' = true) ∧ ∀ i, i < L.length → cs[i * 2]? = some (.int .i64 (gb L i).dp) ∧ ∃ na nc, cs[i * 2 + 1]? = some (.slice na (gb L i).ns.length nc) ∧ Nms w na (gb L i).ns ∧ (gb L i).ns.length ≤ nc
theorem Bks.cells {w : World} {a : Option Addr} {L : List Bk} (h : Bks w a L) : ∃ cs, BkCs w L cs ∧ (L.length = 0 ∨ ∃ ad, a = some ad ∧ ∀ j u, cs[j]? = some u → w.cell? (ad.add j) = some u) := by
  by_cases h0 : L.length = 0
  · refine ⟨[], ⟨by rw [h0]; rfl, by simp, fun i hi => absurd hi (by omega)⟩, .inl h0⟩
  · obtain ⟨b, off, rfl, hc⟩ := h h0
    obtain ⟨f, hf⟩ : ∃ f : Nat → Value, ∀ j, j < L.length * 2 → w.cell? ⟨b, off + j, none⟩ = some (f j) ∧ (f j).oneCell' = true := by
      refine ⟨fun j => (w.cell? ⟨b, off + j, none⟩).getD (.int .i64 0), fun j hj => ?_⟩
      obtain ⟨na, nc, h1, h2, -, -⟩ := hc (j / 2) (by omega)
      rcases Nat.mod_two_eq_zero_or_one j with q | q
      · have ej : off + j / 2 * 2 = off + j := by omega
        rw [ej] at h1
        show w.cell? ⟨b, off + j, none⟩ = some ((w.cell? ⟨b, off + j, none⟩).getD (.int .i64 0)) ∧ ((w.cell? ⟨b, off + j, none⟩).getD (.int .i64 0)).oneCell' = true
        rw [h1]
        exact ⟨rfl, rfl⟩
      · have ej : off + j / 2 * 2 + 1 = off + j := by omega
        rw [ej] at h2
        show w.cell? ⟨b, off + j, none⟩ = some ((w.cell? ⟨b, off + j, none⟩).getD (.int .i64 0)) ∧ ((w.cell? ⟨b, off + j, none⟩).getD (.int .i64 0)).oneCell' = true
        rw [h2]
        exact ⟨rfl, rfl⟩
    have hg : ∀ j, j < L.length * 2 → ((List.range (L.length * 2)).map f)[j]? = some (f j) := fun j hj => by simp [hj]
    refine ⟨(List.range (L.length * 2)).map f, ⟨by simp, fun u hu => ?_, fun i hi => ?_⟩, .inr ⟨_, rfl, fun j u hj => ?_⟩⟩
    · obtain ⟨j, hj, rfl⟩ := List.mem_map.1 hu
      exact (hf j (List.mem_range.1 hj)).2
    · obtain ⟨na, nc, h1, h2, h3, h4⟩ := hc i hi
      have e1 := (hf (i * 2) (by omega)).1
      have e2 := (hf (i * 2 + 1) (by omega)).1
      rw [h1] at e1
      rw [← Nat.add_assoc, h2] at e2
      rw [hg _ (by omega), hg _ (by omega), ← Option.some.inj e1, ← Option.some.inj e2]
      exact ⟨rfl, na, nc, rfl, h3, h4⟩
    · have hlt : j < L.length * 2 := by have := (List.getElem?_eq_some_iff.1 hj).1; simpa using this
      rw [hg j hlt] at hj
      rw [addN, ← hj]
      exact (hf j hlt).1
/-- A directory with other names in one bucket. -/
def exD (d : Dr) (j : Nat) (R : List Nm) : Dr := ⟨d.dp, d.sl, d.bs.set j ⟨(gb d.bs j).dp, R⟩⟩
def exR (l : List Nm) (s : ByteArray) (k : Nat) (come : List Nm) : List Nm := l.take k ++ come ++ l.drop (bif hasN l s k then k + 1 else k)
theorem gb_set {L : List Bk} {j i : Nat} {x : Bk} (hj : j < L.length) : gb (L.set j x) i = if i = j then x else gb L i := by
  unfold gb
  by_cases h : i = j
  · subst h
    simp [hj]
  · rw [if_neg h]
    simp [Ne.symm h]
theorem box3_out (w : World) (b : Nat) (x0 x1 x2 : Value) : Out b (b + 1) w (((w.setCell ⟨b, 0, none⟩ x0).setCell ⟨b, 1, none⟩ x1).setCell ⟨b, 2, none⟩ x2) :=
  (((Out.refl _ _ _).setCell (Nat.le_refl _) (Nat.lt_succ_self _) _ _).setCell (Nat.le_refl _) (Nat.lt_succ_self _) _ _).setCell (Nat.le_refl _) (Nat.lt_succ_self _) _ _
theorem BksIn.put1 {w W : World} {B s C C' : Nat} {c : Array Value} {kb : Nat → Nat} {L : List Bk} {k g : Nat} {x : Value} (h : BksIn w B C c kb L k) (ho : Out s (s + 1) w W) (hC : C ≤ C') (hcs : k * 2 + 2 ≤ c.size) (hd : c[k * 2]? = some (.int .i64 (gb L k).dp)) (hkb : ∀ r, r < k → kb r ≠ s)
    (m1 : NB w B C' x (gb L k).ns g) (hg : g ≠ s) :
    BksIn W B C' (c.setIfInBounds (k * 2 + 1) x) (kbPut kb k g) L (k + 1) := by
  intro i hi
  by_cases e : i = k
  · subst e
    rw [kbPut_0]
    refine ⟨?_, x, ?_, m1.out ho (fun _ => by omega)⟩
    · rw [set_ne (by omega)]; exact hd
    · rw [set_at (by omega)]
  · obtain ⟨h0, v, h1, h3⟩ := h i (by omega)
    rw [kbPut_ne _ _ _ (by omega)]
    refine ⟨?_, v, ?_, (h3.mono (Nat.le_refl _) hC).out ho (fun _ => by have := hkb i (by omega); omega)⟩
    · rw [set_ne (by omega)]; exact h0
    · rw [set_ne (by omega)]; exact h1
theorem BksIn.swap {w W : World} {B s C C' : Nat} {c : Array Value} {kb : Nat → Nat} {L : List Bk} {j n g : Nat} {x : Value} {R : List Nm} (h : BksIn w B C c kb L n) (ho : Out s (s + 1) w W) (hC : C ≤ C') (hj : j < n) (hn : n ≤ L.length) (hcs : n * 2 ≤ c.size) (hkb : ∀ r, r < n → kb r ≠ s)
    (m1 : NB w B C' x R g) (hg : R ≠ [] → g ≠ s) :
    BksIn W B C' (c.setIfInBounds (j * 2 + 1) x) (kbPut kb j g) (L.set j ⟨(gb L j).dp, R⟩) n := by
  intro i hi
  obtain ⟨h0, v, h1, h3⟩ := h i hi
  rw [gb_set (by omega)]
  by_cases e : i = j
  · subst e
    rw [kbPut_0, if_pos rfl]
    refine ⟨?_, x, ?_, m1.out ho (fun q => by have := hg q; omega)⟩
    · rw [set_ne (by omega)]; exact h0
    · rw [set_at (by omega)]
  · rw [kbPut_ne _ _ _ e, if_neg e]
    refine ⟨?_, v, ?_, (h3.mono (Nat.le_refl _) hC).out ho (fun _ => by have := hkb i hi; omega)⟩
    · rw [set_ne (by omega)]; exact h0
    · rw [set_ne (by omega)]; exact h1
theorem concat3_any (na ac : Option Addr) (nc cc k T b : Nat) (l come : List Nm) (W : World) (hB : W.heap[b]? = some (.cells #[.slice (subA na 0 nc) k nc, .slice ac come.length cc, .slice (subA na T nc) (l.length - T) (nc - T)] 51 (0, 0))) (hl : l.length ≤ 1000) (hcm : come.length ≤ 1) (hk : k ≤ l.length) (hT : T ≤ l.length) (hnc : l.length ≤ nc) (hn : Nms W na l) (hc : Nms W ac come) :
    Calls Try.prog 92 #[.slice (some ⟨b, 0, none⟩) 3 3] W fun e w' => Below W.heap.size W w' ∧ ∃ x c, e = .returned (.slice x (l.take k ++ come ++ l.drop T).length c) ∧ OwnN w' W.heap.size (.slice x (l.take k ++ come ++ l.drop T).length c) (l.take k ++ come ++ l.drop T) := by
  obtain ⟨x0, x1, x2, -, -, -⟩ := box3_cells hB
  have := Concat_any b 3 3 (fun i => if i = 0 then subA na 0 nc else if i = 1 then ac else subA na T nc) (fun i => if i = 0 then nc else if i = 1 then cc else nc - T) (fun i => if i = 0 then l.take k else if i = 1 then come else l.drop T) W (by omega)
    (fun i hi => by
      rcases (by omega : i = 0 ∨ i = 1 ∨ i = 2) with rfl | rfl | rfl
      · simp; omega
      · simp; omega
      · simp; omega)
    (fun i hi => by
      rcases (by omega : i = 0 ∨ i = 1 ∨ i = 2) with rfl | rfl | rfl
      · simp [Nat.min_eq_left hk, x0]
      · simp [x1]
      · simp [x2])
    (fun i hi => by
      rcases (by omega : i = 0 ∨ i = 1 ∨ i = 2) with rfl | rfl | rfl
      · exact hn.take nc k hk
      · exact hc
      · exact hn.drop nc T hnc)
  have e : flat (fun i => if i = 0 then l.take k else if i = 1 then come else l.drop T) 3 = l.take k ++ come ++ l.drop T := by simp [flat]
  rw [e] at this
  exact this
/-- The copied directory with its exchanged bucket owns its memory. -/
theorem ex_own {w1 w8 ws w9 : World} {d : Dr} {j n m gI gB B g D : Nat} {DP : Int} {c : Array Value} {kb : Nat → Nat} {x : Value} {R : List Nm} (hD : d.dp = DP) (hn : d.sl.length = n) (hm : d.bs.length = m) (hj : j < m) (hI : w8.heap[gI]? = some (.cells (cis d.sl).toArray 3 (0, 0))) (hB : w8.heap[gB]? = some (.cells c 67 (0, 0))) (hc : c.size = m * 2) (hbs : BksIn w8 w1.heap.size w8.heap.size c kb d.bs m)
    (hkb : ∀ r, r < m → w1.heap.size ≤ kb r ∧ kb r < D ∧ ∀ r', r' < r → kb r' < kb r) (hx : NB w8 D w8.heap.size x R g) (hD1 : w1.heap.size ≤ D) (hgI : gI < w1.heap.size) (hgB : gB < w1.heap.size) (hne : gI ≠ gB) (h1 : B ≤ gI) (h2 : B ≤ gB) (hB1 : B + 2 ≤ gI) (hB2 : B + 2 ≤ gB) (hs : ws = w8.setCell ⟨gB, j * 2 + 1, none⟩ x) (ho : Out (B + 1) (B + 2) ws w9) :
    DOwn w9 B w9.heap.size (.agg #[.int .i64 DP, .slice (some ⟨gI, 0, none⟩) n n, .slice (some ⟨gB, 0, none⟩) m m]) (exD d j R) := by
  subst hD hn hm hs
  have os : Out gB (gB + 1) w8 (w8.setCell ⟨gB, j * 2 + 1, none⟩ x) := (Out.refl _ _ _).setCell (Nat.le_refl _) (Nat.lt_succ_self _) _ _
  have zs : (w8.setCell ⟨gB, j * 2 + 1, none⟩ x).heap.size = w8.heap.size := by simp
  have z9 := ho.size
  have zI := box_lt hI
  have zB := box_lt hB
  have hlen : (d.bs.set j ⟨(gb d.bs j).dp, R⟩).length = d.bs.length := by simp
  refine ⟨_, some ⟨gB, 0, none⟩, d.bs.length, gI, by simp [exD], by simp [exD], ⟨_, _, rfl, Nat.le_refl _, fun _ => ⟨rfl, h1, by omega, _, box_out (box_out hI os (by omega)) ho (by omega), ?_⟩⟩, fun _ => ⟨gB, _, kbPut kb j g, h2, by omega, rfl, box_out (block_set hB) ho (by omega), by simp [exD, hc], ?_, by omega, ?_⟩⟩
  · intro i hi
    have := cis_at (l := d.sl) hi
    show ((cis d.sl).toArray)[i]? = some (iv (gi d.sl i))
    simpa using this
  · have hw := BksIn.swap (C' := w8.heap.size) hbs os (Nat.le_refl _) hj (Nat.le_refl _) (by omega) (fun r hr => by have := (hkb r hr).1; omega) (hx.mono hD1 (Nat.le_refl _)) (fun q => by obtain ⟨_, _, _, _, hh⟩ := hx; have := (hh q).2.1; omega)
    show BksIn _ _ _ _ _ (d.bs.set j ⟨(gb d.bs j).dp, R⟩) (d.bs.set j ⟨(gb d.bs j).dp, R⟩).length
    rw [hlen]
    intro i hi
    obtain ⟨q0, v, q1, q3⟩ := hw i hi
    exact ⟨q0, v, q1, (q3.out' ho (.inr (by omega))).mono (by omega) (by omega)⟩
  · show ∀ r, r < (d.bs.set j ⟨(gb d.bs j).dp, R⟩).length → (gb (d.bs.set j ⟨(gb d.bs j).dp, R⟩) r).ns ≠ [] → kbPut kb j g r ≠ gB ∧ kbPut kb j g r ≠ gI ∧ ∀ r', r' < r → (gb (d.bs.set j ⟨(gb d.bs j).dp, R⟩) r').ns ≠ [] → kbPut kb j g r' ≠ kbPut kb j g r
    rw [hlen]
    have hg : R ≠ [] → D ≤ g := fun q => by obtain ⟨_, _, _, _, hh⟩ := hx; exact (hh q).2.1
    intro r hr hq
    rw [gb_set hj] at hq
    have hA : kbPut kb j g r = (if r = j then g else kb r) := rfl
    by_cases e : r = j
    · subst e
      rw [if_pos rfl] at hq
      have hG := hg hq
      rw [kbPut_0]
      refine ⟨by omega, by omega, fun r' hr' _ => ?_⟩
      rw [kbPut_ne _ _ _ (by omega)]
      have := (hkb r' (by omega)).2.1
      omega
    · rw [kbPut_ne _ _ _ e]
      obtain ⟨u1, u2, u3⟩ := hkb r hr
      refine ⟨by omega, by omega, fun r' hr' hq' => ?_⟩
      by_cases e' : r' = j
      · subst e'
        rw [gb_set hj, if_pos rfl] at hq'
        have hG := hg hq'
        rw [kbPut_0]
        omega
      · rw [kbPut_ne _ _ _ e']
        have := u3 r' hr'
        omega
abbrev Z27 : Obj := .cells #[.int .i64 0, .slice none 0 0, .slice none 0 0] 27
set_option maxHeartbeats 8000000 in
set_option maxRecDepth 20000 in
theorem exchange_any (v : Value) (d : Dr) (s : ByteArray) (ac : Option Addr) (cc : Nat) (come : List Nm) (k : Nat) (w : World) (hsm : Sml d) (hG : GS d) (hs : s.size ≤ 9223372036854775807) (hcm : come.length ≤ 1) (hcn : Nms w ac come) (hk : AtN (bkL d s) s k) (hc : DirAt w v d) :
    Calls Try.prog 70 #[v, .string s, .slice ac come.length cc] w fun e w' => Below w.heap.size w w' ∧ ∃ v', e = .returned v' ∧ DOwn w' w.heap.size w'.heap.size v' (exD d (bkN d s) (exR (bkL d s) s k come)) := by
  obtain ⟨a, ca, a', ca', rfl, hca, hca', ha, ha'⟩ := hc
  have HD : Hid (∀ W, Below w.heap.size w W → DirAt W (dv d.dp a d.sl.length ca a' d.bs.length ca') d) := fun W h => ⟨a, ca, a', ca', rfl, hca, hca', ha.below h, ha'.below h⟩
  obtain ⟨cs, hcs, hcsrc⟩ := ha'.cells
  have hisrc := At.src ha
  have HBk : Hid (Bks w a' d.bs) := ha'
  clear ha ha' hca hca'
  have hs1 := hsm.1
  have hs2 := hsm.2.1
  have HG : Hid (GS d) := hG
  have HCs : Hid (BkCs w d.bs cs) := hcs
  have hcl := hcs.1
  have hc1 := hcs.2.1
  clear hcs hsm hG
  unfold dv at *
  obtain ⟨DP, hDP⟩ : ∃ DP, d.dp = DP := ⟨_, rfl⟩
  obtain ⟨n, hn⟩ : ∃ n, d.sl.length = n := ⟨_, rfl⟩
  obtain ⟨m, hm⟩ : ∃ m, d.bs.length = m := ⟨_, rfl⟩
  have HDP : Hid _ := hDP
  have Hn : Hid _ := hn
  have Hm : Hid _ := hm
  have hil : (cis d.sl).length = n := by rw [cis_len, hn]
  rw [hDP, hn, hm] at HD ⊢
  rw [hn] at hs1 hisrc
  rw [hm] at hs2 hcsrc hcl
  clear hDP hn hm
  obtain ⟨W0, hW0⟩ : ∃ W0, (w.alloc (.cells #[.int .i64 DP, .slice a n ca, .slice a' m ca'] 27)).alloc Z27 = W0 := ⟨_, rfl⟩
  have q0 : Below w.heap.size w W0 := by subst hW0; exact ba2 _ _ _
  obtain ⟨B1, B2⟩ : W0.heap[w.heap.size]? = some (.cells #[.int .i64 DP, .slice a n ca, .slice a' m ca'] 27 (0, 0)) ∧ W0.heap[w.heap.size + 1]? = some (.cells #[.int .i64 0, .slice none 0 0, .slice none 0 0] 27 (0, 0)) := by subst hW0; exact al2 _ _ _
  have HA : Hid _ := B1
  have HB : Hid _ := B2
  have z0 := box_lt B2
  have hsrc_on : ∀ {W : World} {x : Option Addr} {q : Nat} {l : List Value}, (q = 0 ∨ ∃ ad, x = some ad ∧ ∀ j u, l[j]? = some u → w.cell? (ad.add j) = some u) → Below w.heap.size w W → (q = 0 ∨ ∃ ad, x = some ad ∧ ∀ j u, l[j]? = some u → W.cell? (ad.add j) = some u) := fun h hb => by
    rcases h with h | ⟨ad, e, h⟩
    · exact .inl h
    · exact .inr ⟨ad, e, fun j u hj => by have := h j u hj; rw [hb.cell (p := ad.add j) (World.block_lt_of_cell? w _ this)]; exact this⟩
  have HcI : Hid (∀ W, Below w.heap.size w W → Calls Try.prog 89 #[.slice a n ca] W fun e w' => Below W.heap.size W w' ∧ e = .returned (.slice (some ⟨W.heap.size, 0, none⟩) n n) ∧ w'.heap[W.heap.size]? = some (.cells (cis d.sl).toArray 3 (0, 0))) := fun W h => copyInt_any a ca n (cis d.sl) W hil (cis_one _) hs1 (hsrc_on hisrc h)
  have HcB : Hid (∀ W, Below w.heap.size w W → Calls Try.prog 90 #[.slice a' m ca'] W fun e w' => Below W.heap.size W w' ∧ e = .returned (.slice (some ⟨W.heap.size, 0, none⟩) m m) ∧ w'.heap[W.heap.size]? = some (.cells cs.toArray 67 (0, 0))) := fun W h => copyBk_any a' ca' m cs W hcl hc1 hs2 (hsrc_on hcsrc h)
  clear hsrc_on hisrc hcsrc hil hc1
  have SB : Hid (∀ W, Below W0.heap.size W0 W → W.cell? ⟨w.heap.size, 0, none⟩ = some (.int .i64 DP) ∧ W.cell? ⟨w.heap.size, 1, none⟩ = some (.slice a n ca) ∧ W.cell? ⟨w.heap.size, 2, none⟩ = some (.slice a' m ca') ∧ Below W0.heap.size W0 W) := fun W z => ⟨(box3_cells (box_on HA.out z)).1, (box3_cells (box_on HA.out z)).2.1, (box3_cells (box_on HA.out z)).2.2.1, z⟩
  clear B1 B2
  go_enter Try.func70, Try.ntmps70
  go_upto_region 1 with fail
  clear hW0
  go_cut [7] (fun sx wx => ∃ F gI gB, sx = .pointer (some ⟨F, 0, none⟩) ∧ wx.heap[F]? = some (.cells #[.int .i64 DP, .slice (some ⟨gI, 0, none⟩) n n, .slice (some ⟨gB, 0, none⟩) m m] 27 (0, 0)) ∧ wx.heap[gI]? = some (.cells (cis d.sl).toArray 3 (0, 0)) ∧ wx.heap[gB]? = some (.cells cs.toArray 67 (0, 0)) ∧ W0.heap.size ≤ F ∧ W0.heap.size ≤ gI ∧ W0.heap.size ≤ gB ∧ Below W0.heap.size W0 wx)
  case first =>
    go_region_held3 (fun W => W.cell? ⟨w.heap.size, 0, none⟩ = some (.int .i64 DP) ∧ W.cell? ⟨w.heap.size, 1, none⟩ = some (.slice a n ca) ∧ W.cell? ⟨w.heap.size, 2, none⟩ = some (.slice a' m ca') ∧ Below W0.heap.size W0 W)
      ((refine SB.out _ ?_; first | assumption | exact Below.drew (Below.refl _ _) | exact Below.drew (below_alloc _ _) | exact below_alloc _ _ | exact Below.comp bB (below_alloc _ _) | exact Below.comp bA (below_alloc _ _) | exact ((bB.setCell (Nat.le_refl _) _).setCell (Nat.le_refl _) _).setCell (Nat.le_refl _) _ | exact ((bB.setCell bA.size _).setCell bA.size _).setCell bA.size _))
      (first
      | (go_at_call 89; obtain ⟨-, -, -, hw0⟩ := ‹_ ∧ _ ∧ _ ∧ Below W0.heap.size W0 _›; refine (HcI.out _ (Below.comp q0 hw0)).mono ?_; rintro e w3 ⟨b3, rfl, hI3⟩; (first | (have hF3 : w3.heap[W0.heap.size]? = some (.cells #[.int .i64 0, .slice none 0 0, .slice none 0 0] 27 (0, 0)) := box_on (w := (W0.alloc Z27).drew) (al1 W0 _) b3) | skip); have bA := Below.comp hw0 b3)
      | (go_at_call 90; refine (HcB.out _ (by first | exact Below.comp q0 bA | exact Below.comp q0 (Below.comp bA (below_alloc _ _)))).mono ?_; rintro e w4 ⟨b4, rfl, hB4⟩; (first | (have hI4 := box_on hI3 b4) | (have hI4 := box_on (box_on hI3 (below_alloc _ Z27)) b4)); (first | (have hF4 := box_on hF3 b4; obtain ⟨f0, f1, f2, f3, f4, f5⟩ := box3_cells hF4) | (have hF4 := box_on (al1 w3 Z27) b4; obtain ⟨f0, f1, f2, f3, f4, f5⟩ := box3_cells hF4) | skip); have bB : Below W0.heap.size W0 w4 := (by first | exact Below.comp bA b4 | exact Below.comp (Below.comp bA (below_alloc _ _)) b4)))
    all_goals go_wp2_with fail
    all_goals go_meet
    all_goals
      have y3 := box_lt hI3
      have y4 := b4.size
      have y5 := box_lt hB4
      have y6 := b3.size
      simp at hI4 hB4 y3 y4 y5 y6
    · exact ⟨w4.heap.size, W0.heap.size, w3.heap.size, rfl, al1 w4 _, box_on hI4 (below_alloc _ _), box_on hB4 (below_alloc _ _), bB.size, Nat.le_refl _, bA.size, Below.comp bB (below_alloc _ _)⟩
    · exact ⟨w3.heap.size, W0.heap.size, w3.heap.size + 1, rfl, box3_set hF4, box_out hI4 (box3_out _ _ _ _ _) (by omega), box_out hB4 (box3_out _ _ _ _ _) (by omega), by omega, Nat.le_refl _, by omega, bB.trans (((box3_out _ _ _ _ _).below (by omega)).mono (by omega))⟩
    · exact ⟨W0.heap.size, W0.heap.size + 1, w3.heap.size, rfl, box3_set hF4, box_out hI4 (box3_out _ _ _ _ _) (by omega), box_out hB4 (box3_out _ _ _ _ _) (by omega), Nat.le_refl _, by omega, by omega, bB.trans (((box3_out _ _ _ _ _).below (by omega)).mono (by omega))⟩
  case rest =>
    obtain ⟨F, gI, gB, rfl, hF, hI, hB, hF1, hI1, hB1, b1⟩ := hcut
    generalize wc = w1 at *
    have HF : Hid (w1.heap[F]? = some (.cells #[.int .i64 DP, .slice (some ⟨gI, 0, none⟩) n n, .slice (some ⟨gB, 0, none⟩) m m] 27 (0, 0))) := hF
    have HI : Hid (w1.heap[gI]? = some (.cells (cis d.sl).toArray 3 (0, 0))) := hI
    have HB1 : Hid (w1.heap[gB]? = some (.cells cs.toArray 67 (0, 0))) := hB
    have hFB : F ≠ gB := fun e => by rw [e, hB] at hF; simp at hF
    have hIB : gI ≠ gB := fun e => by rw [e, hB] at hI; simp at hI
    have zF := box_lt hF
    have zI := box_lt hI
    have zB := box_lt hB
    have HFB : Hid _ := hFB
    have HIB : Hid _ := hIB
    clear hF hI hB hFB hIB SB HcI HcB
    have g1 := Below.comp q0 b1
    obtain ⟨x0, x1, x2, -, -, -⟩ := box3_cells (box_on HA.out b1)
    go_wp2_with fail
    clear x0 x1 x2
    go_loopw [27] (fun i wr => ∃ (kk : Nat) (c : Array Value) (kb : Nat → Nat), kk ≤ m ∧ i = .int .i64 kk ∧ Hid (wr.heap[gB]? = some (.cells c 67 (0, 0))) ∧ c.size = m * 2 ∧ Hid (BksIn wr w1.heap.size wr.heap.size c kb d.bs kk) ∧ Hid (∀ i, kk ≤ i → i < m → c[i * 2]? = some (.int .i64 (gb d.bs i).dp)) ∧ Hid (∀ r, r < kk → w1.heap.size ≤ kb r ∧ kb r < wr.heap.size ∧ ∀ r', r' < r → kb r' < kb r) ∧ Out gB (gB + 1) w1 wr) (fun i _ => m - (intOf i).toNat)
    case atStart => exact ⟨0, cs.toArray, fun _ => 0, Nat.zero_le _, rfl, HB1, by simpa using hcl, fun i hi => absurd hi (by omega), fun i _ hi => by have := (HCs.out.2.2 i (by rw [Hm.out]; exact hi)).1; simpa using this, fun r hr => absurd hr (by omega), Out.refl _ _ _⟩
    case round =>
      obtain ⟨kk, c, kb, hkk, rfl, HC, hcs, HBs, HDp, HKb, ho⟩ := hrel
      have hbw : Below w.heap.size w wr := g1.trans ((ho.below (by omega)).mono (by have := q0.size; omega))
      have hzr := ho.size
      by_cases hlt : kk < m
      · obtain ⟨bb, boff, rfl, hbc⟩ := HBk.out (by rw [Hm.out]; omega)
        obtain ⟨na, nc, y0, y1, y2, y3⟩ := (hbc kk (by rw [Hm.out]; exact hlt)).below hbw
        have hlen := (good_names HG.out (j := kk) (by rw [Hm.out]; exact hlt)).1
        have hdp := HDp.out kk (Nat.le_refl _) hlt
        clear hbc y3
        obtain ⟨nd, hnd⟩ : ∃ nd, gb d.bs kk = nd := ⟨_, rfl⟩
        have Hnd : Hid _ := hnd
        rw [hnd] at y0 y1 y2 hlen hdp
        clear hnd
        obtain ⟨dk, l⟩ := nd
        simp only at y0 y1 y2 hlen hdp
        have Hdp : Hid _ := hdp
        clear hdp
        obtain ⟨E, hE⟩ : ∃ E, wr.heap.size = E := ⟨_, rfl⟩
        obtain ⟨W2, hW2⟩ : ∃ W2, wr.alloc (.cells #[.int .i64 dk, .slice na l.length nc] 67) = W2 := ⟨_, rfl⟩
        have b2 : Below wr.heap.size wr W2 := by subst hW2; exact below_alloc _ _
        have HE : Hid (W2.heap[E]? = some (.cells #[.int .i64 dk, .slice na l.length nc] 67 (0, 0))) := by subst hW2 hE; exact al1 _ _
        have hEB : gB < E := by rw [← hE]; omega
        have HF2 : Hid (W2.heap[F]? = some (.cells #[.int .i64 DP, .slice (some ⟨gI, 0, none⟩) n n, .slice (some ⟨gB, 0, none⟩) m m] 27 (0, 0))) := box_on (box_out HF.out ho (by have : F ≠ gB := HFB.out; omega)) b2
        have HC2 : Hid (W2.heap[gB]? = some (.cells c 67 (0, 0))) := box_on HC.out b2
        have cN := fun W h => copyNm_any na nc l.length (cns l) W (cns_len l) (cns_one l) (by omega) h
        have Hy2 : Hid (Nms W2 na l) := y2.below b2
        have SB5 : Hid (∀ W, Out gB (gB + 1) W2 W → W.cell? ⟨F, 2, none⟩ = some (.slice (some ⟨gB, 0, none⟩) m m) ∧ W.cell? ⟨E, 1, none⟩ = some (.slice na l.length nc) ∧ Out gB (gB + 1) W2 W) := fun W z => ⟨(box3_cells (box_out HF2.out z (by have : F ≠ gB := HFB.out; omega))).2.2.1, (box2_cells (box_out HE.out z (by omega))).2.1, z⟩
        have hkm : (kk : Int) < (m : Int) := by omega
        obtain ⟨nl, hnl⟩ : ∃ nl, l.length = nl := ⟨_, rfl⟩
        have Hnl : Hid _ := hnl
        rw [hnl] at y1 cN SB5 hlen hW2 HE
        clear hnl y2
        go_wp2_with fail
        clear y0 y1 hW2
        go_region_held3 (fun W => W.cell? ⟨F, 2, none⟩ = some (.slice (some ⟨gB, 0, none⟩) m m) ∧ W.cell? ⟨E, 1, none⟩ = some (.slice na nl nc) ∧ Out gB (gB + 1) W2 W)
          ((refine SB5.out _ ?_; first | assumption | exact Out.of_below (Below.drew (Below.refl _ _)) | exact oA.setCell (Nat.le_refl _) (Nat.lt_succ_self _) _ _))
          (first
          | (go_at_call 91; obtain ⟨-, -, hw0⟩ := ‹_ ∧ _ ∧ Out gB (gB + 1) W2 _›; refine (cN _ (by have := Nms.src (Hy2.out.below (Below.drew (Below.refl _ _))); rw [Hnl.out] at this; exact this)).mono ?_; rintro e w5 ⟨b5, rfl, hN5⟩; have oA : Out gB (gB + 1) W2 w5 := hw0.trans (Out.of_below b5); have HC5 : Hid (w5.heap[gB]? = some (.cells c 67 (0, 0))) := box_on (w := W2.drew) HC2.out b5; have e1 : w5.cell? ⟨gB, kk * 2 + 1, none⟩ = some c[kk * 2 + 1] := cell_of_block HC5.out (by simp); have e2 := free_of_block (i := kk * 2 + 1) HC5.out))
        go_wp2_with fail
        go_round
        case rel =>
          have hn := Hnl.out
          subst hn
          have b25 := Below.comp (Below.drew b2) b5
          simp at b5 hN5
          have hE' : E = wr.heap.size := hE.symm
          subst hE'
          have z2 := b2.size
          have z5 : W2.heap.size ≤ w5.heap.size := b5.size
          have hz3 : w5.heap.size ≤ (w5.setCell ⟨gB, kk * 2 + 1, none⟩ (.slice (some ⟨W2.heap.size, 0, none⟩) l.length l.length)).heap.size := by simp
          have hg5 := box_lt hN5
          have o5 : Out gB (gB + 1) w1 w5 := ho.trans ((Out.of_below b2).trans oA)
          have m5 : NB w5 w1.heap.size w5.heap.size (.slice (some ⟨W2.heap.size, 0, none⟩) l.length l.length) l W2.heap.size := ⟨_, _, rfl, Nat.le_refl _, fun _ => ⟨rfl, by omega, hg5, _, hN5, fun i hi => by have := cns_at l i hi; simpa using this⟩⟩
          refine ⟨kk + 1, _, kbPut kb kk W2.heap.size, by omega, by go_num, block_set HC5.out, by simpa using hcs, ?_, ?_, ?_, o5.setCell (Nat.le_refl _) (Nat.lt_succ_self _) _ _⟩
          · have hkb' : ∀ r, r < kk → kb r ≠ gB := fun r hr => by have h : w1.heap.size ≤ kb r := (HKb.out r hr).1; omega
            have := BksIn.put1 (HBs.out.below b25) ((Out.refl _ _ _).setCell (Nat.le_refl _) (Nat.lt_succ_self _) (kk * 2 + 1) (.slice (some ⟨W2.heap.size, 0, none⟩) l.length l.length)) (C' := w5.heap.size) (by omega) (by omega) (by rw [Hnd.out]; exact Hdp.out) hkb' (by rw [Hnd.out]; exact m5) (by omega)
            show BksIn _ _ _ _ _ _ _
            simpa using this
          · intro i hi1 hi2
            rw [set_ne (by omega)]
            exact HDp.out i (by omega) hi2
          · intro r hr
            by_cases e0 : r = kk
            · subst e0
              rw [kbPut_0]
              exact ⟨by omega, Nat.lt_of_lt_of_le hg5 hz3, fun r' hr' => by rw [kbPut_ne _ _ _ (by omega)]; have := (HKb.out r' hr').2.1; omega⟩
            · have hr2 : r < kk := by omega
              rw [kbPut_ne _ _ _ e0]
              obtain ⟨u1, u2, u3⟩ := HKb.out r hr2
              exact ⟨u1, Nat.lt_of_lt_of_le (by omega : kb r < w5.heap.size) hz3, fun r' hr' => by rw [kbPut_ne _ _ _ (by omega)]; exact u3 r' hr'⟩
        case measure => simp [intOf]; omega
      · have hkm : kk = m := by omega
        subst hkm
        have hj := (good_bk HG.out s).2
        obtain ⟨h4, hris⟩ := good_names HG.out hj
        obtain ⟨bb, boff, rfl, hbc⟩ := HBk.out (by omega)
        have HBc := hbc _ hj
        rw [Hm.out] at hj
        have hgW := q0.size
        have HAr : Hid (wr.heap[w.heap.size]? = some (.cells #[.int .i64 DP, .slice a n ca, .slice (some ⟨bb, boff, none⟩) kk ca'] 27 (0, 0))) := box_out (box_on HA.out b1) ho (by omega)
        have HBr : Hid (wr.heap[w.heap.size + 1]? = some Z27) := box_out (box_on HB.out b1) ho (by omega)
        have HFr : Hid (wr.heap[F]? = some (.cells #[.int .i64 DP, .slice (some ⟨gI, 0, none⟩) n n, .slice (some ⟨gB, 0, none⟩) kk kk] 27 (0, 0))) := box_out HF.out ho (by have : F ≠ gB := HFB.out; omega)
        have HIr : Hid (wr.heap[gI]? = some (.cells (cis d.sl).toArray 3 (0, 0))) := box_out HI.out ho (by have : gI ≠ gB := HIB.out; omega)
        have cB : Calls Try.prog 76 #[.agg #[.int .i64 DP, .slice a n ca, .slice (some ⟨bb, boff, none⟩) kk ca'], .string s] wr (fun e w' => e = .returned (.int .i64 (bkN d s : Nat)) ∧ Below wr.heap.size wr w') := by have := bucketFor_any _ d s wr HG.out.1 hs (HD.out wr hbw); rw [bkOf_is HG.out] at this; exact this
        clear hbc HD HA HB HF HI HB1 HCs HBk HDp hcl
        obtain ⟨x0, x1, x2, -, -, -⟩ := box3_cells HAr.out
        have HL : Hid (bkL d s = (gb d.bs (bkN d s)).ns) := rfl
        unfold bkL at hk
        obtain ⟨j, hjj⟩ : ∃ j, bkN d s = j := ⟨_, rfl⟩
        have Hj : Hid _ := hjj
        rw [hjj] at hj h4 hris HBc hk cB HL
        clear hjj
        obtain ⟨l, hl⟩ : ∃ l, (gb d.bs j).ns = l := ⟨_, rfl⟩
        have Hl : Hid _ := hl
        rw [hl] at h4 hris hk
        go_wp2_with fail
        refine cB.mono ?_
        rintro e w6 ⟨rfl, b6⟩
        clear cB x0 x1 x2
        obtain ⟨na, nc, y0, y1, y2, y3⟩ := HBc.below (Below.comp hbw b6)
        rw [hl] at y1 y2 y3
        clear y0 hl HBc
        have cS := searchName_any na l nc s k w6 (by omega) y2 hris hk
        have Hy2 : Hid (Nms w6 na l) := y2
        have hkl := hk.1
        clear y2 hris
        obtain ⟨r, hr⟩ : ∃ r, hasN l s k = r := ⟨_, rfl⟩
        have Hr : Hid _ := hr
        rw [hr] at cS
        have hr1 : r = true → k < l.length := fun h => by subst h; simp [hasN] at hr; exact hr.1
        clear hr hk
        obtain ⟨nl, hnl⟩ : ∃ nl, l.length = nl := ⟨_, rfl⟩
        have Hnl : Hid _ := hnl
        rw [hnl] at y1 y3 cS h4 hkl hr1
        clear hnl
        obtain ⟨x0, x1, x2, -, -, -⟩ := box3_cells (box_on HAr.out b6)
        have hjm : (j : Int) < (kk : Int) := by omega
        go_wp2_with fail
        refine cS.mono ?_
        rintro e w7 ⟨rfl, b7⟩
        clear cS x0 x1 x2 y1
        have g7 := Below.comp b6 b7
        have HF7 : Hid (w7.heap[F]? = some (.cells #[.int .i64 DP, .slice (some ⟨gI, 0, none⟩) n n, .slice (some ⟨gB, 0, none⟩) kk kk] 27 (0, 0))) := box_on HFr.out g7
        have HC7 : Hid (w7.heap[gB]? = some (.cells c 67 (0, 0))) := box_on HC.out g7
        have SB13 : Hid (∀ W, Out gB (gB + 1) w7 W → W.cell? ⟨F, 2, none⟩ = some (.slice (some ⟨gB, 0, none⟩) kk kk) ∧ Out gB (gB + 1) w7 W) := fun W z => ⟨(box3_cells (box_out HF7.out z (by have : F ≠ gB := HFB.out; omega))).2.2.1, z⟩
        cases r with
        | false =>
          have hK : k ≤ nl := hkl
          have hT := slice_to na nl nc k (by omega)
          have hF : ∀ w, (Instr.slice 51 (.slice na nl nc) (some (.int .i64 (k : Int))) none none).run Try.prog w = .ok (.slice (subA na (k) nc) (nl - (k)) (nc - (k))) w := fun w => slice_from na nl nc (k) hK w
          have HR : Hid (exR l s k come = l.take k ++ come ++ l.drop (k)) := by show _ = _; unfold exR; rw [Hr.out]; rfl
          have HcC : Hid (∀ W, Below w7.heap.size w7 W → W.heap[w7.heap.size]? = some (.cells #[.slice (subA na 0 nc) k nc, .slice ac come.length cc, .slice (subA na (k) nc) (nl - (k)) (nc - (k))] 51 (0, 0)) → Calls Try.prog 92 #[.slice (some ⟨w7.heap.size, 0, none⟩) 3 3] W fun e w' => Below W.heap.size W w' ∧ ∃ x c, e = .returned (.slice x (exR l s k come).length c) ∧ OwnN w' W.heap.size (.slice x (exR l s k come).length c) (exR l s k come)) := fun W hW hb => by
            have hn := Hnl.out
            rw [HR.out]
            subst hn
            exact concat3_any na ac nc cc k (k) _ l come W hb (by omega) hcm hkl hK y3 (Hy2.out.below (Below.comp b7 hW)) (hcn.below (Below.comp (Below.comp hbw g7) hW))
          go_wp2_with fail
          go_region_held3 (fun W => W.cell? ⟨F, 2, none⟩ = some (.slice (some ⟨gB, 0, none⟩) kk kk) ∧ Out gB (gB + 1) w7 W)
            ((refine SB13.out _ ?_; first | assumption | exact Out.of_below (Below.drew (Below.refl _ _)) | exact Out.of_below (Below.refl _ _) | exact Out.of_below (below_alloc _ _) | exact Out.of_below (Below.drew (below_alloc _ _)) | exact oA.setCell (Nat.le_refl _) (Nat.lt_succ_self _) _ _))
            (first
            | (go_at_call 92; obtain ⟨-, hw0⟩ := ‹_ ∧ Out gB (gB + 1) w7 _›; refine (HcC.out _ (Below.drew (below_alloc _ _)) (al1 w7 _)).mono ?_; rintro e w8 ⟨b8, x, cx, rfl, hN8⟩; have b78 := Below.comp (Below.drew (below_alloc w7 _)) b8; have oA : Out gB (gB + 1) w7 w8 := Out.of_below b78; have HC8 : Hid (w8.heap[gB]? = some (.cells c 67 (0, 0))) := box_on HC7.out b78; have e1 : w8.cell? ⟨gB, j * 2 + 1, none⟩ = some c[j * 2 + 1] := cell_of_block HC8.out (by simp); have e2 := free_of_block (i := j * 2 + 1) HC8.out))
          obtain ⟨ws, hws⟩ : ∃ ws, w8.setCell ⟨gB, j * 2 + 1, none⟩ (.slice x (exR l s k come).length cx) = ws := ⟨_, rfl⟩
          rw [hws]
          have os : Out gB (gB + 1) wr ws := by subst hws; exact ((Out.of_below g7).trans oA).setCell (Nat.le_refl _) (Nat.lt_succ_self _) _ _
          have hFs := box_out HFr.out os (by have : F ≠ gB := HFB.out; omega)
          have hBs := box_out HBr.out os (by omega)
          obtain ⟨x0, x1, x2, -, -, -⟩ := box3_cells hFs
          obtain ⟨f0, f1, f2, f3, f4, f5⟩ := box3_cells hBs
          have HW : Hid _ := hws
          clear hws e1 e2 hT hF
          go_wp2_with fail
          obtain ⟨g, hN9⟩ := hN8.nb
          have hz8 := b78.size
          have hz7 := g7.size
          have o9 : Out (w.heap.size + 1) (w.heap.size + 2) ws (((ws.setCell ⟨w.heap.size + 1, 0, none⟩ (.int .i64 DP)).setCell ⟨w.heap.size + 1, 1, none⟩ (.slice (some ⟨gI, 0, none⟩) n n)).setCell ⟨w.heap.size + 1, 2, none⟩ (.slice (some ⟨gB, 0, none⟩) kk kk)) := box3_out _ _ _ _ _
          have hN10 := hN9.mono (B' := w7.heap.size) (C' := w8.heap.size) (by simp) (Nat.le_refl _)
          obtain ⟨t0, t1, t2, -, -, -⟩ := box3_cells (box3_set hBs (x0 := .int .i64 DP) (x1 := .slice (some ⟨gI, 0, none⟩) n n) (x2 := .slice (some ⟨gB, 0, none⟩) kk kk))
          refine bodyPost_ret (v := .agg #[.int .i64 DP, .slice (some ⟨gI, 0, none⟩) n n, .slice (some ⟨gB, 0, none⟩) kk kk]) (by simp [results, Try.results70, go_sem, t0, t1, t2]) rfl ⟨?_, _, rfl, ?_⟩
          · exact hbw.trans (((os.below (by omega)).mono (by omega)).trans ((o9.below (by have := box_lt hBs; omega)).mono (by omega)))
          · rw [HL.out, Hj.out, Hl.out]
            exact ex_own (w1 := w1) (w8 := w8) (kb := kb) (c := c) (D := w7.heap.size) HDP.out Hn.out Hm.out hj (box_on (box_on HIr.out g7) b78) HC8.out hcs ((HBs.out.below (Below.comp g7 b78)).mono (Nat.le_refl _) (by omega)) (fun r hr => by obtain ⟨u1, u2, u3⟩ := HKb.out r hr; exact ⟨u1, by omega, u3⟩) hN10 (by omega) zI zB HIB.out (by omega) (by omega) (by omega) (by omega) HW.out.symm o9
        | true =>
          have hK : k + 1 ≤ nl := hr1 rfl
          have hT := slice_to na nl nc k (by omega)
          have hF : ∀ w, (Instr.slice 51 (.slice na nl nc) (some (.int .i64 ((k : Int) + 1))) none none).run Try.prog w = .ok (.slice (subA na (k + 1) nc) (nl - (k + 1)) (nc - (k + 1))) w := fun w => slice_from na nl nc (k + 1) hK w
          have HR : Hid (exR l s k come = l.take k ++ come ++ l.drop (k + 1)) := by show _ = _; unfold exR; rw [Hr.out]; rfl
          have HcC : Hid (∀ W, Below w7.heap.size w7 W → W.heap[w7.heap.size]? = some (.cells #[.slice (subA na 0 nc) k nc, .slice ac come.length cc, .slice (subA na (k + 1) nc) (nl - (k + 1)) (nc - (k + 1))] 51 (0, 0)) → Calls Try.prog 92 #[.slice (some ⟨w7.heap.size, 0, none⟩) 3 3] W fun e w' => Below W.heap.size W w' ∧ ∃ x c, e = .returned (.slice x (exR l s k come).length c) ∧ OwnN w' W.heap.size (.slice x (exR l s k come).length c) (exR l s k come)) := fun W hW hb => by
            have hn := Hnl.out
            rw [HR.out]
            subst hn
            exact concat3_any na ac nc cc k (k + 1) _ l come W hb (by omega) hcm hkl hK y3 (Hy2.out.below (Below.comp b7 hW)) (hcn.below (Below.comp (Below.comp hbw g7) hW))
          go_wp2_with fail
          go_region_held3 (fun W => W.cell? ⟨F, 2, none⟩ = some (.slice (some ⟨gB, 0, none⟩) kk kk) ∧ Out gB (gB + 1) w7 W)
            ((refine SB13.out _ ?_; first | assumption | exact Out.of_below (Below.drew (Below.refl _ _)) | exact Out.of_below (Below.refl _ _) | exact Out.of_below (below_alloc _ _) | exact Out.of_below (Below.drew (below_alloc _ _)) | exact oA.setCell (Nat.le_refl _) (Nat.lt_succ_self _) _ _))
            (first
            | (go_at_call 92; obtain ⟨-, hw0⟩ := ‹_ ∧ Out gB (gB + 1) w7 _›; refine (HcC.out _ (Below.drew (below_alloc _ _)) (al1 w7 _)).mono ?_; rintro e w8 ⟨b8, x, cx, rfl, hN8⟩; have b78 := Below.comp (Below.drew (below_alloc w7 _)) b8; have oA : Out gB (gB + 1) w7 w8 := Out.of_below b78; have HC8 : Hid (w8.heap[gB]? = some (.cells c 67 (0, 0))) := box_on HC7.out b78; have e1 : w8.cell? ⟨gB, j * 2 + 1, none⟩ = some c[j * 2 + 1] := cell_of_block HC8.out (by simp); have e2 := free_of_block (i := j * 2 + 1) HC8.out))
          obtain ⟨ws, hws⟩ : ∃ ws, w8.setCell ⟨gB, j * 2 + 1, none⟩ (.slice x (exR l s k come).length cx) = ws := ⟨_, rfl⟩
          rw [hws]
          have os : Out gB (gB + 1) wr ws := by subst hws; exact ((Out.of_below g7).trans oA).setCell (Nat.le_refl _) (Nat.lt_succ_self _) _ _
          have hFs := box_out HFr.out os (by have : F ≠ gB := HFB.out; omega)
          have hBs := box_out HBr.out os (by omega)
          obtain ⟨x0, x1, x2, -, -, -⟩ := box3_cells hFs
          obtain ⟨f0, f1, f2, f3, f4, f5⟩ := box3_cells hBs
          have HW : Hid _ := hws
          clear hws e1 e2 hT hF
          go_wp2_with fail
          obtain ⟨g, hN9⟩ := hN8.nb
          have hz8 := b78.size
          have hz7 := g7.size
          have o9 : Out (w.heap.size + 1) (w.heap.size + 2) ws (((ws.setCell ⟨w.heap.size + 1, 0, none⟩ (.int .i64 DP)).setCell ⟨w.heap.size + 1, 1, none⟩ (.slice (some ⟨gI, 0, none⟩) n n)).setCell ⟨w.heap.size + 1, 2, none⟩ (.slice (some ⟨gB, 0, none⟩) kk kk)) := box3_out _ _ _ _ _
          have hN10 := hN9.mono (B' := w7.heap.size) (C' := w8.heap.size) (by simp) (Nat.le_refl _)
          obtain ⟨t0, t1, t2, -, -, -⟩ := box3_cells (box3_set hBs (x0 := .int .i64 DP) (x1 := .slice (some ⟨gI, 0, none⟩) n n) (x2 := .slice (some ⟨gB, 0, none⟩) kk kk))
          refine bodyPost_ret (v := .agg #[.int .i64 DP, .slice (some ⟨gI, 0, none⟩) n n, .slice (some ⟨gB, 0, none⟩) kk kk]) (by simp [results, Try.results70, go_sem, t0, t1, t2]) rfl ⟨?_, _, rfl, ?_⟩
          · exact hbw.trans (((os.below (by omega)).mono (by omega)).trans ((o9.below (by have := box_lt hBs; omega)).mono (by omega)))
          · rw [HL.out, Hj.out, Hl.out]
            exact ex_own (w1 := w1) (w8 := w8) (kb := kb) (c := c) (D := w7.heap.size) HDP.out Hn.out Hm.out hj (box_on (box_on HIr.out g7) b78) HC8.out hcs ((HBs.out.below (Below.comp g7 b78)).mono (Nat.le_refl _) (by omega)) (fun r hr => by obtain ⟨u1, u2, u3⟩ := HKb.out r hr; exact ⟨u1, by omega, u3⟩) hN10 (by omega) zI zB HIB.out (by omega) (by omega) (by omega) (by omega) HW.out.symm o9
end Go.Proofs.Ytjaajkdfmgpniaa
