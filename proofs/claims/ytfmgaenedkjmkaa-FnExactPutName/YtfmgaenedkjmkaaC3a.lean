import Derived.Test.YtfmgaenedkjmkaaC2
import Derived.Test.YtfmgaenedkjmkaaL7
import Derived.Deep.DeepCutAuto
/- The program: one list with its part exchanged. -/
namespace Go.Proofs.Ytfmgaenedkjmkaa
open Go.ChangeShapes Go.WideShapes Go.ChangeAt Go.RowKit
set_option linter.unusedVariables false
open Hd

attribute [local go_sem] Oper.semAt_some

/-- The cells of a row of buckets as they lie. -/
def BkCs (w : World) (L : List Bk) (cs : List Value) : Prop :=
  cs.length = L.length * 2 ∧ (∀ u ∈ cs, u.oneCell' = true) ∧ ∀ i, i < L.length → cs[i * 2]? = some (.int .i64 (gb L i).dp) ∧ ∃ na nc, cs[i * 2 + 1]? = some (.slice na (gb L i).ns.length nc) ∧ Nms w na (gb L i).ns ∧ (gb L i).ns.length ≤ nc
theorem Bks.cells {w : World} {a : Option Addr} {L : List Bk} (h : Bks w a L) : ∃ cs, BkCs w L cs ∧ (L.length = 0 ∨ ∃ ad, a = some ad ∧ ∀ j u, cs[j]? = some u → w.cell? (ad.add j) = some u) := by
  by_cases h0 : L.length = 0
  · refine ⟨[], ⟨by rw [h0]; rfl, by simp, fun i hi => absurd hi (by omega)⟩, .inl h0⟩
  · obtain ⟨b, off, rfl, hc⟩ := h h0
    obtain ⟨f, hf⟩ : ∃ f : Nat → Value, ∀ j, j < L.length * 2 → w.cell? ⟨b, off + j, none⟩ = some (f j) ∧ (f j).oneCell' = true := by
      refine ⟨fun j => (w.cell? ⟨b, off + j, none⟩).getD (.int .i64 0), fun j hj => ?_⟩
      obtain ⟨na, nc, h1, h2, -, -⟩ := hc (j / 2) (by omega)
      rcases Nat.mod_two_eq_zero_or_one j with q | q
      · have ej : off + j / 2 * 2 = off + j := by omega
        rw [ej] at h1
        show w.cell? ⟨b, off + j, none⟩ = some ((w.cell? ⟨b, off + j, none⟩).getD (.int .i64 0)) ∧ ((w.cell? ⟨b, off + j, none⟩).getD (.int .i64 0)).oneCell' = true
        rw [h1]
        exact ⟨rfl, rfl⟩
      · have ej : off + j / 2 * 2 + 1 = off + j := by omega
        rw [ej] at h2
        show w.cell? ⟨b, off + j, none⟩ = some ((w.cell? ⟨b, off + j, none⟩).getD (.int .i64 0)) ∧ ((w.cell? ⟨b, off + j, none⟩).getD (.int .i64 0)).oneCell' = true
        rw [h2]
        exact ⟨rfl, rfl⟩
    have hg : ∀ j, j < L.length * 2 → ((List.range (L.length * 2)).map f)[j]? = some (f j) := fun j hj => by simp [hj]
    refine ⟨(List.range (L.length * 2)).map f, ⟨by simp, fun u hu => ?_, fun i hi => ?_⟩, .inr ⟨_, rfl, fun j u hj => ?_⟩⟩
    · obtain ⟨j, hj, rfl⟩ := List.mem_map.1 hu
      exact (hf j (List.mem_range.1 hj)).2
    · obtain ⟨na, nc, h1, h2, h3, h4⟩ := hc i hi
      have e1 := (hf (i * 2) (by omega)).1
      have e2 := (hf (i * 2 + 1) (by omega)).1
      rw [h1] at e1
      rw [← Nat.add_assoc, h2] at e2
      rw [hg _ (by omega), hg _ (by omega), ← Option.some.inj e1, ← Option.some.inj e2]
      exact ⟨rfl, na, nc, rfl, h3, h4⟩
    · have hlt : j < L.length * 2 := by have := (List.getElem?_eq_some_iff.1 hj).1; simpa using this
      rw [hg j hlt] at hj
      rw [addN, ← hj]
      exact (hf j hlt).1
/-- A directory with other names in one bucket. -/
def exD (d : Dr) (j : Nat) (R : List Nm) : Dr := ⟨d.dp, d.sl, d.bs.set j ⟨(gb d.bs j).dp, R⟩⟩
def exR (l : List Nm) (s : ByteArray) (k : Nat) (come : List Nm) : List Nm := l.take k ++ come ++ l.drop (bif hasN l s k then k + 1 else k)
theorem gb_set {L : List Bk} {j i : Nat} {x : Bk} (hj : j < L.length) : gb (L.set j x) i = if i = j then x else gb L i := by
  unfold gb
  by_cases h : i = j
  · subst h
    simp [hj]
  · rw [if_neg h]
    simp [Ne.symm h]
theorem box3_out (w : World) (b : Nat) (x0 x1 x2 : Value) : Out b (b + 1) w (((w.setCell ⟨b, 0, none⟩ x0).setCell ⟨b, 1, none⟩ x1).setCell ⟨b, 2, none⟩ x2) :=
  (((Out.refl _ _ _).setCell (Nat.le_refl _) (Nat.lt_succ_self _) _ _).setCell (Nat.le_refl _) (Nat.lt_succ_self _) _ _).setCell (Nat.le_refl _) (Nat.lt_succ_self _) _ _
theorem BksIn.put1 {w W : World} {B s C C' : Nat} {c : Array Value} {kb : Nat → Nat} {L : List Bk} {k g : Nat} {x : Value} (h : BksIn w B C c kb L k) (ho : Out s (s + 1) w W) (hC : C ≤ C') (hcs : k * 2 + 2 ≤ c.size) (hd : c[k * 2]? = some (.int .i64 (gb L k).dp)) (hkb : ∀ r, r < k → kb r ≠ s)
    (m1 : NB w B C' x (gb L k).ns g) (hg : g ≠ s) :
    BksIn W B C' (c.setIfInBounds (k * 2 + 1) x) (kbPut kb k g) L (k + 1) := by
  intro i hi
  by_cases e : i = k
  · subst e
    rw [kbPut_0]
    refine ⟨?_, x, ?_, m1.out ho (fun _ => by omega)⟩
    · rw [set_ne (by omega)]; exact hd
    · rw [set_at (by omega)]
  · obtain ⟨h0, v, h1, h3⟩ := h i (by omega)
    rw [kbPut_ne _ _ _ (by omega)]
    refine ⟨?_, v, ?_, (h3.mono (Nat.le_refl _) hC).out ho (fun _ => by have := hkb i (by omega); omega)⟩
    · rw [set_ne (by omega)]; exact h0
    · rw [set_ne (by omega)]; exact h1
theorem BksIn.swap {w W : World} {B s C C' : Nat} {c : Array Value} {kb : Nat → Nat} {L : List Bk} {j n g : Nat} {x : Value} {R : List Nm} (h : BksIn w B C c kb L n) (ho : Out s (s + 1) w W) (hC : C ≤ C') (hj : j < n) (hn : n ≤ L.length) (hcs : n * 2 ≤ c.size) (hkb : ∀ r, r < n → kb r ≠ s)
    (m1 : NB w B C' x R g) (hg : R ≠ [] → g ≠ s) :
    BksIn W B C' (c.setIfInBounds (j * 2 + 1) x) (kbPut kb j g) (L.set j ⟨(gb L j).dp, R⟩) n := by
  intro i hi
  obtain ⟨h0, v, h1, h3⟩ := h i hi
  rw [gb_set (by omega)]
  by_cases e : i = j
  · subst e
    rw [kbPut_0, if_pos rfl]
    refine ⟨?_, x, ?_, m1.out ho (fun q => by have := hg q; omega)⟩
    · rw [set_ne (by omega)]; exact h0
    · rw [set_at (by omega)]
  · rw [kbPut_ne _ _ _ e, if_neg e]
    refine ⟨?_, v, ?_, (h3.mono (Nat.le_refl _) hC).out ho (fun _ => by have := hkb i hi; omega)⟩
    · rw [set_ne (by omega)]; exact h0
    · rw [set_ne (by omega)]; exact h1
theorem concat3_any (na ac : Option Addr) (nc cc k T b : Nat) (l come : List Nm) (W : World) (hB : W.heap[b]? = some (.cells #[.slice (subA na 0 nc) k nc, .slice ac come.length cc, .slice (subA na T nc) (l.length - T) (nc - T)] 48 (0, 0))) (hl : l.length ≤ 1000) (hcm : come.length ≤ 1) (hk : k ≤ l.length) (hT : T ≤ l.length) (hnc : l.length ≤ nc) (hn : Nms W na l) (hc : Nms W ac come) :
    Calls Try.prog 95 #[.slice (some ⟨b, 0, none⟩) 3 3] W fun e w' => Below W.heap.size W w' ∧ ∃ x c, e = .returned (.slice x (l.take k ++ come ++ l.drop T).length c) ∧ OwnN w' W.heap.size (.slice x (l.take k ++ come ++ l.drop T).length c) (l.take k ++ come ++ l.drop T) := by
  obtain ⟨x0, x1, x2, -, -, -⟩ := box3_cells hB
  have := Concat_any b 3 3 (fun i => if i = 0 then subA na 0 nc else if i = 1 then ac else subA na T nc) (fun i => if i = 0 then nc else if i = 1 then cc else nc - T) (fun i => if i = 0 then l.take k else if i = 1 then come else l.drop T) W (by omega)
    (fun i hi => by
      rcases (by omega : i = 0 ∨ i = 1 ∨ i = 2) with rfl | rfl | rfl
      · simp; omega
      · simp; omega
      · simp; omega)
    (fun i hi => by
      rcases (by omega : i = 0 ∨ i = 1 ∨ i = 2) with rfl | rfl | rfl
      · simp [Nat.min_eq_left hk, x0]
      · simp [x1]
      · simp [x2])
    (fun i hi => by
      rcases (by omega : i = 0 ∨ i = 1 ∨ i = 2) with rfl | rfl | rfl
      · exact hn.take nc k hk
      · exact hc
      · exact hn.drop nc T hnc)
  have e : flat (fun i => if i = 0 then l.take k else if i = 1 then come else l.drop T) 3 = l.take k ++ come ++ l.drop T := by simp [flat]
  rw [e] at this
  exact this
/-- The copied directory with its exchanged bucket owns its memory. -/
theorem ex_own {w1 w8 ws w9 : World} {d : Dr} {j n m gI gB B g D : Nat} {DP : Int} {c : Array Value} {kb : Nat → Nat} {x : Value} {R : List Nm} (hD : d.dp = DP) (hn : d.sl.length = n) (hm : d.bs.length = m) (hj : j < m) (hI : w8.heap[gI]? = some (.cells (cis d.sl).toArray 3 (0, 0))) (hB : w8.heap[gB]? = some (.cells c 63 (0, 0))) (hc : c.size = m * 2) (hbs : BksIn w8 w1.heap.size w8.heap.size c kb d.bs m)
    (hkb : ∀ r, r < m → w1.heap.size ≤ kb r ∧ kb r < D ∧ ∀ r', r' < r → kb r' < kb r) (hx : NB w8 D w8.heap.size x R g) (hD1 : w1.heap.size ≤ D) (hgI : gI < w1.heap.size) (hgB : gB < w1.heap.size) (hne : gI ≠ gB) (h1 : B ≤ gI) (h2 : B ≤ gB) (hB1 : B + 2 ≤ gI) (hB2 : B + 2 ≤ gB) (hs : ws = w8.setCell ⟨gB, j * 2 + 1, none⟩ x) (ho : Out (B + 1) (B + 2) ws w9) :
    DOwn w9 B w9.heap.size (.agg #[.int .i64 DP, .slice (some ⟨gI, 0, none⟩) n n, .slice (some ⟨gB, 0, none⟩) m m]) (exD d j R) := by
  subst hD hn hm hs
  have os : Out gB (gB + 1) w8 (w8.setCell ⟨gB, j * 2 + 1, none⟩ x) := (Out.refl _ _ _).setCell (Nat.le_refl _) (Nat.lt_succ_self _) _ _
  have zs : (w8.setCell ⟨gB, j * 2 + 1, none⟩ x).heap.size = w8.heap.size := by simp
  have z9 := ho.size
  have zI := box_lt hI
  have zB := box_lt hB
  have hlen : (d.bs.set j ⟨(gb d.bs j).dp, R⟩).length = d.bs.length := by simp
  refine ⟨_, some ⟨gB, 0, none⟩, d.bs.length, gI, by simp [exD], by simp [exD], ⟨_, _, rfl, Nat.le_refl _, fun _ => ⟨rfl, h1, by omega, _, box_out (box_out hI os (by omega)) ho (by omega), ?_⟩⟩, fun _ => ⟨gB, _, kbPut kb j g, h2, by omega, rfl, box_out (block_set hB) ho (by omega), by simp [exD, hc], ?_, by omega, ?_⟩⟩
  · intro i hi
    have := cis_at (l := d.sl) hi
    show ((cis d.sl).toArray)[i]? = some (iv (gi d.sl i))
    simpa using this
  · have hw := BksIn.swap (C' := w8.heap.size) hbs os (Nat.le_refl _) hj (Nat.le_refl _) (by omega) (fun r hr => by have := (hkb r hr).1; omega) (hx.mono hD1 (Nat.le_refl _)) (fun q => by obtain ⟨_, _, _, _, hh⟩ := hx; have := (hh q).2.1; omega)
    show BksIn _ _ _ _ _ (d.bs.set j ⟨(gb d.bs j).dp, R⟩) (d.bs.set j ⟨(gb d.bs j).dp, R⟩).length
    rw [hlen]
    intro i hi
    obtain ⟨q0, v, q1, q3⟩ := hw i hi
    exact ⟨q0, v, q1, (q3.out' ho (.inr (by omega))).mono (by omega) (by omega)⟩
  · show ∀ r, r < (d.bs.set j ⟨(gb d.bs j).dp, R⟩).length → (gb (d.bs.set j ⟨(gb d.bs j).dp, R⟩) r).ns ≠ [] → kbPut kb j g r ≠ gB ∧ kbPut kb j g r ≠ gI ∧ ∀ r', r' < r → (gb (d.bs.set j ⟨(gb d.bs j).dp, R⟩) r').ns ≠ [] → kbPut kb j g r' ≠ kbPut kb j g r
    rw [hlen]
    have hg : R ≠ [] → D ≤ g := fun q => by obtain ⟨_, _, _, _, hh⟩ := hx; exact (hh q).2.1
    intro r hr hq
    rw [gb_set hj] at hq
    have hA : kbPut kb j g r = (if r = j then g else kb r) := rfl
    by_cases e : r = j
    · subst e
      rw [if_pos rfl] at hq
      have hG := hg hq
      rw [kbPut_0]
      refine ⟨by omega, by omega, fun r' hr' _ => ?_⟩
      rw [kbPut_ne _ _ _ (by omega)]
      have := (hkb r' (by omega)).2.1
      omega
    · rw [kbPut_ne _ _ _ e]
      obtain ⟨u1, u2, u3⟩ := hkb r hr
      refine ⟨by omega, by omega, fun r' hr' hq' => ?_⟩
      by_cases e' : r' = j
      · subst e'
        rw [gb_set hj, if_pos rfl] at hq'
        have hG := hg hq'
        rw [kbPut_0]
        omega
      · rw [kbPut_ne _ _ _ e']
        have := u3 r' hr'
        omega
set_option maxHeartbeats 2000000 in
set_option maxRecDepth 20000 in
theorem exchangeAt_any (na ac : Option Addr) (nc cc k : Nat) (s : ByteArray) (l come : List Nm) (w : World) (hl : l.length ≤ 1000) (hcm : come.length ≤ 1) (hnc : l.length ≤ nc) (hn : Nms w na l) (hc : Nms w ac come) (hk : AtN l s k) :
    Calls Try.prog 89 #[.slice na l.length nc, .int .i64 (k : Int), .bool (hasN l s k), .slice ac come.length cc] w fun e w' => Below w.heap.size w w' ∧ ∃ x c g, e = .returned (.slice x (exR l s k come).length c) ∧ NB w' w.heap.size w'.heap.size (.slice x (exR l s k come).length c) (exR l s k come) g := by
  have b7 : Below w.heap.size w w := Below.refl _ _
  have Hn : Hid (Nms w na l) := hn
  have Hc : Hid (Nms w ac come) := hc
  have hkl := hk.1
  clear hn hc
  obtain ⟨r, hr⟩ : ∃ r, hasN l s k = r := ⟨_, rfl⟩
  have Hr : Hid _ := hr
  rw [hr]
  have hr1 : r = true → k < l.length := fun h => by subst h; simp [hasN] at hr; exact hr.1
  clear hr hk
  obtain ⟨nl, hnl⟩ : ∃ nl, l.length = nl := ⟨_, rfl⟩
  have Hnl : Hid _ := hnl
  rw [hnl] at hl hnc hkl hr1 ⊢
  clear hnl
  obtain ⟨w7, hw7⟩ : ∃ w7, w = w7 := ⟨_, rfl⟩
  subst hw7
  go_enter Try.func89, Try.ntmps89
  cases r with
  | false =>
    have hK : k ≤ nl := hkl
    have hT := slice_to na nl nc k (by omega)
    have hF : ∀ w, (Instr.slice 48 (.slice na nl nc) (some (.int .i64 (k : Int))) none none).run Try.prog w = .ok (.slice (subA na (k) nc) (nl - (k)) (nc - (k))) w := fun w => slice_from na nl nc (k) hK w
    have HR : Hid (exR l s k come = l.take k ++ come ++ l.drop (k)) := by show _ = _; unfold exR; rw [Hr.out]; rfl
    have HcC : Hid (∀ W, Below w.heap.size w W → W.heap[w.heap.size]? = some (.cells #[.slice (subA na 0 nc) k nc, .slice ac come.length cc, .slice (subA na (k) nc) (nl - (k)) (nc - (k))] 48 (0, 0)) → Calls Try.prog 95 #[.slice (some ⟨w.heap.size, 0, none⟩) 3 3] W fun e w' => Below W.heap.size W w' ∧ ∃ x c, e = .returned (.slice x (exR l s k come).length c) ∧ OwnN w' W.heap.size (.slice x (exR l s k come).length c) (exR l s k come)) := fun W hW hb => by
      have hn := Hnl.out
      rw [HR.out]
      subst hn
      exact concat3_any na ac nc cc k (k) _ l come W hb (by omega) hcm hkl hK hnc (Hn.out.below (Below.comp b7 hW)) (Hc.out.below (Below.comp b7 hW))
    go_wp2_with fail
    go_region_held3 (fun W => Below w.heap.size w W)
      ((first | assumption | exact Below.drew (Below.refl _ _) | exact Below.refl _ _ | exact below_alloc _ _ | exact Below.drew (below_alloc _ _)))
      (first
      | (go_at_call 95; refine (HcC.out _ (Below.drew (below_alloc _ _)) (al1 w _)).mono ?_; rintro e w8 ⟨b8, x, cx, rfl, hN8⟩; have b78 : Below w.heap.size w w8 := Below.comp (Below.drew (below_alloc w _)) b8))
    go_wp2_with fail
    go_ret
    obtain ⟨g, hN9⟩ := hN8.nb
    exact ⟨Below.comp b7 b78, _, _, g, rfl, hN9.mono (by first | (simp; done) | (have := b7.size; simp; omega)) (Nat.le_refl _)⟩
  | true =>
    have hK : k + 1 ≤ nl := hr1 rfl
    have hT := slice_to na nl nc k (by omega)
    have hF : ∀ w, (Instr.slice 48 (.slice na nl nc) (some (.int .i64 ((k : Int) + 1))) none none).run Try.prog w = .ok (.slice (subA na (k + 1) nc) (nl - (k + 1)) (nc - (k + 1))) w := fun w => slice_from na nl nc (k + 1) hK w
    have HR : Hid (exR l s k come = l.take k ++ come ++ l.drop (k + 1)) := by show _ = _; unfold exR; rw [Hr.out]; rfl
    have HcC : Hid (∀ W, Below w.heap.size w W → W.heap[w.heap.size]? = some (.cells #[.slice (subA na 0 nc) k nc, .slice ac come.length cc, .slice (subA na (k + 1) nc) (nl - (k + 1)) (nc - (k + 1))] 48 (0, 0)) → Calls Try.prog 95 #[.slice (some ⟨w.heap.size, 0, none⟩) 3 3] W fun e w' => Below W.heap.size W w' ∧ ∃ x c, e = .returned (.slice x (exR l s k come).length c) ∧ OwnN w' W.heap.size (.slice x (exR l s k come).length c) (exR l s k come)) := fun W hW hb => by
      have hn := Hnl.out
      rw [HR.out]
      subst hn
      exact concat3_any na ac nc cc k (k + 1) _ l come W hb (by omega) hcm hkl hK hnc (Hn.out.below (Below.comp b7 hW)) (Hc.out.below (Below.comp b7 hW))
    go_wp2_with fail
    go_region_held3 (fun W => Below w.heap.size w W)
      ((first | assumption | exact Below.drew (Below.refl _ _) | exact Below.refl _ _ | exact below_alloc _ _ | exact Below.drew (below_alloc _ _)))
      (first
      | (go_at_call 95; refine (HcC.out _ (Below.drew (below_alloc _ _)) (al1 w _)).mono ?_; rintro e w8 ⟨b8, x, cx, rfl, hN8⟩; have b78 : Below w.heap.size w w8 := Below.comp (Below.drew (below_alloc w _)) b8))
    go_wp2_with fail
    go_ret
    obtain ⟨g, hN9⟩ := hN8.nb
    exact ⟨Below.comp b7 b78, _, _, g, rfl, hN9.mono (by first | (simp; done) | (have := b7.size; simp; omega)) (Nat.le_refl _)⟩
theorem exchangeIn_any (na ac : Option Addr) (nc cc k : Nat) (s : ByteArray) (l come : List Nm) (w : World) (hl : l.length ≤ 1000) (hcm : come.length ≤ 1) (hnc : l.length ≤ nc) (hn : Nms w na l) (hc : Nms w ac come) (hris : Ris l) (hk : AtN l s k) :
    Calls Try.prog 73 #[.slice na l.length nc, .string s, .slice ac come.length cc] w fun e w' => Below w.heap.size w w' ∧ ∃ x c g, e = .returned (.slice x (exR l s k come).length c) ∧ NB w' w.heap.size w'.heap.size (.slice x (exR l s k come).length c) (exR l s k come) g := by
  have cS := searchName_any na l nc s k w (by omega) hn hris hk
  have Hx : Hid (∀ W, Below w.heap.size w W → Calls Try.prog 89 #[.slice na l.length nc, .int .i64 (k : Int), .bool (hasN l s k), .slice ac come.length cc] W fun e w' => Below W.heap.size W w' ∧ ∃ x c g, e = .returned (.slice x (exR l s k come).length c) ∧ NB w' W.heap.size w'.heap.size (.slice x (exR l s k come).length c) (exR l s k come) g) := fun W hW => exchangeAt_any na ac nc cc k s l come W hl hcm hnc (hn.below hW) (hc.below hW) hk
  clear hn hc hris hk
  generalize hasN l s k = r at *
  generalize l.length = nl at *
  generalize come.length = nm at *
  go_enter Try.func73, Try.ntmps73
  go_wp2_with fail
  refine cS.mono ?_
  rintro e w7 ⟨rfl, b7⟩
  go_wp2_with fail
  refine (Hx.out _ b7).mono ?_
  rintro e w8 ⟨b8, x, c, g, rfl, hN⟩
  go_wp2_with fail
  go_ret
  exact ⟨Below.comp b7 b8, x, c, g, rfl, hN.mono b7.size (Nat.le_refl _)⟩
end Go.Proofs.Ytfmgaenedkjmkaa
