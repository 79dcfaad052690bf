import Derived.Test.YtfphffbclpmobaaF2
import Derived.Test.YtfphffbclpmobaaB2
/- The specification: a vault of one's own. -/
namespace Go.Proofs.Ytfphffbclpmobaa
open Go.ChangeShapes Go.WideShapes Go.ChangeAt Go.RowKit
set_option linter.unusedVariables false
open Hd

attribute [local go_sem] Oper.semAt_some

/-- The files of a row, as values. -/
def fvs (L : List (List Int)) (ks : Nat → Option Addr × Nat) : List Value := (List.range L.length).map fun i => .slice (ks i).1 (gf L i).length (ks i).2
/-- A row of files that may be appended to. -/
def OwnFi (w : World) (B : Nat) (v : Value) (L : List (List Int)) : Prop :=
  ∃ ks : Nat → Option Addr × Nat, w.ownsRow B 44 1 v L.length (fvs L ks) ∧ ∀ i, i < L.length → ∃ g, IB w 0 w.heap.size (.slice (ks i).1 (gf L i).length (ks i).2) (gf L i) g
theorem OwnFi.nil (w : World) (B : Nat) : OwnFi w B (.slice none 0 0) [] := ⟨fun _ => (none, 0), ⟨rfl, .inl ⟨rfl, rfl⟩⟩, fun i hi => absurd hi (by simp)⟩
theorem OwnFi.below {w w' : World} {B : Nat} {v : Value} {L : List (List Int)} (h : OwnFi w B v L) (hb : Below w.heap.size w w') : OwnFi w' B v L := by
  obtain ⟨ks, h1, h2⟩ := h
  exact ⟨ks, owns_below h1 hb, fun i hi => by obtain ⟨g, hg⟩ := h2 i hi; exact ⟨g, (hg.below hb).mono (Nat.le_refl _) hb.size⟩⟩
theorem gf_app_lt {L : List (List Int)} {x : List Int} {i : Nat} (h : i < L.length) : gf (L ++ [x]) i = gf L i := by simp [gf, List.getElem?_append_left h]
theorem gf_app {L : List (List Int)} {x : List Int} : gf (L ++ [x]) L.length = x := by simp [gf]
theorem fvs_snoc (L : List (List Int)) (x : List Int) (ks : Nat → Option Addr × Nat) (y : Option Addr × Nat) :
    fvs (L ++ [x]) (fun i => if i = L.length then y else ks i) = fvs L ks ++ [.slice y.1 x.length y.2] := by
  unfold fvs
  rw [List.length_append, List.length_singleton, List.range_succ, List.map_append]
  congr 1
  · refine List.map_congr_left (fun i hi => ?_)
    rw [List.mem_range] at hi
    have e2 : ¬ i = L.length := by omega
    simp only [gf_app_lt hi, if_neg e2]
  · simp [gf_app]
theorem OwnFi.snoc {w : World} {B : Nat} {v : Value} {L : List (List Int)} {x : List Int} {ks : Nat → Option Addr × Nat} {y : Option Addr × Nat} (h : w.ownsRow B 44 1 v (L.length + 1) (fvs L ks ++ [.slice y.1 x.length y.2]))
    (h1 : ∀ i, i < L.length → ∃ g, IB w 0 w.heap.size (.slice (ks i).1 (gf L i).length (ks i).2) (gf L i) g) (h2 : ∃ g, IB w 0 w.heap.size (.slice y.1 x.length y.2) x g) : OwnFi w B v (L ++ [x]) := by
  refine ⟨fun i => if i = L.length then y else ks i, ?_, fun i hi => ?_⟩
  · rw [fvs_snoc, List.length_append]
    exact h
  · rw [List.length_append, List.length_singleton] at hi
    by_cases e : i = L.length
    · subst e
      simp only [gf_app, if_pos]
      exact h2
    · simp only [gf_app_lt (show i < L.length by omega), if_neg e]
      exact h1 i (by omega)
theorem box_grown {w w' : World} {row : Option Nat} {b : Nat} {o : Obj} (h : w.heap[b]? = some o) (hg : w.grownBy w' row) (hne : ∀ k, row = some k → k ≠ b) : w'.heap[b]? = some o := by
  rw [hg.block b (box_lt h) (fun e => hne b e.symm rfl)]
  exact h
/-- A row of ints in a block of its own outlives the growth of a row of others. -/
theorem IB.grown {w w' : World} {B : Nat} {e : TypeId} {size n : Nat} {v : Value} {xs : List Value} {u : Value} {l : List Int} {g : Nat} (h : IB w 0 w.heap.size u l g) (ho : w.ownsRow B e size v n xs) (he : e ≠ 3) (hg : w.grownBy w' v.ownBlock) : IB w' 0 w'.heap.size u l g := by
  obtain ⟨a, c, e1, hc, hr⟩ := h
  refine ⟨a, c, e1, hc, fun hn => ?_⟩
  obtain ⟨r1, r2, r3, cs, r4, r5⟩ := hr hn
  have hne : ∀ k, v.ownBlock = some k → g ≠ k := fun k hk e2 => by
    subst e2
    rcases ho.2 with ⟨rfl, _⟩ | ⟨g', cap, cur, rfl, hb, hg', _⟩
    · simp [Value.ownBlock] at hk
    · simp [Value.ownBlock] at hk
      subst hk
      rw [r4] at hg'
      simp at hg'
      exact he hg'.2.symm
  have h4 := box_grown r4 hg (fun k hk => (hne k hk).symm)
  exact ⟨r1, r2, box_lt h4, cs, h4, r5⟩
theorem own_empty (w : World) (e : TypeId) (size : Nat) : (w.alloc (.cells #[] e)).ownsRow w.heap.size e size (.slice (some ⟨w.heap.size, 0, none⟩) 0 0) 0 [] := ⟨by simp, .inr ⟨w.heap.size, 0, #[], rfl, Nat.le_refl _, al1 _ _, Nat.le_refl _, Nat.zero_le _, by simp, by simp⟩⟩
theorem owns_outS {w w' : World} {B B' C' : Nat} {e : TypeId} {size n : Nat} {v : Value} {xs : List Value} (h : w.ownsRow B e size v n xs) (ho : Out B' C' w w') (hC : C' ≤ B) : w'.ownsRow B e size v n xs := by
  refine ⟨h.1, ?_⟩
  rcases h.2 with h2 | ⟨g, cap, cur, e1, hb, hg, h3⟩
  · exact .inl h2
  · exact .inr ⟨g, cap, cur, e1, hb, box_out hg ho (by omega), h3⟩
theorem IB.outT {w w' : World} {b : Nat} {u : Value} {l : List Int} {g : Nat} {c : Array Value} {e : TypeId} (h : IB w 0 w.heap.size u l g) (ho : Out b (b + 1) w w') (hb : w.heap[b]? = some (.cells c e (0, 0))) (he : e ≠ 3) : IB w' 0 w'.heap.size u l g := by
  obtain ⟨a, k, e1, hc, hr⟩ := h
  refine ⟨a, k, e1, hc, fun hn => ?_⟩
  obtain ⟨r1, r2, r3, cs, r4, r5⟩ := hr hn
  have hne : g ≠ b := fun e2 => by
    subst e2
    rw [r4] at hb
    simp at hb
    exact he hb.2.symm
  have h4 := box_out r4 ho (by omega)
  exact ⟨r1, r2, box_lt h4, cs, h4, r5⟩
theorem OwnFi.outT {w w' : World} {B b : Nat} {v : Value} {L : List (List Int)} {c : Array Value} {e : TypeId} (h : OwnFi w B v L) (ho : Out b (b + 1) w w') (hB : b + 1 ≤ B) (hb : w.heap[b]? = some (.cells c e (0, 0))) (he : e ≠ 3) : OwnFi w' B v L := by
  obtain ⟨ks, h1, h2⟩ := h
  exact ⟨ks, owns_outS h1 ho hB, fun i hi => by obtain ⟨g, hg⟩ := h2 i hi; exact ⟨g, hg.outT ho hb he⟩⟩
theorem src_new1 (w : World) (x : Value) (t : TypeId) : (1 : Nat) = 0 ∨ ∃ ad, some (⟨w.heap.size, 0, none⟩ : Addr) = some ad ∧ ∀ j u, [x][j]? = some u → (w.alloc (.cells #[x] t)).cell? (ad.add j) = some u := by
  refine .inr ⟨_, rfl, fun j u hj => ?_⟩
  rw [addN, Nat.zero_add]
  exact cell_of_block (al1 _ _) (by simpa using hj)
set_option maxRecDepth 20000 in
set_option maxHeartbeats 4000000 in
theorem own15_any (v : Value) (u : Va) (w : World) (hc : VAt w v u) (hn : u.pc.length ≤ 100) (hm : u.fs.length ≤ 20) (hk : ∀ i, i < u.fs.length → (gf u.fs i).length ≤ 200) :
    Calls Try.prog 15 #[v] w fun e w' => Below w.heap.size w w' ∧ ∃ p f, e = .returned (.agg #[p, f]) ∧ OwnN w' w.heap.size p u.pc ∧ OwnFi w' w.heap.size f u.fs := by
  obtain ⟨a, ca, a', ca', rfl, -, -, hI, hR⟩ := hc
  have HR : Hid (∀ W, Below w.heap.size w W → Fis W a' u.fs) := fun W h => hR.below h
  have Hk : Hid _ := hk
  obtain ⟨L, S⟩ := u
  simp only at hI hn hm HR Hk ⊢
  obtain ⟨s, hs⟩ : ∃ s, w.heap.size = s := ⟨_, rfl⟩
  have Hs : Hid (w.heap.size = s) := hs
  obtain ⟨n, hL⟩ : ∃ n, L.length = n := ⟨_, rfl⟩
  have HL : Hid (L.length = n) := hL
  obtain ⟨m, hS⟩ : ∃ m, S.length = m := ⟨_, rfl⟩
  have HS : Hid (S.length = m) := hS
  unfold vv
  obtain ⟨W0, hW0⟩ : ∃ W0, (w.alloc (.cells #[.slice a n ca, .slice a' m ca'] 30)).alloc (.cells #[.slice none 0 0, .slice none 0 0] 30) = W0 := ⟨_, rfl⟩
  have q0 : Below w.heap.size w W0 := by subst hW0; exact ba2 _ _ _
  obtain ⟨B1, B2⟩ : W0.heap[s]? = some (.cells #[.slice a n ca, .slice a' m ca'] 30 (0, 0)) ∧ W0.heap[s + 1]? = some (.cells #[.slice none 0 0, .slice none 0 0] 30 (0, 0)) := by subst hW0 hs; exact al2 _ _ _
  have H1 : Hid _ := B1
  have H2 : Hid _ := B2
  clear B1 B2 hR hk
  obtain ⟨W1, hW1⟩ : ∃ W1, W0.alloc (.cells #[] 46) = W1 := ⟨_, rfl⟩
  have q1 : Below W0.heap.size W0 W1 := by subst hW1; exact below_alloc _ _
  have own0 : W1.ownsRow W0.heap.size 46 2 (.slice (some ⟨W0.heap.size, 0, none⟩) 0 0) 0 [] := by subst hW1; exact own_empty _ _ _
  obtain ⟨i0, i1, -, -⟩ := box2_cells (box_on H1.out q1)
  have sr : n = 0 ∨ ∃ ad, a = some ad ∧ ∀ j u, (cns L)[j]? = some u → W1.cell? (ad.add j) = some u := by rw [← hL]; exact Nms.src (hI.below (Below.comp q0 q1))
  have hcl : (cns L).length = n * 2 := by rw [cns_len, hL]
  have z1 : W0.heap.size ≤ W1.heap.size := q1.size
  have KEY0 : Hid (∀ (v4 : Value) (w4 : World), w4.ownsRow W0.heap.size 46 2 v4 (0 + n) ([] ++ cns L) → W1.grownBy w4 (Value.slice (some ⟨W0.heap.size, 0, none⟩) 0 0).ownBlock →
      ∃ y4 c4 W5, v4 = .slice y4 n c4 ∧ w4.setCell ⟨s, 0, none⟩ (.slice y4 n c4) = W5 ∧ (w4.cell? ⟨s, 0, none⟩ = some (.slice a n ca) ∧ w4.frozen? ⟨s, 0, none⟩ = false) ∧ (W5.cell? ⟨s, 0, none⟩ = some (.slice y4 n c4) ∧ W5.cell? ⟨s, 1, none⟩ = some (.slice a' m ca')) ∧
        Hid (W5.heap[s]? = some (.cells #[.slice y4 n c4, .slice a' m ca'] 30 (0, 0)) ∧ W5.heap[s + 1]? = some (.cells #[.slice none 0 0, .slice none 0 0] 30 (0, 0)) ∧ Below w.heap.size w W5 ∧ OwnN W5 W0.heap.size (.slice y4 n c4) L)) := fun v4 w4 own4 gr4 => by
    have b4 : Below W0.heap.size W0 w4 := grown_on q1 z1 own0 gr4
    rw [Nat.zero_add, List.nil_append] at own4
    obtain ⟨y4, c4, rfl⟩ := owns_form own4
    have X4 := box_on H1.out b4
    obtain ⟨x0, x1, f0, f1⟩ := box2_cells X4
    have o5 : Out s (s + 1) w4 (w4.setCell ⟨s, 0, none⟩ (.slice y4 n c4)) := out_setCell _ _ _ _
    have X5 : (w4.setCell ⟨s, 0, none⟩ (.slice y4 n c4)).heap[s]? = some (.cells #[.slice y4 n c4, .slice a' m ca'] 30 (0, 0)) := block_set X4
    obtain ⟨e0, e1, -, -⟩ := box2_cells X5
    have hz : s + 1 < W0.heap.size := box_lt H2.out
    exact ⟨y4, c4, _, rfl, rfl, ⟨x0, f0⟩, ⟨e0, e1⟩, X5, box_out (box_on H2.out b4) o5 (by omega), (Below.comp q0 b4).trans ((o5.below (Nat.le_of_lt (box_lt X4))).mono (by omega)), by unfold OwnN; rw [hL]; exact owns_outS own4 o5 (by omega)⟩
  clear hI
  go_enter Try.func15, Try.ntmps15
  go_wp2_with (at_builtin; refine wpList_append_src rfl _ _ 27 rfl W0.heap.size 46 _ 2 24 Try.underlying27 info47 rfl (by decide) (.slice (some ⟨W0.heap.size, 0, none⟩) 0 0) 0 [] rfl own0 a n ca (cns L) rfl hcl sr (cns_one _) (by omega) (by decide) z1 ?_; intro v4 w4 own4 gr4; obtain ⟨y4, c4, W5, rfl, hW5, ⟨e0, e1⟩, ⟨e2, e3⟩, H5⟩ := KEY0.out v4 w4 own4 gr4; clear own4 gr4)
  clear i0 i1 hW0 hW1 own0 sr hcl z1 e0 e1 e2 e3 hW5
  go_loopw [3, 14] (fun s3 s9 wr => ∃ j : Nat, j ≤ m ∧ s9 = .int .i64 j ∧ Hid (OwnFi wr W5.heap.size s3 (S.take j)) ∧ Below W5.heap.size W5 wr) (fun _ s9 _ => m - (intOf s9).toNat)
  case atStart => exact ⟨0, by omega, rfl, OwnFi.nil _ _, Below.refl _ _⟩
  case round =>
    obtain ⟨j, hj, rfl, HO, hb⟩ := hrel
    have hbw := Below.comp H5.out.2.2.1 hb
    by_cases hlt : j < m
    · have hlt' : (j : Int) < (m : Int) := by omega
      obtain ⟨b, off, rfl, hcell⟩ := (HR.out wr hbw) (by rw [HS.out]; omega)
      obtain ⟨ka, kc, k0, k3, k4⟩ := hcell j (by rw [HS.out]; exact hlt)
      have hkl := Hk.out j (by rw [HS.out]; exact hlt)
      have hjS : j < S.length := by rw [HS.out]; exact hlt
      have HK3 : Hid (∀ W, Below wr.heap.size wr W → Ints W ka (gf S j)) := fun W h => k3.below h
      clear hcell k3
      have HT : Hid (S.take (j + 1) = S.take j ++ [gf S j]) := by show _ = _; rw [List.take_succ_eq_append_getElem hjS]; simp [gf, hjS]
      have hM : (S.take j).length = j := by rw [List.length_take]; omega
      clear hjS
      generalize hx : gf S j = kd at *
      obtain ⟨ks, own1, hks⟩ := HO.out
      have Hks : Hid _ := hks
      obtain ⟨y, yc, rfl⟩ := owns_form own1
      rw [hM] at own1
      rw [hM]
      have HM : Hid _ := hM
      clear hks HO hM hx
      generalize S.take j = P at *
      obtain ⟨nl, hnl⟩ : ∃ nl, kd.length = nl := ⟨_, rfl⟩
      have HNL : Hid _ := hnl
      rw [hnl] at k0 hkl
      obtain ⟨W2, hW2⟩ : ∃ W2, wr.alloc (.cells #[.slice ka nl kc] 44) = W2 := ⟨_, rfl⟩
      have b2 : Below wr.heap.size wr W2 := by subst hW2; exact below_alloc _ _
      have X2 : Hid (W2.heap[wr.heap.size]? = some (.cells #[.slice ka nl kc] 44 (0, 0))) := by subst hW2; exact al1 _ _
      obtain ⟨W3, hW3⟩ : ∃ W3, W2.alloc (.cells #[] 3) = W3 := ⟨_, rfl⟩
      have b3 : Below W2.heap.size W2 W3 := by subst hW3; exact below_alloc _ _
      have own0 : W3.ownsRow W2.heap.size 3 1 (.slice (some ⟨W2.heap.size, 0, none⟩) 0 0) 0 [] := by subst hW3; exact own_empty _ _ _
      obtain ⟨x0, f0⟩ := box1_cells (box_on X2.out b3)
      have sr : nl = 0 ∨ ∃ ad, ka = some ad ∧ ∀ j u, (cis kd)[j]? = some u → W3.cell? (ad.add j) = some u := by rw [← hnl]; exact At.src (HK3.out _ (Below.comp b2 b3))
      have hcl : (cis kd).length = nl * 1 := by rw [cis_len, hnl, Nat.mul_one]
      have z3 : W2.heap.size ≤ W3.heap.size := b3.size
      clear hnl
      have KEY : Hid (∀ (v4 : Value) (w4 : World), w4.ownsRow W2.heap.size 3 1 v4 (0 + nl) ([] ++ cis kd) → W3.grownBy w4 (Value.slice (some ⟨W2.heap.size, 0, none⟩) 0 0).ownBlock →
          ∃ y4 c4 W6, v4 = .slice y4 nl c4 ∧ w4.alloc (.cells #[.slice y4 nl c4] 44) = W6 ∧
            Below wr.heap.size wr W6 ∧ W6.ownsRow W5.heap.size 44 1 (.slice y j yc) j (fvs P ks) ∧
            ((1 : Nat) = 0 ∨ ∃ ad, some (⟨w4.heap.size, 0, none⟩ : Addr) = some ad ∧ ∀ j u, [.slice y4 nl c4][j]? = some u → W6.cell? (ad.add j) = some u) ∧
            ∃ g, IB W6 0 W6.heap.size (.slice y4 nl c4) kd g) := fun v4 w4 own4 gr4 => by
        have b4 : Below W2.heap.size W2 w4 := grown_on b3 z3 own0 gr4
        rw [Nat.zero_add, List.nil_append] at own4
        have own4' : OwnI w4 W2.heap.size v4 kd := by unfold OwnI; rw [HNL.out]; exact own4
        obtain ⟨g4, ib4⟩ := own4'.ib
        obtain ⟨y4, c4, rfl, h4, -⟩ := id ib4
        have ib4' := ib4
        rw [HNL.out] at ib4'
        rw [HNL.out]
        have b6 := below_alloc w4 (.cells #[.slice y4 nl c4] 44)
        have b46 := Below.comp (Below.comp b2 b4) b6
        exact ⟨y4, c4, _, rfl, rfl, b46, owns_below own1 b46, src_new1 _ _ _, g4, (ib4'.below b6).mono (Nat.zero_le _) b6.size⟩
      have KEY2 : Hid (∀ (v7 : Value) (W6 w7 : World) (y4 : Option Addr) (c4 : Nat), Below wr.heap.size wr W6 → W6.ownsRow W5.heap.size 44 1 (.slice y j yc) j (fvs P ks) → (∃ g, IB W6 0 W6.heap.size (.slice y4 nl c4) kd g) →
          w7.ownsRow W5.heap.size 44 1 v7 (j + 1) (fvs P ks ++ [.slice y4 nl c4]) → W6.grownBy w7 (Value.slice y j yc).ownBlock → OwnFi w7 W5.heap.size v7 (P ++ [kd]) ∧ Below W5.heap.size W5 w7) := fun v7 W6 w7 y4 c4 b6 own6 h4 own7 gr7 => by
        have b06 := Below.comp hb b6
        refine ⟨?_, grown_on b06 b06.size own6 gr7⟩
        refine OwnFi.snoc (ks := ks) (y := (y4, c4)) ?_ (fun i hi => ?_) ?_
        · rw [HM.out]
          show w7.ownsRow _ _ _ _ _ (fvs P ks ++ [.slice y4 kd.length c4])
          rw [HNL.out]
          exact own7
        · obtain ⟨g, hg⟩ := Hks.out i (by omega)
          exact ⟨g, ((hg.below b6).mono (Nat.le_refl _) b6.size).grown own6 (by decide) gr7⟩
        · obtain ⟨g, hg⟩ := h4
          refine ⟨g, ?_⟩
          show IB w7 0 w7.heap.size (.slice y4 kd.length c4) kd g
          rw [HNL.out]
          exact hg.grown own6 (by decide) gr7
      go_wp2_with (first
        | (at_builtin; refine wpList_append_src rfl _ _ 42 rfl W2.heap.size 3 _ 1 8 Try.underlying42 info3 rfl (by decide) (.slice (some ⟨W2.heap.size, 0, none⟩) 0 0) 0 [] rfl own0 ka nl kc (cis kd) rfl hcl sr (cis_one _) (by omega) (by decide) z3 ?_; intro v4 w4 own4 gr4; obtain ⟨y4, c4, W6, rfl, hW6, b6, own6, sr6, hi6⟩ := KEY.out v4 w4 own4 gr4; have HI6 : Hid _ := hi6; have b06 : Below W5.heap.size W5 W6 := Below.comp hb b6; have z6 := b06.size; clear hi6 own4 gr4)
        | (at_builtin; refine wpList_append_src rfl _ _ 28 rfl W5.heap.size 44 _ 1 24 Try.underlying28 infoF rfl (by decide) (.slice y j yc) j (fvs P ks) rfl own6 (some ⟨w4.heap.size, 0, none⟩) 1 1 [.slice y4 nl c4] rfl rfl sr6 (by simp [Value.oneCell']) (by omega) (by decide) z6 ?_; intro v7 w7 own7 gr7; obtain ⟨oc7, b7⟩ := KEY2.out v7 W6 w7 y4 c4 b6 own6 HI6.out own7 gr7; have OC7 : Hid _ := oc7; clear oc7 own7 gr7 own6))
      go_roundw
      case rel => exact ⟨j + 1, by omega, by go_num, by rw [HT.out]; exact OC7.out, b7⟩
      case measure => simp [intOf]; omega
    · have hjn : j = m := by omega
      subst hjn
      have hfin : S.take j = S := List.take_of_length_le (by rw [HS.out]; exact Nat.le_refl _)
      have HO2 : Hid (OwnFi wr W5.heap.size u3 S) := by have h6 := HO.out; rw [hfin] at h6; exact h6
      have hF := HO2.out
      obtain ⟨ks, own1, -⟩ := hF
      obtain ⟨y, yc, rfl⟩ := owns_form own1
      rw [HS.out] at HO2 ⊢
      clear own1 hfin HO
      have X0 : Hid (wr.heap[s]? = some (.cells #[.slice y4 n c4, .slice a' j ca'] 30 (0, 0))) := box_on H5.out.1 hb
      have Y0 : Hid (wr.heap[s + 1]? = some (.cells #[.slice none 0 0, .slice none 0 0] 30 (0, 0))) := box_on H5.out.2.1 hb
      obtain ⟨x0, x1, f0, f1⟩ := box2_cells X0.out
      obtain ⟨Wa, hWa⟩ : ∃ Wa, wr.setCell ⟨s, 1, none⟩ (.slice y j yc) = Wa := ⟨_, rfl⟩
      have oa : Out s (s + 1) wr Wa := by subst hWa; exact out_setCell _ _ _ _
      have Xa : Hid (Wa.heap[s]? = some (.cells #[.slice y4 n c4, .slice y j yc] 30 (0, 0))) := by subst hWa; exact block_set X0.out
      have Ya : Hid (Wa.heap[s + 1]? = _) := box_out Y0.out oa (by omega)
      have hz5 : s + 1 < W5.heap.size := box_lt H5.out.2.1
      have hz0 : Hid (s + 1 < W0.heap.size) := box_lt H2.out
      obtain ⟨v0, v1, -, -⟩ := box2_cells Xa.out
      obtain ⟨p0, p1, p2, p3⟩ := box2_cells Ya.out
      obtain ⟨Wb, hWb⟩ : ∃ Wb, (Wa.setCell ⟨s + 1, 0, none⟩ (.slice y4 n c4)).setCell ⟨s + 1, 1, none⟩ (.slice y j yc) = Wb := ⟨_, rfl⟩
      have ob : Out (s + 1) (s + 1 + 1) Wa Wb := by subst hWb; exact ((Out.refl _ _ _).setCell (Nat.le_refl _) (Nat.lt_succ_self _) _ _).setCell (Nat.le_refl _) (Nat.lt_succ_self _) _ _
      have Yb : Wb.heap[s + 1]? = some (.cells #[.slice y4 n c4, .slice y j yc] 30 (0, 0)) := by subst hWb; exact box2_set Ya.out
      obtain ⟨t0, t1, -, -⟩ := box2_cells Yb
      have HB : Hid (Below w.heap.size w Wb) := (hbw.trans ((oa.below (Nat.le_of_lt (box_lt X0.out))).mono (by have := Hs.out; omega))).trans ((ob.below (Nat.le_of_lt (box_lt Ya.out))).mono (by have := Hs.out; omega))
      have HOF : Hid (OwnFi Wb W5.heap.size (.slice y j yc) S) := (HO2.out.outT oa (by omega) X0.out (by decide)).outT ob (by omega) Ya.out (by decide)
      have HON : Hid (OwnN Wb W0.heap.size (.slice y4 n c4) L) := owns_outS (owns_outS (owns_below H5.out.2.2.2 hb) oa (by have := hz0.out; omega)) ob (by have := hz0.out; omega)
      have Hq : Hid (w.heap.size ≤ W0.heap.size ∧ w.heap.size ≤ W5.heap.size) := ⟨q0.size, H5.out.2.2.1.size⟩
      clear Yb oa ob
      go_wp2
      exact bodyPost_ret (v := .agg #[.slice y4 n c4, .slice y j yc]) (by simp [results, Try.results15, go_sem, t0, t1]) rfl ⟨HB.out, _, _, rfl, owns_mono HON.out Hq.out.1, by obtain ⟨ks, o1, o2⟩ := HOF.out; exact ⟨ks, owns_mono o1 Hq.out.2, o2⟩⟩
end Go.Proofs.Ytfphffbclpmobaa
