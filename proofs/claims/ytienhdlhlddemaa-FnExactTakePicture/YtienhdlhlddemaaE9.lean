import Derived.Test.YtienhdlhlddemaaE8
import Derived.Deep.DeepCutAuto
/- The program: a cow that is opened, where its numbers are in their bounds. -/
namespace Go.Proofs.Ytienhdlhlddemaa
open Go.ChangeShapes Go.WideShapes Go.ChangeAt Go.RowKit
set_option linter.unusedVariables false
open Hd

attribute [local go_sem] Oper.semAt_some

theorem cwV_one (x : Ce) : (cwV x).oneCell' = true ∧ (cwV x).cells = #[cwV x] := by
  unfold cwV
  split
  · exact ⟨rfl, rfl⟩
  · split <;> exact ⟨rfl, rfl⟩
theorem cwV_form (x : Ce) : cwV x = .nilIface ∨ ∃ T y, cwV x = .iface T y := by
  unfold cwV
  split
  · exact .inl rfl
  · split <;> exact .inr ⟨_, _, rfl⟩
theorem Out.low {B C Z : Nat} {a b c : World} (h : Out B C a b) (k : Below Z b c) (hz : a.heap.size ≤ Z) : Out B C a c :=
  ⟨k.os.trans h.os, k.tape.trans h.tape, k.output.trans h.output, Nat.le_trans h.size k.size, fun i hi hs => (k.block i (by omega)).trans (h.block i hi hs)⟩
theorem owns_out {W W' : World} {Z B C : Nat} {e : TypeId} {n : Nat} {v : Value} {l : List Value} (h : W.ownsRow Z e 1 v n l) (ho : Out B C W W') (hC : C ≤ Z) : W'.ownsRow Z e 1 v n l := by
  refine ⟨h.1, ?_⟩
  rcases h.2 with h2 | ⟨g, cap, cur, h1, hb, hg, hr⟩
  · exact .inl h2
  · exact .inr ⟨g, cap, cur, h1, hb, box_out hg ho (by omega), hr⟩
theorem St.growA {w3 w4 : World} {Z E : Nat} {va vb v4 u : Value} {XS YS : List Value} {ob : Obj} (h : St w3 Z va vb XS YS) (hE : E < w3.heap.size) (hEa : ∀ k, va.ownBlock = some k → k ≠ E) (o4 : w4.ownsRow Z 62 1 v4 (XS.length + 1) (XS ++ [u])) (r4 : (w3.alloc ob).grownBy w4 va.ownBlock) (a4 : v4.ownBlock = va.ownBlock ∨ v4.ownBlock = some (w3.alloc ob).heap.size) :
    St w4 Z v4 vb (XS ++ [u]) YS ∧ Below Z w3 w4 ∧ w4.heap[E]? = w3.heap[E]? := by
  obtain ⟨s, b⟩ := (h.below (below_alloc w3 ob)).apA o4 r4 a4
  have hz := h.z
  refine ⟨s, ((below_alloc w3 ob).mono hz).trans b, ?_⟩
  rw [r4.block E (by simp; omega) (fun e => hEa E e.symm rfl), (below_alloc w3 ob).block E hE]
theorem St.growB {w3 w4 : World} {Z E : Nat} {va vb v4 u : Value} {XS YS : List Value} {ob : Obj} (h : St w3 Z va vb XS YS) (hE : E < w3.heap.size) (hEa : ∀ k, vb.ownBlock = some k → k ≠ E) (o4 : w4.ownsRow Z 3 1 v4 (YS.length + 1) (YS ++ [u])) (r4 : (w3.alloc ob).grownBy w4 vb.ownBlock) (a4 : v4.ownBlock = vb.ownBlock ∨ v4.ownBlock = some (w3.alloc ob).heap.size) :
    St w4 Z va v4 XS (YS ++ [u]) ∧ Below Z w3 w4 ∧ w4.heap[E]? = w3.heap[E]? := by
  obtain ⟨s, b⟩ := (h.below (below_alloc w3 ob)).apB o4 r4 a4
  have hz := h.z
  refine ⟨s, ((below_alloc w3 ob).mono hz).trans b, ?_⟩
  rw [r4.block E (by simp; omega) (fun e => hEa E e.symm rfl), (below_alloc w3 ob).block E hE]
set_option maxHeartbeats 8000000 in
set_option maxRecDepth 20000 in
theorem opened_yes (v : Value) (c : Co) (rq : List Int) (b : Option Addr) (cap : Nat) (w : World) (hc : CowAt w v c) (hf : FewW c) (h : few c = true) (hrq : Ints w b rq) (hrn : rq.length ≤ 8) :
    Calls Try.prog 21 #[v, .slice b rq.length cap] w (OpenR c rq w) := by
  obtain ⟨a, ca, a', ca', rfl, -, -, hI, hR⟩ := hc
  obtain ⟨h1, h3, hn, hm1, hm8⟩ : 1 ≤ c.lv ∧ c.lv ≤ 3 ∧ c.cs.length ≤ 80 ∧ 1 ≤ c.rs.length ∧ c.rs.length ≤ 8 := by unfold few at h; simp at h; exact h
  have HFx : Hid (∀ i, i < c.cs.length → (gc c.cs i).lf.size ≤ 9223372036854775807 ∧ (gc c.cs i).kd.length ≤ 9223372036854775807) := hf.1.2
  have Hfew : Hid (few c = true) := h
  have HC : Hid (∀ W, Below w.heap.size w W → Ces W a c.cs) := fun W h => hI.below h
  have HRt : Hid (∀ W, Below w.heap.size w W → Ints W a' c.rs) := fun W h => hR.below h
  have HRq : Hid (∀ W, Below w.heap.size w W → Ints W b rq) := fun W h => hrq.below h
  obtain ⟨oo, hoo⟩ : ∃ oo, (gI c && rq.all (inB c.rs.length)) = oo := ⟨_, rfl⟩
  have HO : Hid _ := hoo
  have HG : Hid (∀ w' v, Below w.heap.size w w' → OpF v → (oo = false → v = zv) → (oo = true → OpOwn w.heap.size w' v c) → OpenR c rq w (.returned (.tuple #[v, .bool oo])) w') := fun w' v h1 hF hz h2 => ⟨h1, v, by rw [hoo], hF, fun h => hz (hoo.symm.trans h), fun h => h2 (hoo.symm.trans h)⟩
  clear hoo hf h hI hR hrq
  generalize OpenR c rq w = Q at *
  have cF := fun W => few_any c.cs.length c.rs.length W
  rw [show (decide (c.cs.length ≤ 80) && (decide (1 ≤ c.rs.length) && decide (c.rs.length ≤ 8))) = true by simp [hn, hm1, hm8]] at cF
  have cR := fun W h => copyRow_any a' ca' c.rs W (by omega) h
  have cG := fun (L : List Ce) hok (ho : L = c.cs) v W (h : OpAt W v L (L.map (·.ct)) c.rs c.lv) => isGood_any (L := L) hok (by rw [ho]; exact hn) v W h h1 h3 hm8 (by rw [List.length_map, ho]; exact hn)
  have HcG : Hid _ := cG
  clear cG
  obtain ⟨lv, hlv⟩ : ∃ lv, c.lv = lv := ⟨_, rfl⟩
  obtain ⟨n, hnn⟩ : ∃ n, c.cs.length = n := ⟨_, rfl⟩
  obtain ⟨m, hmm⟩ : ∃ m, c.rs.length = m := ⟨_, rfl⟩
  have Hlv : Hid _ := hlv
  have Hn : Hid _ := hnn
  have Hm : Hid _ := hmm
  unfold kv
  rw [hlv] at h1 h3 ⊢
  rw [hnn] at hn cF HFx ⊢
  rw [hmm] at hm1 hm8 cF cR ⊢
  clear hlv hnn hmm
  obtain ⟨r, hrr⟩ : ∃ r, rq.length = r := ⟨_, rfl⟩
  have Hr : Hid _ := hrr
  rw [hrr] at hrn ⊢
  clear hrr
  obtain ⟨W0, hW0⟩ : ∃ W0, (w.alloc (.cells #[.slice a n ca, .slice a' m ca', .int .i64 lv] 29)).alloc Z64 = W0 := ⟨_, rfl⟩
  have q0 : Below w.heap.size w W0 := by subst hW0; exact ba2 _ _ _
  obtain ⟨B1, B2⟩ : W0.heap[w.heap.size]? = some (.cells #[.slice a n ca, .slice a' m ca', .int .i64 lv] 29 (0, 0)) ∧ W0.heap[w.heap.size + 1]? = some (.cells #[.slice none 0 0, .slice none 0 0, .slice none 0 0, .int .i64 0] 47 (0, 0)) := by subst hW0; exact al2 _ _ _
  obtain ⟨i0, i1, i2⟩ := box3_one B1
  have HA : Hid _ := B1
  have HB : Hid _ := B2
  have z0 := box_lt B2
  have h1' : decide (lv < 1) = false := by simp; omega
  have h2' : decide (3 < lv) = false := by simp; omega
  have SB : Hid (∀ W, Below W0.heap.size W0 W → W.cell? ⟨w.heap.size, 0, none⟩ = some (.slice a n ca) ∧ W.cell? ⟨w.heap.size, 1, none⟩ = some (.slice a' m ca') ∧ W.cell? ⟨w.heap.size, 2, none⟩ = some (.int .i64 lv) ∧ Below W0.heap.size W0 W) := fun W z => ⟨(box3_one (box_on HA.out z)).1, (box3_one (box_on HA.out z)).2.1, (box3_one (box_on HA.out z)).2.2, z⟩
  have HcR : Hid (∀ W, Below w.heap.size w W → Calls Try.prog 36 #[.slice a' m ca'] W fun e w' => Below W.heap.size W w' ∧ e = .returned (.slice (some ⟨W.heap.size, 0, none⟩) m m) ∧ Row w' W.heap.size c.rs) := fun W h => cR W (HRt.out W h)
  clear B1 B2 cR
  go_enter Try.func21, Try.ntmps21
  go_upto_region 3 with (go_at_call 35; refine (cF _).mono ?_; rintro e w1 ⟨rfl, hw⟩; have hw' := hw.symm; subst hw'; clear hw)
  clear hW0 i0 i1 i2 h1' h2' cF
  go_cut [6] (fun sx wx => ∃ F gr, sx = .pointer (some ⟨F, 0, none⟩) ∧ wx.heap[F]? = some (.cells #[.slice none 0 0, .slice none 0 0, .slice (some ⟨gr, 0, none⟩) m m, .int .i64 lv] 47 (0, 0)) ∧ Row wx gr c.rs ∧ W0.heap.size ≤ F ∧ W0.heap.size ≤ gr ∧ Below W0.heap.size W0 wx)
  case first =>
    go_region_held3 (fun W => W.cell? ⟨w.heap.size, 0, none⟩ = some (.slice a n ca) ∧ W.cell? ⟨w.heap.size, 1, none⟩ = some (.slice a' m ca') ∧ W.cell? ⟨w.heap.size, 2, none⟩ = some (.int .i64 lv) ∧ Below W0.heap.size W0 W)
      ((refine SB.out _ ?_; first | assumption | exact Below.drew (Below.refl _ _) | exact Below.drew (below_alloc _ _) | exact below_alloc _ _ | exact Below.comp bA (below_alloc _ _) | exact (((bA.setCell (Nat.le_refl _) _).setCell (Nat.le_refl _) _).setCell (Nat.le_refl _) _).setCell (Nat.le_refl _) _))
      (first
      | (go_at_call 36; obtain ⟨-, -, -, hw0⟩ := ‹_ ∧ _ ∧ _ ∧ Below W0.heap.size W0 _›; refine (HcR.out _ (Below.comp q0 hw0)).mono ?_; rintro e w3 ⟨b3, rfl, hI3⟩; (first | (have hF3 : w3.heap[W0.heap.size]? = some (.cells #[.slice none 0 0, .slice none 0 0, .slice none 0 0, .int .i64 0] 47 (0, 0)) := box_on (w := (W0.alloc Z64).drew) (al1 W0 _) b3; obtain ⟨⟨f0, f1, f2, f3⟩, f4, f5, f6, f7⟩ := box4_cells hF3) | skip); have bA := Below.comp hw0 b3))
    all_goals go_wp2_with fail
    all_goals go_meet
    all_goals
      have y3 := hI3.lt
      have y6 := b3.size
      simp at y3 y6
    · exact ⟨w3.heap.size, W0.heap.size, rfl, al1 w3 _, hI3.below (below_alloc _ _), bA.size, Nat.le_refl _, Below.comp bA (below_alloc _ _)⟩
    · exact ⟨W0.heap.size, W0.heap.size + 1, rfl, box4_set hF3, by have := hI3; simp at this; exact this.out (box4_out _ _ _ _ _ _) (by omega), Nat.le_refl _, by omega, bA.trans (((box4_out _ _ _ _ _ _).below (by omega)).mono (by omega))⟩
  case rest =>
    obtain ⟨F, gr, rfl, hF, hRw, hF1, hgr1, b1⟩ := hcut
    generalize wc = w1 at *
    have HF : Hid (w1.heap[F]? = some (.cells #[.slice none 0 0, .slice none 0 0, .slice (some ⟨gr, 0, none⟩) m m, .int .i64 lv] 47 (0, 0))) := hF
    have HRw : Hid (Row w1 gr c.rs) := hRw
    have hFg : F ≠ gr := fun e => by unfold Row at hRw; rw [e, hRw] at hF; simp at hF
    have HFg : Hid (F ≠ gr) := hFg
    have zF := box_lt hF
    have zg := hRw.lt
    have g1 := Below.comp q0 b1
    have HA1 : Hid (w1.heap[w.heap.size]? = _) := box_on HA.out b1
    have HB1 : Hid (w1.heap[w.heap.size + 1]? = some (.cells #[.slice none 0 0, .slice none 0 0, .slice none 0 0, .int .i64 0] 47 (0, 0))) := box_on HB.out b1
    obtain ⟨x0, x1, x2⟩ := box3_one HA1.out
    clear hF hRw hFg SB HcR
    have HBW : Hid (∀ W, Out F (F + 1) w1 W → Below w.heap.size w W) := fun W ho => g1.trans ((ho.below (by omega)).mono (by have := q0.size; omega))
    go_wp2_with fail
    clear x0 x1 x2
    have hX : Hid (∀ j, j ≤ n → ((c.cs.take j).map cwV).length = j ∧ ((c.cs.take j).map (fun x => iv x.ct)).length = j) := fun j hj => by
      have := Hn.out
      constructor <;> (rw [List.length_map, List.length_take]; omega)
    obtain ⟨Z, hZ⟩ : ∃ Z, w1.heap.size = Z := ⟨_, rfl⟩
    have hst0 : St w1 Z (.slice none 0 0) (.slice none 0 0) [] [] := by rw [← hZ]; exact St.nil w1
    have HZ : Hid (w1.heap.size = Z) := hZ
    have hFZ : F < Z := by omega
    have hgZ : gr < Z := by omega
    have hwZ : w.heap.size + 1 < Z := by have := q0.size; have := b1.size; omega
    clear hZ
    go_loopw [40] (fun s40 wr => ∃ (j : Nat) (xa : Option Addr) (ka : Nat) (xb : Option Addr) (kb : Nat), j ≤ n ∧ s40 = .int .i64 j ∧ Hid (∀ i, i < j → okC (gc c.cs i) = true) ∧ Hid (St wr Z (.slice xa j ka) (.slice xb j kb) ((c.cs.take j).map cwV) ((c.cs.take j).map (fun x => iv x.ct))) ∧ Hid (wr.heap[F]? = some (.cells #[.slice xa j ka, .slice xb j kb, .slice (some ⟨gr, 0, none⟩) m m, .int .i64 lv] 47 (0, 0))) ∧ Out F (F + 1) w1 wr) (fun s40 _ => n - (intOf s40).toNat)
    case atStart => exact ⟨0, none, 0, none, 0, Nat.zero_le _, rfl, fun i hi => absurd hi (by omega), hst0, HF.out, Out.refl _ _ _⟩
    case round =>
      obtain ⟨j, xa, kka, xb, kkb, hj, rfl, HOk, HSt, HFj, ho⟩ := hrel
      have hbw := HBW.out _ ho
      have hzr := ho.size
      by_cases hlt : j < n
      · obtain ⟨bb, boff, rfl, hcell⟩ := HC.out wr hbw (by have := Hn.out; omega)
        have hj' : j < c.cs.length := by rw [Hn.out]; exact hlt
        obtain ⟨na, nc, y0, y1, y2, y3, -⟩ := hcell j hj'
        clear hcell
        obtain ⟨W2, hW2⟩ : ∃ W2, wr.alloc (.cells #[.int .i64 (gc c.cs j).ct, .string (gc c.cs j).lf, .slice na (gc c.cs j).kd.length nc] 42) = W2 := ⟨_, rfl⟩
        have q2 : Below wr.heap.size wr W2 := by subst hW2; exact below_alloc _ _
        have HE : Hid (W2.heap[wr.heap.size]? = some (.cells #[.int .i64 (gc c.cs j).ct, .string (gc c.cs j).lf, .slice na (gc c.cs j).kd.length nc] 42 (0, 0))) := by subst hW2; exact al1 _ _
        obtain ⟨v0, v1, v2⟩ := box3_one HE.out
        have HcI : Hid _ := fun W (hW : Below W2.heap.size W2 W) => cellIn_any (gc c.cs j) na nc W ((y3.below q2).below hW) (HFx.out j hlt).2 (HFx.out j hlt).1
        obtain ⟨r0, r1, r2, r3⟩ := (box4_cells HFj.out).1
        have hbW2 := HBW.out _ (ho.trans (Out.of_below q2))
        have HO2 : Hid (W2.heap[w.heap.size + 1]? = _) := box_on (box_out HB1.out ho (by omega)) q2
        clear y3
        go_wp2_with fail
        refine (HcI.out _ (Below.refl _ _)).mono ?_
        clear HcI
        rintro e w3 ⟨b3, u, rfl, hu⟩
        have hF3 : Hid (w3.heap[F]? = some (.cells #[.slice xa j kka, .slice xb j kkb, .slice (some ⟨gr, 0, none⟩) m m, .int .i64 lv] 47 (0, 0))) := box_on (box_on HFj.out q2) b3
        have hE3 : Hid (w3.heap[wr.heap.size]? = some (.cells #[.int .i64 (gc c.cs j).ct, .string (gc c.cs j).lf, .slice na (gc c.cs j).kd.length nc] 42 (0, 0))) := box_on HE.out b3
        have hO3 : Hid (w3.heap[w.heap.size + 1]? = some (.cells #[.slice none 0 0, .slice none 0 0, .slice none 0 0, .int .i64 0] 47 (0, 0))) := box_on HO2.out b3
        have hb3 : Below w.heap.size w w3 := Below.comp (Below.comp hbw q2) b3
        have ho3 : Out F (F + 1) w1 w3 := (ho.trans (Out.of_below q2)).trans (Out.of_below b3)
        have hwr3 : wr.heap.size < w3.heap.size := box_lt hE3.out
        clear v0 v1 v2 r0 r1 r2 r3 y0 y1 y2 hW2 HE HFj HO2
        obtain ⟨bk, hbk⟩ : ∃ bk, okC (gc c.cs j) = bk := ⟨_, rfl⟩
        rw [hbk] at hu ⊢
        cases bk with
        | false =>
          have e2 : oo = false := by
            rw [← HO.out]
            have : gI c = false := by
              unfold gI
              have : c.cs.all okC = false := by
                rw [Bool.eq_false_iff]
                intro e
                have := List.all_eq_true.1 e (gc c.cs j) (by rw [gc_eq hj']; exact List.getElem_mem _)
                rw [hbk] at this
                cases this
              rw [this]; simp
            rw [this]; rfl
          subst e2
          clear hbk hu
          obtain ⟨⟨j0, j1, j2, j3⟩, g0, g1', g2, g3⟩ := box4_cells hO3.out
          obtain ⟨W5, hW5⟩ : ∃ W5, (((w3.setCell ⟨w.heap.size + 1, 0, none⟩ (.slice none 0 0)).setCell ⟨w.heap.size + 1, 1, none⟩ (.slice none 0 0)).setCell ⟨w.heap.size + 1, 2, none⟩ (.slice none 0 0)).setCell ⟨w.heap.size + 1, 3, none⟩ (.int .i64 0) = W5 := ⟨_, rfl⟩
          have R : W5.heap[w.heap.size + 1]? = some (.cells #[.slice none 0 0, .slice none 0 0, .slice none 0 0, .int .i64 0] 47 (0, 0)) := by subst hW5; exact box4_set hO3.out
          have o5 : Below w.heap.size w W5 := by subst hW5; exact hb3.trans (((box4_out _ _ _ _ _ _).below (by have := box_lt hO3.out; omega)).mono (by omega))
          obtain ⟨t0, t1, t2, t3⟩ := (box4_cells R).1
          have HT : Hid _ := And.intro t0 (And.intro t1 (And.intro t2 t3))
          clear t0 t1 t2 t3 R
          go_wp2_with fail
          obtain ⟨t0, t1, t2, t3⟩ := HT.out
          exact bodyPost_ret (v := .tuple #[.agg #[.slice none 0 0, .slice none 0 0, .slice none 0 0, .int .i64 0], .bool false]) (by simp [results, Try.results21, go_sem, t0, t1, t2, t3]) rfl (HG.out _ _ o5 opF0 (fun _ => rfl) (fun h => by cases h))
        | true =>
          have hu' := hu rfl
          subst hu'
          clear hu
          obtain ⟨hu1, hu2⟩ := cwV_one (gc c.cs j)
          have HUf : Hid (cwV (gc c.cs j) = .nilIface ∨ ∃ T x, cwV (gc c.cs j) = .iface T x) := cwV_form _
          have HXj : Hid ((c.cs.take (j + 1)).map cwV = (c.cs.take j).map cwV ++ [cwV (gc c.cs j)] ∧ (c.cs.take (j + 1)).map (fun x => iv x.ct) = (c.cs.take j).map (fun x => iv x.ct) ++ [iv (gc c.cs j).ct]) := by
            show _ ∧ _
            rw [List.take_succ_eq_append_getElem hj', gc_eq hj', List.map_append, List.map_append]
            exact ⟨rfl, rfl⟩
          have HOk1 : Hid (∀ i, i < j + 1 → okC (gc c.cs i) = true) := fun i hi => by
            by_cases e : i = j
            · subst e; exact hbk
            · exact HOk.out i (by omega)
          obtain ⟨hXl, hYl⟩ := hX.out j (by omega)
          have HS3 : Hid (St w3 Z (.slice xa j kka) (.slice xb j kkb) ((c.cs.take j).map cwV) ((c.cs.take j).map (fun x => iv x.ct))) := (HSt.out.below q2).below b3
          have hEa : Hid (∀ k, (Value.slice xa j kka).ownBlock = some k → k ≠ wr.heap.size) := fun k hk => by have := owns_ltB HSt.out.a k hk; omega
          have hEb : Hid (∀ k, (Value.slice xb j kkb).ownBlock = some k → k ≠ wr.heap.size) := fun k hk => by have := owns_ltB HSt.out.b k hk; omega
          clear hbk HSt HOk
          generalize (c.cs.take j).map cwV = XS at *
          generalize (c.cs.take j).map (fun x => iv x.ct) = YS at *
          generalize cwV (gc c.cs j) = u at *
          generalize (gc c.cs j).ct = ct at *
          generalize (gc c.cs j).lf = lf at *
          generalize (gc c.cs j).kd.length = kl at *
          have HXl : Hid (XS.length = j) := hXl
          have HYl : Hid (YS.length = j) := hYl
          have HUf : Hid (u = .nilIface ∨ ∃ T x, u = .iface T x) := HUf
          have hGA : ∀ v4 w4, w4.ownsRow Z 62 1 v4 (j + 1) (XS ++ [u]) → (w3.alloc (.cells #[u] 62)).grownBy w4 (Value.slice xa j kka).ownBlock → (v4.ownBlock = (Value.slice xa j kka).ownBlock ∨ v4.ownBlock = some (w3.alloc (.cells #[u] 62)).heap.size) →
              ∃ ya cya W5, v4 = .slice ya (j + 1) cya ∧ w4.setCell ⟨F, 0, none⟩ (.slice ya (j + 1) cya) = W5 ∧ w4.cell? ⟨F, 0, none⟩ = some (.slice xa j kka) ∧ w4.frozen? ⟨F, 0, none⟩ = false ∧ W5.heap[F]? = some (.cells #[.slice ya (j + 1) cya, .slice xb j kkb, .slice (some ⟨gr, 0, none⟩) m m, .int .i64 lv] 47 (0, 0)) ∧ W5.heap[wr.heap.size]? = some (.cells #[.int .i64 ct, .string lf, .slice na kl nc] 42 (0, 0)) ∧ St W5 Z (.slice ya (j + 1) cya) (.slice xb j kkb) (XS ++ [u]) YS ∧ Out F (F + 1) w1 W5 := fun v4 w4 o4 r4 a4 => by
            obtain ⟨P1, P2, P3⟩ := HS3.out.growA hwr3 hEa.out (by rw [HXl.out]; exact o4) r4 a4
            obtain ⟨ya, cya, e4⟩ := owns_form o4
            subst e4
            have hF4 : w4.heap[F]? = some (.cells #[.slice xa j kka, .slice xb j kkb, .slice (some ⟨gr, 0, none⟩) m m, .int .i64 lv] 47 (0, 0)) := (P2.block F hFZ).trans hF3.out
            obtain ⟨⟨d0, -, -, -⟩, d1, -, -, -⟩ := box4_cells hF4
            exact ⟨ya, cya, _, rfl, rfl, d0, d1, block_set hF4, box_out (P3.trans hE3.out) (out_setCell _ _ _ _) (by omega), P1.set hFZ, (ho3.low P2 (Nat.le_of_eq HZ.out)).setCell (Nat.le_refl _) (Nat.lt_succ_self _) _ _⟩
          have HGA : Hid _ := hGA
          have hGB : ∀ (W5 : World) ya cya, W5.heap[F]? = some (.cells #[.slice ya (j + 1) cya, .slice xb j kkb, .slice (some ⟨gr, 0, none⟩) m m, .int .i64 lv] 47 (0, 0)) → wr.heap.size < W5.heap.size → St W5 Z (.slice ya (j + 1) cya) (.slice xb j kkb) (XS ++ [u]) YS → Out F (F + 1) w1 W5 →
              ((W5.alloc (.cells #[.int .i64 ct] 3)).ownsRow Z 3 1 (.slice xb j kkb) j YS ∧ Z ≤ (W5.alloc (.cells #[.int .i64 ct] 3)).heap.size) ∧ ∀ v6 w6, w6.ownsRow Z 3 1 v6 (j + 1) (YS ++ [.int .i64 ct]) → (W5.alloc (.cells #[.int .i64 ct] 3)).grownBy w6 (Value.slice xb j kkb).ownBlock → (v6.ownBlock = (Value.slice xb j kkb).ownBlock ∨ v6.ownBlock = some (W5.alloc (.cells #[.int .i64 ct] 3)).heap.size) →
              ∃ yb cyb, v6 = .slice yb (j + 1) cyb ∧ w6.cell? ⟨F, 1, none⟩ = some (.slice xb j kkb) ∧ w6.frozen? ⟨F, 1, none⟩ = false ∧ (w6.setCell ⟨F, 1, none⟩ (.slice yb (j + 1) cyb)).heap[F]? = some (.cells #[.slice ya (j + 1) cya, .slice yb (j + 1) cyb, .slice (some ⟨gr, 0, none⟩) m m, .int .i64 lv] 47 (0, 0)) ∧ St (w6.setCell ⟨F, 1, none⟩ (.slice yb (j + 1) cyb)) Z (.slice ya (j + 1) cya) (.slice yb (j + 1) cyb) (XS ++ [u]) (YS ++ [.int .i64 ct]) ∧ Out F (F + 1) w1 (w6.setCell ⟨F, 1, none⟩ (.slice yb (j + 1) cyb)) := fun W5 ya cya hF5 h5s hS5 ho5 => by
            have h9 := (hS5.below (below_alloc W5 (.cells #[.int .i64 ct] 3)))
            have h8 := h9.b
            rw [HYl.out] at h8
            refine ⟨⟨h8, h9.z⟩, fun v6 w6 o6 r6 a6 => ?_⟩
            obtain ⟨P1, P2, P3⟩ := hS5.growB h5s hEb.out (by rw [HYl.out]; exact o6) r6 a6
            obtain ⟨yb, cyb, e6⟩ := owns_form o6
            subst e6
            have hF6 : w6.heap[F]? = _ := (P2.block F hFZ).trans hF5
            obtain ⟨⟨-, d0, -, -⟩, -, d1, -, -⟩ := box4_cells hF6
            exact ⟨yb, cyb, rfl, d0, d1, block_set hF6, P1.set hFZ, (ho5.low P2 (Nat.le_of_eq HZ.out)).setCell (Nat.le_refl _) (Nat.lt_succ_self _) _ _⟩
          have HGB : Hid _ := hGB
          have HSX : Hid ((w3.alloc (.cells #[u] 62)).ownsRow Z 62 1 (.slice xa j kka) j XS ∧ Z ≤ (w3.alloc (.cells #[u] 62)).heap.size) := by
            have h9 := (HS3.out.below (below_alloc w3 (.cells #[u] 62)))
            have h8 := h9.a
            rw [HXl.out] at h8
            exact ⟨h8, h9.z⟩
          have Hu1 : Hid (∀ x ∈ [u], x.oneCell' = true) := fun x hx => by simp at hx; rw [hx]; exact hu1
          clear hGA hGB
          obtain ⟨⟨s0, s1, s2, s3⟩, p0, p1, -, -⟩ := box4_cells hF3.out
          have hform : u = .nilIface ∨ ∃ T x, u = .iface T x := HUf.out
          clear hXl hYl hu1 hu2
          rcases hform with rfl | ⟨T, x, rfl⟩
          all_goals
            go_wp2_with (first
              | (at_builtin; refine wpList_append_at rfl _ _ 45 rfl Z 62 _ 1 16 Try.underlying45 infoK rfl (by decide) (.slice xa j kka) j XS rfl HSX.out.1 ⟨w3.heap.size, 0, none⟩ 1 1 [_] rfl rfl (new_one w3 _ _) Hu1.out (by omega) (by decide) HSX.out.2 ?_; intro v4 w4 o4 r4 a4; obtain ⟨ya, cya, W5, rfl, hW5, d0, d1, hF5, hE5, hS5, ho5⟩ := HGA.out v4 w4 o4 r4 a4; obtain ⟨⟨k0, k1, k2, k3⟩, l0, l1, -, -⟩ := box4_cells hF5; obtain ⟨n0, n1, n2⟩ := box3_one hE5; have HPP := HGB.out W5 ya cya hF5 (box_lt hE5) hS5 ho5; have HP5 : Hid _ := HPP; clear o4 r4 a4 hF5 hE5 hS5 ho5 HPP)
              | (at_builtin; refine wpList_append_at rfl _ _ 23 rfl Z 3 _ 1 8 Try.underlying23 info3 rfl (by decide) (.slice xb j kkb) j YS rfl HP5.out.1.1 ⟨W5.heap.size, 0, none⟩ 1 1 [.int .i64 ct] rfl rfl (new_one W5 _ _) (cis_one [ct]) (by omega) (by decide) HP5.out.1.2 ?_; intro v6 w6 o6 r6 a6; obtain ⟨yb, cyb, rfl, c0, c1, hF6, hS6, ho6⟩ := HP5.out.2 v6 w6 o6 r6 a6; have HF6 : Hid _ := hF6; have HS6 : Hid _ := hS6; have HO6 : Hid _ := ho6; clear o6 r6 a6 hF6 hS6 ho6))
            go_roundw
            case rel => exact ⟨j + 1, ya, cya, yb, cyb, by omega, by go_num, HOk1.out, by rw [HXj.out.1, HXj.out.2]; exact HS6.out, HF6.out, HO6.out⟩
            case measure => simp [intOf]; omega
      · have hjn : j = n := by omega
        subst hjn
        have hRw : Row wr gr c.rs := HRw.out.out ho (by have : F ≠ gr := HFg.out; omega)
        have hO : wr.heap[w.heap.size + 1]? = some (.cells #[.slice none 0 0, .slice none 0 0, .slice none 0 0, .int .i64 0] 47 (0, 0)) := box_out HB1.out ho (by omega)
        have hokA : ∀ i, i < c.cs.length → okC (gc c.cs i) = true := fun i hi => HOk.out i (by rw [← Hn.out]; exact hi)
        have htk : c.cs.take j = c.cs := List.take_of_length_le (by rw [Hn.out]; exact Nat.le_refl _)
        rw [htk] at HSt
        have hcL : c.cs.map (fun x => iv x.ct) = (c.cs.map (·.ct)).map iv := by rw [List.map_map]; rfl
        have hAtA : ∀ W, W.ownsRow Z 62 1 (.slice xa j kka) (c.cs.map cwV).length (c.cs.map cwV) → j ≤ kka ∧ Cws W xa c.cs := fun W hW => by
          obtain ⟨p, q, e1, e2, e3⟩ := owns_at hW (fun i => cwV (gc c.cs i)) (fun i hi => by rw [List.length_map] at hi; rw [gc_eq hi]; simp [hi])
          rw [List.length_map] at e1 e2 e3
          rw [Hn.out] at e1 e2
          simp only [Value.slice.injEq, true_and] at e1
          obtain ⟨rfl, rfl⟩ := e1
          exact ⟨e2, e3⟩
        have hAtB : ∀ W, W.ownsRow Z 3 1 (.slice xb j kkb) (c.cs.map (fun x => iv x.ct)).length (c.cs.map (fun x => iv x.ct)) → j ≤ kkb ∧ Ints W xb (c.cs.map (·.ct)) := fun W hW => by
          rw [hcL] at hW
          obtain ⟨p, q, e1, e2, e3⟩ := owns_at hW (fun i => iv (gi (c.cs.map (·.ct)) i)) (fun i hi => by rw [List.length_map] at hi; exact cis_at hi)
          rw [List.length_map, List.length_map] at e1 e2
          rw [List.length_map] at e3
          rw [Hn.out] at e1 e2
          simp only [Value.slice.injEq, true_and] at e1
          obtain ⟨rfl, rfl⟩ := e1
          exact ⟨e2, e3⟩
        have hkA := (hAtA wr HSt.out.a).1
        have hkB := (hAtB wr HSt.out.b).1
        have hOp : OpAt wr (ov xa c.cs.length kka xb (c.cs.map (·.ct)).length kkb (some ⟨gr, 0, none⟩) c.rs.length c.rs.length c.lv) c.cs (c.cs.map (·.ct)) c.rs c.lv :=
          ⟨xa, kka, xb, kkb, _, _, rfl, by rw [Hn.out]; exact hkA, by rw [List.length_map, Hn.out]; exact hkB, Nat.le_refl _, (hAtA wr HSt.out.a).2, (hAtB wr HSt.out.b).2, fun _ => ⟨gr, 0, rfl, fun i hi => by rw [Nat.zero_add]; exact (hRw.cell hi).1⟩⟩
        have cG := HcG.out c.cs hokA rfl _ wr hOp
        unfold ov at cG
        have hgI : gI c = (c.rs.all (isO c.cs c.lv.toNat) && decide (c.rs.foldl (Hd.mt c.cs c.lv.toNat) (zer c.cs.length) = c.cs.map (fun x => x.ct))) := by
          have hall : c.cs.all okC = true := List.all_eq_true.2 fun x hx => by
            obtain ⟨i, hi, rfl⟩ := List.getElem_of_mem hx
            rw [← gc_eq hi]
            exact hokA i hi
          unfold gI
          rw [Hfew.out, hall]
          rfl
        rw [← hgI, List.length_map, Hn.out, Hm.out, Hlv.out] at cG
        clear hgI hOp hokA htk
        have HcN := fun W h2 => containsNo_any F (some ⟨gr, 0, none⟩) m m rq b cap W h2 (by omega)
        rw [Hr.out] at HcN
        have HSF : Hid (St wr Z (.slice xa j kka) (.slice xb j kkb) (c.cs.map cwV) (c.cs.map (fun x => iv x.ct))) := HSt.out
        have HAA : Hid _ := hAtA
        have HAB : Hid _ := hAtB
        clear hAtA hAtB hcL HSt
        have hFw := HFj.out
        have hlow : ∀ W8, Below wr.heap.size wr W8 → w.heap.size + 1 < W8.heap.size := fun W8 h => by have := h.size; have := box_lt hO; omega
        obtain ⟨bg, hbg⟩ : ∃ bg, gI c = bg := ⟨_, rfl⟩
        have HOg : Hid (oo = (bg && rq.all (inB m))) := by show _ = _; rw [← HO.out, hbg, Hm.out]
        rw [hbg] at cG
        clear hbg
        obtain ⟨⟨s0, s1, s2, s3⟩, -, -, -, -⟩ := box4_cells hFw
        have HFF : Hid (wr.heap[F]? = some (.cells #[.slice xa j kka, .slice xb j kkb, .slice (some ⟨gr, 0, none⟩) m m, .int .i64 lv] 47 (0, 0))) := hFw
        have HOO : Hid (wr.heap[w.heap.size + 1]? = some (.cells #[.slice none 0 0, .slice none 0 0, .slice none 0 0, .int .i64 0] 47 (0, 0))) := hO
        have HRr : Hid (Row wr gr c.rs) := hRw
        clear hFw hO hRw HFj
        cases bg with
        | false =>
          obtain rfl : oo = false := HOg.out
          go_wp2_with fail
          refine cG.mono ?_
          rintro e w8 ⟨rfl, b8⟩
          have hO8 := box_on HOO.out b8
          obtain ⟨⟨j0, j1, j2, j3⟩, g0, g1', g2, g3⟩ := box4_cells hO8
          obtain ⟨W9, hW9⟩ : ∃ W9, (((w8.setCell ⟨w.heap.size + 1, 0, none⟩ (.slice none 0 0)).setCell ⟨w.heap.size + 1, 1, none⟩ (.slice none 0 0)).setCell ⟨w.heap.size + 1, 2, none⟩ (.slice none 0 0)).setCell ⟨w.heap.size + 1, 3, none⟩ (.int .i64 0) = W9 := ⟨_, rfl⟩
          have R : W9.heap[w.heap.size + 1]? = some (.cells #[.slice none 0 0, .slice none 0 0, .slice none 0 0, .int .i64 0] 47 (0, 0)) := by subst hW9; exact box4_set hO8
          have o9 : Below w.heap.size w W9 := by subst hW9; exact (Below.comp hbw b8).trans (((box4_out _ _ _ _ _ _).below (by have := hlow w8 b8; omega)).mono (by omega))
          obtain ⟨t0, t1, t2, t3⟩ := (box4_cells R).1
          have HT : Hid _ := And.intro t0 (And.intro t1 (And.intro t2 t3))
          clear t0 t1 t2 t3 R hO8
          go_wp2_with fail
          obtain ⟨t0, t1, t2, t3⟩ := HT.out
          exact bodyPost_ret (v := .tuple #[.agg #[.slice none 0 0, .slice none 0 0, .slice none 0 0, .int .i64 0], .bool false]) (by simp [results, Try.results21, go_sem, t0, t1, t2, t3]) rfl (HG.out _ _ o9 opF0 (fun _ => rfl) (fun h => by cases h))
        | true =>
          go_wp2_with fail
          refine cG.mono ?_
          rintro e w8 ⟨rfl, b8⟩
          have hF8 := box_on HFF.out b8
          have HF8 : Hid (w8.heap[F]? = some (.cells #[.slice xa j kka, .slice xb j kkb, .slice (some ⟨gr, 0, none⟩) m m, .int .i64 lv] 47 (0, 0))) := hF8
          have HO8 : Hid (w8.heap[w.heap.size + 1]? = some (.cells #[.slice none 0 0, .slice none 0 0, .slice none 0 0, .int .i64 0] 47 (0, 0))) := box_on HOO.out b8
          clear s0 s1 s2 s3
          obtain ⟨⟨s0, s1, s2, s3⟩, -, -, -, -⟩ := box4_cells hF8
          have hb8 := Below.comp hbw b8
          have cN := HcN w8 s2 (HRq.out _ hb8) (by omega)
          obtain ⟨⟨j0, j1, j2, j3⟩, g0, g1', g2, g3⟩ := box4_cells HO8.out
          clear hF8
          obtain ⟨bA, hbA⟩ : ∃ bA, rq.all (inB m) = bA := ⟨_, rfl⟩
          rw [hbA] at cN HOg
          clear hbA
          cases bA with
          | false =>
            obtain rfl : oo = false := HOg.out
            obtain ⟨W9, hW9⟩ : ∃ W9, (((w8.setCell ⟨w.heap.size + 1, 0, none⟩ (.slice none 0 0)).setCell ⟨w.heap.size + 1, 1, none⟩ (.slice none 0 0)).setCell ⟨w.heap.size + 1, 2, none⟩ (.slice none 0 0)).setCell ⟨w.heap.size + 1, 3, none⟩ (.int .i64 0) = W9 := ⟨_, rfl⟩
            have R : W9.heap[w.heap.size + 1]? = some (.cells #[.slice none 0 0, .slice none 0 0, .slice none 0 0, .int .i64 0] 47 (0, 0)) := by subst hW9; exact box4_set HO8.out
            have o9 : Below w.heap.size w W9 := by subst hW9; exact hb8.trans (((box4_out _ _ _ _ _ _).below (by have := hlow w8 b8; omega)).mono (by omega))
            obtain ⟨t0, t1, t2, t3⟩ := (box4_cells R).1
            have HT : Hid _ := And.intro t0 (And.intro t1 (And.intro t2 t3))
            clear t0 t1 t2 t3 R
            go_wp2_with fail
            refine cN.mono ?_
            rintro e w10 ⟨rfl, hw⟩
            have hw' := hw.symm
            subst hw'
            clear hw
            go_wp2_with fail
            obtain ⟨t0, t1, t2, t3⟩ := HT.out
            exact bodyPost_ret (v := .tuple #[.agg #[.slice none 0 0, .slice none 0 0, .slice none 0 0, .int .i64 0], .bool false]) (by simp [results, Try.results21, go_sem, t0, t1, t2, t3]) rfl (HG.out _ _ o9 opF0 (fun _ => rfl) (fun h => by cases h))
          | true =>
            obtain rfl : oo = true := HOg.out
            obtain ⟨W9, hW9⟩ : ∃ W9, (((w8.setCell ⟨w.heap.size + 1, 0, none⟩ (.slice xa j kka)).setCell ⟨w.heap.size + 1, 1, none⟩ (.slice xb j kkb)).setCell ⟨w.heap.size + 1, 2, none⟩ (.slice (some ⟨gr, 0, none⟩) m m)).setCell ⟨w.heap.size + 1, 3, none⟩ (.int .i64 lv) = W9 := ⟨_, rfl⟩
            have R : W9.heap[w.heap.size + 1]? = some (.cells #[.slice xa j kka, .slice xb j kkb, .slice (some ⟨gr, 0, none⟩) m m, .int .i64 lv] 47 (0, 0)) := by subst hW9; exact box4_set HO8.out
            have o89 : Out (w.heap.size + 1) (w.heap.size + 2) w8 W9 := by subst hW9; exact box4_out _ _ _ _ _ _
            have o9 : Below w.heap.size w W9 := hb8.trans ((o89.below (by have := hlow w8 b8; omega)).mono (by omega))
            obtain ⟨t0, t1, t2, t3⟩ := (box4_cells R).1
            have HT : Hid _ := And.intro t0 (And.intro t1 (And.intro t2 t3))
            clear t0 t1 t2 t3 R
            go_wp2_with fail
            refine cN.mono ?_
            rintro e w10 ⟨rfl, hw⟩
            have hw' := hw.symm
            subst hw'
            clear hw
            go_wp2_with fail
            obtain ⟨t0, t1, t2, t3⟩ := HT.out
            refine bodyPost_ret (v := .tuple #[ov xa j kka xb j kkb (some ⟨gr, 0, none⟩) m m lv, .bool true]) (by simp [results, Try.results21, go_sem, t0, t1, t2, t3]) rfl (HG.out _ _ o9 ⟨_, _, _, _, _, _, _, _, _, _, rfl⟩ (fun h => by cases h) (fun _ => ?_))
            have hgw : w.heap.size + 1 < gr := by have := q0.size; omega
            refine ⟨xa, kka, xb, kkb, gr, by rw [Hn.out, Hm.out, Hlv.out], by rw [Hn.out]; exact hkA, by rw [Hn.out]; exact hkB, by omega, Row.out (HRr.out.below b8) o89 (by omega), fun W hW => ?_⟩
            have hA := owns_out (owns_out (owns_below HSF.out.a b8) o89 (by omega)) hW (by omega)
            have hB := owns_out (owns_out (owns_below HSF.out.b b8) o89 (by omega)) hW (by omega)
            exact ⟨(HAA.out W hA).2, (HAB.out W hB).2⟩
end Go.Proofs.Ytienhdlhlddemaa
