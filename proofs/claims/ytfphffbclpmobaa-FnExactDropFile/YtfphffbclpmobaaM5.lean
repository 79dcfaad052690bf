import Derived.Test.YtfphffbclpmobaaP3
/- A vault opened. -/
namespace Go.Proofs.Ytfphffbclpmobaa
open Go.ChangeShapes Go.WideShapes Go.ChangeAt Go.RowKit Go.Maps
set_option linter.unusedVariables false
open Hd

attribute [local go_sem] Oper.semAt_some

/-- The files as texts. -/
def fsT (u : Va) : List (List ByteArray) := u.fs.map (txs u.pc)
theorem fsT_len (u : Va) : (fsT u).length = u.fs.length := by simp [fsT]
theorem fsT_take (u : Va) {j : Nat} (h : j < u.fs.length) : (fsT u).take (j + 1) = (fsT u).take j ++ [txs u.pc (gf u.fs j)] := by
  unfold fsT
  rw [← List.map_take, ← List.map_take, List.take_succ_eq_append_getElem h, List.map_append, gf_eq h]
  rfl
theorem Qs.mono {g : SG} {Q Q' : Nat} (h : Qs g Q) (hq : Q ≤ Q') : Qs g Q' := fun x p q hx => by have := h x p q hx; omega
theorem adF_Qs (L : List Nm) (F : List (List Int)) : ∀ j, j ≤ F.length → (∀ i, i < j → fOk L.length (gf F i)) → Qs (adF (g1 L L.length) L F j).1 (200 * j) := by
  intro j
  induction j with
  | zero => intro _ _; exact Qs.g1 L L.length
  | succ j ih =>
    intro hj hf
    have h1 := ih (by omega) (fun i hi => hf i (by omega))
    have h2 := Qs.adL h1 (txs L (gf F j))
    rw [txs_len] at h2
    exact h2.mono (by have := (hf j (by omega)).2; omega)
theorem TRow.weak {w : World} {lo e1 e2 lo' e1' e2' : Nat} {oy : Option Nat} {v : Value} {l : List ByteArray} (h : TRow w lo e1 e2 oy v l) (hl : lo' ≤ lo) (h1 : e1' = e1 ∨ e1' = e2) (h2 : e2' = e1 ∨ e2' = e2) : TRow w lo' e1' e2' oy v l := by
  obtain ⟨a, c, e, hc, hr⟩ := h
  refine ⟨a, c, e, hc, fun hn => ?_⟩
  obtain ⟨b, off, g1, g2, g3, g4, g5, g6⟩ := hr hn
  have k1 : b ≠ e1' := by rcases h1 with rfl | rfl <;> assumption
  have k2 : b ≠ e2' := by rcases h2 with rfl | rfl <;> assumption
  exact ⟨b, off, g1, Nat.le_trans hl g2, k1, k2, g5, g6⟩
theorem FRow.weak {w : World} {lo e1 e2 lo' e1' e2' : Nat} {y : Value} {F : List (List ByteArray)} (h : FRow w lo e1 e2 y F) (hl : lo' ≤ lo) (h1 : e1' = e1 ∨ e1' = e2) (h2 : e2' = e1 ∨ e2' = e2) : FRow w lo' e1' e2' y F := by
  obtain ⟨vs, o, hne, hr⟩ := h
  exact ⟨vs, owns_mono o hl, fun k hk => ⟨by rcases h1 with rfl | rfl; exact (hne k hk).1; exact (hne k hk).2, by rcases h2 with rfl | rfl; exact (hne k hk).1; exact (hne k hk).2⟩, fun i hi => by obtain ⟨v, g1, g2⟩ := hr i hi; exact ⟨v, g1, g2.weak hl h1 h2⟩⟩
theorem FRow.same {w w' : World} {lo e1 e2 : Nat} {y : Value} {F : List (List ByteArray)} (h : FRow w lo e1 e2 y F) (hs : w.grownBy w' (some e1)) : FRow w' lo e1 e2 y F := by
  obtain ⟨vs, o, hne, hr⟩ := h
  refine ⟨vs, o.kept hs ?_, hne, fun i hi => ?_⟩
  · cases hv : y.ownBlock with
    | none => exact .inl rfl
    | some z => exact .inr (by have := (hne z hv).1; simp; exact this)
  · obtain ⟨v, g1, g2⟩ := hr i hi
    exact ⟨v, g1, g2.same (fun b hb q1 q2 q3 => hs.block b hb (by simp; exact q1))⟩
theorem FRow.below {w w' : World} {lo e1 e2 : Nat} {y : Value} {F : List (List ByteArray)} (h : FRow w lo e1 e2 y F) (hb : Below w.heap.size w w') : FRow w' lo e1 e2 y F :=
  h.same ⟨hb.os, hb.tape, hb.output, hb.size, fun k hk _ => hb.block k hk⟩
theorem FRow.store {w w' : World} {lo e1 e2 z : Nat} {y : Value} {F : List (List ByteArray)} (h : FRow w lo e1 e2 y F) (hs : w.grownBy w' (some z)) (hz : z < lo) : FRow w' lo e1 e2 y F := by
  obtain ⟨vs, o, hne, hr⟩ := h
  refine ⟨vs, o.kept hs ?_, hne, fun i hi => ?_⟩
  · cases hv : y.ownBlock with
    | none => exact .inl rfl
    | some q => exact .inr (by have := owns_ge o q hv; simp; omega)
  · obtain ⟨v, g1, a, c, e, hc, hrr⟩ := hr i hi
    exact ⟨v, g1, a, c, e, hc, fun hn => by
      obtain ⟨b, off, k1, k2, k3, k4, k5, k6⟩ := hrr hn
      exact ⟨b, off, k1, k2, k3, k4, k5, fun i hi => cell_same (k6 i hi) (hs.block b (lt_of_cell (k6 i hi)) (by simp; omega))⟩⟩
theorem grown_set (w : World) (b o : Nat) (v : Value) : w.grownBy (w.setCell ⟨b, o, none⟩ v) (some b) :=
  ⟨rfl, rfl, rfl, (out_setCell w b o v).size, fun j hj hjr => (out_setCell w b o v).block j hj (by by_cases e : j = b; subst e; exact absurd rfl hjr; omega)⟩
theorem FRow.form {w : World} {lo e1 e2 : Nat} {y : Value} {F : List (List ByteArray)} (h : FRow w lo e1 e2 y F) : ∃ x c, y = .slice x F.length c := by
  obtain ⟨vs, o, -⟩ := h
  exact owns_form o
theorem FRow.nil (w : World) (lo e1 e2 : Nat) : FRow w lo e1 e2 (.slice none 0 0) [] :=
  ⟨[], ⟨rfl, .inl ⟨rfl, rfl⟩⟩, fun k hk => by simp [Value.ownBlock] at hk, fun i hi => absurd hi (by simp)⟩
theorem FRow.lt {w : World} {lo e1 e2 : Nat} {y : Value} {F : List (List ByteArray)} (h : FRow w lo e1 e2 y F) : ∀ k, y.ownBlock = some k → k < w.heap.size := by
  obtain ⟨vs, o, -⟩ := h
  intro k hk
  rcases o.2 with ⟨rfl, _⟩ | ⟨g, cap, cur, rfl, _, hg, _⟩
  · simp [Value.ownBlock] at hk
  · simp [Value.ownBlock] at hk
    subst hk
    exact box_lt hg
theorem areFew_any (n m : Nat) (w : World) (hn : n ≤ 10000000) (hm : m ≤ 10000000) : Calls Try.prog 33 #[.int .i64 (n : Int), .int .i64 (m : Int)] w fun e w' => e = .returned (.bool (decide (n ≤ 100) && decide (m ≤ 20))) ∧ w' = w := by
  by_cases h1 : n ≤ 100
  · have k1 : decide ((n : Int) ≤ 100) = true := by simp; omega
    by_cases h2 : m ≤ 20
    · have k2 : decide ((m : Int) ≤ 20) = true := by simp; omega
      rw [decide_eq_true h1, decide_eq_true h2]
      go_enter Try.func33, Try.ntmps33
      go_wp2
      go_ret
      exact ⟨rfl, rfl⟩
    · have k2 : decide ((m : Int) ≤ 20) = false := by simp; omega
      rw [decide_eq_true h1, decide_eq_false h2]
      go_enter Try.func33, Try.ntmps33
      go_wp2
      go_ret
      exact ⟨rfl, rfl⟩
  · have k1 : decide ((n : Int) ≤ 100) = false := by simp; omega
    rw [decide_eq_false h1]
    go_enter Try.func33, Try.ntmps33
    go_wp2
    go_ret
    exact ⟨rfl, rfl⟩
theorem box_bel {w w' : World} {M b : Nat} {o : Obj} (h : w.heap[b]? = some o) (hb : Below M w w') (hlt : b < M) : w'.heap[b]? = some o := (hb.block b hlt).trans h
/-- What openedVault tells. -/
def OpR (u : Va) (w : World) (e : Ending) (w' : World) : Prop :=
  (GV u ∧ ∃ M y n, e = .returned (.tuple #[.agg #[.map (some M), y], .bool true]) ∧ w.heap.size ≤ M ∧ GM w' M n (oG u).1 (oG u).2 ∧ n ≤ 10000 ∧ u.pc.length ≤ n ∧ FRow w' w.heap.size M M y (fsT u)) ∨ (¬ GV u ∧ e = .returned (.tuple #[.agg #[.map none, .slice none 0 0], .bool false]))
set_option maxRecDepth 20000 in
set_option maxHeartbeats 8000000 in
theorem opened_any (v : Value) (u : Va) (w : World) (hc : VAt w v u) (hf : FewV u) (hs : Sml u) :
    Calls Try.prog 18 #[v] w fun e w' => OpR u w e w' ∧ Below w.heap.size w w' := by
  obtain ⟨a, ca, a', ca', rfl, -, -, hP, hF⟩ := hc
  have HN : Hid (∀ W, Below w.heap.size w W → Nms W a u.pc) := fun W h => hP.below h
  have HFi : Hid (∀ W, Below w.heap.size w W → Fis W a' u.fs) := fun W h => hF.below h
  have HFw : Hid (FewV u) := hf
  have HSm : Hid (Sml u) := hs
  obtain ⟨hs1, hs2, hs3⟩ := hs
  clear hP hF hf
  have cA := fun W => areFew_any u.pc.length u.fs.length W (by omega) (by omega)
  obtain ⟨n, hn⟩ : ∃ n, u.pc.length = n := ⟨_, rfl⟩
  obtain ⟨m, hm⟩ : ∃ m, u.fs.length = m := ⟨_, rfl⟩
  have Hn : Hid (u.pc.length = n) := hn
  have Hm : Hid (u.fs.length = m) := hm
  unfold vv
  rw [hn, hm] at cA
  rw [hn] at hs1
  rw [hm] at hs2
  rw [hn, hm]
  clear hn hm hs3
  obtain ⟨s, hs'⟩ : ∃ s, w.heap.size = s := ⟨_, rfl⟩
  have Hs : Hid (w.heap.size = s) := hs'
  obtain ⟨W0, hW0⟩ : ∃ W0, (w.alloc (.cells #[.slice a n ca, .slice a' m ca'] 30)).alloc (.cells #[.map none, .slice none 0 0] 52) = W0 := ⟨_, rfl⟩
  have q0 : Below w.heap.size w W0 := by subst hW0; exact ba2 _ _ _
  obtain ⟨B1, B2⟩ : W0.heap[s]? = some (.cells #[.slice a n ca, .slice a' m ca'] 30 (0, 0)) ∧ W0.heap[s + 1]? = some (.cells #[.map none, .slice none 0 0] 52 (0, 0)) := by subst hW0 hs'; exact al2 _ _ _
  have H1 : Hid _ := B1
  have H2 : Hid _ := B2
  have z0 : W0.heap.size = s + 1 + 1 := by subst hW0 hs'; simp
  obtain ⟨i0, i1, -, -⟩ := box2_cells B1
  obtain ⟨r0, r1, f0, f1⟩ := box2_cells B2
  clear B1 B2
  by_cases hfew : n ≤ 100 ∧ m ≤ 20
  · rw [show (decide (n ≤ 100) && decide (m ≤ 20)) = true by simp; exact hfew] at cA
    obtain ⟨hn1, hm1⟩ := hfew
    obtain ⟨Wm, hWm⟩ : ∃ Wm, W0.alloc (.map #[] 0) = Wm := ⟨_, rfl⟩
    have qm : Below W0.heap.size W0 Wm := by subst hWm; exact below_alloc _ _
    have gm0 : GM Wm (s + 1 + 1) 0 (fun _ => none) 0 := by have := GM.made W0; rw [hWm, z0] at this; exact this
    have zm : Wm.heap.size = s + 1 + 1 + 1 := by subst hWm; rw [sz1, z0]
    obtain ⟨Wz, hWz⟩ : ∃ Wz, Wm.alloc (.cells #[.map none, .slice none 0 0] 52) = Wz := ⟨_, rfl⟩
    have qz : Below Wm.heap.size Wm Wz := by subst hWz; exact below_alloc _ _
    have HBz : Hid (Wz.heap[s + 1 + 1 + 1]? = some (.cells #[.map none, .slice none 0 0] 52 (0, 0))) := by
      have := al1 Wm (.cells #[.map none, .slice none 0 0] 52)
      rw [hWz, zm] at this
      exact this
    obtain ⟨xz0, xz1, fz0, fz1⟩ := box2_cells HBz.out
    obtain ⟨W1, hW1⟩ : ∃ W1, (Wz.setCell ⟨s + 1 + 1 + 1, 0, none⟩ (.map (some (s + 1 + 1)))).setCell ⟨s + 1 + 1 + 1, 1, none⟩ (.slice none 0 0) = W1 := ⟨_, rfl⟩
    have HB1 : Hid (W1.heap[s + 1 + 1 + 1]? = some (.cells #[.map (some (s + 1 + 1)), .slice none 0 0] 52 (0, 0))) := by subst hW1; exact box2_set HBz.out
    have o1 : Out (s + 1 + 1 + 1) (s + 1 + 1 + 1 + 1) Wz W1 := by subst hW1; exact ((Out.refl _ _ _).setCell (by omega) (by omega) _ _).setCell (by omega) (by omega) _ _
    have q1 : Below Wm.heap.size Wm W1 := qz.trans ((o1.below (by have := box_lt HBz.out; omega)).mono (by omega))
    have HG1 : Hid (GM W1 (s + 1 + 1) 0 (fun _ => none) 0) := gm0.below q1
    have b01 : Below W0.heap.size W0 W1 := Below.comp qm q1
    have HbW1 : Hid (Below w.heap.size w W1) := Below.comp q0 b01
    have hmm := @run_makeMap
      Try.prog
    have HV1 : Hid (W1.heap[s]? = some (.cells #[.slice a n ca, .slice a' m ca'] 30 (0, 0))) := box_on H1.out b01
    have HR1 : Hid (W1.heap[s + 1]? = some (.cells #[.map none, .slice none 0 0] 52 (0, 0))) := box_on H2.out b01
    obtain ⟨e0, e1, -, -⟩ := box2_cells HV1.out
    clear gm0
    go_enter Try.func18, Try.ntmps18
    go_wp2_with (go_at_call 33; refine (cA _).mono ?_; rintro e W9 ⟨rfl, e9⟩; subst W9)
    clear hW0 hWm hWz hW1 i0 i1 r0 r1 f0 f1 xz0 xz1 fz0 fz1 e0 e1 hmm cA z0 zm
    have HM0 : Hid (s + 1 + 1 = s + 1 + 1) := rfl
    generalize hM : s + 1 + 1 = M at *
    have HM : Hid (s + 1 + 1 = M) := hM
    clear hM HM0
    have HzM : Hid (M < W1.heap.size) := HG1.out.lt
    have HWs : Hid (w.heap.size ≤ M) := by show _ ≤ _; have := HM.out; have := Hs.out; omega
    have HBO : Hid (∀ ws, Below M W1 ws → Below w.heap.size w ws) := fun ws h => HbW1.out.trans (h.mono HWs.out)
    go_loopw [25] (fun i ws => ∃ (k : Nat), k ≤ n ∧ i = .int .i64 (k : Int) ∧ Hid (GM ws M k (g1 u.pc k).1 (g1 u.pc k).2) ∧ Out M (M + 1) W1 ws) (fun i _ => n - (intOf i).toNat)
    case atStart => exact ⟨0, Nat.zero_le _, rfl, HG1, Out.refl _ _ _⟩
    case round =>
      obtain ⟨k, hk, rfl, HG, ho⟩ := hrel
      have hbw := HBO.out _ (ho.below (Nat.le_of_lt HzM.out))
      by_cases hlt : k < n
      · obtain ⟨pb, poff, rfl, hpc⟩ := HN.out wr hbw (by rw [Hn.out]; omega)
        obtain ⟨z0, z1⟩ := hpc k (by rw [Hn.out]; exact hlt)
        clear hpc
        have hkn' : (k : Int) < (n : Int) := by omega
        have HSt : Hid (g1 u.pc (k + 1) = (upG (g1 u.pc k).1 (gm u.pc k).nm (some ((k : Int), 0)), if ((g1 u.pc k).1 (gm u.pc k).nm).isSome then (g1 u.pc k).2 else (g1 u.pc k).2 + 1)) := rfl
        have hsz : (gm u.pc k).nm.size ≤ maxLen := by have := HFw.out.1.2 k (by rw [Hn.out]; exact hlt); unfold maxLen; omega
        have HSz : Hid _ := hsz
        clear hsz
        generalize g1 u.pc k = S at HG HSt
        generalize (gm u.pc k).nm = tx at *
        generalize (gm u.pc k).fl = fl at *
        obtain ⟨E, hE⟩ : ∃ E, wr.heap.size = E := ⟨_, rfl⟩
        obtain ⟨W2, hW2⟩ : ∃ W2, wr.alloc (.cells #[.string tx, .int .i64 fl] 46) = W2 := ⟨_, rfl⟩
        have b2 : Below wr.heap.size wr W2 := by subst hW2; exact below_alloc _ _
        obtain ⟨u0, u1, -, -⟩ := box2_cells (show W2.heap[E]? = some (.cells #[.string tx, .int .i64 fl] 46 (0, 0)) by subst hW2 hE; exact al1 _ _)
        have HBw : Hid (wr.heap[M + 1]? = some (.cells #[.map (some M), .slice none 0 0] 52 (0, 0))) := box_out HB1.out ho (.inr (Nat.le_refl _))
        obtain ⟨o0, o1, -, -⟩ := box2_cells (box_on HBw.out b2)
        have hG2 := HG.out.below b2
        have O2 : Hid (Out M (M + 1) W1 W2) := ho.trans (Out.of_below b2)
        go_wp2_with (at_mapUpdate; refine wpList_gput _ rfl _ _ _ rfl M k _ _ tx (k : Int) 0 rfl hG2 (by omega) HSz.out rfl rfl ?_; intro w3 hG3 ht3; have O3 : Hid (Out M (M + 1) W1 w3) := O2.out.trans (turned_out ht3); have HG3 : Hid _ := hG3; clear hG3 ht3)
        go_roundw
        case rel => exact ⟨k + 1, by omega, by go_num, by rw [HSt.out]; exact HG3, O3.out⟩
        case measure => simp [intOf]; omega
      · have hkn : k = n := by omega
        subst hkn
        obtain ⟨V, hV⟩ : ∃ V, V = wr := ⟨_, rfl⟩
        subst hV
        have HVb : Hid (V.heap[M + 1]? = some (.cells #[.map (some M), .slice none 0 0] 52 (0, 0))) := box_out HB1.out ho (.inr (Nat.le_refl _))
        have HV2 : Hid (V.heap[s]? = some (.cells #[.slice a k ca, .slice a' m ca'] 30 (0, 0))) := box_out HV1.out ho (.inl (by have := HM.out; omega))
        have HV3 : Hid (V.heap[s + 1]? = some (.cells #[.map none, .slice none 0 0] 52 (0, 0))) := box_out HR1.out ho (.inl (by have := HM.out; omega))
        obtain ⟨e0, e1, -, -⟩ := box2_cells HV2.out
        have HbV : Hid (Below w.heap.size w V) := hbw
        have HzV : Hid (M + 1 < V.heap.size) := box_lt HVb.out
        have HGV : Hid (GM V M k (g1 u.pc k).1 (g1 u.pc k).2) := HG
        go_wp2_with fail
        clear e0 e1
        have HBV : Hid (∀ ws, Below M V ws → Below w.heap.size w ws) := fun ws h => HbV.out.trans (h.mono HWs.out)
        go_loopw [40] (fun i ws => ∃ (j : Nat) (y : Value) (q : Nat), j ≤ m ∧ i = .int .i64 (j : Int) ∧ Hid (∀ i, i < j → fOk k (gf u.fs i)) ∧ Hid (ws.heap[M + 1]? = some (.cells #[.map (some M), y] 52 (0, 0))) ∧ Hid (GM ws M q (adF (g1 u.pc k) u.pc u.fs j).1 (adF (g1 u.pc k) u.pc u.fs j).2) ∧ k ≤ q ∧ q ≤ k + 200 * j ∧ Hid (FRow ws M (M + 1) M y ((fsT u).take j)) ∧ Below M V ws) (fun i _ => m - (intOf i).toNat)
        case atStart => exact ⟨0, .slice none 0 0, k, Nat.zero_le _, rfl, fun i h => absurd h (by omega), HVb, HGV, Nat.le_refl _, by omega, FRow.nil _ _ _ _, Below.refl _ _⟩
        case round =>
          obtain ⟨j, y, q, hj, rfl, HFo, HBo, HGq, hq1, hq2, HFR, hb3⟩ := hrel
          have hbw := HBV.out _ hb3
          by_cases hlt : j < m
          · obtain ⟨b, off, rfl, hcell⟩ := HFi.out wr hbw (by rw [Hm.out]; omega)
            obtain ⟨fa, fc, k1, k2, -⟩ := hcell j (by rw [Hm.out]; exact hlt)
            clear hcell
            have hjn : (j : Int) < (m : Int) := by omega
            have hln : (gf u.fs j).length ≤ 1048576 := Nat.le_trans (kk_le (by rw [Hm.out]; exact hlt)) HSm.out.2.2
            have HBad : Hid (¬ fOk k (gf u.fs j) → ¬ GV u) := fun h hg => h (by have := hg.2.1 j (by rw [Hm.out]; exact hlt); rwa [Hn.out] at this)
            have HGd : Hid (fOk k (gf u.fs j) → ∀ i, i < j + 1 → fOk k (gf u.fs i)) := fun h i hi => by
              by_cases e : i = j
              · subst e; exact h
              · exact HFo.out i (by omega)
            have HSt : Hid (adF (g1 u.pc k) u.pc u.fs (j + 1) = adL (adF (g1 u.pc k) u.pc u.fs j) (txs u.pc (gf u.fs j))) := rfl
            have HTk : Hid ((fsT u).take (j + 1) = (fsT u).take j ++ [txs u.pc (gf u.fs j)]) := fsT_take u (by rw [Hm.out]; exact hlt)
            have HQ : Hid (Qs (adF (g1 u.pc k) u.pc u.fs j).1 (200 * j)) := by
              have := adF_Qs u.pc u.fs j (by rw [Hm.out]; omega) (fun i hi => by rw [Hn.out]; exact HFo.out i hi)
              rwa [Hn.out] at this
            have HNq : Hid ((adF (g1 u.pc k) u.pc u.fs j).2 ≤ q) := by
              show _ ≤ _
              have h5 := (adF_is u.pc u.fs j (by rw [Hm.out]; omega) (fun i hi => by rw [Hn.out]; exact HFo.out i hi)).1
              rw [Hn.out] at h5
              have := g1_len u.pc k
              omega
            have HSz : Hid (fOk k (gf u.fs j) → ∀ i, i < (txs u.pc (gf u.fs j)).length → (gs (txs u.pc (gf u.fs j)) i).size ≤ maxLen) := fun h i hi => by
              rw [txs_len] at hi
              rw [txs_at _ hi]
              have := h.1 i hi
              have := HFw.out.1.2 (gi (gf u.fs j) i).toNat (by rw [Hn.out]; omega)
              unfold maxLen
              omega
            have HTl : Hid ((txs u.pc (gf u.fs j)).length = (gf u.fs j).length) := txs_len _ _
            have HFl : Hid (((fsT u).take j).length ≤ j) := List.length_take_le _ _
            have HL200 : Hid (fOk k (gf u.fs j) → (gf u.fs j).length ≤ 200) := fun h => h.2
            generalize adF (g1 u.pc k) u.pc u.fs j = S at HGq HSt HQ HNq
            obtain ⟨E, hE⟩ : ∃ E, wr.heap.size = E := ⟨_, rfl⟩
            obtain ⟨W2, hW2⟩ : ∃ W2, wr.alloc (.cells #[.slice fa (gf u.fs j).length fc] 44) = W2 := ⟨_, rfl⟩
            have b2 : Below wr.heap.size wr W2 := by subst hW2; exact below_alloc _ _
            obtain ⟨y0, -⟩ := box1_cells (show W2.heap[E]? = some (.cells #[.slice fa (gf u.fs j).length fc] 44 (0, 0)) by subst hW2 hE; exact al1 _ _)
            have HV4 : Hid (wr.heap[s]? = some (.cells #[.slice a k ca, .slice (some ⟨b, off, none⟩) m ca'] 30 (0, 0))) := box_bel HV2.out hb3 (by have := HM.out; omega)
            obtain ⟨e0, e1, -, -⟩ := box2_cells (box_on HV4.out b2)
            have hb2 : Below w.heap.size w W2 := Below.comp hbw b2
            have cT := texts_any fa fc (gf u.fs j) a ca u.pc W2 hln (by rw [Hn.out]; exact hs1) (k2.below b2) (HN.out _ hb2)
            rw [Hn.out] at cT
            have HR2 : Hid (W2.heap[s + 1]? = some (.cells #[.map none, .slice none 0 0] 52 (0, 0))) := box_on (box_bel HV3.out hb3 (by have := HM.out; omega)) b2
            have HB2 : Hid (W2.heap[M + 1]? = some (.cells #[.map (some M), y] 52 (0, 0))) := box_on HBo.out b2
            have HzE : Hid (∀ b, y.ownBlock = some b → b < W2.heap.size) := (FRow.below HFR.out b2).lt
            have HzM2 : Hid (M + 1 < W2.heap.size) := box_lt HB2.out
            clear k2
            generalize hgl : gf u.fs j = l at *
            have Hgl : Hid _ := hgl
            clear hgl
            obtain ⟨nl, hnl⟩ : ∃ nl, l.length = nl := ⟨_, rfl⟩
            have Hnl : Hid (l.length = nl) := hnl
            rw [hnl] at k1 y0 cT hW2 hln
            clear hnl
            go_wp2_with fail
            refine cT.mono ?_
            rintro e w3 ⟨b3, hcs⟩
            clear cT y0 e0 e1 hW2 k1
            have HR4 : Hid (w3.heap[s + 1]? = some (.cells #[.map none, .slice none 0 0] 52 (0, 0))) := box_on HR2.out b3
            rcases hcs with ⟨hfo, v, rfl, hown⟩ | ⟨hfo, rfl⟩
            · have HFk : Hid (fOk k l) := hfo
              have HOw : Hid (OwnS w3 W2.heap.size v (txs u.pc l)) := hown
              obtain ⟨tx, tc, rfl⟩ := owns_form hown
              clear hfo hown
              have hB3 : w3.heap[M + 1]? = some (.cells #[.map (some M), y] 52 (0, 0)) := box_on HB2.out b3
              have hG3 : GM w3 M q S.1 S.2 := HGq.out.below (Below.comp b2 b3)
              have hF3 : FRow w3 M (M + 1) M y ((fsT u).take j) := FRow.below HFR.out (Below.comp b2 b3)
              have hT3 : TRow w3 M (M + 1) M y.ownBlock (.slice tx (txs u.pc l).length tc) (txs u.pc l) := TRow.of_own HOw.out (by have := HzM2.out; omega) HzM2.out (by have := HzM2.out; omega) HzE.out
              have cF := addFile_any M (M + 1) M q S.2 (200 * j) S.1 y ((fsT u).take j) tx tc (txs u.pc l) w3 hB3 (by omega) (Nat.le_refl _) (by omega) hG3 (by have := HTl.out; have := HL200.out HFk.out; omega) HNq.out HQ.out (by have := HTl.out; have := HL200.out HFk.out; omega) hF3 (by have := HFl.out; omega) hT3 (HSz.out HFk.out) (by have := HzM2.out; have := b3.size; omega)
              have HCF : Hid _ := cF
              clear hB3 hG3 hF3 hT3 cF
              have HTS : Hid (S = (S.1, S.2)) := rfl
              obtain ⟨nt, hnt⟩ : ∃ nt, (txs u.pc l).length = nt := ⟨_, rfl⟩
              rw [hnt] at HCF HTl
              rw [hnt]
              have Hnt : Hid _ := hnt
              clear hnt
              go_wp2_with fail
              refine Calls.mono HCF.out ?_
              rintro e w4 ⟨rfl, b4, y', hB4, hG4, hF4⟩
              have HB4 : Hid (w4.heap[M + 1]? = some (.cells #[.map (some M), y'] 52 (0, 0))) := hB4
              have HG4 : Hid (GM w4 M (q + nt) (adL S (txs u.pc l)).1 (adL S (txs u.pc l)).2) := hG4
              have HF4 : Hid (FRow w4 M (M + 1) M y' ((fsT u).take j ++ [txs u.pc l])) := hF4
              have hb4 : Below M V w4 := hb3.trans (((Below.comp b2 b3).mono (by have := hb3.size; have := HzV.out; omega)).trans b4)
              clear hB4 hG4 hF4 HCF
              go_wp2_with fail
              go_roundw
              case rel => exact ⟨j + 1, y', q + nt, by omega, by go_num, HGd.out HFk.out, HB4, by rw [HSt.out]; exact HG4, by omega, by have := HTl.out; have := HL200.out HFk.out; omega, by rw [HTk.out]; exact HF4, hb4⟩
              case measure => simp [intOf]; omega
            · have HNo : Hid (¬ GV u) := HBad.out hfo
              have hb3' : Below w.heap.size w w3 := Below.comp hb2 b3
              clear hfo
              obtain ⟨r0, r1, f0, f1⟩ := box2_cells HR4.out
              go_wp2_with fail
              obtain ⟨W5, hW5⟩ : ∃ W5, (w3.setCell ⟨s + 1, 0, none⟩ (.map none)).setCell ⟨s + 1, 1, none⟩ (.slice none 0 0) = W5 := ⟨_, rfl⟩
              have HR5 : W5.heap[s + 1]? = some (.cells #[.map none, .slice none 0 0] 52 (0, 0)) := by subst hW5; exact box2_set HR4.out
              have o5 : Out (s + 1) (s + 1 + 1) w3 W5 := by subst hW5; exact ((Out.refl _ _ _).setCell (by omega) (by omega) _ _).setCell (by omega) (by omega) _ _
              rw [hW5]
              clear hW5 r0 r1 f0 f1
              obtain ⟨t0, t1, -, -⟩ := box2_cells HR5
              have hb5 : Below w.heap.size w W5 := hb3'.trans ((o5.below (Nat.le_of_lt (box_lt HR4.out))).mono (by have := Hs.out; omega))
              refine bodyPost_ret (v := .tuple #[.agg #[.map none, .slice none 0 0], .bool false]) (by simp [results, Try.results18, go_sem, t0, t1]) rfl ⟨.inr ⟨HNo.out, rfl⟩, hb5⟩
          · have hjm : j = m := by omega
            subst hjm
            have hfin : (fsT u).take j = fsT u := List.take_of_length_le (by rw [fsT_len, Hm.out]; exact Nat.le_refl _)
            rw [hfin] at HFR
            clear hfin
            obtain ⟨yx, yc, rfl⟩ := HFR.out.form
            obtain ⟨B, hB⟩ := tel_ex (∀ i, i < u.pc.length → kOk (adF (g1 u.pc k) u.pc u.fs j).1 u.pc i)
            have HoG : Hid (adF (g1 u.pc k) u.pc u.fs j = oG u) := by show _ = _; unfold oG; rw [Hn.out, Hm.out]
            have HBB : Hid (B = true ↔ ∀ i, i < u.pc.length → pOk u i) := by
              show _ ↔ _
              rw [hB, HoG.out]
              exact open_good (fun i hi => by rw [Hn.out]; exact HFo.out i (by rw [Hm.out] at hi; exact hi))
            have cH := hasAll_any M q _ _ (.slice yx (fsT u).length yc) a ca u.pc B wr HGq.out ⟨_, _, _, rfl⟩ (by rw [Hn.out]; exact hs1) HFw.out.1 (HN.out _ hbw) hB
            rw [Hn.out] at cH
            clear hB
            have HV4 : Hid (wr.heap[s]? = some (.cells #[.slice a k ca, .slice a' j ca'] 30 (0, 0))) := box_bel HV2.out hb3 (by have := HM.out; omega)
            obtain ⟨e0, e1, -, -⟩ := box2_cells HV4.out
            obtain ⟨o0, o1, -, -⟩ := box2_cells HBo.out
            have HR3 : Hid (wr.heap[s + 1]? = some (.cells #[.map none, .slice none 0 0] 52 (0, 0))) := box_bel HV3.out hb3 (by have := HM.out; omega)
            obtain ⟨nf, hnf⟩ : ∃ nf, (fsT u).length = nf := ⟨_, rfl⟩
            have Hnf : Hid (nf = (fsT u).length) := hnf.symm
            rw [hnf] at HFR HBo cH o1
            clear hnf
            go_wp2_with fail
            refine cH.mono ?_
            rintro e w3 ⟨rfl, b3⟩
            clear cH e0 e1 o0 o1
            have HR4 : Hid (w3.heap[s + 1]? = some (.cells #[.map none, .slice none 0 0] 52 (0, 0))) := box_on HR3.out b3
            have hb4 : Below w.heap.size w w3 := Below.comp hbw b3
            have HB4 : Hid (w3.heap[M + 1]? = some (.cells #[.map (some M), .slice yx nf yc] 52 (0, 0))) := box_on HBo.out b3
            cases B with
            | false =>
              have HNo : Hid (¬ GV u) := fun hg => by have := HBB.out.2 hg.2.2; cases this
              obtain ⟨r0, r1, f0, f1⟩ := box2_cells HR4.out
              go_wp2_with fail
              obtain ⟨W5, hW5⟩ : ∃ W5, (w3.setCell ⟨s + 1, 0, none⟩ (.map none)).setCell ⟨s + 1, 1, none⟩ (.slice none 0 0) = W5 := ⟨_, rfl⟩
              have HR5 : W5.heap[s + 1]? = some (.cells #[.map none, .slice none 0 0] 52 (0, 0)) := by subst hW5; exact box2_set HR4.out
              have o5 : Out (s + 1) (s + 1 + 1) w3 W5 := by subst hW5; exact ((Out.refl _ _ _).setCell (by omega) (by omega) _ _).setCell (by omega) (by omega) _ _
              rw [hW5]
              clear hW5 r0 r1 f0 f1
              obtain ⟨t0, t1, -, -⟩ := box2_cells HR5
              have hb5 : Below w.heap.size w W5 := hb4.trans ((o5.below (Nat.le_of_lt (box_lt HR4.out))).mono (by have := Hs.out; omega))
              refine bodyPost_ret (v := .tuple #[.agg #[.map none, .slice none 0 0], .bool false]) (by simp [results, Try.results18, go_sem, t0, t1]) rfl ⟨.inr ⟨HNo.out, rfl⟩, hb5⟩
            | true =>
              have HYes : Hid (GV u) := ⟨⟨by rw [Hn.out]; exact hn1, by rw [Hm.out]; exact hm1⟩, fun i hi => by rw [Hn.out]; exact HFo.out i (by rw [Hm.out] at hi; exact hi), HBB.out.1 rfl⟩
              have HG4 : Hid (GM w3 M q (oG u).1 (oG u).2) := by
                have := HGq.out.below b3
                rwa [HoG.out] at this
              have HF4 : Hid (FRow w3 M (M + 1) M (.slice yx nf yc) (fsT u)) := FRow.below HFR.out b3
              obtain ⟨o0, o1, -, -⟩ := box2_cells HB4.out
              obtain ⟨r0, r1, f0, f1⟩ := box2_cells HR4.out
              go_wp2_with fail
              obtain ⟨W4, hW4⟩ : ∃ W4, w3.setCell ⟨s + 1, 0, none⟩ (.map (some M)) = W4 := ⟨_, rfl⟩
              have HR5 : Hid (W4.heap[s + 1]? = some (.cells #[.map (some M), .slice none 0 0] 52 (0, 0))) := by subst hW4; exact block_set HR4.out
              have g4 : w3.grownBy W4 (some (s + 1)) := by subst hW4; exact grown_set _ _ _ _
              have o4 : Out (s + 1) (s + 1 + 1) w3 W4 := by subst hW4; exact out_setCell _ _ _ _
              rw [hW4]
              obtain ⟨W5, hW5⟩ : ∃ W5, W4.setCell ⟨s + 1, 1, none⟩ (.slice yx nf yc) = W5 := ⟨_, rfl⟩
              have HR6 : W5.heap[s + 1]? = some (.cells #[.map (some M), .slice yx nf yc] 52 (0, 0)) := by subst hW5; exact block_set HR5.out
              have g5 : W4.grownBy W5 (some (s + 1)) := by subst hW5; exact grown_set _ _ _ _
              have o5 : Out (s + 1) (s + 1 + 1) w3 W5 := by subst hW5; exact o4.trans (out_setCell _ _ _ _)
              rw [hW5]
              clear hW5 hW4 r0 r1 f0 f1 o0 o1
              obtain ⟨t0, t1, -, -⟩ := box2_cells HR6
              have hb5 : Below w.heap.size w W5 := hb4.trans ((o5.below (Nat.le_of_lt (box_lt HR4.out))).mono (by have := Hs.out; omega))
              have hMs : s + 1 < M := by have := HM.out; omega
              refine bodyPost_ret (v := .tuple #[.agg #[.map (some M), .slice yx nf yc], .bool true]) (by simp [results, Try.results18, go_sem, t0, t1]) rfl ⟨.inl ⟨HYes.out, M, _, q, rfl, HWs.out, HG4.out.out o5 (.inr (by omega)), by omega, by rw [Hn.out]; exact hq1, ?_⟩, hb5⟩
              exact (FRow.store (FRow.store HF4.out g4 hMs) g5 hMs).weak HWs.out (.inr rfl) (.inr rfl)
  · have hB : (decide (n ≤ 100) && decide (m ≤ 20)) = false := by
      by_cases q1 : n ≤ 100
      · by_cases q2 : m ≤ 20
        · exact absurd ⟨q1, q2⟩ hfew
        · simp [q2]
      · simp [q1]
    rw [hB] at cA
    have HNo : Hid (¬ GV u) := fun hg => hfew ⟨by have := hg.1.1; rw [Hn.out] at this; exact this, by have := hg.1.2; rw [Hm.out] at this; exact this⟩
    have HR4 : Hid (W0.heap[s + 1]? = some (.cells #[.map none, .slice none 0 0] 52 (0, 0))) := H2.out
    clear hB hfew
    go_enter Try.func18, Try.ntmps18
    go_wp2_with (go_at_call 33; refine (cA _).mono ?_; rintro e W9 ⟨rfl, e9⟩; subst W9)
    obtain ⟨W5, hW5⟩ : ∃ W5, (W0.setCell ⟨s + 1, 0, none⟩ (.map none)).setCell ⟨s + 1, 1, none⟩ (.slice none 0 0) = W5 := ⟨_, rfl⟩
    have HR5 : W5.heap[s + 1]? = some (.cells #[.map none, .slice none 0 0] 52 (0, 0)) := by subst hW5; exact box2_set HR4.out
    have o5 : Out (s + 1) (s + 1 + 1) W0 W5 := by subst hW5; exact ((Out.refl _ _ _).setCell (by omega) (by omega) _ _).setCell (by omega) (by omega) _ _
    rw [hW5]
    clear hW5 r0 r1 f0 f1
    obtain ⟨t0, t1, -, -⟩ := box2_cells HR5
    have hb5 : Below w.heap.size w W5 := q0.trans ((o5.below (Nat.le_of_lt (box_lt HR4.out))).mono (by have := Hs.out; omega))
    refine bodyPost_ret (v := .tuple #[.agg #[.map none, .slice none 0 0], .bool false]) (by simp [results, Try.results18, go_sem, t0, t1]) rfl ⟨.inr ⟨HNo.out, rfl⟩, hb5⟩
end Go.Proofs.Ytfphffbclpmobaa
