import Derived.Test.YthioomihpfmlmaaM2
import Derived.Test.YthioomihpfmlmaaQ2
/- The specification counts how often each inode is named. -/
namespace Go.Proofs.Ythioomihpfmlmaa
open Go.ChangeShapes Go.WideShapes Go.ChangeAt Go.RowKit
set_option linter.unusedVariables false
open Hd

attribute [local go_sem] Oper.semAt_some

/-- A row of counts that fills a block of its own. -/
def SeenAt (w : World) (g n : Nat) (s : Nat → Nat) : Prop := ∃ c : Array Value, w.heap[g]? = some (.cells c 3 (0, 0)) ∧ c.size = n ∧ ∀ i, i < n → c[i]? = some (.int .i64 ((s i : Nat) : Int))
theorem SeenAt.out {w w' : World} {g n B C : Nat} {s : Nat → Nat} (h : SeenAt w g n s) (ho : Out B C w w') (hd : g < B ∨ C ≤ g) : SeenAt w' g n s := by
  obtain ⟨c, h1, h2, h3⟩ := h
  exact ⟨c, box_out h1 ho hd, h2, h3⟩
theorem SeenAt.below {w w' : World} {g n : Nat} {s : Nat → Nat} (h : SeenAt w g n s) (hb : Below w.heap.size w w') : SeenAt w' g n s := by
  obtain ⟨c, h1, h2, h3⟩ := h
  exact ⟨c, box_on h1 hb, h2, h3⟩
theorem SeenAt.congr {w : World} {g n : Nat} {s s' : Nat → Nat} (h : SeenAt w g n s) (he : ∀ i, i < n → s i = s' i) : SeenAt w g n s' := by
  obtain ⟨c, h1, h2, h3⟩ := h
  exact ⟨c, h1, h2, fun i hi => by rw [← he i hi]; exact h3 i hi⟩
theorem SeenAt.cell {w : World} {g n : Nat} {s : Nat → Nat} (h : SeenAt w g n s) {i : Nat} (hi : i < n) : w.cell? ⟨g, i, none⟩ = some (.int .i64 ((s i : Nat) : Int)) ∧ w.frozen? ⟨g, i, none⟩ = false := by
  obtain ⟨c, h1, h2, h3⟩ := h
  exact ⟨cell_of_block h1 (h3 i hi), free_of_block h1⟩
theorem SeenAt.inc {w : World} {g n : Nat} {s s' : Nat → Nat} (h : SeenAt w g n s) {v : Nat} (hv : v < n) {z : Int} (hz : z = ((s' v : Nat) : Int)) (he : ∀ i, i < n → i ≠ v → s' i = s i) : SeenAt (w.setCell ⟨g, v, none⟩ (.int .i64 z)) g n s' := by
  obtain ⟨c, h1, h2, h3⟩ := h
  refine ⟨_, block_set h1, by simpa using h2, fun i hi => ?_⟩
  by_cases e : i = v
  · subst e; rw [set_at (by omega), hz]
  · rw [set_ne e, he i hi e]; exact h3 i hi
theorem made0 {n i : Nat} (h : i < n) : (made (.int .i64 0) n)[i]? = some (.int .i64 0) := by
  have := toList_madeCells_one (.int .i64 0) n
  unfold made
  rw [show (Value.int .i64 0).cells = #[.int .i64 0] from rfl, ← Array.getElem?_toList, this]
  simp [h]
theorem seen_made (w : World) (n : Nat) : SeenAt (w.alloc (.cells (made (.int .i64 0) (n * 1)) 3)) w.heap.size n (fun _ => 0) :=
  ⟨_, al1 _ _, by rw [size_made, Nat.mul_one], fun i hi => by rw [Nat.mul_one, made0 hi]; rfl⟩
/-- What the count tells. -/
def SeenR (T : List Ino) (f k : Nat) (s : Nat → Nat) (g : Nat) (w : World) (e : Ending) (w' : World) : Prop :=
  Out g (g + 1) w w' ∧ ∃ r : Bool, e = .returned (.bool r) ∧ (r = true ↔ ok T f k s) ∧ (r = true → SeenAt w' g T.length (fun y => s y + nb T f k y))
theorem tg_fl {x : Nm} (h : 1 ≤ tg x) : x.fl = ((tg x : Nat) : Int) := by unfold tg at *; omega
set_option maxHeartbeats 1000000 in
theorem seen_zero {T : List Ino} (hS : Sk T) (w0 : World) (a : Option Addr) (cap : Nat) (hI : Inos w0 a T) (k : Nat) (s : Nat → Nat) (g : Nat) (w : World) (hk : k < T.length) (hn : T.length ≤ 60) (h20 : ∀ k, (gn T k).ns.length ≤ 20)
    (hg : w0.heap.size ≤ g) (hb : Below w0.heap.size w0 w) (hs : SeenAt w g T.length s) (hm : ∀ y, s y + 20 ≤ 9223372036854775807) :
    Calls Try.prog 26 #[tv a T.length cap, .int .i64 (k : Int), .int .i64 8, .slice (some ⟨g, 0, none⟩) T.length T.length] w (SeenR T 0 k s g w) := by
  obtain ⟨b, off, rfl, hcell⟩ := hI (by omega)
  obtain ⟨W0, hW0⟩ : ∃ W0, w.alloc (.cells #[.slice (some ⟨b, off, none⟩) T.length cap] 24) = W0 := ⟨_, rfl⟩
  have q0 : Below w.heap.size w W0 := by subst hW0; exact below_alloc _ _
  have hb0 : Below w0.heap.size w0 W0 := hb.trans (q0.mono hb.size)
  have H1 : Hid (W0.heap[w.heap.size]? = some (.cells #[.slice (some ⟨b, off, none⟩) T.length cap] 24 (0, 0))) := by subst hW0; exact al1 _ _
  obtain ⟨i0, -⟩ := box1_cells H1.out
  obtain ⟨ka, kc, k0, k1, k2, k3, -⟩ := (hcell k hk).below hb0
  have hs0 := hs.below q0
  have hkn : (k : Int) < (T.length : Int) := by omega
  obtain ⟨L, hL⟩ : ∃ L, (gn T k).ns = L := ⟨_, rfl⟩
  have hSk := hS.1 k hk
  rw [hL] at k2 k3 hSk
  have h20k := h20 k
  rw [hL] at h20k
  have HOK : Hid (ok T 0 k s ↔ L = []) := by
    show _ ↔ _
    unfold ok
    rw [show dk T 0 k = ((gn T k).ns = []) from rfl, hL]
    constructor
    · exact fun h => h.1
    · intro h
      exact ⟨h, fun y _ => .inl (by rw [nb, cn, hL, h]; rfl)⟩
  have HNB : Hid (L = [] → ∀ y, nb T 0 k y = 0) := fun h y => by rw [nb, cn, hL, h]; rfl
  have HS : Hid (SeenAt W0 g T.length s) := hs0
  have HSk : Hid _ := hSk
  clear hS h20 hcell hs hs0 hL hb hSk
  generalize hTn : T.length = n at *
  have HT : Hid _ := hTn
  clear hTn
  unfold tv
  go_enter Try.func26, Try.ntmps26
  go_wp2
  refine wp_loop_rounds 1 ?_
  rw [rounds_succ]
  by_cases hz : L = []
  · subst hz
    go_wp2
    go_ret
    exact ⟨Out.of_below q0, true, rfl, by simp [HOK.out], fun _ => by rw [HT.out]; exact HS.out.congr (fun i _ => by rw [show nb T 0 k i = 0 from by first | exact HNB.out rfl i | exact HNB.out trivial i]; rfl)⟩
  · have hl : 0 < L.length := List.length_pos_iff.2 hz
    obtain ⟨kb, ko, rfl, hc⟩ := k3 (by omega)
    obtain ⟨c0, c1⟩ := hc 0 hl
    have hx := HSk.out _ (by rw [gm_eq hl]; exact List.getElem_mem _ : gm L 0 ∈ L)
    rw [tg_fl hx.1] at c1
    obtain ⟨v, hv⟩ : ∃ v, tg (gm L 0) = v := ⟨_, rfl⟩
    rw [hv] at c1 hx
    generalize (gm L 0).nm = nm at c0
    have hs := hm v
    simp only [Nat.zero_mul, Nat.add_zero] at c0 c1
    have hlm : (0 : Int) < (L.length : Int) := by omega
    obtain ⟨m, hm'⟩ : ∃ m, L.length = m := ⟨_, rfl⟩
    rw [hm'] at k2 hl hlm ⊢
    have HZ : Hid (¬ L = []) := hz
    clear hz hm hm' hc k3 HSk hv
    have q1 : Below W0.heap.size W0 (W0.alloc (.cells #[.string nm, .int .i64 (v : Int)] 49)) := below_alloc _ _
    obtain ⟨s0, f0⟩ := (HS.out.below q1).cell hx.2
    have hvn : (v : Int) < (n : Int) := by omega
    have e1 : IntKind.i64.wrap (((s v : Nat) : Int) + 1) = ((s v : Nat) : Int) + 1 := wrapI (by omega) (by omega)
    generalize ((s v : Nat) : Int) = SV at s0 e1
    go_wp2
    go_ret
    refine ⟨?_, false, rfl, by simp [HOK.out, HZ.out], fun h => by cases h⟩
    exact ((Out.of_below (Below.comp q0 q1)).setCell (Nat.le_refl _) (Nat.lt_succ_self _) _ _)
set_option maxHeartbeats 4000000 in
theorem seen_step {T : List Ino} (hS : Sk T) (w0 : World) (a : Option Addr) (cap : Nat) (hI : Inos w0 a T) (hn : T.length ≤ 60) (h20 : ∀ k, (gn T k).ns.length ≤ 20) (f d : Nat) (hd : d + (f + 1) = 8)
    (IH : ∀ (k : Nat) (s : Nat → Nat) (g : Nat) (w : World), k < T.length → w0.heap.size ≤ g → Below w0.heap.size w0 w → SeenAt w g T.length s → (∀ y, s y + mx f ≤ 9223372036854775807) →
      Calls Try.prog 26 #[tv a T.length cap, .int .i64 (k : Int), .int .i64 ((d : Int) + 1), .slice (some ⟨g, 0, none⟩) T.length T.length] w (SeenR T f k s g w))
    (k : Nat) (s : Nat → Nat) (g : Nat) (w : World) (hk : k < T.length)
    (hg : w0.heap.size ≤ g) (hb : Below w0.heap.size w0 w) (hs : SeenAt w g T.length s) (hm : ∀ y, s y + mx (f + 1) ≤ 9223372036854775807) :
    Calls Try.prog 26 #[tv a T.length cap, .int .i64 (k : Int), .int .i64 (d : Int), .slice (some ⟨g, 0, none⟩) T.length T.length] w (SeenR T (f + 1) k s g w) := by
  obtain ⟨b, off, rfl, hcell⟩ := hI (by omega)
  obtain ⟨W0, hW0⟩ : ∃ W0, w.alloc (.cells #[.slice (some ⟨b, off, none⟩) T.length cap] 24) = W0 := ⟨_, rfl⟩
  have q0 : Below w.heap.size w W0 := by subst hW0; exact below_alloc _ _
  have hb0 : Below w0.heap.size w0 W0 := hb.trans (q0.mono hb.size)
  have hgw : g < w.heap.size := by obtain ⟨c, h1, -⟩ := hs; exact box_lt h1
  have H1 : Hid (W0.heap[w.heap.size]? = some (.cells #[.slice (some ⟨b, off, none⟩) T.length cap] 24 (0, 0))) := by subst hW0; exact al1 _ _
  obtain ⟨i0, -⟩ := box1_cells H1.out
  obtain ⟨ka, kc, k0, k1, k2, k3, -⟩ := (hcell k hk).below hb0
  have HS : Hid (SeenAt W0 g T.length s) := hs.below q0
  have hkn : (k : Int) < (T.length : Int) := by omega
  have HC : Hid (∀ i, i < T.length → InAt w0 b (off + i * 3) (gn T i)) := hcell
  have HK3 : Hid (∀ W, Below w0.heap.size w0 W → ∃ kc, W.cell? ⟨b, off + k * 3 + 2, none⟩ = some (.slice ka (gn T k).ns.length kc) ∧ Nms W ka (gn T k).ns) := fun W h => by
    obtain ⟨ka', kc', -, -, j2, j3, -⟩ := (hcell k hk).below h
    obtain ⟨ka'', kc'', -, -, l2, l3, -⟩ := hcell k hk
    have e1 := hb0.cell (p := ⟨b, off + k * 3 + 2, none⟩) (lt_of_cell l2)
    rw [l2, k2] at e1
    have e2 := h.cell (p := ⟨b, off + k * 3 + 2, none⟩) (lt_of_cell l2)
    rw [l2, j2] at e2
    simp only [Option.some.injEq, Value.slice.injEq] at e1 e2
    rw [e1.1, ← e2.1]
    exact ⟨kc', j2, j3⟩
  have HSk : Hid _ := hS.1 k hk
  have HIH : Hid _ := IH
  have HM : Hid _ := hm
  have HPM : Hid _ := fun (y i : Nat) (hi : i < (gn T k).ns.length) => pt_mx h20 f k y hi
  have hml := h20 k
  have HD8 : Hid (d < 8) := by show _ < _; omega
  have HBW : Hid (∀ wr, Out g (g + 1) w wr → Below w0.heap.size w0 wr) := fun wr ho => hb.trans ((ho.below (by omega)).mono hg)
  clear hS h20 hcell hs hb IH hm k3 k0 k1
  generalize hTn : T.length = n at *
  have HT : Hid _ := hTn
  clear hTn
  generalize hLm : (gn T k).ns.length = m at *
  have HLm : Hid _ := hLm
  clear hLm
  unfold tv
  have hd8 : ((d : Int) == 8) = false := by have := HD8.out; simp; omega
  go_enter Try.func26, Try.ntmps26
  go_wp2
  clear i0 k2
  go_loopw [18] (fun i wr => ∃ q : Nat, q ≤ m ∧ i = .int .i64 q ∧ Hid (okP T f k q s) ∧ Hid (SeenAt wr g n (fun y => s y + pt T f k q y)) ∧ Hid (wr.heap[w.heap.size]? = some (.cells #[.slice (some ⟨b, off, none⟩) n cap] 24 (0, 0))) ∧ Out g (g + 1) w wr) (fun i _ => m - (intOf i).toNat)
  case atStart => exact ⟨0, Nat.zero_le _, rfl, okP_zero _ _ _ _, HS.out.congr (fun i _ => by rw [pt_zero]; rfl), H1, Out.of_below q0⟩
  case round =>
    obtain ⟨q, hq, rfl, HO, HSE, HBX, ho⟩ := hrel
    by_cases hlt : q < m
    · have hbw : Below w0.heap.size w0 wr := HBW.out wr ho
      have hq' : q < (gn T k).ns.length := by rw [HLm.out]; exact hlt
      obtain ⟨kc', c2, k3⟩ := HK3.out wr hbw
      obtain ⟨kb, ko, rfl, hc⟩ := k3 (by omega)
      obtain ⟨c0, c1⟩ := hc q hq'
      clear hc k3 c2
      have hx := HSk.out _ (by rw [gm_eq hq']; exact List.getElem_mem _ : gm (gn T k).ns q ∈ (gn T k).ns)
      rw [tg_fl hx.1] at c1
      have HPM' : Hid _ := HPM.out
      have hbd : ∀ y, s1 T f k q s y + mx f ≤ 9223372036854775807 := fun y => by
        have h1 := HPM.out y q hlt
        have h2 := HM.out y
        unfold s1
        split <;> omega
      have HFile : Hid (∀ y, (gn T (tg (gm (gn T k).ns q))).dr = false → s1 T f k q s y = s y + pt T f k (q + 1) y) := fun y h => s1_file hq' h y
      have HDir : Hid (∀ y, (gn T (tg (gm (gn T k).ns q))).dr = true → s1 T f k q s y + nb T f (tg (gm (gn T k).ns q)) y = s y + pt T f k (q + 1) y) := fun y h => s1_dir hq' h y
      have HP0 : Hid ((gn T (tg (gm (gn T k).ns q))).dr = false → okP T f k (q + 1) s) := fun h => okP_file HO.out hq' h
      have HP1 : Hid ((gn T (tg (gm (gn T k).ns q))).dr = true → s1 T f k q s (tg (gm (gn T k).ns q)) ≤ 1 → ok T f (tg (gm (gn T k).ns q)) (s1 T f k q s) → okP T f k (q + 1) s) := fun h h1 h2 => okP_dir HO.out hq' h h1 h2
      have HN1 : Hid ((gn T (tg (gm (gn T k).ns q))).dr = true → 1 < s1 T f k q s (tg (gm (gn T k).ns q)) → ¬ ok T (f + 1) k s) := fun h h1 => ok_two hq' h h1
      have HN2 : Hid ((gn T (tg (gm (gn T k).ns q))).dr = true → ¬ ok T f (tg (gm (gn T k).ns q)) (s1 T f k q s) → ¬ ok T (f + 1) k s) := fun h h1 => ok_sub hq' h h1
      have hs1 : ∀ y, s1 T f k q s y = s y + pt T f k q y + (if tg (gm (gn T k).ns q) = y then 1 else 0) := fun y => rfl
      generalize (gm (gn T k).ns q).nm = nm at c0
      generalize tg (gm (gn T k).ns q) = v at *
      obtain ⟨W1, hW1⟩ : ∃ W1, wr.alloc (.cells #[.string nm, .int .i64 (v : Int)] 49) = W1 := ⟨_, rfl⟩
      have q1 : Below wr.heap.size wr W1 := by subst hW1; exact below_alloc _ _
      obtain ⟨n0, n1, -, -⟩ := box2_cells (show W1.heap[wr.heap.size]? = some (.cells #[.string nm, .int .i64 (v : Int)] 49 (0, 0)) by subst hW1; exact al1 _ _)
      have HN : Hid (W1.heap[wr.heap.size]? = some (.cells #[.string nm, .int .i64 (v : Int)] 49 (0, 0))) := by subst hW1; exact al1 _ _
      have hs1v := hs1 v
      rw [if_pos rfl] at hs1v
      obtain ⟨s0, f0⟩ := (HSE.out.below q1).cell hx.2
      have hbv := hbd v
      have e1 : IntKind.i64.wrap (((s v + pt T f k q v : Nat) : Int) + 1) = ((s1 T f k q s v : Nat) : Int) := by rw [wrapI (by omega) (by omega)]; omega
      generalize ((s v + pt T f k q v : Nat) : Int) = OV at s0 e1
      obtain ⟨W2, hW2⟩ : ∃ W2, W1.setCell ⟨g, v, none⟩ (.int .i64 ((s1 T f k q s v : Nat) : Int)) = W2 := ⟨_, rfl⟩
      have hgr : g < wr.heap.size := Nat.lt_of_lt_of_le hgw ho.size
      have hwr : w.heap.size < wr.heap.size := box_lt HBX.out
      have o2 : Out g (g + 1) W1 W2 := by subst hW2; exact out_setCell _ _ _ _
      have HSE2 : Hid (SeenAt W2 g n (s1 T f k q s)) := by subst hW2; exact (HSE.out.below q1).inc hx.2 rfl (fun i _ hne => by rw [hs1 i, if_neg (fun h => hne h.symm)]; rfl)
      have HBX2 : Hid (W2.heap[w.heap.size]? = _) := box_out (box_on HBX.out q1) o2 (by omega)
      have HN' : Hid (W2.heap[wr.heap.size]? = _) := box_out HN.out o2 (by omega)
      have o12 : Out g (g + 1) w W2 := ho.trans ((Out.of_below q1).trans o2)
      have hb2 : Below w0.heap.size w0 W2 := HBW.out W2 o12
      obtain ⟨-, -, v0, -, -, -, -⟩ := (HC.out v hx.2).below hb2
      obtain ⟨m0, m1, -, -⟩ := box2_cells HN'.out
      obtain ⟨d0, -⟩ := box1_cells HBX2.out
      obtain ⟨t0, u0⟩ := HSE2.out.cell hx.2
      have hvn : (v : Int) < (n : Int) := by omega
      have hdw : IntKind.i64.wrap ((d : Int) + 1) = (d : Int) + 1 := by have := HD8.out; exact wrapI (by omega) (by omega)
      have HV : Hid _ := hx
      have HBD : Hid _ := hbd
      clear hs1v hbd hs1 hbv HPM'
      generalize hSV : ((s1 T f k q s v : Nat) : Int) = SV at *
      have HSV : Hid _ := hSV
      clear hSV
      obtain ⟨b7, hb7⟩ : ∃ b7, (gn T v).dr = b7 := ⟨_, rfl⟩
      rw [hb7] at v0
      cases b7 with
      | false =>
        have HF : Hid _ := hb7
        clear hb7
        go_wp2
        go_roundw
        case rel =>
          refine ⟨q + 1, by omega, by go_num, HP0.out HF.out, ?_, HBX2, o12⟩
          exact HSE2.out.congr (fun i _ => HFile.out i HF.out)
        case measure => simp [intOf]; omega
      | true =>
        have HF : Hid _ := hb7
        clear hb7
        by_cases h2 : 1 < SV
        · go_wp2
          go_ret
          refine ⟨o12, false, rfl, ⟨fun h => (by cases h), fun h => absurd h (HN1.out HF.out (by have := HSV.out; omega))⟩, fun h => by cases h⟩
        · have h2' : decide ((1 : Int) < SV) = false := by simpa using h2
          have cI := HIH.out v (s1 T f k q s) g W2 HV.out.2 hg hb2 HSE2.out HBD.out
          unfold tv at cI
          go_wp2_with fail
          refine cI.mono ?_
          rintro e w3 ⟨o3, r, rfl, hr1, hr2⟩
          have o13 : Out g (g + 1) w w3 := o12.trans o3
          have hbx3 : Hid (w3.heap[w.heap.size]? = _) := box_out HBX2.out o3 (by omega)
          have HR1 : Hid _ := hr1
          have HR2 : Hid _ := hr2
          clear hr1 hr2 cI
          cases r with
          | true =>
            go_wp2_with fail
            go_roundw
            case rel =>
              refine ⟨q + 1, by omega, by go_num, HP1.out HF.out (by have := HSV.out; omega) (HR1.out.1 trivial), ?_, hbx3, o13⟩
              have := HR2.out trivial
              rw [HT.out] at this
              exact this.congr (fun i _ => HDir.out i HF.out)
            case measure => simp [intOf]; omega
          | false =>
            go_wp2_with fail
            go_ret
            exact ⟨o13, false, rfl, ⟨fun h => (by cases h), fun h => absurd h (HN2.out HF.out (fun h' => by have := HR1.out.2 h'; cases this))⟩, fun h => by cases h⟩
    · have hqm : q = m := by omega
      subst hqm
      go_wp2
      go_ret
      refine ⟨ho, true, rfl, ⟨fun _ => okP_full (by rw [HLm.out]; exact HO.out), fun _ => rfl⟩, fun _ => ?_⟩
      rw [HT.out]
      exact HSE.out.congr (fun i _ => by rw [pt_full T f k i (by rw [HLm.out]; exact Nat.le_refl _)])
theorem mx_le : ∀ f, f ≤ 8 → mx f ≤ 4000000000000000 := by
  intro f hf
  have : f = 0 ∨ f = 1 ∨ f = 2 ∨ f = 3 ∨ f = 4 ∨ f = 5 ∨ f = 6 ∨ f = 7 ∨ f = 8 := by omega
  rcases this with rfl | rfl | rfl | rfl | rfl | rfl | rfl | rfl | rfl <;> decide
theorem seen_all {T : List Ino} (hS : Sk T) (w0 : World) (a : Option Addr) (cap : Nat) (hI : Inos w0 a T) (hn : T.length ≤ 60) (h20 : ∀ k, (gn T k).ns.length ≤ 20) : ∀ (f d : Nat), d + f = 8 →
    ∀ (k : Nat) (s : Nat → Nat) (g : Nat) (w : World), k < T.length → w0.heap.size ≤ g → Below w0.heap.size w0 w → SeenAt w g T.length s → (∀ y, s y + mx f ≤ 9223372036854775807) →
      Calls Try.prog 26 #[tv a T.length cap, .int .i64 (k : Int), .int .i64 (d : Int), .slice (some ⟨g, 0, none⟩) T.length T.length] w (SeenR T f k s g w) := by
  intro f
  induction f with
  | zero =>
    intro d hd k s g w hk hg hb hs hm
    obtain rfl : d = 8 := by omega
    exact seen_zero hS w0 a cap hI k s g w hk hn h20 hg hb hs hm
  | succ f ih =>
    intro d hd k s g w hk hg hb hs hm
    refine seen_step hS w0 a cap hI hn h20 f d hd (fun k s g w h1 h2 h3 h4 h5 => ?_) k s g w hk hg hb hs hm
    have := ih (d + 1) (by omega) k s g w h1 h2 h3 h4 h5
    rw [show (((d + 1 : Nat)) : Int) = (d : Int) + 1 by omega] at this
    exact this
end Go.Proofs.Ythioomihpfmlmaa
