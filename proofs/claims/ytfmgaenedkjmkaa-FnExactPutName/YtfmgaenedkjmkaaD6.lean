import Derived.Test.YtfmgaenedkjmkaaD5
/- The program: slots doubled. -/
namespace Go.Proofs.Ytfmgaenedkjmkaa
open Go.ChangeShapes Go.WideShapes Go.ChangeAt Go.RowKit
set_option linter.unusedVariables false
open Hd

attribute [local go_sem] Oper.semAt_some

/-- A row that does not lie in these blocks. -/
def Av (B C : Nat) (a : Option Addr) (n : Nat) : Prop := n ≠ 0 → ∀ ad, a = some ad → ad.block < B ∨ C ≤ ad.block
/-- A directory none of whose rows lies in these blocks. -/
def VA (B C : Nat) (w : World) (v : Value) (m : Nat) : Prop :=
  ∀ x0 a n c a' c', v = .agg #[x0, .slice a n c, .slice a' m c'] → Av B C a n ∧ Av B C a' m ∧ ∀ i, i < m → ∀ ad, a' = some ad → ∀ na nl nc, w.cell? (ad.add (i * 2 + 1)) = some (.slice na nl nc) → Av B C na nl
theorem VA.below {B C : Nat} {w w' : World} {v : Value} {m : Nat} {d : Dr} (h : VA B C w v m) (hd : DirAt w v d) (hm : d.bs.length = m) (hb : Below w.heap.size w w') : VA B C w' v m := by
  obtain ⟨a0, c0, a0', c0', rfl, -, -, -, hbk⟩ := hd
  intro x0 a n c a' c' e
  simp only [dv, Value.agg.injEq, Array.mk.injEq, List.cons.injEq, Value.slice.injEq] at e
  obtain ⟨rfl, ⟨rfl, rfl, rfl⟩, ⟨rfl, -, rfl⟩, -⟩ := e
  obtain ⟨h1, h2, h3⟩ := h _ _ _ _ _ _ (by rw [hm])
  refine ⟨h1, h2, fun i hi ad had na nl nc hc => ?_⟩
  obtain ⟨b, off, rfl, hcell⟩ := hbk (by omega)
  cases had
  obtain ⟨na', nc', y0, y1, -⟩ := hcell i (by omega)
  have y2 := cell_on y1 hb
  rw [addN, ← Nat.add_assoc, y2] at hc
  cases hc
  exact h3 i hi _ rfl _ _ _ (by rw [addN, ← Nat.add_assoc]; exact y1)
/-- Rows out of these blocks stay where these blocks are written into. -/
theorem DirAt.away {B C : Nat} {w w' : World} {v : Value} {d : Dr} (hd : DirAt w v d) (h : VA B C w v d.bs.length) (ho : Out B C w w') : DirAt w' v d := by
  obtain ⟨a, c, a', c', rfl, k1, k2, ha, ha'⟩ := hd
  obtain ⟨h1, h2, h3⟩ := h _ _ _ _ _ _ rfl
  have hcell : ∀ {ad : Addr} {u : Value}, (ad.block < B ∨ C ≤ ad.block) → w.cell? ad = some u → w'.cell? ad = some u := fun {ad u} hb hc => by
    have hlt := World.block_lt_of_cell? w ad hc
    have := ho.block ad.block hlt hb
    unfold World.cell? at *
    rw [this]
    exact hc
  refine ⟨a, c, a', c', rfl, k1, k2, fun hn => ?_, fun hn => ?_⟩
  · obtain ⟨b, off, rfl, hc⟩ := ha hn
    have hb := h1 hn ⟨b, off, none⟩ rfl
    exact ⟨b, off, rfl, fun i hi => hcell (ad := ⟨b, off + i, none⟩) hb (hc i hi)⟩
  · obtain ⟨b, off, rfl, hc⟩ := ha' hn
    refine ⟨b, off, rfl, fun i hi => ?_⟩
    obtain ⟨na, nc, y0, y1, y2, y3⟩ := hc i hi
    have hb := h2 hn ⟨b, off, none⟩ rfl
    refine ⟨na, nc, hcell (ad := ⟨b, _, none⟩) hb y0, hcell (ad := ⟨b, _, none⟩) hb y1, fun hn' => ?_, y3⟩
    obtain ⟨b1, o1, rfl, hc1⟩ := y2 hn'
    have hv := h3 i hi _ rfl _ _ nc (by rw [addN, ← Nat.add_assoc]; exact y1) hn' ⟨b1, o1, none⟩ rfl
    exact ⟨b1, o1, rfl, fun j hj => ⟨hcell (ad := ⟨b1, _, none⟩) hv (hc1 j hj).1, hcell (ad := ⟨b1, _, none⟩) hv (hc1 j hj).2⟩⟩
theorem VA.start {B C : Nat} {w : World} {v : Value} {d : Dr} (hd : DirAt w v d) (hB : w.heap.size ≤ B) : VA B C w v d.bs.length := by
  obtain ⟨a0, c0, a0', c0', rfl, -, -, ha, hbk⟩ := hd
  intro x0 a n c a' c' e
  simp only [dv, Value.agg.injEq, Array.mk.injEq, List.cons.injEq, Value.slice.injEq] at e
  obtain ⟨rfl, ⟨rfl, rfl, rfl⟩, ⟨rfl, -, rfl⟩, -⟩ := e
  refine ⟨fun hn ad had => ?_, fun hn ad had => ?_, fun i hi ad had na nl nc hc hn ad' had' => ?_⟩
  · obtain ⟨b, off, rfl, hc⟩ := ha hn
    cases had
    have := World.block_lt_of_cell? w _ (hc 0 (by omega))
    exact .inl (Nat.lt_of_lt_of_le this hB)
  · obtain ⟨b, off, rfl, hc⟩ := hbk hn
    cases had
    obtain ⟨na, nc, y0, -⟩ := hc 0 (by omega)
    have := World.block_lt_of_cell? w _ y0
    exact .inl (Nat.lt_of_lt_of_le this hB)
  · obtain ⟨b, off, rfl, hcell⟩ := hbk (by omega)
    cases had
    obtain ⟨na', nc', y0, y1, y2, y3⟩ := hcell i hi
    rw [addN, ← Nat.add_assoc, y1] at hc
    cases hc
    obtain ⟨b1, o1, rfl, hc1⟩ := y2 hn
    cases had'
    have := World.block_lt_of_cell? w _ (hc1 0 (by omega)).1
    exact .inl (Nat.lt_of_lt_of_le this hB)
theorem concat2_any (a : Option Addr) (ca b : Nat) (l : List Int) (W : World) (hB : W.heap[b]? = some (.cells #[.slice a l.length ca, .slice a l.length ca] 22 (0, 0))) (hl : l.length ≤ 1000) (hn : Ints W a l) :
    Calls Try.prog 84 #[.slice (some ⟨b, 0, none⟩) 2 2] W fun e w' => Below W.heap.size W w' ∧ ∃ x c, e = .returned (.slice x (l ++ l).length c) ∧ OwnI w' W.heap.size (.slice x (l ++ l).length c) (l ++ l) := by
  obtain ⟨x0, x1, -, -⟩ := box2_cells hB
  have := ConcatI_any b 2 2 (fun _ => a) (fun _ => ca) (fun _ => l) W (by omega) (fun _ _ => hl)
    (fun i hi => by
      rcases (by omega : i = 0 ∨ i = 1) with rfl | rfl
      · exact x0
      · exact x1)
    (fun _ _ => hn)
  have e : flatI (fun _ => l) 2 = l ++ l := by simp [flatI]
  rw [e] at this
  exact this
set_option maxHeartbeats 2000000 in
set_option maxRecDepth 20000 in
theorem double_any (v : Value) (d : Dr) (w : World) (hd : 0 ≤ d.dp ∧ d.dp ≤ 8) (hl : d.sl.length ≤ 1000) (hc : DirAt w v d) :
    Calls Try.prog 66 #[v] w fun e w' => Below w.heap.size w w' ∧ ∃ v', e = .returned v' ∧ DirAt w' v' (dbl d) ∧ ∀ B C, C ≤ w.heap.size → VA B C w v d.bs.length → VA B C w' v' d.bs.length := by
  have HVB : Hid (∀ B C, VA B C w v d.bs.length → ∀ w', Below w.heap.size w w' → VA B C w' v d.bs.length) := fun B C h w' hb => h.below hc rfl hb
  obtain ⟨a, ca, a', ca', rfl, hca, hca', ha, ha'⟩ := hc
  unfold dv at *
  have Ha : Hid (Ints w a d.sl) := ha
  have Ha' : Hid (Bks w a' d.bs) := ha'
  have Hca' : Hid (d.bs.length ≤ ca') := hca'
  clear ha ha' hca hca'
  obtain ⟨DP, hDP⟩ : ∃ DP, d.dp = DP := ⟨_, rfl⟩
  have HDP : Hid _ := hDP
  rw [hDP] at hd HVB ⊢
  clear hDP
  obtain ⟨m, hm⟩ : ∃ m, d.bs.length = m := ⟨_, rfl⟩
  have Hm : Hid _ := hm
  rw [hm] at HVB ⊢
  clear hm
  obtain ⟨W0, hW0⟩ : ∃ W0, (w.alloc (.cells #[.int .i64 DP, .slice a d.sl.length ca, .slice a' m ca'] 32)).alloc (.cells #[.int .i64 0, .slice none 0 0, .slice none 0 0] 32) = W0 := ⟨_, rfl⟩
  have q0 : Below w.heap.size w W0 := by subst hW0; exact ba2 _ _ _
  obtain ⟨B1, B2⟩ : W0.heap[w.heap.size]? = some (.cells #[.int .i64 DP, .slice a d.sl.length ca, .slice a' m ca'] 32 (0, 0)) ∧ W0.heap[w.heap.size + 1]? = some (.cells #[.int .i64 0, .slice none 0 0, .slice none 0 0] 32 (0, 0)) := by subst hW0; exact al2 _ _ _
  have HA : Hid _ := B1
  have HB : Hid _ := B2
  have z0 := box_lt B2
  have HX : Hid (∀ W, Below W0.heap.size W0 W → W.heap[W0.heap.size]? = some (.cells #[.slice a d.sl.length ca, .slice a d.sl.length ca] 22 (0, 0)) → Calls Try.prog 84 #[.slice (some ⟨W0.heap.size, 0, none⟩) 2 2] W fun e w' => Below W.heap.size W w' ∧ ∃ x c, e = .returned (.slice x (d.sl ++ d.sl).length c) ∧ OwnI w' W.heap.size (.slice x (d.sl ++ d.sl).length c) (d.sl ++ d.sl)) := fun W h hb => concat2_any a ca W0.heap.size d.sl W hb hl (Ha.out.below (Below.comp q0 h))
  clear B1 B2
  obtain ⟨R, hR⟩ : ∃ R, d.sl ++ d.sl = R := ⟨_, rfl⟩
  have HR : Hid _ := hR
  rw [hR] at HX
  clear hR
  obtain ⟨n, hn⟩ : ∃ n, d.sl.length = n := ⟨_, rfl⟩
  rw [hn] at HX HA hl hW0 HVB ⊢
  clear hn
  have SB : Hid (∀ W, Out (w.heap.size + 1) (w.heap.size + 2) W0 W → W.cell? ⟨w.heap.size, 0, none⟩ = some (.int .i64 DP) ∧ W.cell? ⟨w.heap.size, 1, none⟩ = some (.slice a n ca) ∧ W.cell? ⟨w.heap.size, 2, none⟩ = some (.slice a' m ca') ∧ Out (w.heap.size + 1) (w.heap.size + 2) W0 W) := fun W z => ⟨(box3_cells (box_out HA.out z (by omega))).1, (box3_cells (box_out HA.out z (by omega))).2.1, (box3_cells (box_out HA.out z (by omega))).2.2.1, z⟩
  go_enter Try.func66, Try.ntmps66
  go_upto_region 1 with fail
  clear hW0
  go_region_held3 (fun W => W.cell? ⟨w.heap.size, 0, none⟩ = some (.int .i64 DP) ∧ W.cell? ⟨w.heap.size, 1, none⟩ = some (.slice a n ca) ∧ W.cell? ⟨w.heap.size, 2, none⟩ = some (.slice a' m ca') ∧ Out (w.heap.size + 1) (w.heap.size + 2) W0 W)
    ((refine SB.out _ ?_; first | assumption | exact Out.of_below (Below.drew (Below.refl _ _)) | exact Out.of_below (Below.refl _ _) | exact Out.of_below (below_alloc _ _) | exact Out.of_below (Below.drew (below_alloc _ _)) | exact ((oA.setCell (Nat.le_refl _) (Nat.lt_succ_self _) _ _).setCell (Nat.le_refl _) (Nat.lt_succ_self _) _ _).setCell (Nat.le_refl _) (Nat.lt_succ_self _) _ _))
    (first
    | (go_at_call 84; refine (HX.out _ (Below.drew (below_alloc _ _)) (al1 W0 _)).mono ?_; rintro e w8 ⟨b8, x, cx, rfl, hN8⟩; have b78 : Below W0.heap.size W0 w8 := Below.comp (Below.drew (below_alloc W0 _)) b8; have oA : Out (w.heap.size + 1) (w.heap.size + 2) W0 w8 := Out.of_below b78; have HB8 : Hid (w8.heap[w.heap.size + 1]? = some (.cells #[.int .i64 0, .slice none 0 0, .slice none 0 0] 32 (0, 0))) := box_on HB.out b78; obtain ⟨f0, f1, f2, f3, f4, f5⟩ := box3_cells HB8.out))
  go_wp2_with fail
  have hB2 := box3_set HB8.out (x0 := .int .i64 (DP + 1)) (x1 := .slice x R.length cx) (x2 := .slice a' m ca')
  have o2 := box3_out w8 (w.heap.size + 1) (.int .i64 (DP + 1)) (.slice x R.length cx) (.slice a' m ca')
  obtain ⟨wb, hwb⟩ : ∃ wb, ((w8.setCell ⟨w.heap.size + 1, 0, none⟩ (.int .i64 (DP + 1))).setCell ⟨w.heap.size + 1, 1, none⟩ (.slice x R.length cx)).setCell ⟨w.heap.size + 1, 2, none⟩ (.slice a' m ca') = wb := ⟨_, rfl⟩
  rw [hwb] at hB2 o2
  have hw : IntKind.i64.wrap (DP + 1) = DP + 1 := by rw [IntKind.wrap_i64]; omega
  rw [hw, hwb]
  clear hwb
  obtain ⟨t0, t1, t2, -, -, -⟩ := box3_cells hB2
  have z1 := b78.size
  have z2 := o2.size
  have hbw : Below w.heap.size w wb := (Below.comp q0 b78).trans ((o2.below (by omega)).mono (by omega))
  obtain ⟨g, hN9⟩ := hN8.ib
  have hI := (hN9.out' o2 (.inr (by simp; omega))).ints
  obtain ⟨a2, c2, e2, h2, h3⟩ := hI
  cases e2
  refine bodyPost_ret (v := .agg #[.int .i64 (DP + 1), .slice x R.length cx, .slice a' m ca']) (by simp [results, Try.results66, go_sem, t0, t1, t2]) rfl ⟨hbw, _, rfl, ?_, ?_⟩
  rotate_left
  · intro B C hC hV
    have hV' := HVB.out B C hV _ hbw
    intro y0 a9 n9 c9 a9' c9' e9
    simp only [Value.agg.injEq, Array.mk.injEq, List.cons.injEq, Value.slice.injEq] at e9
    obtain ⟨-, ⟨rfl, rfl, rfl⟩, ⟨rfl, -, rfl⟩, -⟩ := e9
    obtain ⟨-, v2, v3⟩ := hV' _ _ _ _ _ _ rfl
    refine ⟨fun hn9 ad had => ?_, v2, v3⟩
    obtain ⟨a5, c5, e5, h5, h6⟩ := hN9
    cases e5
    obtain ⟨r1, r2, -⟩ := h6 (fun h => hn9 (by rw [h]; rfl))
    rw [r1] at had
    cases had
    exact .inr (by show C ≤ g; have := q0.size; simp at r2; omega)
  refine ⟨x, cx, a', ca', ?_, ?_, ?_, ?_, ?_⟩
  · show _ = dv (d.dp + 1) x (d.sl ++ d.sl).length cx a' d.bs.length ca'
    rw [HR.out, HDP.out, Hm.out]
  · show (d.sl ++ d.sl).length ≤ cx
    rw [HR.out]; exact h2
  · exact Hca'.out
  · show Ints wb x (d.sl ++ d.sl)
    rw [HR.out]; exact h3
  · exact Ha'.out.below hbw
end Go.Proofs.Ytfmgaenedkjmkaa
