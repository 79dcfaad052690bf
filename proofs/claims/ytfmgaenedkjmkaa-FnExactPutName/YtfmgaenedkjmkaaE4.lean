import Derived.Test.YtfmgaenedkjmkaaE3
import Derived.Test.YtfmgaenedkjmkaaC4
import Derived.Test.YtfmgaenedkjmkaaU9
/- The program: a name that is put. -/
namespace Go.Proofs.Ytfmgaenedkjmkaa
open Go.ChangeShapes Go.WideShapes Go.ChangeAt Go.RowKit
set_option linter.unusedVariables false
open Hd

attribute [local go_sem] Oper.semAt_some

theorem nk_few {L : List Bk} {q : Nat} (h : ∀ i, i < L.length → (gb L i).ns.length ≤ q) : ∀ n, n ≤ L.length → nk L n ≤ n * q
  | 0, _ => by simp [nk]
  | n + 1, hn => by
    have ih := nk_few h n (by omega)
    have := h n (by omega)
    show nk L n + (gb L n).ns.length ≤ _
    rw [Nat.add_mul]
    omega
theorem gs_sizes {d : Dr} (h : GS d) : d.sl.length ≤ 256 ∧ d.bs.length ≤ 256 := by
  have e := h.1.2.2
  have := Nat.pow_le_pow_right (n := 2) (by omega) (show d.dp.toNat ≤ 8 by have := h.1.2.1; omega)
  have := h.2.1
  omega
theorem gs_sml {d : Dr} (h : GS d) : Sml d := by
  obtain ⟨h1, h2⟩ := gs_sizes h
  have := nk_few (L := d.bs) (q := 4) (fun i hi => (good_names h hi).1) d.bs.length (Nat.le_refl _)
  exact ⟨by omega, by omega, by omega⟩
/-- What PutName answers. -/
def PuOk (d : Dr) (x : Nm) (D : Dr) (B : Bool) : Prop :=
  (¬ (GS d ∧ isE x = true) → B = false) ∧ (B = false → D = ⟨0, [], []⟩) ∧ (GS d → isE x = true → (rm 9 d x.nm = none → B = false) ∧ ∀ f, rm 9 d x.nm = some f → B = true ∧ ∃ k, AtN (bkL f x.nm) x.nm k ∧ D = exD f (bkN f x.nm) (exR (bkL f x.nm) x.nm k [x]))
theorem pu_ex (d : Dr) (x : Nm) : ∃ D B, PuOk d x D B := by
  by_cases h : GS d ∧ isE x = true
  · cases hr : rm 9 d x.nm with
    | none => exact ⟨_, false, fun _ => rfl, fun _ => rfl, fun _ _ => ⟨fun _ => rfl, fun f hf => (by rw [hr] at hf; cases hf)⟩⟩
    | some f =>
      obtain ⟨k, hk⟩ := at_ex (bkL f x.nm) x.nm
      refine ⟨exD f (bkN f x.nm) (exR (bkL f x.nm) x.nm k [x]), true, fun h' => absurd h h', fun h' => (by cases h'), fun _ _ => ⟨fun h' => (by rw [hr] at h'; cases h'), fun f' hf => ?_⟩⟩
      rw [hr] at hf
      cases hf
      exact ⟨rfl, k, hk, rfl⟩
  · exact ⟨_, false, fun _ => rfl, fun _ => rfl, fun h1 h2 => absurd ⟨h1, h2⟩ h⟩
set_option maxHeartbeats 8000000 in
set_option maxRecDepth 20000 in
theorem implPut_any (v : Value) (d : Dr) (x : Nm) (w : World) (hsm : Sml d) (hf : FewD d) (hs : x.nm.size ≤ 9223372036854775807) (hc : DirAt w v d) {D : Dr} {B : Bool} (hDB : PuOk d x D B) :
    Calls Try.prog 11 #[v, nv x] w fun e w' => Below w.heap.size w w' ∧ ∃ v', e = .returned (.tuple #[v', .bool B]) ∧ DOwn w' w.heap.size w'.heap.size v' D := by
  obtain ⟨g, hg⟩ := tel_ex (GS d)
  have cG : ∀ W y, DirAt W y d → Calls Try.prog 39 #[y] W (fun e w' => e = .returned (.bool g) ∧ Below W.heap.size W w') := fun W y h => (implGood_any y d W hsm hf h).mono (fun e w' q => ⟨q.1.is hg, q.2⟩)
  have cE := fun W => isEntry_any x W hs
  have HMk : Hid (g = true → isE x = true → ∀ W y, DirAt W y d → Calls Try.prog 41 #[y, .string x.nm] W fun e w' => Below W.heap.size W w' ∧ ∃ v', e = .returned (.tuple #[v', .bool B]) ∧ (B = false → v' = .agg #[.int .i64 0, .slice none 0 0, .slice none 0 0]) ∧ (B = true → ∃ f k, GS f ∧ DirAt w' v' f ∧ AtN (bkL f x.nm) x.nm k ∧ D = exD f (bkN f x.nm) (exR (bkL f x.nm) x.nm k [x]))) := fun h1 h2 W y hd => by
    have hG := hg.1 h1
    obtain ⟨p1, p2⟩ := hDB.2.2 hG h2
    refine (makeRoom_any y d x.nm W hG hs hd).mono ?_
    rintro e w' ⟨hb, v', b, rfl, r1, r2⟩
    cases hr : rm 9 d x.nm with
    | none =>
      obtain ⟨rfl, hv⟩ := r2 hr
      have hB := p1 hr
      exact ⟨hb, v', by rw [hB], fun _ => hv, fun h => (by rw [hB] at h; cases h)⟩
    | some f =>
      obtain ⟨rfl, s1, -, s2⟩ := r1 f hr
      obtain ⟨hB, k, s3, s4⟩ := p2 f hr
      exact ⟨hb, v', by rw [hB], fun h => (by rw [hB] at h; cases h), fun _ => ⟨f, k, s1, s2, s3, s4⟩⟩
  have HX : Hid (∀ f k W y ac, GS f → DirAt W y f → AtN (bkL f x.nm) x.nm k → D = exD f (bkN f x.nm) (exR (bkL f x.nm) x.nm k [x]) → Nms W ac [x] → Calls Try.prog 42 #[y, .string x.nm, .slice ac 1 1] W fun e w' => Below W.heap.size W w' ∧ ∃ v', e = .returned v' ∧ DOwn w' W.heap.size w'.heap.size v' D) := fun f k W y ac h1 h2 h3 h4 h5 => by
    rw [h4]
    exact exchange_any y f x.nm ac 1 [x] k W (gs_sml h1) h1 hs (by simp) h5 h3 h2
  have HZ : Hid (B = false → D = ⟨0, [], []⟩) := hDB.2.1
  have HNo : Hid (g = false ∨ isE x = false → B = false) := fun h => hDB.1 (fun q => by
    rcases h with h | h
    · have := hg.2 q.1; rw [h] at this; cases this
    · rw [h] at q; exact absurd q.2 (by simp))
  obtain ⟨a, c, a', c', rfl, hca, hca', ha, ha'⟩ := hc
  have HD : Hid (∀ W, Below w.heap.size w W → DirAt W (dv d.dp a d.sl.length c a' d.bs.length c') d) := fun W h => ⟨a, c, a', c', rfl, hca, hca', ha.below h, ha'.below h⟩
  clear ha ha' hca hca' hsm hf hDB hg
  unfold dv at *
  generalize d.dp = DP at *
  generalize d.sl.length = n at *
  generalize d.bs.length = m at *
  generalize isE x = o at *
  obtain ⟨s, fl⟩ := x
  unfold nv at *
  simp only at *
  obtain ⟨W0, hW0⟩ : ∃ W0, ((w.alloc (.cells #[.int .i64 DP, .slice a n c, .slice a' m c'] 32)).alloc (.cells #[.string s, .int .i64 fl] 36)).alloc Z27 = W0 := ⟨_, rfl⟩
  have q0 : Below w.heap.size w W0 := by subst hW0; exact ba3 _ _ _ _
  obtain ⟨B1, B2, B3⟩ : W0.heap[w.heap.size]? = some (.cells #[.int .i64 DP, .slice a n c, .slice a' m c'] 32 (0, 0)) ∧ W0.heap[w.heap.size + 1]? = some (.cells #[.string s, .int .i64 fl] 36 (0, 0)) ∧ W0.heap[w.heap.size + 1 + 1]? = some (.cells #[.int .i64 0, .slice none 0 0, .slice none 0 0] 32 (0, 0)) := by subst hW0; exact al3 _ _ _ _
  have HA : Hid (W0.heap[w.heap.size]? = some (.cells #[.int .i64 DP, .slice a n c, .slice a' m c'] 32 (0, 0))) := B1
  have HN : Hid (W0.heap[w.heap.size + 1]? = some (.cells #[.string s, .int .i64 fl] 36 (0, 0))) := B2
  have HB : Hid (W0.heap[w.heap.size + 1 + 1]? = some (.cells #[.int .i64 0, .slice none 0 0, .slice none 0 0] 32 (0, 0))) := B3
  obtain ⟨x0, x1, x2, -, -, -⟩ := box3_cells B1
  have z0 := box_lt B3
  clear B1 B2 B3
  have ZERO : Hid (∀ W1, Below W0.heap.size W0 W1 → B = false → ∃ W2, ((W1.setCell ⟨w.heap.size + 1 + 1, 0, none⟩ (.int .i64 0)).setCell ⟨w.heap.size + 1 + 1, 1, none⟩ (.slice none 0 0)).setCell ⟨w.heap.size + 1 + 1, 2, none⟩ (.slice none 0 0) = W2 ∧ W2.heap[w.heap.size + 1 + 1]? = some (.cells #[.int .i64 0, .slice none 0 0, .slice none 0 0] 32 (0, 0)) ∧ Below w.heap.size w W2 ∧ DOwn W2 w.heap.size W2.heap.size (.agg #[.int .i64 0, .slice none 0 0, .slice none 0 0]) D) := fun W1 h1 hB => by
    have o := box3_out W1 (w.heap.size + 1 + 1) (.int .i64 0) (.slice none 0 0) (.slice none 0 0)
    refine ⟨_, rfl, box3_set (box_on HB.out h1), (Below.comp q0 h1).trans ((o.below (by have := h1.size; omega)).mono (by omega)), ?_⟩
    rw [HZ.out hB]
    exact own_zero _ _ _
  go_enter Try.func11, Try.ntmps11
  go_wp2_with fail
  refine (cG _ _ (HD.out _ q0)).mono ?_
  rintro e w1 ⟨rfl, b1⟩
  clear x0 x1 x2 hW0 cG
  cases g with
  | false =>
    have hB := HNo.out (.inl rfl)
    subst hB
    obtain ⟨f0, f1, f2, f3, f4, f5⟩ := box3_cells (box_on HB.out b1)
    go_wp2_with fail
    obtain ⟨W2, hW2, k1, k2, k3⟩ := ZERO.out w1 b1 (by simp)
    rw [hW2]
    obtain ⟨t0, t1, t2, -, -, -⟩ := box3_cells k1
    exact bodyPost_ret (v := .tuple #[.agg #[.int .i64 0, .slice none 0 0, .slice none 0 0], .bool false]) (by simp [results, Try.results11, go_sem, t0, t1, t2]) rfl ⟨k2, _, rfl, k3⟩
  | true =>
    obtain ⟨y0, y1, -, -⟩ := box2_cells (box_on HN.out b1)
    go_wp2_with fail
    refine (cE _).mono ?_
    rintro e w2 ⟨rfl, b2⟩
    clear y0 y1 cE
    have b02 := Below.comp b1 b2
    cases o with
    | false =>
      have hB := HNo.out (.inr rfl)
      subst hB
      obtain ⟨f0, f1, f2, f3, f4, f5⟩ := box3_cells (box_on HB.out b02)
      go_wp2_with fail
      obtain ⟨W2, hW2, k1, k2, k3⟩ := ZERO.out w2 b02 (by simp)
      rw [hW2]
      obtain ⟨t0, t1, t2, -, -, -⟩ := box3_cells k1
      exact bodyPost_ret (v := .tuple #[.agg #[.int .i64 0, .slice none 0 0, .slice none 0 0], .bool false]) (by simp [results, Try.results11, go_sem, t0, t1, t2]) rfl ⟨k2, _, rfl, k3⟩
    | true =>
      obtain ⟨x0, x1, x2, -, -, -⟩ := box3_cells (box_on HA.out b02)
      obtain ⟨y0, y1, -, -⟩ := box2_cells (box_on HN.out b02)
      go_wp2_with fail
      refine (HMk.out (by simp) (by simp) _ _ (HD.out _ (Below.comp q0 b02))).mono ?_
      rintro e w3 ⟨b3, v3, rfl, r1, r2⟩
      clear x0 x1 x2 y0 y1
      have b03 := Below.comp b02 b3
      cases B with
      | false =>
        obtain rfl := r1 (by simp)
        obtain ⟨Wz, hWz⟩ : ∃ Wz, w3.alloc Z27 = Wz := ⟨_, rfl⟩
        have bz : Below w3.heap.size w3 Wz := by subst hWz; exact below_alloc _ _
        have HZz : Wz.heap[w3.heap.size]? = some (.cells #[.int .i64 0, .slice none 0 0, .slice none 0 0] 32 (0, 0)) := by subst hWz; exact al1 _ _
        obtain ⟨l0, l1, l2, l3, l4, l5⟩ := box3_cells HZz
        obtain ⟨Wy, hWy⟩ : ∃ Wy, ((Wz.setCell ⟨w3.heap.size, 0, none⟩ (.int .i64 0)).setCell ⟨w3.heap.size, 1, none⟩ (.slice none 0 0)).setCell ⟨w3.heap.size, 2, none⟩ (.slice none 0 0) = Wy := ⟨_, rfl⟩
        have oy : Out w3.heap.size (w3.heap.size + 1) Wz Wy := by subst hWy; exact box3_out _ _ _ _ _
        have by3 : Below w3.heap.size w3 Wy := bz.trans (oy.below bz.size)
        obtain ⟨f0, f1, f2, f3, f4, f5⟩ := box3_cells (box_on HB.out (Below.comp b03 by3))
        go_wp2_with fail
        obtain ⟨W2, hW2, k1, k2, k3⟩ := ZERO.out Wy (Below.comp b03 by3) (by simp)
        first | rw [hWy, hW2] | rw [hW2] | skip
        obtain ⟨t0, t1, t2, -, -, -⟩ := box3_cells k1
        exact bodyPost_ret (v := .tuple #[.agg #[.int .i64 0, .slice none 0 0, .slice none 0 0], .bool false]) (by simp [results, Try.results11, go_sem, t0, t1, t2]) rfl ⟨k2, _, rfl, k3⟩
      | true =>
        obtain ⟨f, k, hGf, hDf, hk, hD⟩ := r2 (by simp)
        have hDf' := hDf
        obtain ⟨a3, c3, a3', c3', rfl, -, -, -, -⟩ := hDf
        have HF : Hid (GS f ∧ AtN (bkL f s) s k ∧ D = exD f (bkN f s) (exR (bkL f s) s k [⟨s, fl⟩])) := ⟨hGf, hk, hD⟩
        clear hGf hk hD r1 r2
        unfold dv at *
        generalize f.dp = D3 at *
        generalize f.sl.length = n3 at *
        generalize f.bs.length = m3 at *
        have HDf : Hid (DirAt w3 (.agg #[.int .i64 D3, .slice a3 n3 c3, .slice a3' m3 c3']) f) := hDf'
        clear hDf'
        obtain ⟨E, hE⟩ : ∃ E, w3.heap.size = E := ⟨_, rfl⟩
        obtain ⟨W4, hW4⟩ : ∃ W4, w3.alloc (.cells #[.int .i64 D3, .slice a3 n3 c3, .slice a3' m3 c3'] 32) = W4 := ⟨_, rfl⟩
        have b4 : Below w3.heap.size w3 W4 := by subst hW4; exact below_alloc _ _
        have HE : Hid (W4.heap[E]? = some (.cells #[.int .i64 D3, .slice a3 n3 c3, .slice a3' m3 c3'] 32 (0, 0))) := by subst hW4 hE; exact al1 _ _
        have b04 := Below.comp b03 b4
        obtain ⟨x0, x1, x2, -, -, -⟩ := box3_cells HE.out
        obtain ⟨y0, y1, -, -⟩ := box2_cells (box_on HN.out b04)
        obtain ⟨W5, hW5⟩ : ∃ W5, W4.alloc (.cells #[.string s, .int .i64 fl] 36) = W5 := ⟨_, rfl⟩
        have b5 : Below W4.heap.size W4 W5 := by subst hW5; exact below_alloc _ _
        have HN5 : W5.heap[W4.heap.size]? = some (.cells #[.string s, .int .i64 fl] 36 (0, 0)) := by subst hW5; exact al1 _ _
        have hrow : Nms W5 (some ⟨W4.heap.size, 0, none⟩) [⟨s, fl⟩] := fun _ => ⟨_, 0, rfl, fun i hi => by
          obtain rfl : i = 0 := by simpa using hi
          exact ⟨cell_of_block HN5 rfl, cell_of_block HN5 rfl⟩⟩
        have cX := HX.out f k W5 _ (some ⟨W4.heap.size, 0, none⟩) HF.out.1 (HDf.out.below (Below.comp b4 b5)) HF.out.2.1 HF.out.2.2 hrow
        clear hrow HN5
        go_wp2_with fail
        refine cX.mono ?_
        rintro e w6 ⟨b6, v6, rfl, own⟩
        have b06 := Below.comp b04 (Below.comp b5 b6)
        obtain ⟨xx, aa, cc, gs, rfl, h1, h2, h3⟩ := own
        have h2' := h2
        obtain ⟨ax, cx, rfl, -, -⟩ := h2'
        have Own : Hid (DOwn w6 W5.heap.size w6.heap.size _ D) := ⟨_, aa, cc, gs, rfl, h1, h2, h3⟩
        clear h1 h2 h3 cX x0 x1 x2 y0 y1 hW4 hW5
        have hb1 := box_on HB.out b06
        obtain ⟨f0, f1, f2, f3, f4, f5⟩ := box3_cells hb1
        go_wp2_with fail
        obtain ⟨t0, t1, t2, -, -, -⟩ := box3_cells (box3_set hb1 (x0 := .int .i64 D.dp) (x1 := .slice ax D.sl.length cx) (x2 := .slice aa D.bs.length cc))
        have o3 := box3_out w6 (w.heap.size + 1 + 1) (.int .i64 D.dp) (.slice ax D.sl.length cx) (.slice aa D.bs.length cc)
        have z1 := b04.size
        have z2 := b5.size
        have z3 := b6.size
        have z4 := o3.size
        refine bodyPost_ret (v := .tuple #[.agg #[.int .i64 D.dp, .slice ax D.sl.length cx, .slice aa D.bs.length cc], .bool true]) (by simp [results, Try.results11, go_sem, t0, t1, t2]) rfl ⟨?_, _, rfl, ?_⟩
        · exact (Below.comp q0 b06).trans (o3.below (by omega) |>.mono (by omega))
        · exact (DOwn.out Own.out o3 (.inr (by omega))).mono (by have := q0.size; omega) z4
end Go.Proofs.Ytfmgaenedkjmkaa
