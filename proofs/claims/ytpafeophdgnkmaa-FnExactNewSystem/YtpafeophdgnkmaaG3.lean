import Derived.Test.YtpafeophdgnkmaaB3
import Derived.Test.YtpafeophdgnkmaaG2
/- The model's sort by size. -/
namespace Go.Proofs.Ytpafeophdgnkmaa
open Go.ChangeShapes Go.WideShapes Go.ChangeAt Go.RowKit
set_option linter.unusedVariables false
open Room

attribute [local go_sem] Oper.semAt_some

theorem lb_first {lt : Ex → Ex → Bool} {x : Ex} : ∀ {l : List Ex} {k : Nat}, k ≤ l.length → (∀ j, j < k → lt (gx l j) x = true) → (k < l.length → lt (gx l k) x = false) → lb lt x l = k
  | [], k, h, _, _ => by simp at h; subst h; rfl
  | y :: l, 0, _, _, h => by
    have := h (by simp)
    rw [gx_zero] at this
    simp [lb, this]
  | y :: l, k + 1, h0, h1, h2 => by
    have e := h1 0 (by omega)
    rw [gx_zero] at e
    have := lb_first (lt := lt) (x := x) (l := l) (k := k) (by simpa using h0) (fun j h => by have := h1 (j + 1) (by omega); rwa [gx_cons] at this) (fun h => by have := h2 (by simpa using h); rwa [gx_cons] at this)
    simp [lb, e, this]
theorem ins_eq {x : Ex} : ∀ {l : List Ex}, ins x l = wth ltS l x
  | [] => rfl
  | y :: l => by rw [wth_cons, ← ins_eq]; rfl
theorem srt_take {l : List Ex} {k : Nat} (h : k < l.length) : srt (l.take (k + 1)) = ins (gx l k) (srt (l.take k)) := by
  unfold srt srtOn
  rw [List.take_add_one, List.foldl_append, gx_eq h]
  simp [h]

set_option maxHeartbeats 2000000 in
theorem l5BySize_any (a : Option Addr) (cap : Nat) (l : List Ex) (w : World) (hn : l.length ≤ 1000) (hc : Exs w a l) :
    Calls Try.prog 20 #[.slice a l.length cap] w fun e w' => Below w.heap.size w w' ∧ ∃ a' c', e = .returned (.slice a' l.length c') ∧ Own w' w.heap.size w'.heap.size a' (srt l) := by
  obtain ⟨n, hL⟩ : ∃ n, l.length = n := ⟨_, rfl⟩
  unfold Exs at hc
  rw [hL] at hc hn ⊢
  have HL : Hid _ := hL
  clear hL
  go_enter Try.func20, Try.ntmps20
  go_wp2
  go_loopw [10, 3] (fun i o wr => ∃ (k : Nat) (x : Option Addr) (cx : Nat), k ≤ n ∧ i = .int .i64 k ∧ o = .slice x k cx ∧ Hid (OwnR wr w.heap.size o (srt (l.take k))) ∧ Below w.heap.size w wr) (fun i _ _ => n - (intOf i).toNat)
  case atStart => exact ⟨0, none, 0, Nat.zero_le _, rfl, rfl, OwnR.nil _ _, Below.refl _ _⟩
  case round =>
    obtain ⟨k, x, cx, hk, rfl, rfl, HO, hb⟩ := hrel
    by_cases hlt : k < n
    · obtain ⟨b, off, rfl, hcell⟩ := (hc.below hb) (by omega)
      obtain ⟨k0, k1⟩ := hcell k hlt
      clear hcell hc
      have hs := srt_take (l := l) (k := k) (by have := HL.out; omega)
      generalize hx : gx l k = y at k0 k1 hs
      clear hx
      have HS : Hid _ := hs
      clear hs
      have hol := HO.out.own
      obtain ⟨o1, o2, o3⟩ := hol
      generalize hm : srt (l.take k) = m at *
      clear hm
      obtain ⟨p, q⟩ := y
      simp only at k0 k1
      obtain ⟨D, hD⟩ : ∃ D, wr.heap.size = D := ⟨_, rfl⟩
      obtain ⟨W1, hW1⟩ : ∃ W1, wr.alloc (.cells #[.int .i64 p, .int .i64 q] 36) = W1 := ⟨_, rfl⟩
      have b1 : Below wr.heap.size wr W1 := by subst hW1; exact below_alloc _ _
      have HD : Hid (W1.heap[D]? = some (.cells #[.int .i64 p, .int .i64 q] 36 (0, 0))) := by subst hW1 hD; exact al1 _ _
      have rm : RowX W1 x m.length (gx m) := (MineX.row o1).below b1
      rw [← o2] at rm
      have hkc : k ≤ cx := by omega
      have HM : Hid _ := o2
      clear o1 o2 o3
      go_wp2
      clear hW1
      go_loopw [6] (fun i wq => ∃ (j : Nat), j ≤ k ∧ i = .int .i64 j ∧ Hid (∀ t, t < j → ltS (gx m t) (p, q) = true) ∧ Below W1.heap.size W1 wq) (fun i _ => k - (intOf i).toNat)
      case atStart => exact ⟨0, Nat.zero_le _, rfl, fun t ht => absurd ht (by omega), Below.refl _ _⟩
      case round =>
        obtain ⟨j, hj, rfl, HJ, hbq⟩ := hrel
        obtain ⟨d0, d1, -, -⟩ := box2_cells (box_on HD.out hbq)
        by_cases hjk : j < k
        · obtain ⟨g, og, rfl, hcm⟩ := (rm.below hbq) (by omega)
          obtain ⟨c0, c1⟩ := hcm j hjk
          clear hcm
          have hjk' : (j : Int) < (k : Int) := by omega
          generalize hy : gx m j = y at c0 c1
          have HY : Hid _ := hy
          clear hy
          obtain ⟨p', q'⟩ := y
          simp only at c0 c1
          have SB : Hid (∀ W, Below wr.heap.size wr W → W.cell? ⟨g, og + j * 2, none⟩ = some (.int .i64 p') ∧ W.cell? ⟨g, og + j * 2 + 1, none⟩ = some (.int .i64 q') ∧ W.cell? ⟨D, 0, none⟩ = some (.int .i64 p) ∧ W.cell? ⟨D, 1, none⟩ = some (.int .i64 q) ∧ Below wr.heap.size wr W) := fun W z => ⟨cell_on c0 z, cell_on c1 z, cell_on d0 z, cell_on d1 z, z⟩
          clear c0 c1 d0 d1
          have hless := l5Less_any (p', q') (p, q)
          cases hr : ltS (p', q') (p, q) with
          | true =>
            rw [hr] at hless
            go_wp2
            go_region_held3 (fun W => W.cell? ⟨g, og + j * 2, none⟩ = some (.int .i64 p') ∧ W.cell? ⟨g, og + j * 2 + 1, none⟩ = some (.int .i64 q') ∧ W.cell? ⟨D, 0, none⟩ = some (.int .i64 p) ∧ W.cell? ⟨D, 1, none⟩ = some (.int .i64 q) ∧ Below wr.heap.size wr W)
              ((refine SB.out _ ?_; first | assumption | exact Below.drew (Below.refl _ _)))
              (first
              | (go_at_call 35; obtain ⟨-, -, -, -, hw0⟩ := ‹_ ∧ _ ∧ _ ∧ _ ∧ Below wr.heap.size wr _›; refine (hless _).mono ?_; rintro e w1 ⟨rfl, g1⟩; have g2 := Below.comp hw0 g1))
            all_goals go_wp2
            go_roundw
            case rel => exact ⟨j + 1, by omega, by go_num, (show Hid _ from fun t ht => by
              by_cases e : t < j
              · exact HJ.out t e
              · obtain rfl : t = j := by omega
                rw [HY.out]; exact hr), Below.comp hbq (by assumption)⟩
            case measure => simp [intOf]; omega
          | false =>
            rw [hr] at hless
            go_wp2
            go_region_held3 (fun W => W.cell? ⟨g, og + j * 2, none⟩ = some (.int .i64 p') ∧ W.cell? ⟨g, og + j * 2 + 1, none⟩ = some (.int .i64 q') ∧ W.cell? ⟨D, 0, none⟩ = some (.int .i64 p) ∧ W.cell? ⟨D, 1, none⟩ = some (.int .i64 q) ∧ Below wr.heap.size wr W)
              ((refine SB.out _ ?_; first | assumption | exact Below.drew (Below.refl _ _)))
              (first
              | (go_at_call 35; obtain ⟨-, -, -, -, hw0⟩ := ‹_ ∧ _ ∧ _ ∧ _ ∧ Below wr.heap.size wr _›; refine (hless _).mono ?_; rintro e wz ⟨rfl, g1⟩; have g2 := Below.comp hw0 g1; clear g1 hw0))
            have gz : Below W1.heap.size W1 wz := Below.comp hbq g2
            have hlb : lb ltS (p, q) m = j := lb_first (by have := HM.out; omega) HJ.out (fun _ => by rw [HY.out]; exact hr)
            clear hr hless SB g2
            generalize hxx : (some ⟨g, og, none⟩ : Option Addr) = x at *
            clear hxx
            have HLB : Hid _ := hlb
            clear hlb
            obtain ⟨Z, hZ⟩ : ∃ Z, wz.heap.size = Z := ⟨_, rfl⟩
            have hto := slice_to x k cx j (by omega)
            have hfr := slice_from x k cx j (by omega)
            have rz : Exs wz x m := by have := rm.below gz; rw [HM.out] at this; exact this
            have n1 : OwnR wz Z (.slice none 0 0) [] := OwnR.nil _ _
            have lt1 : (m.take j).length = j := by have := HM.out; simp; omega
            have lt2 : (m.drop j).length = k - j := by have := HM.out; simp; omega
            have st : Hid _ := RowX.src (rz.take cx j (by have := HM.out; omega))
            rw [lt1] at st
            have HDz : Hid (wz.heap[D]? = _) := box_on HD.out gz
            have S1 : Hid (∀ w1, Below Z wz w1 → w1.cell? ⟨D, 0, none⟩ = some (.int .i64 p) ∧ w1.cell? ⟨D, 1, none⟩ = some (.int .i64 q)) := fun w1 h => by
              obtain ⟨h0, h1, -, -⟩ := box2_cells (box_on HDz.out (hZ ▸ h))
              exact ⟨h0, h1⟩
            have S3 : Hid (∀ w2, Below Z wz w2 → k - j = 0 ∨ ∃ ad, subA x j cx = some ad ∧ ∀ t u, (cxs (m.drop j))[t]? = some u → w2.cell? (ad.add t) = some u) := fun w2 h => by
              have := RowX.src ((rz.below (hZ ▸ h)).drop cx j (by have := HM.out; omega))
              rwa [lt2] at this
            have gzZ : Below Z wz wz := Below.refl _ _
            have zZ : Z ≤ wz.heap.size := by omega
            clear rz rm
            go_wp2_with (first
              | (at_builtin; refine wpList_append_src rfl _ _ 22 rfl Z 36 _ 2 16 Try.underlying22 info31 rfl (by decide) (.slice none 0 0) 0 [] rfl n1 (subA x 0 cx) j cx (cxs (m.take j)) rfl (by rw [cxs_len, lt1]) st.out (cxs_one _) (by omega) (by decide) (by omega) ?_; intro v1 w1 own1 gr1; have g1 := grown_on gzZ zZ n1 gr1; obtain ⟨c0, c1⟩ := S1.out w1 g1; rw [Nat.zero_add, List.nil_append] at own1; have own1a := owns_below own1 (below_alloc w1 (.cells #[.int .i64 p, .int .i64 q] 36)); have z1 := g1.size; have g1a : Below Z wz (w1.alloc (.cells #[.int .i64 p, .int .i64 q] 36)) := g1.alloc (by omega) _; have z1a : Z ≤ (w1.alloc (.cells #[.int .i64 p, .int .i64 q] 36)).heap.size := Nat.le_trans zZ g1a.size; have HG1 : Hid _ := gr1; clear gr1 n1)
              | (at_builtin; refine wpList_append_src rfl _ _ 22 rfl Z 36 _ 2 16 Try.underlying22 info31 rfl (by decide) v1 j (cxs (m.take j)) rfl own1a (some ⟨w1.heap.size, 0, none⟩) 1 1 (cxs [(p, q)]) rfl rfl (src_one w1 p q 36) (cxs_one _) (by omega) (by decide) z1a ?_; intro v2 w2 own2 gr2; have g2 : Below Z wz w2 := g1a.trans (Grown.below gr2 z1a (owns_ge own1a)); have z2 : Z ≤ w2.heap.size := Nat.le_trans zZ g2.size; have s3 := S3.out w2 g2; clear gr2 own1 own1a)
              | (at_builtin; refine wpList_append_src rfl _ _ 22 rfl Z 36 _ 2 16 Try.underlying22 info31 rfl (by decide) v2 (j + 1) (cxs (m.take j) ++ cxs [(p, q)]) rfl own2 (subA x j cx) (k - j) (cx - j) (cxs (m.drop j)) rfl (by rw [cxs_len, lt2]) s3 (cxs_one _) (by omega) (by decide) z2 ?_; intro v3 w3 own3 gr3; have g3 : Below Z wz w3 := g2.trans (Grown.below gr3 z2 (owns_ge own2)); clear gr3))
            go_roundw
            case rel =>
              have e : srt (l.take (k + 1)) = m.take j ++ ([(p, q)] ++ m.drop j) := by rw [HS.out, ins_eq, wth, HLB.out]; rfl
              have e2 : (m.take j ++ ([(p, q)] ++ m.drop j)).length = j + 1 + (k - j) := by rw [List.length_append, List.length_append, lt1, lt2]; simp; omega
              have own4 : OwnR w3 w.heap.size v3 (srt (l.take (k + 1))) := by
                unfold OwnR
                rw [e, e2, cxs_app, cxs_app, ← List.append_assoc]
                exact owns_mono own3 (by have := hb.size; have := b1.size; have := gz.size; omega)
              obtain ⟨x3, c3, e3⟩ := owns_form own3
              exact ⟨k + 1, x3, c3, by omega, by go_num, by rw [e3, show j + 1 + (k - j) = k + 1 by omega], own4, Below.comp (Below.comp (Below.comp hb b1) gz) (hZ ▸ g3)⟩
            case measure => simp [intOf]; omega
        · have hj' : j = k := by omega
          clear d0 d1
          have hjn : decide ((j : Int) < (k : Int)) = false := by simp; omega
          have hlb : lb ltS (p, q) m = j := lb_first (by have := HM.out; omega) HJ.out (fun h => by have := HM.out; omega)
          have HLB : Hid _ := hlb
          have HJK : Hid _ := hj'
          clear hlb hj'
          go_wp2
          go_quiet (fail)
          obtain ⟨wz, hwz⟩ : ∃ wz, wr.drewN nq = wz := ⟨_, rfl⟩
          have gz : Below W1.heap.size W1 wz := by subst hwz; exact below_drewN hbq _
          rw [hwz]
          clear hwz hjn hjk
          obtain ⟨Z, hZ⟩ : ∃ Z, wz.heap.size = Z := ⟨_, rfl⟩
          have hto := slice_to x k cx j (by omega)
          have hfr := slice_from x k cx j (by omega)
          have rz : Exs wz x m := by have := rm.below gz; rw [HM.out] at this; exact this
          have n1 : OwnR wz Z (.slice none 0 0) [] := OwnR.nil _ _
          have lt1 : (m.take j).length = j := by have := HM.out; simp; omega
          have lt2 : (m.drop j).length = k - j := by have := HM.out; simp; omega
          have st : Hid _ := RowX.src (rz.take cx j (by have := HM.out; omega))
          rw [lt1] at st
          have HDz : Hid (wz.heap[D]? = _) := box_on HD.out gz
          have S1 : Hid (∀ w1, Below Z wz w1 → w1.cell? ⟨D, 0, none⟩ = some (.int .i64 p) ∧ w1.cell? ⟨D, 1, none⟩ = some (.int .i64 q)) := fun w1 h => by
            obtain ⟨h0, h1, -, -⟩ := box2_cells (box_on HDz.out (hZ ▸ h))
            exact ⟨h0, h1⟩
          have S3 : Hid (∀ w2, Below Z wz w2 → k - j = 0 ∨ ∃ ad, subA x j cx = some ad ∧ ∀ t u, (cxs (m.drop j))[t]? = some u → w2.cell? (ad.add t) = some u) := fun w2 h => by
            have := RowX.src ((rz.below (hZ ▸ h)).drop cx j (by have := HM.out; omega))
            rwa [lt2] at this
          have gzZ : Below Z wz wz := Below.refl _ _
          have zZ : Z ≤ wz.heap.size := by omega
          clear rz rm
          go_wp2_with (first
            | (at_builtin; refine wpList_append_src rfl _ _ 22 rfl Z 36 _ 2 16 Try.underlying22 info31 rfl (by decide) (.slice none 0 0) 0 [] rfl n1 (subA x 0 cx) j cx (cxs (m.take j)) rfl (by rw [cxs_len, lt1]) st.out (cxs_one _) (by omega) (by decide) (by omega) ?_; intro v1 w1 own1 gr1; have g1 := grown_on gzZ zZ n1 gr1; obtain ⟨c0, c1⟩ := S1.out w1 g1; rw [Nat.zero_add, List.nil_append] at own1; have own1a := owns_below own1 (below_alloc w1 (.cells #[.int .i64 p, .int .i64 q] 36)); have z1 := g1.size; have g1a : Below Z wz (w1.alloc (.cells #[.int .i64 p, .int .i64 q] 36)) := g1.alloc (by omega) _; have z1a : Z ≤ (w1.alloc (.cells #[.int .i64 p, .int .i64 q] 36)).heap.size := Nat.le_trans zZ g1a.size; have HG1 : Hid _ := gr1; clear gr1 n1)
            | (at_builtin; refine wpList_append_src rfl _ _ 22 rfl Z 36 _ 2 16 Try.underlying22 info31 rfl (by decide) v1 j (cxs (m.take j)) rfl own1a (some ⟨w1.heap.size, 0, none⟩) 1 1 (cxs [(p, q)]) rfl rfl (src_one w1 p q 36) (cxs_one _) (by omega) (by decide) z1a ?_; intro v2 w2 own2 gr2; have g2 : Below Z wz w2 := g1a.trans (Grown.below gr2 z1a (owns_ge own1a)); have z2 : Z ≤ w2.heap.size := Nat.le_trans zZ g2.size; have s3 := S3.out w2 g2; clear gr2 own1 own1a)
            | (at_builtin; refine wpList_append_src rfl _ _ 22 rfl Z 36 _ 2 16 Try.underlying22 info31 rfl (by decide) v2 (j + 1) (cxs (m.take j) ++ cxs [(p, q)]) rfl own2 (subA x j cx) (k - j) (cx - j) (cxs (m.drop j)) rfl (by rw [cxs_len, lt2]) s3 (cxs_one _) (by omega) (by decide) z2 ?_; intro v3 w3 own3 gr3; have g3 : Below Z wz w3 := g2.trans (Grown.below gr3 z2 (owns_ge own2)); clear gr3))
          go_roundw
          case rel =>
            have e : srt (l.take (k + 1)) = m.take j ++ ([(p, q)] ++ m.drop j) := by rw [HS.out, ins_eq, wth, HLB.out]; rfl
            have e2 : (m.take j ++ ([(p, q)] ++ m.drop j)).length = j + 1 + (k - j) := by rw [List.length_append, List.length_append, lt1, lt2]; simp; omega
            have own4 : OwnR w3 w.heap.size v3 (srt (l.take (k + 1))) := by
              unfold OwnR
              rw [e, e2, cxs_app, cxs_app, ← List.append_assoc]
              exact owns_mono own3 (by have := hb.size; have := b1.size; have := gz.size; omega)
            obtain ⟨x3, c3, e3⟩ := owns_form own3
            exact ⟨k + 1, x3, c3, by omega, by go_num, by rw [e3, show j + 1 + (k - j) = k + 1 by omega], own4, Below.comp (Below.comp (Below.comp hb b1) gz) (hZ ▸ g3)⟩
          case measure => simp [intOf]; omega
    · have hkn : k = n := by omega
      subst hkn
      obtain ⟨o1, o2, o3⟩ := HO.out.own
      have e : l.take k = l := List.take_of_length_le (by have := HL.out; omega)
      rw [e] at o1
      have HO1 : Hid _ := o1
      clear o1 o2 o3
      go_wp2
      go_ret
      exact ⟨hb, _, _, rfl, HO1.out⟩
end Go.Proofs.Ytpafeophdgnkmaa
