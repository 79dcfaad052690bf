import Derived.Test.YtfphffbclpmobaaM7
import Derived.Test.YtfphffbclpmobaaZf
import Derived.Test.YtfphffbclpmobaaC3
/- impl.dropFile. -/
namespace Go.Proofs.Ytfphffbclpmobaa
open Go.ChangeShapes Go.WideShapes Go.ChangeAt Go.RowKit Go.Maps
set_option linter.unusedVariables false
open Hd

attribute [local go_sem] Oper.semAt_some

theorem cell_past {B C : Nat} {w w' : World} {b o : Nat} {v : Value} (hc : w.cell? ⟨b, o, none⟩ = some v) (h : Out B C w w') (hd : b < B ∨ C ≤ b) : w'.cell? ⟨b, o, none⟩ = some v := cell_same hc (h.block b (lt_of_cell hc) hd)
set_option maxHeartbeats 4000000 in
set_option maxRecDepth 20000 in
theorem dropFile_any (lo ob M n N file : Nat) (g : SG) (y : Value) (F : List (List ByteArray)) (w : World)
    (hB : w.heap[ob]? = some (.cells #[.map (some M), y] 52 (0, 0))) (h1 : lo ≤ ob) (h2 : lo ≤ M) (h3 : M ≠ ob) (hG : GM w M n g N) (hn : n + (gt F file).length < 1000000)
    (hF : FRow w lo ob M y F) (hFl : F.length ≤ 1000) (hfile : file < F.length) (hOk : ∀ k, k < (gt F file).length → (gs (gt F file) k).size ≤ maxLen ∧ ∃ p q, (drL (g, N) ((gt F file).take k)).1 (gs (gt F file) k) = some (p, q) ∧ 1 ≤ q ∧ q ≤ 1000000) :
    Calls Try.prog 20 #[.pointer (some ⟨ob, 0, none⟩), .int .i64 (file : Int)] w fun e w' => e = .returned (.tuple #[]) ∧ Below lo w w' ∧ ∃ y', w'.heap[ob]? = some (.cells #[.map (some M), y'] 52 (0, 0)) ∧ GM w' M (n + (gt F file).length) (drL (g, N) (gt F file)).1 (drL (g, N) (gt F file)).2 ∧ RdF w' y' (F.eraseIdx file) := by
  have HB : Hid (w.heap[ob]? = some (.cells #[.map (some M), y] 52 (0, 0))) := hB
  have HF : Hid (FRow w lo ob M y F) := hF
  have HNe : Hid (M ≠ ob) := h3
  obtain ⟨yg, yc, rfl, hrd⟩ := hF.read (by omega)
  obtain ⟨v, c0, hT⟩ := hrd file hfile
  have hylt := hF.lt yg (by simp [Value.ownBlock])
  have hyne : yg ≠ ob ∧ yg ≠ M := by
    obtain ⟨vs, -, hne, -⟩ := hF
    exact hne yg (by simp [Value.ownBlock])
  obtain ⟨ta, tc, rfl, -, hr⟩ := hT
  obtain ⟨l, hl⟩ : ∃ l, gt F file = l := ⟨_, rfl⟩
  rw [hl] at c0 hr hOk hn ⊢
  clear hl hrd hB hF h3
  have HOk : Hid _ := hOk
  have HT : Hid _ := hr
  clear hOk hr
  obtain ⟨m, hm⟩ : ∃ m, l.length = m := ⟨_, rfl⟩
  have Hm : Hid (l.length = m) := hm
  rw [hm] at hn HOk c0
  have hGM0 : Hid (GM w M n g N) := hG
  rw [hm]
  clear hm hG
  have hfi : (file : Int) < (F.length : Int) := by omega
  obtain ⟨o0, o1, p0, p1⟩ := box2_cells HB.out
  go_enter Try.func20, Try.ntmps20
  go_wp2
  clear o0 o1 p0 p1
  go_loopw [15] (fun i ws => ∃ (k : Nat), k ≤ m ∧ i = .int .i64 (k : Int) ∧ Hid (GM ws M (n + k) (drL (g, N) (l.take k)).1 (drL (g, N) (l.take k)).2) ∧ Out M (M + 1) w ws) (fun i _ => m - (intOf i).toNat)
  case atStart => exact ⟨0, Nat.zero_le _, rfl, hGM0, Out.refl _ _ _⟩
  case round =>
    obtain ⟨k, hk, rfl, HG, ho⟩ := hrel
    by_cases hlt : k < m
    · obtain ⟨b, off, ea, -, hb1, hb2, -, hcell⟩ := HT.out (by rw [Hm.out]; omega)
      subst ea
      have t0w := hcell k (by rw [Hm.out]; exact hlt)
      have t0 : wr.cell? ⟨b, off + k, none⟩ = some (.string (gs l k)) := cell_same t0w (ho.block b (lt_of_cell t0w) (by omega))
      clear hcell t0w
      have hkn : (k : Int) < (m : Int) := by omega
      obtain ⟨hsz, p, q, hgt, hq1, hq2⟩ := HOk.out k hlt
      have HSz : Hid _ := hsz
      have HSt : Hid (drL (g, N) (l.take (k + 1)) = dr1 (drL (g, N) (l.take k)) (gs l k)) := by show _ = _; rw [take_gs (by rw [Hm.out]; exact hlt), drL_snoc]
      obtain ⟨S, hS⟩ : ∃ S, drL (g, N) (l.take k) = S := ⟨_, rfl⟩
      rw [hS] at HG HSt hgt
      clear hS hsz
      obtain ⟨gg, NN⟩ := S
      simp only at HG hgt
      obtain ⟨tx, htx⟩ : ∃ tx, gs l k = tx := ⟨_, rfl⟩
      rw [htx] at t0 HSz HSt hgt
      clear htx
      have HOb : Hid (wr.heap[ob]? = some (.cells #[.map (some M), .slice (some ⟨yg, 0, none⟩) F.length yc] 52 (0, 0))) := box_out HB.out ho (by have := HNe.out; omega)
      obtain ⟨o0, o1, p0, p1⟩ := box2_cells HOb.out
      have hlk := HG.out.look tx HSz.out
      have HGt : Hid (gg tx = some (p, q)) := hgt
      have HS1 : Hid (drL (g, N) (l.take (k + 1)) = if q = 1 then (upG gg tx none, NN - 1) else (upG gg tx (some (p, q - 1)), NN)) := by
        show _ = _
        rw [HSt.out]
        unfold dr1
        rw [show (gg, NN).1 tx = some (p, q) from HGt.out]
      rw [hgt] at hlk
      simp only [sv] at hlk
      clear hgt
      obtain ⟨E, hE⟩ : ∃ E, wr.heap.size = E := ⟨_, rfl⟩
      have hME : Hid (M < E) := by show M < E; rw [← hE]; exact HG.out.lt
      have hObE : Hid (ob < E) := by show ob < E; rw [← hE]; exact box_lt HOb.out
      obtain ⟨W2, hW2⟩ : ∃ W2, wr.alloc (.cells #[.int .i64 p, .int .i64 q] 71) = W2 := ⟨_, rfl⟩
      have b2 : Below wr.heap.size wr W2 := by subst hW2; exact below_alloc _ _
      have HE2 : Hid (W2.heap[E]? = some (.cells #[.int .i64 p, .int .i64 q] 71 (0, 0))) := by subst hW2 hE; exact al1 _ _
      have HO2 : Hid (W2.heap[ob]? = some (.cells #[.map (some M), .slice (some ⟨yg, 0, none⟩) F.length yc] 52 (0, 0))) := box_on HOb.out b2
      obtain ⟨x0, x1, f0, f1⟩ := box2_cells HE2.out
      obtain ⟨W3, hW3⟩ : ∃ W3, W2.setCell ⟨E, 1, none⟩ (.int .i64 (q - 1)) = W3 := ⟨_, rfl⟩
      have HE3 : Hid (W3.heap[E]? = some (.cells #[.int .i64 p, .int .i64 (q - 1)] 71 (0, 0))) := by subst hW3; exact block_set HE2.out
      have o3 : Out E (E + 1) W2 W3 := by subst hW3; exact (Out.refl _ _ _).setCell (by omega) (by omega) _ _
      have HO3 : Hid (W3.heap[ob]? = some (.cells #[.map (some M), .slice (some ⟨yg, 0, none⟩) F.length yc] 52 (0, 0))) := box_out HO2.out o3 (by have := hObE.out; omega)
      have HG3 : Hid (GM W3 M (n + k) gg NN) := (HG.out.below b2).out o3 (.inl hME.out)
      have HB3 : Hid (Below wr.heap.size wr W3) := b2.trans ((o3.below (by have := box_lt HE2.out; omega)).mono (by omega))
      go_wp2_with fail
      have SB : Hid (∀ W, Below W3.heap.size W3 W → W.cell? ⟨ob, 0, none⟩ = some (.map (some M)) ∧ (W.cell? ⟨E, 0, none⟩ = some (.int .i64 p) ∧ W.cell? ⟨E, 1, none⟩ = some (.int .i64 (q - 1))) ∧ Below W3.heap.size W3 W) := fun W h => ⟨(box2_cells (box_on HO3.out h)).1, ⟨(box2_cells (box_on HE3.out h)).1, (box2_cells (box_on HE3.out h)).2.1⟩, h⟩
      refine wp_region_noPanic ?_
      refine wp_region_L (fun W => W.cell? ⟨ob, 0, none⟩ = some (.map (some M)) ∧ (W.cell? ⟨E, 0, none⟩ = some (.int .i64 p) ∧ W.cell? ⟨E, 1, none⟩ = some (.int .i64 (q - 1))) ∧ Below W3.heap.size W3 W) 6 7 (by kernel_rfl) rfl (SB.out _ (Below.drew (Below.refl _ _))) (fun hS0 => ?_)
      refine tkL (i := 0) (d := 29) (v := ?_) rfl rfl (by kernel_rfl) (by kernel_rfl) (by kernel_rfl) (by kernel_rfl) (fun _ _ _ h => h) (Or.inl ⟨by rfl, by intro wq hSq; obtain ⟨hq1, hq2, hq3⟩ := hSq; go_simp; try with_reducible rfl⟩) (by assumption) ?_
      simp only [List.setIfInBounds_toArray, List.set_cons_zero, List.set_cons_succ]
      refine tkL (i := 1) (d := 30) (v := ?_) rfl rfl (by kernel_rfl) (by kernel_rfl) (by kernel_rfl) (by kernel_rfl) (fun _ _ _ h => h) (Or.inl ⟨by rfl, by intro wq hSq; obtain ⟨hq1, hq2, hq3⟩ := hSq; go_simp; try with_reducible rfl⟩) (by assumption) ?_
      simp only [List.setIfInBounds_toArray, List.set_cons_zero, List.set_cons_succ]
      refine tkL (i := 2) (d := 31) (v := ?_) rfl rfl (by kernel_rfl) (by kernel_rfl) (by kernel_rfl) (by kernel_rfl) (fun _ _ _ h => h) (Or.inl ⟨by rfl, by intro wq hSq; obtain ⟨hq1, hq2, hq3⟩ := hSq; go_simp; try with_reducible rfl⟩) (by assumption) ?_
      simp only [List.setIfInBounds_toArray, List.set_cons_zero, List.set_cons_succ]
      refine tkL (i := 3) (d := 32) (v := ?_) rfl rfl (by kernel_rfl) (by kernel_rfl) (by kernel_rfl) (by kernel_rfl) (fun _ _ _ h => h) (Or.inl ⟨by rfl, by intro wq hSq; obtain ⟨hq1, hq2, hq3⟩ := hSq; go_simp; try with_reducible rfl⟩) (by assumption) ?_
      simp only [List.setIfInBounds_toArray, List.set_cons_zero, List.set_cons_succ]
      refine tkL (i := 4) (d := 33) (v := ?_) rfl rfl (by kernel_rfl) (by kernel_rfl) (by kernel_rfl) (by kernel_rfl) (fun _ _ _ h => h) (Or.inl ⟨by rfl, by intro wq hSq; obtain ⟨hq1, hq2, hq3⟩ := hSq; go_simp; try with_reducible rfl⟩) (by assumption) ?_
      simp only [List.setIfInBounds_toArray, List.set_cons_zero, List.set_cons_succ]
      refine tkL (i := 5) (d := 34) (v := ?_) rfl rfl (by kernel_rfl) (by kernel_rfl) (by kernel_rfl) (by kernel_rfl) (fun _ _ _ h => h) (Or.inl ⟨by rfl, by intro wq hSq; obtain ⟨hq1, ⟨hq2, hq4⟩, hq3⟩ := hSq; go_simp; try with_reducible rfl⟩) (by assumption) ?_
      simp only [List.setIfInBounds_toArray, List.set_cons_zero, List.set_cons_succ]
      refine lastL rfl (by kernel_rfl) (by kernel_rfl) (fun K hK => ?_)
      rw [if_pos (by rfl)]
      have hgm := HG3.out.below (Below.drew (Below.refl W3.heap.size W3))
      refine wp_gput _ _ _ _ rfl M (n + k) _ _ tx _ _ rfl hgm (by omega) HSz.out rfl rfl ?_
      intro w7 hG7 ht7
      refine hK.out _ _ (NoPanic.normal ?_)
      clear hK K
      rw [HGt.out] at hG7
      simp only [Option.isSome, if_true] at hG7
      have O7 : Hid (Out M (M + 1) w w7) := ho.trans ((Out.of_below HB3.out).trans ((Out.of_below (Below.drew (Below.refl W3.heap.size W3))).trans (turned_out ht7)))
      have HG7 : Hid _ := hG7
      have HE7 : Hid (w7.heap[E]? = some (.cells #[.int .i64 p, .int .i64 (q - 1)] 71 (0, 0))) := box_out (box_on HE3.out (Below.drew (Below.refl W3.heap.size W3))) (turned_out ht7) (.inr hME.out)
      have HO7 : Hid (w7.heap[ob]? = some (.cells #[.map (some M), .slice (some ⟨yg, 0, none⟩) F.length yc] 52 (0, 0))) := box_out (box_on HO3.out (Below.drew (Below.refl W3.heap.size W3))) (turned_out ht7) (by have := HNe.out; omega)
      clear hG7 ht7 hgm hS0 SB x0 x1 f0 f1 o0 o1 p0 p1 hW3 hW2
      obtain ⟨x0, x1, -, -⟩ := box2_cells HE7.out
      obtain ⟨o0, o1, -, -⟩ := box2_cells HO7.out
      by_cases hq : q = 1
      · subst hq
        go_wp2_with (at_delete; refine wpList_gdel _ rfl _ _ rfl M (n + (k + 1)) _ _ tx rfl (GM.mono HG7.out (by omega)) HSz.out rfl ?_; intro w8 hG8 ht8; have O8 : Hid (Out M (M + 1) w w8) := O7.out.trans (turned_out ht8); have HG8 : Hid _ := hG8; clear hG8 ht8)
        go_roundw
        case rel =>
          refine ⟨k + 1, by omega, by go_num, ?_, O8.out⟩
          rw [HS1.out, if_pos rfl]
          have h8 := HG8.out
          have e1 : upG (upG gg tx (some (p, 1 - 1))) tx none = upG gg tx none := by funext x; unfold upG; split <;> rfl
          have e2 : (upG gg tx (some (p, 1 - 1)) tx).isSome = true := by simp [upG]
          rw [e1, e2] at h8
          simp only [if_true] at h8
          exact h8
        case measure => simp [intOf]; omega
      · have hq0 : ¬ q - 1 = 0 := by omega
        have hqb : (q - 1 == 0) = false := by simp; omega
        go_wp2_with fail
        go_roundw
        case rel =>
          refine ⟨k + 1, by omega, by go_num, ?_, O7.out⟩
          rw [HS1.out, if_neg hq]
          exact HG7.out
        case measure => simp [intOf]; omega
    · have hkm : k = m := by omega
      subst hkm
      have hfin : l.take k = l := List.take_of_length_le (by rw [Hm.out]; exact Nat.le_refl _)
      have HGf : Hid (GM wr M (n + k) (drL (g, N) l).1 (drL (g, N) l).2) := by have := HG.out; rwa [hfin] at this
      clear hfin
      have HOb : Hid (wr.heap[ob]? = some (.cells #[.map (some M), .slice (some ⟨yg, 0, none⟩) F.length yc] 52 (0, 0))) := box_out HB.out ho (by have := HNe.out; omega)
      obtain ⟨o0, o1, p0, p1⟩ := box2_cells HOb.out
      have hFr := HF.out
      obtain ⟨vs, hown, -, hrows⟩ := hFr
      obtain ⟨cu, hcu, hyc, hycm, hget⟩ : ∃ cu, w.heap[yg]? = some (.cells cu 72 (0, 0)) ∧ F.length ≤ yc ∧ yc ≤ 9223372036854775807 ∧ ∀ i, i < F.length → cu[i]? = vs[i]? := by
        rcases hown.2 with ⟨e, h0⟩ | ⟨g', cap, cur, e, hb, hg, hc, hm', hcs, ht⟩
        · omega
        · simp only [Value.slice.injEq, Option.some.injEq, Addr.mk.injEq, true_and] at e
          obtain ⟨⟨rfl, -⟩, rfl⟩ := e
          unfold maxLen at hm'
          refine ⟨cur, hg, hc, hm', fun i hi => ?_⟩
          rw [← ht, List.getElem?_take, if_pos (by omega)]
          simp
      have hch : ∃ f : Nat → Option Addr × Nat × Nat, ∀ i, i < F.length → vs[i]? = some (encT (f i)) ∧ ∃ ta tc, f i = (ta, (gt F i).length, tc) ∧ Strs w ta (gt F i) ∧ ((gt F i).length ≠ 0 → ∃ b off, ta = some ⟨b, off, none⟩ ∧ b ≠ M ∧ b ≠ ob ∧ b ≠ yg) := by
        have hv : ∀ i, i < F.length → ∃ p : Option Addr × Nat × Nat, vs[i]? = some (encT p) ∧ ∃ ta tc, p = (ta, (gt F i).length, tc) ∧ Strs w ta (gt F i) ∧ ((gt F i).length ≠ 0 → ∃ b off, ta = some ⟨b, off, none⟩ ∧ b ≠ M ∧ b ≠ ob ∧ b ≠ yg) := fun i hi => by
          obtain ⟨v, h1, hT⟩ := hrows i hi
          have hT' := hT
          obtain ⟨ta, tc, rfl, -, hr⟩ := hT
          obtain ⟨a2, c2, e2, -, hst⟩ := hT'.strs
          simp only [Value.slice.injEq] at e2
          obtain ⟨rfl, -, rfl⟩ := e2
          exact ⟨(ta, (gt F i).length, tc), h1, ta, tc, rfl, hst, fun hn => by
            obtain ⟨b, off, e1, -, e3, e4, e5, -⟩ := hr hn
            exact ⟨b, off, e1, e4, e3, fun e => e5 (by simp [Value.ownBlock, e])⟩⟩
        exact ⟨fun i => if h : i < F.length then Classical.choose (hv i h) else (none, 0, 0), fun i hi => by
          simp only [dif_pos hi]
          exact Classical.choose_spec (hv i hi)⟩
      obtain ⟨f, hf⟩ := hch
      have hyw : wr.heap[yg]? = some (.cells cu 72 (0, 0)) := box_out hcu ho (by omega)
      have cD := delete_any yg F.length yc file f wr (fun i hi => ⟨cell_of_block hyw (by rw [hget i hi]; exact (hf i hi).1), free_of_block hyw⟩) hyc hycm hfile (box_lt hyw)
      have Hf : Hid _ := hf
      have hMlt : M < w.heap.size := hGM0.out.lt
      have hzw := ho.size
      have hyb : lo ≤ yg := by
        rcases hown.2 with ⟨e, h0⟩ | ⟨g', cap, cur, e, hb, -⟩
        · omega
        · simp only [Value.slice.injEq, Option.some.injEq, Addr.mk.injEq, true_and] at e
          obtain ⟨⟨rfl, -⟩, -⟩ := e
          exact hb
      have hlen1 : F.length - 1 < 1000 := by omega
      have Hy : Hid (yg < wr.heap.size) := box_lt hyw
      clear hown hrows hcu hget hf hyw
      go_wp2_with fail
      refine cD.mono ?_
      rintro e w8 ⟨rfl, o8, hc8⟩
      have HC8 : Hid _ := hc8
      have HO8 : Hid (w8.heap[ob]? = some (.cells #[.map (some M), .slice (some ⟨yg, 0, none⟩) F.length yc] 52 (0, 0))) := box_out HOb.out o8 (by omega)
      clear o0 o1 p0 p1 hc8
      obtain ⟨o0, o1, p0, p1⟩ := box2_cells HO8.out
      obtain ⟨W9, hW9⟩ : ∃ W9, w8.setCell ⟨ob, 1, none⟩ (.slice (some ⟨yg, 0, none⟩) (F.length - 1) yc) = W9 := ⟨_, rfl⟩
      have o9 : Hid (Out ob (ob + 1) w8 W9) := by subst hW9; exact out_setCell _ _ _ _
      have HO9 : Hid (W9.heap[ob]? = some (.cells #[.map (some M), .slice (some ⟨yg, 0, none⟩) (F.length - 1) yc] 52 (0, 0))) := by subst hW9; exact block_set HO8.out
      have HO8' : Hid (Out yg (yg + 1) wr w8) := o8
      have HoW : Hid (Out M (M + 1) w wr) := ho
      clear o8 ho
      go_wp2
      go_end0
      have hne := HNe.out
      refine ⟨rfl, ?_, _, HO9.out, ?_, ?_⟩
      · have hobs := box_lt HB.out
        have h8 := HO8'.out.size
        exact (((HoW.out.below (by omega)).mono h2).trans ((HO8'.out.below (Nat.le_of_lt Hy.out)).mono hyb)).trans ((o9.out.below (by omega)).mono h1)
      · exact (HGf.out.out HO8'.out (by omega)).out o9.out (by omega)
      · have hel : (F.eraseIdx file).length = F.length - 1 := by rw [List.length_eraseIdx]; rw [if_pos hfile]
        refine ⟨some ⟨yg, 0, none⟩, yc, by rw [hel], fun _ => ⟨yg, rfl, fun i hi => ?_⟩⟩
        rw [hel] at hi
        have hk : (if i < file then i else i + 1) < F.length := by split <;> omega
        obtain ⟨-, ta, tc, e1, e2, e3⟩ := Hf.out _ hk
        have hge : gt (F.eraseIdx file) i = gt F (if i < file then i else i + 1) := by
          unfold gt
          simp only [List.getD_eq_getElem?_getD, List.getElem?_eraseIdx]
          split <;> rfl
        have hc := HC8.out i hi
        rw [e1] at hc
        refine ⟨_, cell_past hc o9.out (by omega), ta, tc, (by rw [hge]; exact rfl), ?_⟩
        rw [hge]
        intro hn
        obtain ⟨b, off, rfl, hcell⟩ := e2 hn
        obtain ⟨b', off', e4, e5, e6, e7⟩ := e3 hn
        simp only [Option.some.injEq, Addr.mk.injEq] at e4
        obtain ⟨rfl, rfl, -⟩ := e4
        exact ⟨b, off, rfl, fun i' hi' => cell_past (cell_past (cell_past (hcell i' hi') HoW.out (by omega)) HO8'.out (by omega)) o9.out (by omega)⟩
end Go.Proofs.Ytfphffbclpmobaa
