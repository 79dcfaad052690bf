import Derived.Test.YtnanemkmmokdfaaO3
/- spec.PutText, the walk. -/
namespace Go.Proofs.Ytnanemkmmokdfaa
open Go.ChangeShapes Go.WideShapes Go.ChangeAt Go.RowKit
set_option linter.unusedVariables false
open Hd

attribute [local go_sem] Oper.semAt_some

/-- A vault in rows of one's own. -/
def RdV (w : World) (v : Value) (u : Va) : Prop := ∃ px pc fx fc B B', v = vv px u.pc.length pc fx u.fs.length fc ∧ OwnN w B (.slice px u.pc.length pc) u.pc ∧ OwnFi w B' (.slice fx u.fs.length fc) u.fs
theorem vz_at (w : World) : RdV w (vv none 0 0 none 0 0) vz := ⟨none, 0, none, 0, 0, 0, rfl, OwnN.nil _ _, OwnFi.nil _ _⟩
theorem RdV.below {w w' : World} {v : Value} {u : Va} (h : RdV w v u) (hb : Below w.heap.size w w') : RdV w' v u := by
  obtain ⟨px, pc, fx, fc, B, B', e, h1, h2⟩ := h
  exact ⟨px, pc, fx, fc, B, B', e, owns_below h1 hb, h2.below hb⟩
theorem RdV.out {w w' : World} {v : Value} {u : Va} {b : Nat} {c : Array Value} (h : RdV w v u) (ho : Out b (b + 1) w w') (hb : w.heap[b]? = some (.cells c 40 (0, 0))) : RdV w' v u := by
  obtain ⟨px, pc, fx, fc, B, B', e, h1, ks, h2, h3⟩ := h
  have k := KeepNot.of_out ho hb
  exact ⟨px, pc, fx, fc, B, B', e, k.owns h1 (by decide), ks, k.owns h2 (by decide), fun i hi => by obtain ⟨g, hg⟩ := h3 i hi; exact ⟨g, hg.outT ho hb (by decide)⟩⟩
theorem vat_of {w : World} {B B' : Nat} {px y8 : Option Addr} {pc c8 nf : Nat} {P : List Nm} {L : List (List Int)} (h : OwnN w B (.slice px P.length pc) P) (k : OwnFi w B' (.slice y8 nf c8) L) (hL : L.length = nf) : VAt w (vv px P.length pc y8 nf c8) ⟨P, L⟩ := by
  obtain ⟨a1, c1, e2, e3, e4⟩ := h.names
  obtain ⟨a2, c2, e5, e6, e7⟩ := k.fis
  subst hL
  refine ⟨a1, c1, a2, c2, ?_, e3, e6, e4, e7⟩
  show Value.agg #[.slice px P.length pc, .slice y8 L.length c8] = Value.agg #[.slice a1 P.length c1, .slice a2 L.length c2]
  rw [← e2, ← e5]
theorem RdV.at_ {w : World} {v : Value} {u : Va} (h : RdV w v u) : VAt w v u := by
  obtain ⟨px, pc, fx, fc, B, B', rfl, h1, h2⟩ := h
  exact vat_of h1 h2 rfl
theorem set_last (P : List Nm) (a b : Nm) : (P ++ [a]).set P.length b = P ++ [b] := by simp
set_option maxRecDepth 20000 in
set_option maxHeartbeats 8000000 in
theorem specPut_any (v : Value) (u D : Va) (O : Bool) (s : ByteArray) (w : World) (hc : VAt w v u) (hf : FewV u) (hs : Sml u) (hl : s.size ≤ 9223372036854775807) (hR : ptR u s D O) :
    Calls Try.prog 39 #[v, .string s] w fun e w' => Below w.heap.size w w' ∧ ∃ v', e = .returned (.tuple #[v', .bool O]) ∧ RdV w' v' D := by
  have HC : Hid (∀ W, Below w.heap.size w W → VAt W v u) := fun W h => hc.below h
  have HFS : Hid (FewV u ∧ Sml u) := ⟨hf, hs⟩
  have HPf : Hid ((paR s).length ≤ 134 ∧ ∀ i, i < (paR s).length → 1 ≤ (gs (paR s) i).size ∧ (gs (paR s) i).size ≤ 24) := paR_fits s
  have HR : Hid (ptR u s D O) := hR
  obtain ⟨a, ca, a', ca', rfl, -, -, -, -⟩ := hc
  obtain ⟨z, hz⟩ : ∃ z, w.heap.size = z := ⟨_, rfl⟩
  have Hz : Hid (w.heap.size = z) := hz
  obtain ⟨W0, hW0⟩ : ∃ W0, (w.alloc (.cells #[.slice a u.pc.length ca, .slice a' u.fs.length ca'] 40)).alloc (.cells #[.slice none 0 0, .slice none 0 0] 40) = W0 := ⟨_, rfl⟩
  have q0 : Below w.heap.size w W0 := by subst hW0; exact ba2 _ _ _
  obtain ⟨B1, B2⟩ : W0.heap[z]? = some (.cells #[.slice a u.pc.length ca, .slice a' u.fs.length ca'] 40 (0, 0)) ∧ W0.heap[z + 1]? = some (.cells #[.slice none 0 0, .slice none 0 0] 40 (0, 0)) := by subst hW0 hz; exact al2 _ _ _
  have H1 : Hid _ := B1
  have H2 : Hid _ := B2
  obtain ⟨i0, i1, -, -⟩ := box2_cells B1
  clear B1 B2 hf hs hl hR
  have ZERO : Hid (¬ ptOk u s → ∀ W, W.heap[z + 1]? = some (.cells #[.slice none 0 0, .slice none 0 0] 40 (0, 0)) → Below w.heap.size w W → ∃ W', (W.setCell ⟨z + 1, 0, none⟩ (.slice none 0 0)).setCell ⟨z + 1, 1, none⟩ (.slice none 0 0) = W' ∧ (W.cell? ⟨z + 1, 0, none⟩ = some (.slice none 0 0) ∧ W.cell? ⟨z + 1, 1, none⟩ = some (.slice none 0 0) ∧ W.frozen? ⟨z + 1, 0, none⟩ = false ∧ W.frozen? ⟨z + 1, 1, none⟩ = false) ∧ (W'.cell? ⟨z + 1, 0, none⟩ = some (.slice none 0 0) ∧ W'.cell? ⟨z + 1, 1, none⟩ = some (.slice none 0 0)) ∧ Hid (O = false ∧ Below w.heap.size w W' ∧ RdV W' (vv none 0 0 none 0 0) D)) := fun hno W hB hb => by
    have o1 : Out (z + 1) (z + 1 + 1) W ((W.setCell ⟨z + 1, 0, none⟩ (.slice none 0 0)).setCell ⟨z + 1, 1, none⟩ (.slice none 0 0)) := ((Out.refl _ _ _).setCell (by omega) (by omega) _ _).setCell (by omega) (by omega) _ _
    obtain ⟨t0, t1, -, -⟩ := box2_cells (box2_set (x0 := .slice none 0 0) (x1 := .slice none 0 0) hB)
    refine ⟨_, rfl, box2_cells hB, ⟨t0, t1⟩, ?_, hb.trans ((o1.below (Nat.le_of_lt (box_lt hB))).mono (by have := Hz.out; omega)), ?_⟩
    · rcases HR.out with ⟨h, -⟩ | ⟨-, -, h⟩
      · exact absurd h hno
      · exact h
    · rcases HR.out with ⟨h, -⟩ | ⟨-, h, -⟩
      · exact absurd h hno
      · rw [h]; exact vz_at _
  by_cases hg : GV u
  · have cG := fun W h => specGood_any (vv a u.pc.length ca a' u.fs.length ca') u true W h HFS.out.1 HFS.out.2 ⟨fun _ => hg, fun _ => rfl⟩
    have HGv : Hid (GV u) := hg
    have c0 := cG W0 (HC.out _ q0)
    by_cases h4 : s.size ≤ 400
    · have h4' : ¬ (400 : Int) < (s.size : Int) := by omega
      clear cG
      go_enter Try.func39, Try.ntmps39
      go_wp2_with fail
      refine c0.mono ?_
      rintro e w1 ⟨rfl, b1⟩
      clear i0 i1 c0 hW0
      have K1 : Hid (w1.heap[z]? = some (.cells #[.slice a u.pc.length ca, .slice a' u.fs.length ca'] 40 (0, 0))) := box_on H1.out b1
      obtain ⟨i0, i1, -, -⟩ := box2_cells K1.out
      have g1 : Below w.heap.size w w1 := Below.comp q0 b1
      have hz1 : z + 1 < w1.heap.size := box_lt (box_on H2.out b1)
      go_wp2_with fail
      refine (own15_any _ u w1 (HC.out _ g1) HGv.out.1.1 HGv.out.1.2 (fun i hi => (HGv.out.2.1 i hi).2)).mono ?_
      rintro e w2 ⟨b2, p, f, rfl, hp, hfi⟩
      obtain ⟨px, pc, rfl, -, -⟩ := hp.names
      obtain ⟨fx, fc, rfl, -, -⟩ := hfi.fis
      clear i0 i1
      have K2 : Hid (w2.heap[z]? = some (.cells #[.slice a u.pc.length ca, .slice a' u.fs.length ca'] 40 (0, 0))) := box_on K1.out b2
      have R2 : Hid (w2.heap[z + 1]? = some (.cells #[.slice none 0 0, .slice none 0 0] 40 (0, 0))) := box_on (box_on H2.out b1) b2
      obtain ⟨x0, x1, f0, f1⟩ := box2_cells K2.out
      obtain ⟨W3, hW3⟩ : ∃ W3, (w2.setCell ⟨z, 0, none⟩ (.slice px u.pc.length pc)).setCell ⟨z, 1, none⟩ (.slice fx u.fs.length fc) = W3 := ⟨_, rfl⟩
      have o3 : Out z (z + 1) w2 W3 := by subst hW3; exact ((Out.refl _ _ _).setCell (by omega) (by omega) _ _).setCell (by omega) (by omega) _ _
      have K3 : Hid (W3.heap[z]? = some (.cells #[.slice px u.pc.length pc, .slice fx u.fs.length fc] 40 (0, 0))) := by subst hW3; exact box2_set K2.out
      have R3 : Hid (W3.heap[z + 1]? = some (.cells #[.slice none 0 0, .slice none 0 0] 40 (0, 0))) := box_out R2.out o3 (by omega)
      have g3 : Below w.heap.size w W3 := (Below.comp g1 b2).trans ((o3.below (Nat.le_of_lt (box_lt K2.out))).mono (by omega))
      obtain ⟨fb, hfb⟩ : ∃ fb, W3.heap.size = fb := ⟨_, rfl⟩
      have Hfb : Hid (W3.heap.size = fb) := hfb
      obtain ⟨W4, hW4⟩ : ∃ W4, W3.alloc (.cells #[.slice none 0 0] 81) = W4 := ⟨_, rfl⟩
      have q4 : Below W3.heap.size W3 W4 := by subst hW4; exact below_alloc _ _
      have Y4 : Hid (W4.heap[fb]? = some (.cells #[.slice none 0 0] 81 (0, 0))) := by subst hW4 hfb; exact al1 _ _
      obtain ⟨y0, fy⟩ := box1_cells Y4.out
      obtain ⟨W4', hW4'⟩ : ∃ W4', W4.setCell ⟨fb, 0, none⟩ (.slice none 0 0) = W4' := ⟨_, rfl⟩
      have o4 : Out fb (fb + 1) W4 W4' := by subst hW4'; exact out_setCell _ _ _ _
      have Y5 : Hid (W4'.heap[fb]? = some (.cells #[.slice none 0 0] 81 (0, 0))) := by subst hW4'; exact box1_set Y4.out
      have q5 : Below W3.heap.size W3 W4' := q4.trans ((o4.below (Nat.le_of_lt (box_lt Y4.out))).mono (by omega))
      have HP4 : Hid (OwnN W4' w1.heap.size (.slice px u.pc.length pc) u.pc) := owns_below (owns_outS hp o3 (by omega)) q5
      have HF3 : Hid (OwnFi W3 w1.heap.size (.slice fx u.fs.length fc) u.fs) := hfi.outT o3 (by omega) K2.out (by decide)
      have hz3 : z + 1 < fb := by have := box_lt R3.out; omega
      clear hp hfi
      go_wp2_with fail
      refine (l15Pieces_any s _ h4).mono ?_
      rintro e W5 ⟨b5, lv, rfl, hol⟩
      obtain ⟨la, lc, rfl, -, -⟩ := hol.strs
      clear x0 x1 f0 f1 hW3 hW4 y0 fy hW4'
      have b35 : Below W3.heap.size W3 W5 := Below.comp q5 b5
      have g5 : Below w.heap.size w W5 := g3.trans (b35.mono g3.size)
      have hfb5 : fb < W5.heap.size := box_lt (box_on Y5.out b5)
      have PT0 : Hid (PtI w W5 W5 z fb px pc none 0 fx u.fs.length fc u.pc []) := ⟨box_on K3.out b35, box_on Y5.out b5, owns_mono (owns_below HP4.out b5) g1.size, OwnI.nil _ _, fun b c t _ _ hc => hc, fun b _ c t _ hc => hc, g5, Nat.le_refl _, by omega, by omega, hfb5, g5.size⟩
      have R5 : Hid (W5.heap[z + 1]? = some (.cells #[.slice none 0 0, .slice none 0 0] 40 (0, 0))) := box_on R3.out b35
      obtain ⟨l, hl⟩ : ∃ l, paR s = l := ⟨_, rfl⟩
      have Hl : Hid (paR s = l) := hl
      rw [hl] at hol HPf ⊢
      have HLr : Hid (∀ ws px pc qx qc P Q, PtI w W5 ws z fb px pc qx qc fx u.fs.length fc P Q → ∀ k, k < l.length → ∃ g, la = some ⟨g, 0, none⟩ ∧ ws.cell? ⟨g, k, none⟩ = some (.string (gs l k))) := fun ws px pc qx qc P Q h k hk => by
        rcases hol.2 with ⟨-, h0⟩ | ⟨g, cap, cur, e, hb, hg, hc, hm, hcs, ht⟩
        · omega
        · simp only [Value.slice.injEq, true_and] at e
          have hkk := css_at hk
          rw [← ht, List.getElem?_take, if_pos (by omega)] at hkk
          have hgz : g ≠ z := fun e' => by
            subst e'
            have := box_on K3.out b35
            rw [hg] at this
            simp at this
          exact ⟨g, e.1, cell_of_block (h.2.2.2.2.1 g cur 9 hgz (.inl rfl) hg) (by simpa using hkk)⟩
      obtain ⟨m, hm⟩ : ∃ m, l.length = m := ⟨_, rfl⟩
      have Hm : Hid (l.length = m) := hm
      rw [hm] at HPf ⊢
      clear hm hl hol
      have HUs : Hid (∀ k, k ≤ m → Dis (stL (u.pc, []) (l.take k)).1 ∧ (stL (u.pc, []) (l.take k)).1.length ≤ 300 ∧ (stL (u.pc, []) (l.take k)).2.length = k ∧ ∀ i, i < (stL (u.pc, []) (l.take k)).1.length → 1 ≤ (gm (stL (u.pc, []) (l.take k)).1 i).fl ∧ (gm (stL (u.pc, []) (l.take k)).1 i).fl ≤ 5000) := fun k hk => by
        have hn := stL_len (l.take k) (u.pc, [])
        have hlt : (l.take k).length = k := by rw [List.length_take, Hm.out]; omega
        have h100 := HGv.out.1.1
        have h134 := HPf.out.1
        have hu := UsI.all HGv.out (l.take k) (u.pc, []) (us_start HGv.out)
        refine ⟨(stL_rep (l.take k) (u.pc, []) (good_rep HGv.out) (good_num HGv.out)).1.dis, by have := hn.2.2; simp only at this; omega, by have := hn.1; simp at this; omega, fun i hi => ?_⟩
        obtain ⟨e1, e2⟩ := hu.2.2 i hi
        have h5 := tf_small HGv.out i
        have h6 : (stL (u.pc, []) (l.take k)).2.count (i : Int) ≤ (stL (u.pc, []) (l.take k)).2.length := List.count_le_length
        have h7 := hn.1
        simp at h7
        omega
      go_wp2_with fail
      go_loopw [25] (fun ii ws => ∃ (k : Nat) (px : Option Addr) (pc : Nat) (qx : Option Addr) (qc : Nat), k ≤ m ∧ ii = .int .i64 (k : Int) ∧ Hid (PtI w W5 ws z fb px pc qx qc fx u.fs.length fc (stL (u.pc, []) (l.take k)).1 (stL (u.pc, []) (l.take k)).2)) (fun ii _ => m - (intOf ii).toNat)
      case atStart => exact ⟨0, px, pc, none, 0, Nat.zero_le _, rfl, PT0⟩
      case round =>
        obtain ⟨k, px, pc, qx, qc, hk, rfl, HPt⟩ := hrel
        have hm134 := HPf.out.1
        by_cases hlt : k < m
        · obtain ⟨lg, hla, t0⟩ := HLr.out _ _ _ _ _ _ _ HPt.out k (by rw [Hm.out]; exact hlt)
          subst hla
          have hkm : (k : Int) < (m : Int) := by omega
          obtain ⟨hd, hPl, hQl, hus⟩ := HUs.out k hk
          have HTk : Hid (stL (u.pc, []) (l.take (k + 1)) = ((st1 (stL (u.pc, []) (l.take k)).1 (gs l k)).1, (stL (u.pc, []) (l.take k)).2 ++ [((st1 (stL (u.pc, []) (l.take k)).1 (gs l k)).2 : Int)])) := by
            show _ = _
            rw [take_gs (by rw [Hm.out]; exact hlt), stL_snoc]
          obtain ⟨S, hS⟩ : ∃ S, stL (u.pc, []) (l.take k) = S := ⟨_, rfl⟩
          rw [hS] at hd hPl hQl hus HTk HPt
          clear hS
          obtain ⟨P, Q⟩ := S
          simp only at hd hPl hQl hus HTk HPt
          obtain ⟨t, ht⟩ : ∃ t, gs l k = t := ⟨_, rfl⟩
          rw [ht] at t0 HTk
          clear ht
          have HUS : Hid _ := hus
          clear hus
          have hQ2 : Q.length ≤ 1000 := by have := HPf.out.1; omega
          have HQl : Hid (Q.length = k) := hQl
          have hr := atR_of hd t
          have k0 : wr.cell? ⟨z, 0, none⟩ = some (.slice px P.length pc) := (box2_cells HPt.out.1).1
          obtain ⟨na, nc, e1, -, hnm⟩ := OwnN.names HPt.out.2.2.1
          simp only [Value.slice.injEq, true_and] at e1
          obtain ⟨rfl, rfl⟩ := e1
          cases hli : lastI P P.length t with
          | none =>
            rw [hli] at hr
            simp only at hr
            have cA := l15At_is px P P.length pc t (-1) wr (by omega) (Nat.le_refl _) hnm hr
            have HS1 : Hid (st1 P t = (P ++ [⟨t, 1⟩], P.length)) := by show _ = _; unfold st1; rw [hli]
            clear hr hd hnm hli hQl
            go_wp2_with fail
            refine cA.mono ?_
            rintro e w6 ⟨rfl, b6⟩
            have HP6 : Hid (PtI w W5 w6 z fb px pc qx qc fx u.fs.length fc P Q) := HPt.out.below b6
            clear k0 t0 cA
            have k0 : w6.cell? ⟨z, 0, none⟩ = some (.slice px P.length pc) := (box2_cells HP6.out.1).1
            obtain ⟨W7, hW7⟩ : ∃ W7, w6.alloc (.cells #[.string t, .int .i64 0] 83) = W7 := ⟨_, rfl⟩
            have b7 : Below w6.heap.size w6 W7 := by subst hW7; exact below_alloc _ _
            have HP7 : Hid (PtI w W5 W7 z fb px pc qx qc fx u.fs.length fc P Q) := HP6.out.below b7
            have ownA : W7.ownsRow w.heap.size 83 2 (.slice px P.length pc) P.length (cns P) := HP7.out.2.2.1
            have srA := src_two w6 (.string t) (.int .i64 0) 83
            rw [hW7] at srA
            have zA : w.heap.size ≤ W7.heap.size := HP7.out.2.2.2.2.2.2.1.size
            have KEYA : Hid (∀ (v7 : Value) (w7 : World), w7.ownsRow w.heap.size 83 2 v7 (P.length + 1) (cns P ++ [.string t, .int .i64 0]) → W7.grownBy w7 (Value.slice px P.length pc).ownBlock →
                ∃ y7 c7 W8 W9 W10, v7 = .slice (some ⟨y7, 0, none⟩) (P.length + 1) c7 ∧ (w7.cell? ⟨z, 0, none⟩ = some (.slice px P.length pc) ∧ w7.frozen? ⟨z, 0, none⟩ = false) ∧ w7.setCell ⟨z, 0, none⟩ (.slice (some ⟨y7, 0, none⟩) (P.length + 1) c7) = W8 ∧
                  (W8.cell? ⟨z, 0, none⟩ = some (.slice (some ⟨y7, 0, none⟩) (P.length + 1) c7) ∧ W8.cell? ⟨y7, P.length * 2 + 1, none⟩ = some (.int .i64 0) ∧ W8.frozen? ⟨y7, P.length * 2 + 1, none⟩ = false) ∧ W8.setCell ⟨y7, P.length * 2 + 1, none⟩ (.int .i64 1) = W9 ∧
                  W9.cell? ⟨fb, 0, none⟩ = some (.slice qx Q.length qc) ∧ W9.alloc (.cells #[.int .i64 (P.length : Int)] 3) = W10 ∧ W10.ownsRow W5.heap.size 3 1 (.slice qx Q.length qc) Q.length (cis Q) ∧
                  ((1 : Nat) = 0 ∨ ∃ ad, some (⟨W9.heap.size, 0, none⟩ : Addr) = some ad ∧ ∀ j u, [Value.int .i64 (P.length : Int)][j]? = some u → W10.cell? (ad.add j) = some u) ∧ W5.heap.size ≤ W10.heap.size ∧ Hid (PtI w W5 W10 z fb (some ⟨y7, 0, none⟩) c7 qx qc fx u.fs.length fc (P ++ [⟨t, 1⟩]) Q)) := fun v7 w7 own7 gr7 => by
              obtain ⟨y7, c7, rfl, ⟨e0, e1⟩, h8⟩ := HP7.out.piece own7 gr7
              have hpl : (P ++ [(⟨t, 0⟩ : Nm)]).length = P.length + 1 := by simp
              obtain ⟨g, W9, W10, rfl, t0, t1, t2, h9, t3, h10, o1, o2, o3, HPn⟩ := h8.turn (i := P.length) (by simp)
              rw [gm_last] at t1 h9 HPn
              rw [hpl] at t0
              rw [set_last] at HPn
              exact ⟨g, c7, _, W9, W10, rfl, ⟨e0, e1⟩, rfl, ⟨t0, t1, t2⟩, h9, t3, h10, o1, o2, o3, HPn⟩
            go_wp2_with (first
              | (at_builtin; refine wpList_append_src rfl _ _ 37 rfl w.heap.size 83 _ 2 24 Try.underlying37 info47 rfl (by decide) (.slice px P.length pc) P.length (cns P) rfl ownA (some ⟨w6.heap.size, 0, none⟩) 1 1 [.string t, .int .i64 0] rfl rfl srA (by simp [Value.oneCell']) (by omega) (by decide) zA ?_; intro v7 w7 own7 gr7; obtain ⟨y7, c7, W8, W9, W10, rfl, ⟨e0, e1⟩, hW8, ⟨e2, e3, e4⟩, hW9, e5, hW10, ownB, srB, zB, HB⟩ := KEYA.out v7 w7 own7 gr7; clear own7 gr7)
              | (at_builtin; refine wpList_append_src rfl _ _ 27 rfl W5.heap.size 3 _ 1 8 Try.underlying27 info3 rfl (by decide) (.slice qx Q.length qc) Q.length (cis Q) rfl ownB (some ⟨W9.heap.size, 0, none⟩) 1 1 [.int .i64 (P.length : Int)] rfl rfl srB (by simp [Value.oneCell']) (by omega) (by decide) zB ?_; intro v11 w11 own11 gr11; obtain ⟨y11, c11, rfl, ⟨e6, e7⟩, hfin⟩ := HB.out.part own11 gr11; have HFn : Hid _ := hfin; clear own11 gr11 hfin))
            go_roundw
            case rel => exact ⟨k + 1, _, _, _, _, by omega, by go_num, by rw [HTk.out, HS1.out]; exact HFn⟩
            case measure => simp [intOf]; omega
          | some i =>
            obtain ⟨hi, hit, -⟩ := lastI_some hli
            rw [hli] at hr
            simp only at hr
            have cA := l15At_is px P P.length pc t (i : Int) wr (by omega) (Nat.le_refl _) hnm hr
            have HS1 : Hid (st1 P t = (P.set i ⟨(gm P i).nm, (gm P i).fl + 1⟩, i)) := by show _ = _; unfold st1; rw [hli, hit]
            obtain ⟨hu1, hu2⟩ := HUS.out i hi
            clear hr hd hnm hli hQl
            go_wp2_with fail
            refine cA.mono ?_
            rintro e w6 ⟨rfl, b6⟩
            have HP6 : Hid (PtI w W5 w6 z fb px pc qx qc fx u.fs.length fc P Q) := HPt.out.below b6
            clear k0 t0 cA
            obtain ⟨g, W9, W10, hg', k0, t1, t2, hW9, e5, hW10, ownB, srB, zB, HB⟩ := HP6.out.turn hi
            subst hg'
            have hip : (i : Int) < (P.length : Int) := by omega
            have hni : ¬ (i : Int) < 0 := by omega
            generalize (gm P i).fl = fl at *
            go_wp2_with (first
              | (at_builtin; refine wpList_append_src rfl _ _ 27 rfl W5.heap.size 3 _ 1 8 Try.underlying27 info3 rfl (by decide) (.slice qx Q.length qc) Q.length (cis Q) rfl ownB (some ⟨W9.heap.size, 0, none⟩) 1 1 [.int .i64 (i : Int)] rfl rfl srB (by simp [Value.oneCell']) (by omega) (by decide) zB ?_; intro v11 w11 own11 gr11; obtain ⟨y11, c11, rfl, ⟨e6, e7⟩, hfin⟩ := HB.out.part own11 gr11; have HFn : Hid _ := hfin; clear own11 gr11 hfin))
            go_roundw
            case rel => exact ⟨k + 1, _, _, _, _, by omega, by go_num, by rw [HTk.out, HS1.out]; exact HFn⟩
            case measure => simp [intOf]; omega
        · have hkm : k = m := by omega
          subst hkm
          obtain ⟨U, hU⟩ : ∃ U, U = wr := ⟨_, rfl⟩
          subst hU
          have hfin : l.take k = l := List.take_of_length_le (by rw [Hm.out]; exact Nat.le_refl _)
          obtain ⟨hd, hPl, hQl, hus⟩ := HUs.out k (Nat.le_refl _)
          rw [hfin] at HPt hPl hQl
          clear hd hus hfin
          have hsm := pt_small HGv.out (l := l) (by rw [Hm.out]; omega) (fun t ht => by obtain ⟨i, hi, e⟩ := mem_gs ht; rw [← e]; exact HPf.out.2 i (by rw [← Hm.out]; exact hi))
          have HSm : Hid _ := hsm
          have HDe : Hid (ptV u l = ⟨(stL (u.pc, []) l).1, u.fs ++ [(stL (u.pc, []) l).2]⟩) := rfl
          obtain ⟨S, hS⟩ : ∃ S, stL (u.pc, []) l = S := ⟨_, rfl⟩
          rw [hS] at HPt hPl hQl HDe
          clear hS hsm
          obtain ⟨P, Q⟩ := S
          simp only at HPt hPl hQl HDe
          obtain ⟨nf, hnf⟩ : ∃ nf, u.fs.length = nf := ⟨_, rfl⟩
          have Hnf : Hid (u.fs.length = nf) := hnf
          have hnf20 : nf ≤ 20 := by rw [← hnf]; exact HGv.out.1.2
          rw [hnf] at HPt HF3
          clear hnf
          have HFU : Hid (OwnFi U w1.heap.size (.slice fx nf fc) u.fs) := HF3.out.keep (by have := Hfb.out; omega) b35 HPt.out.2.2.2.2.2.1 (Nat.le_trans b35.size HPt.out.2.2.2.2.2.2.2.1)
          obtain ⟨k0, k1, -, -⟩ := box2_cells HPt.out.1
          obtain ⟨y0, -⟩ := box1_cells HPt.out.2.1
          obtain ⟨ks, ownF, hks⟩ := HFU.out
          have Hks : Hid _ := hks
          obtain ⟨W7, hW7⟩ : ∃ W7, U.alloc (.cells #[.slice qx Q.length qc] 81) = W7 := ⟨_, rfl⟩
          have b7 : Below U.heap.size U W7 := by subst hW7; exact below_alloc _ _
          have HP7 : Hid (PtI w W5 W7 z fb px pc qx qc fx nf fc P Q) := HPt.out.below b7
          have own7 : W7.ownsRow w1.heap.size 81 1 (.slice fx nf fc) nf (fvs u.fs ks) := by have := owns_below ownF b7; rwa [Hnf.out] at this
          have srF := src_new1 U (.slice qx Q.length qc) 81
          rw [hW7] at srF
          have zF : w1.heap.size ≤ W7.heap.size := by
            have h1 := HP7.out.2.2.2.2.2.2.2.1
            have h2 := b35.size
            have h3 := b2.size
            have h4 := o3.size
            omega
          have KEYF : Hid (∀ (v8 : Value) (w8 : World), w8.ownsRow w1.heap.size 81 1 v8 (nf + 1) (fvs u.fs ks ++ [.slice qx Q.length qc]) → W7.grownBy w8 (Value.slice fx nf fc).ownBlock →
              ∃ y8 c8 W9, v8 = .slice y8 (nf + 1) c8 ∧ (w8.cell? ⟨z, 1, none⟩ = some (.slice fx nf fc) ∧ w8.frozen? ⟨z, 1, none⟩ = false) ∧ w8.setCell ⟨z, 1, none⟩ (.slice y8 (nf + 1) c8) = W9 ∧ (W9.cell? ⟨z, 0, none⟩ = some (.slice px P.length pc) ∧ W9.cell? ⟨z, 1, none⟩ = some (.slice y8 (nf + 1) c8)) ∧
                Hid (W9.heap[z + 1]? = some (.cells #[.slice none 0 0, .slice none 0 0] 40 (0, 0)) ∧ Below w.heap.size w W9 ∧ OwnN W9 w.heap.size (.slice px P.length pc) P ∧ OwnFi W9 w1.heap.size (.slice y8 (nf + 1) c8) (u.fs ++ [Q]))) := fun v8 w8 own8 gr8 => by
            obtain ⟨y8, c8, rfl⟩ := owns_form own8
            have kn := KeepNot.of_grown own7 gr8
            have X8 := kn _ _ _ HP7.out.1 (by decide)
            have R7 := HP7.out.2.2.2.2.1 (z + 1) _ _ (by omega) (.inr rfl) R5.out
            have R8 := kn _ _ _ R7 (by decide)
            obtain ⟨x0, x1, f0, f1⟩ := box2_cells X8
            have o9 : Out z (z + 1) w8 (w8.setCell ⟨z, 1, none⟩ (.slice y8 (nf + 1) c8)) := out_setCell _ _ _ _
            have k9 := KeepNot.of_out o9 X8
            have X9 : (w8.setCell ⟨z, 1, none⟩ (.slice y8 (nf + 1) c8)).heap[z]? = some (.cells #[.slice px P.length pc, .slice y8 (nf + 1) c8] 40 (0, 0)) := block_set X8
            obtain ⟨e0, e1, -, -⟩ := box2_cells X9
            have hF8 : OwnFi w8 w1.heap.size (.slice y8 (nf + 1) c8) (u.fs ++ [Q]) := by
              refine OwnFi.snoc (ks := ks) (y := (qx, qc)) ?_ (fun i hi => ?_) ?_
              · rw [Hnf.out]; exact own8
              · obtain ⟨g, hg⟩ := Hks.out i hi
                exact ⟨g, ((hg.below b7).mono (Nat.le_refl _) b7.size).grown own7 (by decide) gr8⟩
              · obtain ⟨g, hg⟩ := OwnI.ib (kn.owns HP7.out.2.2.2.1 (by decide))
                exact ⟨g, hg.mono (Nat.zero_le _) (Nat.le_refl _)⟩
            have hF9 := hF8.outT o9 (by omega) X8 (by decide)
            have hN9 : OwnN _ w.heap.size (.slice px P.length pc) P := k9.owns (kn.owns HP7.out.2.2.1 (by decide)) (by decide)
            have b8 : Below w.heap.size w w8 := HP7.out.2.2.2.2.2.2.1.grown gr8 HP7.out.2.2.2.2.2.2.1.size (fun j hj => by have := owns_ge own7 j hj; have := g1.size; omega)
            exact ⟨y8, c8, _, rfl, ⟨x1, f1⟩, rfl, ⟨e0, e1⟩, box_out R8 o9 (by omega), b8.trans ((o9.below (Nat.le_of_lt (box_lt X8))).mono (by have := Hz.out; omega)), hN9, hF9⟩
          have hQ1000 : Q.length ≤ 1000 := by omega
          have HLn : Hid ((u.fs ++ [Q]).length = nf + 1) := by show _ = _; rw [List.length_append, Hnf.out]; rfl
          clear hks ownF HFU hQl
          go_wp2_with (at_builtin; refine wpList_append_src rfl _ _ 38 rfl w1.heap.size 81 _ 1 24 Try.underlying38 infoF rfl (by decide) (.slice fx nf fc) nf (fvs u.fs ks) rfl own7 (some ⟨U.heap.size, 0, none⟩) 1 1 [.slice qx Q.length qc] rfl rfl srF (by simp [Value.oneCell']) (by omega) (by decide) zF ?_; intro v8 w8 own8 gr8; obtain ⟨y8, c8, W9, rfl, ⟨e0, e1⟩, hW9, ⟨e2, e3⟩, H9⟩ := KEYF.out v8 w8 own8 gr8; clear own8 gr8)
          obtain ⟨B2, hB2⟩ := tel_ex (GV (ptV u l))
          refine (specGood_any (vv px P.length pc y8 (nf + 1) c8) (ptV u l) B2 W9 (by rw [HDe.out]; exact vat_of H9.out.2.2.1 H9.out.2.2.2 HLn.out) HSm.out.1 HSm.out.2.1 hB2).mono ?_
          rintro e w10 ⟨rfl, b10⟩
          have HB2 : Hid _ := hB2
          clear hB2 e0 e1 hW9 k0 k1 y0 hW7
          have Z10 : Hid (w10.heap[z]? = w10.heap[z]?) := rfl
          have c20 := cell_on e2 b10
          have c21 := cell_on e3 b10
          clear e2 e3
          by_cases hg2 : GV (ptV u l)
          · have hb2 : B2 = true := HB2.out.2 hg2
            subst hb2
            have R10 : Hid (w10.heap[z + 1]? = some (.cells #[.slice none 0 0, .slice none 0 0] 40 (0, 0))) := box_on H9.out.1 b10
            obtain ⟨r0, r1, f0, f1⟩ := box2_cells R10.out
            obtain ⟨W11, hW11⟩ : ∃ W11, (w10.setCell ⟨z + 1, 0, none⟩ (.slice px P.length pc)).setCell ⟨z + 1, 1, none⟩ (.slice y8 (nf + 1) c8) = W11 := ⟨_, rfl⟩
            have X11 : W11.heap[z + 1]? = some (.cells #[.slice px P.length pc, .slice y8 (nf + 1) c8] 40 (0, 0)) := by subst hW11; exact box2_set R10.out
            have o11 : Hid (Out (z + 1) (z + 1 + 1) w10 W11) := by subst hW11; exact ((Out.refl _ _ _).setCell (by omega) (by omega) _ _).setCell (by omega) (by omega) _ _
            obtain ⟨t0, t1, -, -⟩ := box2_cells X11
            have g11 : Hid (Below w.heap.size w W11) := (Below.comp H9.out.2.1 b10).trans ((o11.out.below (Nat.le_of_lt (box_lt R10.out))).mono (by have := Hz.out; omega))
            have HV11 : Hid (RdV W11 (vv px P.length pc y8 (nf + 1) c8) (ptV u l)) := by
              rw [HDe.out]
              refine RdV.out (w := w10) ⟨px, pc, y8, c8, w.heap.size, w1.heap.size, ?_, owns_below H9.out.2.2.1 b10, ?_⟩ o11.out R10.out
              · show vv px P.length pc y8 (nf + 1) c8 = vv px P.length pc y8 (u.fs ++ [Q]).length c8
                rw [HLn.out]
              · show OwnFi w10 w1.heap.size (.slice y8 (u.fs ++ [Q]).length c8) (u.fs ++ [Q])
                rw [HLn.out]
                exact H9.out.2.2.2.below b10
            have HDO : Hid (D = ptV u l ∧ O = true) := by
              rcases HR.out with ⟨-, e1, e2⟩ | ⟨hno, -⟩
              · rw [Hl.out] at e1; exact ⟨e1, e2⟩
              · exact absurd ⟨HGv.out, h4, by rw [Hl.out]; exact hg2⟩ hno
            clear X11
            go_wp2
            exact bodyPost_ret (v := .tuple #[vv px P.length pc y8 (nf + 1) c8, .bool true]) (by simp [results, Try.results39, go_sem, t0, t1]) rfl ⟨g11.out, _, by rw [HDO.out.2], by rw [HDO.out.1]; exact HV11.out⟩
          · have hb2 : B2 = false := by
              cases B2 with
              | false => rfl
              | true => exact absurd (HB2.out.1 rfl) hg2
            subst hb2
            obtain ⟨W', hW', ⟨r0, r1, f0, f1⟩, ⟨t0, t1⟩, HZ⟩ := ZERO.out (fun h => hg2 (by have := h.2.2; rwa [Hl.out] at this)) w10 (box_on H9.out.1 b10) (Below.comp H9.out.2.1 b10)
            obtain ⟨hO, hZ1, hZ2⟩ := HZ.out
            have HZ1 : Hid _ := hZ1
            have HZ2 : Hid _ := hZ2
            clear hZ1 hZ2 HZ
            go_wp2
            exact bodyPost_ret (v := .tuple #[vv none 0 0 none 0 0, .bool false]) (by simp [results, Try.results39, go_sem, t0, t1]) rfl ⟨HZ1.out, _, by rw [hO], HZ2.out⟩
    · have h5 : (400 : Int) < (s.size : Int) := by omega
      clear cG
      go_enter Try.func39, Try.ntmps39
      go_wp2_with fail
      refine c0.mono ?_
      rintro e w1 ⟨rfl, b1⟩
      obtain ⟨W', hW', ⟨r0, r1, f0, f1⟩, ⟨t0, t1⟩, HZ⟩ := ZERO.out (fun h => h4 h.2.1) w1 (box_on H2.out b1) (Below.comp q0 b1)
      obtain ⟨hO, hZ1, hZ2⟩ := HZ.out
      have HZ1 : Hid _ := hZ1
      have HZ2 : Hid _ := hZ2
      clear hZ1 hZ2 HZ hW0 i0 i1 c0
      go_wp2
      exact bodyPost_ret (v := .tuple #[vv none 0 0 none 0 0, .bool false]) (by simp [results, Try.results39, go_sem, t0, t1]) rfl ⟨HZ1.out, _, by rw [hO], HZ2.out⟩
  · have c0 := specGood_any (vv a u.pc.length ca a' u.fs.length ca') u false W0 (HC.out _ q0) HFS.out.1 HFS.out.2 ⟨fun h => (by cases h), fun h => absurd h hg⟩
    go_enter Try.func39, Try.ntmps39
    go_wp2_with fail
    refine c0.mono ?_
    rintro e w1 ⟨rfl, b1⟩
    obtain ⟨W', hW', ⟨r0, r1, f0, f1⟩, ⟨t0, t1⟩, HZ⟩ := ZERO.out (fun h => hg h.1) w1 (box_on H2.out b1) (Below.comp q0 b1)
    obtain ⟨hO, hZ1, hZ2⟩ := HZ.out
    have HZ1 : Hid _ := hZ1
    have HZ2 : Hid _ := hZ2
    clear hZ1 hZ2 HZ hW0 i0 i1 c0
    go_wp2
    exact bodyPost_ret (v := .tuple #[vv none 0 0 none 0 0, .bool false]) (by simp [results, Try.results39, go_sem, t0, t1]) rfl ⟨HZ1.out, _, by rw [hO], HZ2.out⟩
end Go.Proofs.Ytnanemkmmokdfaa
