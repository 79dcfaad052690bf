import Derived.Test.YtmijalmihfgolaaDoorV6
/- A store closed: the program's side. -/
namespace Go.Proofs.YtmijalmihfgolaaDoor
open Go.ChangeShapes Go.WideShapes Go.ChangeAt Go.RowKit
set_option linter.unusedVariables false
open Tx

attribute [local go_sem] Oper.semAt_some

def cts (L : List ByteArray) : List Value := L.map .string
theorem cts_len (L : List ByteArray) : (cts L).length = L.length := by simp [cts]
theorem cts_app (L M : List ByteArray) : cts (L ++ M) = cts L ++ cts M := by simp [cts]
theorem cts_one (L : List ByteArray) : ∀ u ∈ cts L, u.oneCell' = true := by
  intro u hu
  simp only [cts, List.mem_map] at hu
  obtain ⟨x, _, rfl⟩ := hu
  rfl
abbrev OwnT (w : World) (B : Nat) (v : Value) (L : List ByteArray) : Prop := w.ownsRow B 9 1 v L.length (cts L)
theorem OwnT.nil (w : World) (B : Nat) : OwnT w B (.slice none 0 0) [] := ⟨rfl, .inl ⟨rfl, rfl⟩⟩
theorem OwnT.mine {w : World} {B : Nat} {v : Value} {L : List ByteArray} (h : OwnT w B v L) : ∃ y c, v = .slice y L.length c ∧ L.length ≤ c ∧ MineT w B w.heap.size y L := by
  obtain ⟨x, c, rfl⟩ := owns_form h
  refine ⟨x, c, rfl, owns_cap (x := 0) h, ?_⟩
  by_cases h0 : L.length = 0
  · exact .inl h0
  · obtain ⟨g, cap, cur, e, hb, hg, hsz, hcell⟩ := owns_mine h h0
    cases e
    refine .inr ⟨g, cur, hb, box_lt hg, rfl, hg, fun i hi => ?_⟩
    rw [hcell i (by omega)]
    simp [cts, gt, hi]
/-- The texts of transactions. -/
def txs (Ls : List (List Wr)) : List ByteArray := Ls.map tx
theorem txs_len (Ls : List (List Wr)) : (txs Ls).length = Ls.length := by simp [txs]
theorem txs_succ {Ls : List (List Wr)} {k : Nat} (h : k < Ls.length) : txs (Ls.take (k + 1)) = txs (Ls.take k) ++ [tx (gl Ls k)] := by
  unfold txs
  rw [List.take_succ_eq_append_getElem h, List.map_append, gl_lt h]
  rfl
theorem txs_take (Ls : List (List Wr)) {k : Nat} (h : k ≤ Ls.length) : (txs (Ls.take k)).length = k := by rw [txs_len]; simp; omega

/-- A row of one's own stays where a block ahead of it is written. -/
theorem owns_keep2 {w w' : World} {B o : Nat} {e : TypeId} {size n : Nat} {v : Value} {xs : List Value} (h : w.ownsRow B e size v n xs) (ho : Out o (o + 1) w w') (hB : o < B) : w'.ownsRow B e size v n xs := by
  refine ⟨h.1, ?_⟩
  rcases h.2 with h3 | ⟨g, cap, cur, h3, hb, hc, h4⟩
  · exact .inl h3
  · refine .inr ⟨g, cap, cur, h3, hb, ?_, h4⟩
    rw [ho.block g (box_lt hc) (.inr (by omega))]
    exact hc

set_option maxRecDepth 20000 in
set_option maxHeartbeats 8000000 in
theorem closed_any (o : Nat) (x y : Option Addr) (N M cx cy : Nat) (V : Value) (q : Int) (Ls : List (List Wr)) (w : World) (hL40 : Ls.length ≤ 40) (hall : ∀ i, i < Ls.length → txB 32 (gl Ls i) = true) (hB : OB w o (.slice x N cx) (.slice y M cy) V q) (hL : LogAt w V Ls) :
    Calls Tryd.prog 86 #[.pointer (some ⟨o, 0, none⟩)] w fun e w' => Below w.heap.size w w' ∧ ∃ z cz, e = .returned (stv x N cx y M cy z Ls.length cz q) ∧ MineT w' w.heap.size w'.heap.size z (txs Ls) := by
  obtain ⟨D, hD0⟩ : ∃ D, w.heap.size = D := ⟨_, rfl⟩
  obtain ⟨W0, hW0⟩ : ∃ W0, w.alloc (.cells #[.slice none 0 0, .slice none 0 0, .slice none 0 0, .int .i64 0] 34) = W0 := ⟨_, rfl⟩
  have b0 : Below w.heap.size w W0 := by subst hW0; exact below_alloc _ _
  have hR0 : Hid (W0.heap[D]? = some (.cells #[.slice none 0 0, .slice none 0 0, .slice none 0 0, .int .i64 0] 34 (0, 0))) := by subst hW0 hD0; exact al1 _ _
  obtain ⟨x0, x1, x2, x3⟩ := box4_cells (box_on hB b0)
  obtain ⟨xv, cv, A, C, hV, hcv, hat, hrow⟩ := hL
  subst hV
  have hs0 : Hid (W0.heap.size = D + 1) := by subst hW0 hD0; exact sz1 _ _
  have HD : Hid (w.heap.size = D) := hD0
  go_enter Tryd.func86, Tryd.ntmps86
  go_wp2
  go_region_held3 (fun W => W.cell? ⟨o, 0, none⟩ = some (.slice x N cx) ∧ W.cell? ⟨o, 1, none⟩ = some (.slice y M cy) ∧ W.cell? ⟨o, 3, none⟩ = some (.int .i64 q))
    ((first | exact ⟨x0, x1, x3⟩ | exact ⟨hold_on x0, hold_on x1, hold_on x3⟩ | exact ⟨hold_on (w := W0.drew) x0, hold_on (w := W0.drew) x1, hold_on (w := W0.drew) x3⟩))
    (fail)
  obtain ⟨W1, hW1⟩ : ∃ W1, (W0.alloc (.cells #[.slice x N cx, .slice y M cy, .slice none 0 0, .int .i64 q] 34)).drew = W1 := ⟨_, rfl⟩
  have b1 : Below W0.heap.size W0 W1 := by subst hW1; exact Below.drew (below_alloc _ _)
  have hT1 : Hid (W1.heap[D + 1]? = some (.cells #[.slice x N cx, .slice y M cy, .slice none 0 0, .int .i64 q] 34 (0, 0))) := by subst hW1; rw [← hs0.out]; exact al1 _ _
  have hR1 : Hid _ := box_on hR0.out b1
  have hs1 : Hid (W1.heap.size = D + 2) := by subst hW1; have := sz1 W0 (.cells #[.slice x N cx, .slice y M cy, .slice none 0 0, .int .i64 q] 34); rw [hs0.out] at this; exact this
  have g1 : Hid _ := Below.comp b0 b1
  have Hat : Hid _ := hat
  have Hrow : Hid _ := hrow
  have Hall : Hid _ := hall
  have HB1 : OB W1 o (.slice x N cx) (.slice y M cy) (.slice xv Ls.length cv) q := box_on hB g1.out
  obtain ⟨y0, y1, y2, y3⟩ := box4_cells HB1
  rw [hW1, hs0.out]
  clear hW1 x0 x1 x2 x3 hat hrow hall hR0 b0 b1 hW0 HB1 hB
  go_wp2
  clear y0 y1 y2 y3
  go_loopw [23] (fun i wr => ∃ (k : Nat) (Gv : Value), k ≤ Ls.length ∧ i = .int .i64 k ∧ Hid (wr.heap[D + 1]? = some (.cells #[.slice x N cx, .slice y M cy, Gv, .int .i64 q] 34 (0, 0))) ∧ Hid (OwnT wr (D + 2) Gv (txs (Ls.take k))) ∧ Hid (Out (D + 1) (D + 2) W1 wr)) (fun i _ => Ls.length - (intOf i).toNat)
  case atStart => exact ⟨0, _, Nat.zero_le _, rfl, hT1, OwnT.nil _ _, Out.refl _ _ _⟩
  case round =>
    obtain ⟨k, Gv, hk, rfl, hT, hO, ho⟩ := hrel
    have hszr : D + 2 ≤ wr.heap.size := by have := ho.out.size; rw [hs1.out] at this; exact this
    have hbw : Hid (Below w.heap.size w wr) := g1.out.trans ((Out.below ho.out (by rw [hs1.out]; omega)).mono (by rw [HD.out]; omega))
    obtain ⟨gx, gc, hG⟩ := owns_form hO.out
    subst hG
    have hlen := txs_take Ls hk
    by_cases hlt : k < Ls.length
    · obtain ⟨bz, oz, hz, hcell⟩ := (At.below Hat.out hbw.out) (by omega)
      subst hz
      have hck : wr.cell? ⟨bz, oz + k, none⟩ = some (.slice (A k) (gl Ls k).length (C k)) := hcell k hlt
      have hlt' : (k : Int) < (Ls.length : Int) := by omega
      have htx := Hall.out k hlt
      have cX := implText_any (A k) (C k) (gl Ls k) wr (by have := (txB_iff.1 htx).2.1; omega) (few_of (fun i hi => (fit_iff.1 ((txB_iff.1 htx).2.2 i hi).1).2.2)) (At2.below (Hrow.out k hlt) hbw.out)
      rw [htx] at cX
      simp only [cond_true] at cX
      have HSu : Hid _ := txs_succ hlt
      clear hcell htx
      generalize htt : tx (gl Ls k) = t at *
      generalize hll : gl Ls k = l at *
      generalize hac : txs (Ls.take k) = acc at *
      have Hlen : Hid (acc.length = k) := hlen
      have hal : acc.length ≤ 40 := by omega
      clear htt hll hac hlen
      go_wp2_with (first
        | (go_at_call 103; refine cX.mono ?_; rintro e w2 ⟨rfl, b2⟩; have hT2 : Hid _ := box_on hT.out b2; obtain ⟨t0, t1, t2, t3⟩ := box4_cells hT2.out; have b3 : Hid _ := Below.comp b2 (below_alloc w2 (.cells #[.string t] 9)); have own3 : Hid _ := owns_below hO.out b3.out; have hT3 : Hid _ := box_on hT2.out (below_alloc w2 (.cells #[.string t] 9)); have hz3 : D + 2 ≤ (w2.alloc (.cells #[.string t] 9)).heap.size := Nat.le_trans hszr b3.out.size)
        | (go_at_call 58; refine (demand_yes _).mono ?_; rintro e w8 ⟨rfl, h8⟩; replace h8 := h8.symm; subst h8)
        | (at_builtin; refine wpList_append_src rfl _ _ 22 rfl (D + 2) 9 _ 1 16 Tryd.underlying22 info9 rfl (by decide) (.slice gx acc.length gc) acc.length (cts acc) rfl own3.out (some ⟨w2.heap.size, 0, none⟩) 1 1 [.string t] rfl rfl (.inr ⟨_, rfl, new_one w2 _ _⟩) (fun u hu => by rw [List.mem_singleton] at hu; subst hu; rfl) (by omega) (by decide) hz3 ?_; intro v4 w4 own4 gr4; obtain ⟨x4, c4, e4⟩ := owns_form own4; subst e4; have hT4 : Hid (w4.heap[D + 1]? = some (.cells #[.slice x N cx, .slice y M cy, .slice gx acc.length gc, .int .i64 q] 34 (0, 0))) := ((gr4.block (D + 1) (box_lt hT3.out) (fun e => by have := owns_ge own3.out (D + 1) e.symm; omega)).trans hT3.out); obtain ⟨s0, s1, s2, s3⟩ := box4_cells hT4.out; obtain ⟨f0, f1, f2, f3⟩ := box4_free hT4.out; clear t0 t1 t2 t3; have O4 : Hid _ := own4; have G4 : Hid _ := gr4; clear own4 gr4))
      go_roundw
      case rel =>
        have hb4 : Below W1.heap.size wr w4 := by rw [hs1.out]; exact (b3.out.mono hszr).trans (Grown.below G4.out hz3 (owns_ge own3.out))
        refine ⟨k + 1, .slice x4 (acc.length + 1) c4, by omega, by go_num, ?_, ?_, (ho.out.then_below hb4).setCell (Nat.le_refl _) (Nat.lt_succ_self _) 2 _⟩
        · rw [Hid, block_setz hT4.out]
          rfl
        · rw [HSu.out]
          show OwnT _ _ _ _
          unfold OwnT
          rw [List.length_append, cts_app]
          refine owns_keep2 (o := D + 1) O4.out (out_setCell w4 (D + 1) 2 _) (by omega)
      case measure => simp [intOf]; omega
    · obtain rfl : k = Ls.length := by omega
      have hO2 := hO.out
      rw [List.take_length] at hO2 hlen
      rw [List.take_length] at hT
      have hRr : Hid _ := box_out hR1.out ho.out (.inl (Nat.lt_succ_self _))
      obtain ⟨s0, s1, s2, s3⟩ := box4_cells hT.out
      obtain ⟨r0, r1, r2, r3⟩ := box4_cells hRr.out
      obtain ⟨q0, q1, q2, q3⟩ := box4_free hRr.out
      have HO2 : Hid _ := hO2
      rw [hlen] at s2
      have Hlen : Hid (Ls.length = (txs Ls).length) := hlen.symm
      clear hO2 hT hlen hO
      go_wp2
      have hset := box4_set hRr.out (x0 := .slice x N cx) (x1 := .slice y M cy) (x2 := .slice gx Ls.length gc) (x3 := .int .i64 q)
      obtain ⟨u0, u1, u2, u3⟩ := box4_cells hset
      have hout := set4_out wr D (.slice x N cx) (.slice y M cy) (.slice gx Ls.length gc) (.int .i64 q)
      have hszF := hout.size
      refine bodyPost_ret (v := stv x N cx y M cy gx Ls.length gc q) (by simp [results, Tryd.results86, go_sem, u0, u1, u2, u3]) rfl ⟨?_, gx, gc, rfl, ?_⟩
      · exact hbw.out.trans ((Out.below hout (by omega)).mono (by rw [HD.out]; exact Nat.le_refl _))
      · have h1 := owns_keep2 HO2.out hout (by omega)
        obtain ⟨z', c', ez, _, mz⟩ := OwnT.mine h1
        cases ez
        exact mz.mono (by rw [HD.out]; omega) (Nat.le_refl _)
end Go.Proofs.YtmijalmihfgolaaDoor
