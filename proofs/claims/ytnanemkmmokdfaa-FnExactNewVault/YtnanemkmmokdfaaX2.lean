import Derived.Test.YtnanemkmmokdfaaX1
import Derived.Test.YtnanemkmmokdfaaZ0
/- impl.TextIn. -/
namespace Go.Proofs.Ytnanemkmmokdfaa
open Go.ChangeShapes Go.WideShapes Go.ChangeAt Go.RowKit Go.Maps
set_option linter.unusedVariables false
open Hd

attribute [local go_sem] Oper.semAt_some

theorem join_zero (a : Option Addr) (c : Nat) (s : ByteArray) (w : World) : Calls Try.prog 74 #[.slice a 0 c, .string s] w fun e w' => e = .returned (.string ⟨#[]⟩) ∧ w' = w := by
  go_enter Try.func74, Try.ntmps74
  go_wp2
  go_ret
  exact ⟨rfl, rfl⟩
theorem inter_nil (L : List (List UInt8)) : Lib.join L [] = L.flatten := by
  cases L with
  | nil => rfl
  | cons x r =>
    rw [Lib.join_cons]
    unfold Lib.joinTail
    simp
theorem join_any (a : Option Addr) (c : Nat) (T : List ByteArray) (w : World) (hT : T.length ≤ 1000000) (hc : T.length ≤ c) (hsz : cz T T.length ≤ 100000000) (hs : Strs w a T) :
    Calls Try.prog 74 #[.slice a T.length c, .string ⟨#[]⟩] w fun e w' => e = .returned (.string (ct T)) ∧ Below w.heap.size w w' := by
  by_cases h0 : T.length = 0
  · have e : ct T = ⟨#[]⟩ := by unfold ct; rw [h0]; rfl
    rw [e, h0]
    exact (join_zero a c _ w).mono fun e w' ⟨h1, h2⟩ => ⟨h1, by rw [h2]; exact Below.refl _ _⟩
  · obtain ⟨b, off, rfl, hcell⟩ := hs h0
    have e1 : (Lib.join (T.map (·.data.toList)) (⟨#[]⟩ : ByteArray).data.toList) = (ct T).data.toList := by
      rw [show (⟨#[]⟩ : ByteArray).data.toList = [] from rfl, inter_nil, ct_bytes]
    have h := Try.strings_Join b off c T ⟨#[]⟩ w (fun j x hj => by
      have hj' : j < T.length := (List.getElem?_eq_some_iff.1 hj).1
      have this : w.cell? ⟨b, off + j, none⟩ = some (.string (gs T j)) := hcell j hj'
      rw [gs_eq hj'] at this
      rw [List.getElem?_eq_getElem hj'] at hj
      rw [← Option.some.inj hj]
      exact this) (lt_of_cell (hcell 0 (by omega))) (by omega) hc (by
        rw [e1]
        have := cat_size T T.length
        show (cat T T.length).data.toList.length ≤ _
        have e2 : (cat T T.length).data.toList.length = (cat T T.length).size := rfl
        omega)
    rw [e1] at h
    exact h
theorem hasFile_any (x y : Value) (a : Option Addr) (n c : Nat) (f : Int) (w : World) (hx : ∃ M, x = .map M) (hy : y = .slice a n c) (hn : n ≤ 1000000) :
    Calls Try.prog 73 #[.agg #[x, y], .int .i64 f] w fun e w' => e = .returned (.bool (decide (0 ≤ f) && decide (f < n))) ∧ Below w.heap.size w w' := by
  obtain ⟨M, rfl⟩ := hx
  subst hy
  obtain ⟨W0, hW0⟩ : ∃ W0, w.alloc (.cells #[.map M, .slice a n c] 90) = W0 := ⟨_, rfl⟩
  have q0 : Below w.heap.size w W0 := by subst hW0; exact below_alloc _ _
  obtain ⟨i0, i1, -, -⟩ := box2_cells (show W0.heap[w.heap.size]? = some (.cells #[.map M, .slice a n c] 90 (0, 0)) by subst hW0; exact al1 _ _)
  by_cases h0 : 0 ≤ f
  · by_cases h1 : f < n
    · rw [decide_eq_true h0, decide_eq_true h1]
      go_enter Try.func73, Try.ntmps73
      go_wp2
      go_ret
      exact ⟨rfl, q0⟩
    · rw [decide_eq_true h0, decide_eq_false h1]
      go_enter Try.func73, Try.ntmps73
      go_wp2
      go_ret
      exact ⟨rfl, q0⟩
  · have k0 : decide (0 ≤ f) = false := decide_eq_false h0
    rw [k0]
    go_enter Try.func73, Try.ntmps73
    go_wp2
    go_ret
    exact ⟨rfl, q0⟩
theorem FRow.read {w : World} {lo e1 e2 : Nat} {y : Value} {F : List (List ByteArray)} (h : FRow w lo e1 e2 y F) (hn : F.length ≠ 0) : ∃ g c, y = .slice (some ⟨g, 0, none⟩) F.length c ∧ ∀ i, i < F.length → ∃ v, w.cell? ⟨g, i, none⟩ = some v ∧ TRow w lo e1 e2 y.ownBlock v (gt F i) := by
  obtain ⟨vs, o, hne, hr⟩ := h
  rcases o.2 with ⟨rfl, h0⟩ | ⟨g, cap, cur, rfl, hb, hg, hc, hm, hcs, ht⟩
  · exact absurd h0 hn
  · refine ⟨g, cap, rfl, fun i hi => ?_⟩
    obtain ⟨v, g1, g2⟩ := hr i hi
    refine ⟨v, cell_of_block hg ?_, g2⟩
    rw [← ht, List.getElem?_take, if_pos (by omega)] at g1
    simpa using g1
theorem fsT_at (u : Va) {i : Nat} (h : i < u.fs.length) : gt (fsT u) i = txs u.pc (gf u.fs i) := by
  simp [gt, fsT, gf, h]
theorem good_texts {u : Va} (hg : GV u) {i : Nat} (h : i < u.fs.length) : (txs u.pc (gf u.fs i)).length ≤ 200 ∧ cz (txs u.pc (gf u.fs i)) (txs u.pc (gf u.fs i)).length ≤ 4800 := by
  have hf := hg.2.1 i h
  rw [txs_len]
  refine ⟨hf.2, ?_⟩
  have := cz_le (T := txs u.pc (gf u.fs i)) (M := 24) (gf u.fs i).length (fun j hj => by
    rw [txs_at _ hj]
    have h2 := hf.1 j hj
    exact (hg.2.2 _ (by omega)).1.2)
  have := hf.2
  omega
/-- What TextIn tells. -/
def tiR (u : Va) (B : Bool) (f : Int) : ByteArray := if B = true then ct (txs u.pc (gf u.fs f.toNat)) else ⟨#[]⟩
set_option maxHeartbeats 2000000 in
theorem implText_any (v : Value) (u : Va) (f : Int) (B : Bool) (w : World) (hc : VAt w v u) (hf : FewV u) (hs : Sml u) (hB : B = true ↔ GV u ∧ 0 ≤ f ∧ f < u.fs.length) :
    Calls Try.prog 42 #[v, .int .i64 f] w fun e w' => e = .returned (.tuple #[.string (tiR u B f), .bool B]) ∧ Below w.heap.size w w' := by
  have cO := fun W h => opened_any v u W (hc.below h) hf hs
  obtain ⟨a, ca, a', ca', rfl, -, -, -, -⟩ := hc
  obtain ⟨W0, hW0⟩ : ∃ W0, w.alloc (.cells #[.slice a u.pc.length ca, .slice a' u.fs.length ca'] 40) = W0 := ⟨_, rfl⟩
  have q0 : Below w.heap.size w W0 := by subst hW0; exact below_alloc _ _
  obtain ⟨i0, i1, -, -⟩ := box2_cells (show W0.heap[w.heap.size]? = some (.cells #[.slice a u.pc.length ca, .slice a' u.fs.length ca'] 40 (0, 0)) by subst hW0; exact al1 _ _)
  have HB : Hid (B = true ↔ GV u ∧ 0 ≤ f ∧ f < u.fs.length) := hB
  have HBf : Hid (¬ (GV u ∧ 0 ≤ f ∧ f < u.fs.length) → B = false) := fun h => by
    by_cases q : B = true
    · exact absurd (HB.out.1 q) h
    · simpa using q
  have hs2 := hs.2.1
  clear hf hs hB
  have c := cO W0 q0
  clear cO
  obtain ⟨R, hR⟩ : ∃ R, tiR u B f = R := ⟨_, rfl⟩
  have HRR : Hid (tiR u B f = R) := hR
  rw [hR]
  clear hR
  go_enter Try.func42, Try.ntmps42
  go_wp2_with fail
  refine c.mono ?_
  rintro e w1 ⟨hR, b1⟩
  clear i0 i1 hW0 c
  rcases hR with ⟨hg, M, y, n, rfl, -, -, -, -, hF⟩ | ⟨hg, rfl⟩
  · have HGv : Hid (GV u) := hg
    have HF : Hid (FRow w1 W0.heap.size M M y (fsT u)) := hF
    obtain ⟨yx, yc, rfl⟩ := hF.form
    have hlen : (fsT u).length = u.fs.length := fsT_len u
    rw [hlen] at HF ⊢
    clear hg hF hlen
    obtain ⟨W1, hW1⟩ : ∃ W1, w1.alloc (.cells #[.map (some M), .slice yx u.fs.length yc] 90) = W1 := ⟨_, rfl⟩
    have q1 : Below w1.heap.size w1 W1 := by subst hW1; exact below_alloc _ _
    have HO : Hid (W1.heap[w1.heap.size]? = some (.cells #[.map (some M), .slice yx u.fs.length yc] 90 (0, 0))) := by subst hW1; exact al1 _ _
    obtain ⟨o0, o1, -, -⟩ := box2_cells HO.out
    have g1 : Below w.heap.size w W1 := Below.comp q0 (Below.comp b1 q1)
    have cH := fun W => hasFile_any (.map (some M)) (.slice yx u.fs.length yc) yx u.fs.length yc f W ⟨_, rfl⟩ rfl (by have := HGv.out.1.2; omega)
    by_cases hin : 0 ≤ f ∧ f < u.fs.length
    · have hb : B = true := HB.out.2 ⟨HGv.out, hin⟩
      subst hb
      rw [show (decide (0 ≤ f) && decide (f < (u.fs.length : Int))) = true by simp; exact hin] at cH
      obtain ⟨j, rfl⟩ : ∃ j : Nat, f = (j : Int) := ⟨f.toNat, by omega⟩
      have hj : j < u.fs.length := by omega
      have HRj : Hid (ct (txs u.pc (gf u.fs j)) = R) := by have := HRR.out; unfold tiR at this; rw [if_pos rfl, Int.toNat_natCast] at this; exact this
      obtain ⟨hT1, hT2⟩ := good_texts HGv.out hj
      have HFW : Hid (∀ W, Below w1.heap.size w1 W → ∃ g, yx = some ⟨g, 0, none⟩ ∧ ∃ ta tc, W.cell? ⟨g, j, none⟩ = some (.slice ta (txs u.pc (gf u.fs j)).length tc) ∧ (txs u.pc (gf u.fs j)).length ≤ tc ∧ Strs W ta (txs u.pc (gf u.fs j))) := fun W h => by
        obtain ⟨g, c, e, hcs⟩ := (FRow.below HF.out h).read (by rw [fsT_len]; omega)
        obtain ⟨v, v1, v2⟩ := hcs j (by rw [fsT_len]; exact hj)
        rw [fsT_at u hj] at v2
        obtain ⟨ta, tc, rfl, t1, t2⟩ := v2.strs
        simp only [Value.slice.injEq] at e
        exact ⟨g, e.1, ta, tc, v1, t1, t2⟩
      clear HB HBf HRR HF
      generalize txs u.pc (gf u.fs j) = T at *
      generalize u.fs.length = m at *
      have hj' : (j : Int) < (m : Int) := by omega
      go_wp2_with fail
      refine (cH _).mono ?_
      rintro e w2 ⟨rfl, b2⟩
      clear o0 o1 cH hW1
      obtain ⟨o0, o1, -, -⟩ := box2_cells (box_on HO.out b2)
      obtain ⟨g, rfl, ta, tc, tcell, htc, hts⟩ := HFW.out w2 (Below.comp q1 b2)
      have cJ := join_any ta tc T w2 (by omega) htc (by omega) hts
      clear hts
      have HTs : Hid (ct T = R) := HRj.out
      generalize hnT : T.length = nT at *
      clear hnT
      go_wp2_with fail
      refine cJ.mono ?_
      rintro e w3 ⟨rfl, b3⟩
      go_wp2_with fail
      go_ret2
      exact ⟨by rw [HTs.out]; rfl, Below.comp g1 (Below.comp b2 b3)⟩
    · have hb : B = false := HBf.out (fun q => hin q.2)
      subst hb
      have HR0 : Hid (⟨#[]⟩ = R) := by show _ = _; have := HRR.out; unfold tiR at this; simpa using this
      have hd : (decide (0 ≤ f) && decide (f < (u.fs.length : Int))) = false := by
        by_cases q1 : 0 ≤ f
        · by_cases q2 : f < (u.fs.length : Int)
          · exact absurd ⟨q1, q2⟩ hin
          · simp [q2]
        · simp [q1]
      rw [hd] at cH
      clear hd hin
      generalize u.fs.length = m at *
      go_wp2_with fail
      refine (cH _).mono ?_
      rintro e w2 ⟨rfl, b2⟩
      go_wp2_with fail
      go_ret2
      exact ⟨by rw [← HR0.out]; rfl, Below.comp g1 b2⟩
  · have hb : B = false := HBf.out (fun q => hg q.1)
    subst hb
    have HR0 : Hid (⟨#[]⟩ = R) := by show _ = _; have := HRR.out; unfold tiR at this; simpa using this
    go_wp2_with fail
    go_ret2
    exact ⟨by rw [← HR0.out]; rfl, (Below.comp q0 b1).trans ((below_alloc _ _).mono (Below.comp q0 b1).size)⟩
end Go.Proofs.Ytnanemkmmokdfaa
