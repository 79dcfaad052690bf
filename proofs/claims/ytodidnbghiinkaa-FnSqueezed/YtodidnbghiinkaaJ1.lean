import Derived.Test.YtodidnbghiinkaaB1
/- The drawing cursor. -/
namespace Go.Proofs.Ytodidnbghiinkaa
open Go.ChangeShapes Go.WideShapes Go.ChangeAt Go.RowKit
set_option linter.unusedVariables false
open Tz

attribute [local go_sem] Oper.semAt_some

/-- A text of L bytes. -/
def tx (L : Nat) (f : Nat → Nat) : ByteArray := ⟨((List.range L).map fun k => UInt8.ofNat (f k)).toArray⟩
theorem tx_size (L : Nat) (f : Nat → Nat) : (tx L f).size = L := by simp [tx, ByteArray.size]
/-- Bytes in a row. -/
def bysJ (n : Nat) (S : Nat → Nat) (c : Array Value) : Prop := ∀ i, i < n → c[i]? = some (.int .u8 (S i : Int))
def byJ (S : Nat → Nat) : Nat → Value := fun i => .int .u8 (S i : Int)
theorem bysJ_made (L : Nat) : bysJ L (fun _ => 0) (made (.int .u8 0) L) := by
  intro i hi
  have e : i % 1 = 0 := by omega
  simp [made, madeCells, Value.cells, hi, e]
theorem infoJ5 : (Try.prog.info? 5).map (fun i => (i.zero, i.size, i.bytes)) = some (some (.int .u8 0), 1, 1) := by kernel_rfl
theorem conv_any {w : World} {a : Option Addr} {L : Nat} {f : Nat → Nat} (cap : Nat) (hf : ∀ k, f k < 256) (h : At w a L (byJ f)) : (convert 39 9 (.slice a L cap)).run Try.prog w = .ok (.string (tx L f)) w := by
  by_cases h0 : L = 0
  · subst h0
    cases a with
    | none => kernel_rfl
    | some a => exact run_convert_bytes_back (P := Try.prog) w 39 9 5 a cap [] Try.underlying39 Try.underlying5 Try.underlying9 (fun j hj => absurd hj (by simp))
  · obtain ⟨b, off, rfl, hc⟩ := h h0
    have := run_convert_bytes_back (P := Try.prog) w 39 9 5 ⟨b, off, none⟩ cap ((List.range L).map fun k => UInt8.ofNat (f k)) Try.underlying39 Try.underlying5 Try.underlying9 (fun j hj => by
      have e : (⟨b, off, none⟩ : Addr).add j = ⟨b, off + j, none⟩ := by unfold Addr.add; split <;> simp_all
      have hj' : j < L := by simpa using hj
      rw [e, hc j hj', byJ]
      simp [Nat.mod_eq_of_lt (hf j)])
    rw [List.length_map, List.length_range] at this
    exact this
/-- The drawing cursor: a box in block D; what it reads lies ahead of it. -/
def Cur (w : World) (D : Nat) (a : Option Addr) (n cap T : Nat) : Prop :=
  ∃ (S : Nat → Nat) (t : Nat) (s : Int), (∀ i, S i < 256) ∧ (n ≠ 0 → ∃ b off, a = some ⟨b, off, none⟩ ∧ b < D ∧ ∀ i, i < n → w.cell? ⟨b, off + i, none⟩ = some (.int .u8 (S i : Nat))) ∧
    t ≤ T ∧ 0 ≤ s ∧ s < 18446744073709551616 ∧ w.heap[D]? = some (.cells #[.slice a n cap, .int .i64 (t : Int), .int .u64 s] 66 (0, 0))
theorem Cur.below {w w' : World} {D : Nat} {a : Option Addr} {n cap T : Nat} (h : Cur w D a n cap T) (hb : Below w.heap.size w w') : Cur w' D a n cap T := by
  obtain ⟨S, t, s, h1, h2, h3, h4, h5, h6⟩ := h
  have hD : D < w.heap.size := (Array.getElem?_eq_some_iff.1 h6).1
  refine ⟨S, t, s, h1, fun hn => ?_, h3, h4, h5, (hb.block D hD).trans h6⟩
  obtain ⟨b, off, e, hlt, hc⟩ := h2 hn
  exact ⟨b, off, e, hlt, fun i hi => (hb.cell (p := ⟨b, off + i, none⟩) (Nat.lt_trans hlt hD)).trans (hc i hi)⟩
theorem Cur.mono {w : World} {D : Nat} {a : Option Addr} {n cap T T' : Nat} (h : Cur w D a n cap T) (hT : T ≤ T') : Cur w D a n cap T' := by
  obtain ⟨S, t, s, h1, h2, h3, h4, h5, h6⟩ := h
  exact ⟨S, t, s, h1, h2, by omega, h4, h5, h6⟩
theorem wrap_u64_lt (n : Int) : IntKind.u64.wrap n < 18446744073709551616 := by simp [IntKind.wrap, IntKind.bits, IntKind.signed]; omega
theorem and255 {s : Int} (h0 : 0 ≤ s) (h1 : s < 18446744073709551616) : ∃ r : Nat, r < 256 ∧ bits .and .u64 (s / 1099511627776) 255 = (r : Int) := by
  refine ⟨(s / 1099511627776).toNat % 256, by omega, ?_⟩
  have e : s / 1099511627776 = (((s / 1099511627776).toNat : Nat) : Int) := by omega
  rw [e, show (255 : Int) = ((255 : Nat) : Int) from rfl, u64_and_nat _ _ (by omega) (by omega), nat_mask8]
  simp
theorem cell_out {B C : Nat} {w w' : World} {b o : Nat} {v : Value} (h : Out B C w w') (hc : w.cell? ⟨b, o, none⟩ = some v) (hd : b < B ∨ C ≤ b) : w'.cell? ⟨b, o, none⟩ = some v := by
  have := h.block b (lt_of_cell hc) hd
  unfold World.cell? at hc ⊢
  simp only [] at hc ⊢
  rw [this]; exact hc
set_option maxHeartbeats 800000 in
theorem next_any (D : Nat) (a : Option Addr) (n cap T : Nat) (w : World) (hn : n ≤ 9223372036854775807) (hT : T ≤ 1000000) (h : Cur w D a n cap T) :
    Calls Try.prog 63 #[.pointer (some ⟨D, 0, none⟩)] w fun e w' => ∃ r : Nat, e = .returned (.int .i64 (r : Int)) ∧ r < 256 ∧ Out D (D + 1) w w' ∧ Cur w' D a n cap (T + 1) := by
  obtain ⟨S, t, s, h1, h2, h3, h4, h5, h6⟩ := h
  have c0 : w.cell? ⟨D, 0, none⟩ = some (.slice a n cap) := cell_of_block h6 rfl
  have c1 : w.cell? ⟨D, 1, none⟩ = some (.int .i64 (t : Int)) := cell_of_block h6 rfl
  have c2 : w.cell? ⟨D, 2, none⟩ = some (.int .u64 s) := cell_of_block h6 rfl
  have f1 := free_of_block (i := 1) h6
  have f2 := free_of_block (i := 2) h6
  have H6 : Hid _ := h6
  have H2 : Hid _ := h2
  clear h6 h2
  by_cases hlt : t < n
  · obtain ⟨b, off, rfl, hbD, hc⟩ := H2.out (by omega)
    have hct := hc t hlt
    have HC : Hid _ := hc
    have hlt' : (t : Int) < (n : Int) := by omega
    have hle' : (t : Int) + 1 ≤ (n : Int) := by omega
    have hSt := h1 t
    clear hc
    go_enter Try.func63, Try.ntmps63
    go_wp2
    go_quiet (fail)
    go_wp2
    obtain ⟨q0, hq0⟩ : ∃ q0, q0 = nq := ⟨_, rfl⟩
    subst hq0
    go_quiet (fail)
    go_wp2
    obtain ⟨s', hs'⟩ : ∃ s', s' = IntKind.u64.wrap (IntKind.u64.wrap (IntKind.u64.wrap (s * 6364136223846793005) + ((S t : Nat) : Int)) + 1442695040888963407) := ⟨_, rfl⟩
    have hs0 : 0 ≤ s' := by rw [hs']; exact wrap_u64_nonneg _
    have hs1 : s' < 18446744073709551616 := by rw [hs']; exact wrap_u64_lt _
    rw [← hs']
    clear hs'
    obtain ⟨r, hr, hx⟩ := and255 hs0 hs1
    obtain ⟨W, hW⟩ : ∃ W, W = (((w.drewN (q0 + nq)).setCell ⟨D, 1, none⟩ (.int .i64 ((t : Int) + 1))).setCell ⟨D, 2, none⟩ (.int .u64 s')) := ⟨_, rfl⟩
    have blk : W.heap[D]? = some (.cells #[.slice (some ⟨b, off, none⟩) n cap, .int .i64 ((t : Int) + 1), .int .u64 s'] 66 (0, 0)) := by rw [hW]; exact block_set (block_set H6.out)
    have oW : Out D (D + 1) w W := by rw [hW]; exact ((Out.of_below (below_drewN (Below.refl _ _) _)).setCell (Nat.le_refl _) (by omega) _ _).setCell (Nat.le_refl _) (by omega) _ _
    rw [← hW]
    have d0 : W.cell? ⟨D, 0, none⟩ = some (.slice (some ⟨b, off, none⟩) n cap) := cell_of_block blk rfl
    have d1 : W.cell? ⟨D, 1, none⟩ = some (.int .i64 ((t : Int) + 1)) := cell_of_block blk rfl
    have d2 : W.cell? ⟨D, 2, none⟩ = some (.int .u64 s') := cell_of_block blk rfl
    have cW : Cur W D (some ⟨b, off, none⟩) n cap (T + 1) := by
      refine ⟨S, t + 1, s', h1, fun _ => ⟨b, off, rfl, hbD, fun i hi => ?_⟩, by omega, hs0, hs1, blk⟩
      exact cell_out oW (HC.out i hi) (.inl hbD)
    have OW : Hid (∀ q, Out D (D + 1) w (W.drewN q)) := fun q => oW.trans (Out.of_below (below_drewN (Below.refl _ _) _))
    have CW : Hid (∀ q, Cur (W.drewN q) D (some ⟨b, off, none⟩) n cap (T + 1)) := fun q => cW.below (below_drewN (Below.refl _ _) _)
    clear hW blk oW cW c0 c1 c2 f1 f2 hct
    go_quiet (fail)
    go_wp2
    skip
    go_ret
    exact ⟨S t, rfl, hSt, OW.out _, CW.out _⟩
  · have hlt' : ¬ (t : Int) < (n : Int) := by omega
    have hle' : ¬ (t : Int) + 1 ≤ (n : Int) := by omega
    go_enter Try.func63, Try.ntmps63
    go_wp2
    go_quiet (fail)
    go_wp2
    obtain ⟨s', hs'⟩ : ∃ s', s' = IntKind.u64.wrap (IntKind.u64.wrap (IntKind.u64.wrap (s * 6364136223846793005)) + 1442695040888963407) := ⟨_, rfl⟩
    have hs0 : 0 ≤ s' := by rw [hs']; exact wrap_u64_nonneg _
    have hs1 : s' < 18446744073709551616 := by rw [hs']; exact wrap_u64_lt _
    rw [← hs']
    clear hs'
    obtain ⟨r, hr, hx⟩ := and255 hs0 hs1
    obtain ⟨W, hW⟩ : ∃ W, W = (((w.drewN nq).setCell ⟨D, 1, none⟩ (.int .i64 ((t : Int) + 1))).setCell ⟨D, 2, none⟩ (.int .u64 s')) := ⟨_, rfl⟩
    have blk : W.heap[D]? = some (.cells #[.slice a n cap, .int .i64 ((t : Int) + 1), .int .u64 s'] 66 (0, 0)) := by rw [hW]; exact block_set (block_set H6.out)
    have oW : Out D (D + 1) w W := by rw [hW]; exact ((Out.of_below (below_drewN (Below.refl _ _) _)).setCell (Nat.le_refl _) (by omega) _ _).setCell (Nat.le_refl _) (by omega) _ _
    rw [← hW]
    have d0 : W.cell? ⟨D, 0, none⟩ = some (.slice a n cap) := cell_of_block blk rfl
    have d1 : W.cell? ⟨D, 1, none⟩ = some (.int .i64 ((t : Int) + 1)) := cell_of_block blk rfl
    have d2 : W.cell? ⟨D, 2, none⟩ = some (.int .u64 s') := cell_of_block blk rfl
    have cW : Cur W D a n cap (T + 1) := by
      refine ⟨S, t + 1, s', h1, fun hn => ?_, by omega, hs0, hs1, blk⟩
      obtain ⟨b, off, e, hbD, hc⟩ := H2.out hn; exact ⟨b, off, e, hbD, fun i hi => cell_out oW (hc i hi) (.inl hbD)⟩
    have OW : Hid (∀ q, Out D (D + 1) w (W.drewN q)) := fun q => oW.trans (Out.of_below (below_drewN (Below.refl _ _) _))
    have CW : Hid (∀ q, Cur (W.drewN q) D a n cap (T + 1)) := fun q => cW.below (below_drewN (Below.refl _ _) _)
    clear hW blk oW cW c0 c1 c2 f1 f2 
    go_quiet (fail)
    go_wp2
    skip
    go_ret
    exact ⟨r, rfl, hr, OW.out _, CW.out _⟩
set_option maxHeartbeats 800000 in
theorem pick_any (m D : Nat) (a : Option Addr) (n cap T : Nat) (w : World) (h0 : 1 ≤ m) (h1 : m ≤ 60000) (hn : n ≤ 9223372036854775807) (hT : T ≤ 999998) (h : Cur w D a n cap T) :
    Calls Try.prog 56 #[.pointer (some ⟨D, 0, none⟩), .int .i64 (m : Int)] w fun e w' => ∃ r : Nat, e = .returned (.int .i64 (r : Int)) ∧ r < m ∧ Out D (D + 1) w w' ∧ Cur w' D a n cap (T + 2) := by
  by_cases hm : m = 1
  · subst hm
    go_enter Try.func56, Try.ntmps56
    go_wp2
    go_ret
    exact ⟨0, rfl, by omega, Out.refl _ _ _, h.mono (by omega)⟩
  have h2 : ¬ (m : Int) ≤ 1 := by omega
  have h3 : ¬ (m : Int) = 0 := by omega
  by_cases h4 : m ≤ 200
  · have h4' : ¬ (200 : Int) < (m : Int) := by omega
    go_enter Try.func56, Try.ntmps56
    go_wp2_with fail
    refine (next_any D a n cap T _ hn (by omega) h).mono ?_
    rintro e w1 ⟨r, rfl, hr, o1, c1⟩
    go_wp2
    go_ret
    exact ⟨r % m, rfl, Nat.mod_lt _ (by omega), o1, c1.mono (by omega)⟩
  · have h4' : (200 : Int) < (m : Int) := by omega
    go_enter Try.func56, Try.ntmps56
    go_wp2_with fail
    refine (next_any D a n cap T _ hn (by omega) h).mono ?_
    rintro e w1 ⟨r, rfl, hr, o1, c1⟩
    go_wp2_with fail
    refine (next_any D a n cap (T + 1) _ hn (by omega) c1).mono ?_
    rintro e w2 ⟨r2, rfl, hr2, o2, c2⟩
    go_wp2
    go_ret
    exact ⟨(r * 256 + r2) % m, rfl, Nat.mod_lt _ (by omega), o1.trans o2, c2⟩
set_option maxHeartbeats 800000 in
theorem one_any (m D : Nat) (a : Option Addr) (n cap T : Nat) (w : World) (h0 : 1 ≤ m) (h1 : m ≤ 60000) (hn : n ≤ 9223372036854775807) (hT : T ≤ 999998) (h : Cur w D a n cap T) :
    Calls Try.prog 58 #[.pointer (some ⟨D, 0, none⟩), .int .i64 (m : Int)] w fun e w' => ∃ r : Bool, e = .returned (.bool r) ∧ Out D (D + 1) w w' ∧ Cur w' D a n cap (T + 2) := by
  go_enter Try.func58, Try.ntmps58
  go_wp2_with fail
  refine (pick_any m D a n cap T _ h0 h1 hn hT h).mono ?_
  rintro e w1 ⟨r, rfl, hr, o1, c1⟩
  go_wp2
  go_ret
  exact ⟨_, rfl, o1, c1⟩
theorem Out.setNew {B C : Nat} {a b : World} {k : Nat} (h : Out B C a b) (h1 : a.heap.size ≤ k) (o : Nat) (v : Value) : Out B C a (b.setCell ⟨k, o, none⟩ v) := by
  refine ⟨h.os, h.tape, h.output, by simpa [World.setCell] using h.size, fun i hi hs => ?_⟩
  have := h.block i hi hs
  simp only [World.setCell, Array.getElem?_modify]
  rw [if_neg (by omega)]
  exact this
theorem Cur.low {w w' : World} {D : Nat} {a : Option Addr} {n cap T : Nat} (h : Cur w D a n cap T) (hb : Below (D + 1) w w') : Cur w' D a n cap T := by
  obtain ⟨S, t, s, h1, h2, h3, h4, h5, h6⟩ := h
  refine ⟨S, t, s, h1, fun hn => ?_, h3, h4, h5, (hb.block D (by omega)).trans h6⟩
  obtain ⟨b, off, e, hlt, hc⟩ := h2 hn
  exact ⟨b, off, e, hlt, fun i hi => (hb.cell (p := ⟨b, off + i, none⟩) (show b < D + 1 by omega)).trans (hc i hi)⟩
theorem Cur.lt {w : World} {D : Nat} {a : Option Addr} {n cap T : Nat} (h : Cur w D a n cap T) : D < w.heap.size := by
  obtain ⟨S, t, s, h1, h2, h3, h4, h5, h6⟩ := h
  exact (Array.getElem?_eq_some_iff.1 h6).1
/-- Bytes f but r at q. -/
def upf (f : Nat → Nat) (q r : Nat) : Nat → Nat := fun j => if j = q then r else f j
theorem bysJ_upf {n q r : Nat} {f : Nat → Nat} {c : Array Value} (h : bysJ n f c) (hq : q < n) : bysJ n (upf f q r) (c.setIfInBounds q (.int .u8 (r : Int))) := by
  intro i hi
  have hc := (Array.getElem?_eq_some_iff.1 (h q hq)).1
  by_cases e : i = q
  · subst e; rw [set_at hc]; simp [upf]
  · rw [set_ne e, h i hi]; simp [upf, e]
theorem upf_lt {f : Nat → Nat} {q r : Nat} (h : ∀ i, f i < 256) (hr : r < 256) : ∀ i, upf f q r i < 256 := by
  intro i; unfold upf; split
  · exact hr
  · exact h i
set_option maxHeartbeats 800000 in
theorem text_any (k D : Nat) (a : Option Addr) (n cap T : Nat) (w : World) (hk : k ≤ 1000) (hn : n ≤ 9223372036854775807) (hT : T ≤ 900000) (h : Cur w D a n cap T) :
    Calls Try.prog 60 #[.pointer (some ⟨D, 0, none⟩), .int .i64 (k : Int)] w fun e w' => ∃ u : ByteArray, e = .returned (.string u) ∧ u.size = k ∧ Out D (D + 1) w w' ∧ Cur w' D a n cap (T + 2 * k) := by
  have hmk := make_any (P := Try.prog) 39 5 _ 1 1 Try.underlying39 infoJ5 .i64 .i64 k (by omega) (by omega)
  have hD := h.lt
  have HCUR : Hid (Cur w D a n cap T) := h
  clear h
  go_enter Try.func60, Try.ntmps60
  go_wp2
  go_loopw [11] (fun i wr => ∃ (q : Nat) (f : Nat → Nat) (c : Array Value), q ≤ k ∧ i = .int .i64 q ∧ Hid (∀ i, f i < 256) ∧ wr.heap[w.heap.size]? = some (.cells c 5 (0, 0)) ∧ bysJ k f c ∧ Out D (D + 1) w wr ∧ Cur wr D a n cap (T + 2 * q)) (fun i _ => k - (intOf i).toNat)
  case atStart => exact ⟨0, fun _ => 0, _, Nat.zero_le _, rfl, fun _ => (by decide : 0 < 256), heap_alloc_new w _, bysJ_made k, Out.of_below (below_alloc _ _), Cur.below HCUR.out (below_alloc _ _)⟩
  case round =>
    obtain ⟨q, f, c, hq, rfl, hbl, hB, hs, ho, hcu⟩ := hrel
    by_cases hlt : q < k
    · have hlt' : (q : Int) < (k : Int) := by omega
      have HB : Hid _ := hB
      have hlw : w.heap.size < wr.heap.size := (Array.getElem?_eq_some_iff.1 hB).1
      clear hB HCUR
      go_wp2_with fail
      refine (pick_any 256 D a n cap (T + 2 * q) _ (by omega) (by omega) hn (by omega) hcu).mono ?_
      rintro e w1 ⟨r, rfl, hr, o1, c1⟩
      have hm : (r : Int) % 256 = (r : Int) := by omega
      have hB1 : w1.heap[w.heap.size]? = some (.cells c 5 (0, 0)) := (o1.block _ hlw (by omega)).trans HB.out
      have hold := cell_of_block hB1 (hs q hlt)
      have hfree := free_of_block (i := q) hB1
      have HB1 : Hid _ := hB1
      clear hB1
      go_wp2
      go_roundw
      case rel => exact ⟨q + 1, upf f q r, _, by omega, by go_num, upf_lt hbl.out hr, block_set HB1.out, bysJ_upf hs hlt, (ho.trans o1).setNew (Nat.le_refl _) _ _, (c1.low ((Below.refl _ _).setCell (show D + 1 ≤ w.heap.size by omega) _)).mono (by omega)⟩
      case measure => simp [intOf]; omega
    · obtain rfl : k = q := by omega
      have hat : At wr (some ⟨w.heap.size, 0, none⟩) k (byJ f) := fun _ => ⟨_, 0, rfl, fun i hi => by rw [Nat.zero_add]; exact cell_of_block hB (hs i hi)⟩
      have hcv := conv_any k hbl.out hat
      clear hB HCUR hat
      go_wp2
      go_ret
      exact ⟨_, rfl, tx_size _ _, ho, hcu⟩
theorem zeros_any (k : Nat) (w : World) (hk : k ≤ 1000) :
    Calls Try.prog 62 #[.int .i64 (k : Int)] w fun e w' => ∃ u : ByteArray, e = .returned (.string u) ∧ u.size = k ∧ Below w.heap.size w w' := by
  have hmk := make_any (P := Try.prog) 39 5 _ 1 1 Try.underlying39 infoJ5 .i64 .i64 k (by omega) (by omega)
  have hat : At (w.alloc (.cells (made (.int .u8 0) k) 5)) (some ⟨w.heap.size, 0, none⟩) k (byJ fun _ => 0) := fun _ => ⟨_, 0, rfl, fun i hi => by rw [Nat.zero_add]; exact cell_of_block (heap_alloc_new w _) (bysJ_made k i hi)⟩
  have hcv := conv_any k (fun _ => by omega) hat
  clear hat
  go_enter Try.func62, Try.ntmps62
  go_wp2
  go_ret
  exact ⟨_, rfl, tx_size _ _, below_alloc _ _⟩
/-- The cursor's box, made by the drawing function. -/
theorem Cur.new {w : World} {a : Option Addr} {n cap : Nat} {S : Nat → Nat} (hS : ∀ i, S i < 256) (h : At w a n (byJ S)) : Cur (w.alloc (.cells #[.slice a n cap, .int .i64 0, .int .u64 0] 66)) w.heap.size a n cap 0 := by
  refine ⟨S, 0, 0, hS, fun hn => ?_, Nat.le_refl _, by omega, by omega, heap_alloc_new w _⟩
  obtain ⟨b, off, e, hc⟩ := h hn
  have hlt : b < w.heap.size := by have := hc 0 (by omega); exact lt_of_cell this
  exact ⟨b, off, e, hlt, fun i hi => (cell_on (hc i hi) (below_alloc _ _))⟩
end Go.Proofs.Ytodidnbghiinkaa
