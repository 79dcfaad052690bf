import Derived.Test.YtmijalmihfgolaaDoorV1
/- slices.Grow, slices.Concat over rows of writes. -/
namespace Go.Proofs.YtmijalmihfgolaaDoor
open Go.ChangeShapes Go.WideShapes Go.ChangeAt Go.RowKit
set_option linter.unusedVariables false
open Tx

attribute [local go_sem] Oper.semAt_some

set_option maxRecDepth 10000 in
theorem Grow_any (n : Nat) (w : World) (hn : n ≤ 1000000) :
    Calls Tryd.prog 104 #[.slice none 0 0, .int .i64 n] w fun e w' => Below w.heap.size w w' ∧ ∃ x c, e = .returned (.slice x 0 c) ∧ OwnW w' w.heap.size (.slice x 0 c) [] := by
  by_cases h0 : n = 0
  · subst h0
    go_enter Tryd.func104, Tryd.ntmps104
    go_wp2
    go_ret
    exact ⟨Below.refl _ _, _, _, rfl, OwnW.nil _ _⟩
  · obtain ⟨i, hi, hz0, hz1, hz2⟩ := info_parts info42
    have happ := Lib.run_append_nil_zeros (P := Tryd.prog) w 30 3 30 63 i (.agg #[.int .i64 0, .string ⟨#[]⟩]) .i64 .i64 Tryd.underlying30 Tryd.underlying3 hi hz0 n (by omega) (by rw [hz1]; omega) (by omega) (by rw [hz2]; omega)
    generalize hcap : grownCap w n 0 63 = cap2 at happ
    have hcapge : n ≤ cap2 := by rw [← hcap]; exact grownCap_ge w _ 0 63
    have hcaple : cap2 ≤ maxLen := by rw [← hcap]; exact grownCap_le_maxLen w _ 0 63 (by unfold maxLen; omega)
    generalize hZ : (Builtin.zeroCells (Value.agg #[.int .i64 0, .string ⟨#[]⟩]).cells n ++ Builtin.zeroCells (Value.agg #[.int .i64 0, .string ⟨#[]⟩]).cells (cap2 - n)) = Z at happ
    have hZs : Z.size = cap2 * 2 := by rw [← hZ]; simp [size_zeroCells, Value.cells]; omega
    clear hcap hZ
    have h0' : (0 : Int) < (n : Int) := by omega
    have hsl := sliceW_to (some ⟨w.heap.size, 0, none⟩) n cap2 0 (Nat.zero_le _)
    rw [subA0] at hsl
    clear hi hz0 hz1 hz2 h0
    go_enter Tryd.func104, Tryd.ntmps104
    go_wp2_with (at_builtin; refine Lib.wpList_append_run _ rfl _ _ _ _ rfl _ _ rfl rfl _ _ happ ?_)
    go_ret
    refine ⟨(Below.refl _ _).drew.alloc (Nat.le_refl _) _, _, _, rfl, rfl, .inr ⟨w.heap.size, cap2, Z, rfl, Nat.le_refl _, heap_alloc_new w.drew _, Nat.zero_le _, hcaple, hZs, rfl⟩⟩

def gl (Ls : List (List Wr)) (i : Nat) : List Wr := Ls.getD i []
theorem gl_lt {Ls : List (List Wr)} {i : Nat} (h : i < Ls.length) : gl Ls i = Ls[i] := by simp [gl, h]
theorem gl_take {Ls : List (List Wr)} {k i : Nat} (h : i < k) : gl (Ls.take k) i = gl Ls i := by simp [gl, h]
theorem gl_drop {Ls : List (List Wr)} {k i : Nat} : gl (Ls.drop k) i = gl Ls (k + i) := by simp [gl]
theorem gl_app {Ls Ms : List (List Wr)} {i : Nat} (h : i < Ls.length) : gl (Ls ++ Ms) i = gl Ls i := by simp [gl, h, List.getElem?_append_left]
theorem gl_snoc (Ls : List (List Wr)) (l : List Wr) : gl (Ls ++ [l]) Ls.length = l := by simp [gl]
def flt (Ls : List (List Wr)) (k : Nat) : List Wr := (Ls.take k).flatten
theorem flat_succ {Ls : List (List Wr)} {k : Nat} (h : k < Ls.length) : flt Ls (k + 1) = flt Ls k ++ gl Ls k := by
  unfold flt
  rw [List.take_succ_eq_append_getElem h, List.flatten_append, gl_lt h]
  simp
theorem flt_zero (Ls : List (List Wr)) : flt Ls 0 = [] := rfl
theorem flt_all (Ls : List (List Wr)) : flt Ls Ls.length = Ls.flatten := by unfold flt; rw [List.take_length]
theorem flt_take (Ls : List (List Wr)) (k : Nat) : (Ls.take k).flatten = flt Ls k := rfl
/-- Slices in a row: where each lies, its room. -/
abbrev slv (A : Nat → Option Addr) (C : Nat → Nat) (Ls : List (List Wr)) (i : Nat) : Value := .slice (A i) (gl Ls i).length (C i)
set_option maxHeartbeats 1000000 in
theorem Concat_any (a : Option Addr) (cap : Nat) (A : Nat → Option Addr) (C : Nat → Nat) (Ls : List (List Wr)) (w : World) (hn : Ls.length ≤ 40) (hl : ∀ i, i < Ls.length → (gl Ls i).length ≤ 8) (ha : At w a Ls.length (slv A C Ls)) (hr : ∀ i, i < Ls.length → RowW w (A i) (gl Ls i)) :
    Calls Tryd.prog 91 #[.slice a Ls.length cap] w fun e w' => Below w.heap.size w w' ∧ ∃ v, e = .returned v ∧ OwnW w' w.heap.size v Ls.flatten := by
  have hfl : ∀ k, k ≤ Ls.length → (flt Ls k).length ≤ k * 8 := fun k => by
    induction k with
    | zero => rw [flt_zero]; simp
    | succ k ih => intro h; have := ih (by omega); have := hl k (by omega); rw [flat_succ (by omega), List.length_append]; omega
  have Hfl : Hid _ := hfl
  have Hr : Hid _ := hr
  have Hl : Hid _ := hl
  clear hfl hr hl
  go_enter Tryd.func91, Tryd.ntmps91
  go_wp2
  go_loop [11, 3] (fun i q => ∃ (k : Nat), k ≤ Ls.length ∧ i = .int .i64 k ∧ q = .int .i64 ((flt Ls k).length : Nat)) (fun i _ => Ls.length - (intOf i).toNat)
  case atStart => exact ⟨0, Nat.zero_le _, rfl, rfl⟩
  case round =>
    obtain ⟨k, hk, rfl, rfl⟩ := hrel
    by_cases hlt : k < Ls.length
    · obtain ⟨b, off, rfl, hc⟩ := ha (by omega)
      have hck : w.cell? ⟨b, off + k, none⟩ = some (.slice (A k) (gl Ls k).length (C k)) := hc k hlt
      have h1 := Hfl.out k hk
      have h2 := Hl.out k hlt
      have h3 : (flt Ls (k + 1)).length = (flt Ls k).length + (gl Ls k).length := by rw [flat_succ hlt, List.length_append]
      have H3 : Hid _ := h3
      clear h3 hc
      generalize hq1 : (flt Ls k).length = q1 at *
      generalize hq2 : (gl Ls k).length = q2 at *
      have h4 : ¬ ((q1 : Int) + (q2 : Int) < 0) := by omega
      clear hq1 hq2
      go_wp2
      go_round
      case rel => exact ⟨k + 1, by omega, by go_num, by rw [H3.out]; simp⟩
      case measure => simp [intOf]; omega
    · have hkn : k = Ls.length := by omega
      subst hkn
      have h1 := Hfl.out Ls.length (Nat.le_refl _)
      have cGr := Grow_any (flt Ls Ls.length).length w (by omega)
      go_wp2_with fail
      refine cGr.mono ?_
      rintro e w1 ⟨b1, x, c, rfl, own1⟩
      clear cGr
      have HO : Hid (OwnW w1 w.heap.size (.slice x 0 c) []) := own1
      clear own1
      go_wp2
      go_loopw [27, 6] (fun i o wr => ∃ (j : Nat), j ≤ Ls.length ∧ i = .int .i64 j ∧ Hid (OwnW wr w.heap.size o (flt Ls j)) ∧ Hid (Below w.heap.size w wr)) (fun i _ _ => Ls.length - (intOf i).toNat)
      case atStart => exact ⟨0, Nat.zero_le _, rfl, HO, b1⟩
      case round =>
        obtain ⟨j, hj, rfl, HJ, hb⟩ := hrel
        obtain ⟨y, cy, hy⟩ := owns_form HJ.out
        subst hy
        by_cases hjk : j < Ls.length
        · obtain ⟨b, off, rfl, hc⟩ := (At.below ha hb.out) (by omega)
          have hcj : wr.cell? ⟨b, off + j, none⟩ = some (.slice (A j) (gl Ls j).length (C j)) := hc j hjk
          have st : Hid _ := src2W (At2.below (Hr.out j hjk) hb.out)
          have h2 := Hl.out j hjk
          have h3 := Hfl.out j hj
          have z := hb.out.size
          have e1 := flat_succ hjk
          have HE : Hid _ := e1
          have hjk' : (j : Int) < (Ls.length : Int) := by omega
          clear e1 hc
          generalize hq1 : flt Ls j = q1 at *
          generalize hq2 : gl Ls j = q2 at *
          clear hq1 hq2
          go_wp2_with (at_builtin; refine wpList_append_src rfl _ _ 30 rfl w.heap.size 63 _ 2 24 Tryd.underlying30 info42 rfl (by decide) (.slice y q1.length cy) q1.length (cws q1) rfl HJ.out (A j) q2.length (C j) (cws q2) rfl (cws_len _) st.out (cws_one _) (by omega) (by decide) z ?_; intro v2 w2 own2 gr2; have b2 : Hid _ := hb.out.trans (Grown.below gr2 z (owns_ge HJ.out)); have HO2 : Hid _ := own2; clear own2 gr2)
          go_roundw
          case rel =>
            refine ⟨j + 1, by omega, by go_num, ?_, b2.out⟩
            rw [HE.out]
            show OwnW _ _ _ _
            unfold OwnW
            rw [List.length_append, cws_app]
            exact HO2.out
          case measure => simp [intOf]; omega
        · have hjk' : j = Ls.length := by omega
          subst hjk'
          go_wp2
          go_ret
          refine ⟨hb.out, _, rfl, ?_⟩
          rw [← flt_all]
          exact HJ.out
end Go.Proofs.YtmijalmihfgolaaDoor
