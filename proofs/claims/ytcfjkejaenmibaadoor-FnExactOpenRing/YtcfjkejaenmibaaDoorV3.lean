import Derived.Test.YtcfjkejaenmibaaDoorV2
/- Copies: a row of slots copied, one slot repeated. -/
namespace Go.Proofs.YtcfjkejaenmibaaDoor
open Go.ChangeShapes Go.WideShapes Go.ChangeAt Go.RowKit
set_option linter.unusedVariables false
open Lg

attribute [local go_sem] Oper.semAt_some

/-- A part of a row. -/
def subA (x : Option Addr) (k c : Nat) : Option Addr := if c = k then x else x.map (·.add (k * 4))
theorem sizeSl (w : World) : (Go.sizeOf 41).run Tryd.prog w = .ok 4 w := Tryd.sizeOf41 w
theorem slice_to (x : Option Addr) (n c k : Nat) (h : k ≤ c) (w : World) : (Instr.slice 22 (.slice x n c) none (some (.int .i64 (k : Int))) none).run Tryd.prog w = .ok (.slice (subA x 0 c) k c) w := by
  rw [run_slice_h w 22 x n c (by kernel_rfl) .i64 k (by omega) (by omega), show Tryd.prog.elem 22 = 41 from by kernel_rfl, sizeSl]
  simp [Result.andThen, sliced, subA]
theorem slice_from (x : Option Addr) (n c k : Nat) (h : k ≤ n) (w : World) : (Instr.slice 22 (.slice x n c) (some (.int .i64 (k : Int))) none none).run Tryd.prog w = .ok (.slice (subA x k c) (n - k) (c - k)) w := by
  rw [run_slice_l w 22 x n c (by kernel_rfl) .i64 k (by omega) (by omega), show Tryd.prog.elem 22 = 41 from by kernel_rfl, sizeSl]
  simp [Result.andThen, sliced, subA]
theorem run_copy_at {P : Program} (w : World) (dT sT ty elem : TypeId) (z : Nat) (g o dl dcap : Nat) (a : Option Addr) (n m cap : Nat) (cur : Array Value) (t : TypeId) (cs : List Value)
    (hu : P.underlying dT = some (.slice elem)) (hs : (P.info? elem).map (·.size) = some z) (hg : w.heap[g]? = some (.cells cur t (0, 0))) (hmin : Nat.min n dl = m) (hl : cs.length = m * z) (hm0 : 0 < m)
    (hsrc : ∃ ad, a = some ad ∧ ∀ j v, cs[j]? = some v → w.cell? (ad.add j) = some v) (hfit : o + cs.length ≤ cur.size) (h1 : ∀ v ∈ cs, v.oneCell' = true) :
    (Builtin.copy_ #[dT, sT] ty #[.slice (some ⟨g, o, none⟩) dl dcap, .slice a n cap]).run P w = .ok (goInt m) (w.setRow g (cur.toList.take o ++ cs ++ cur.toList.drop (o + cs.length)).toArray) := by
  have hst := run_storeCells_at P g o t cs 0 cur w hg (by simpa using hfit) h1
  simp only [Nat.add_zero] at hst
  cases hq : P.info? elem with
  | none => simp [hq] at hs
  | some i =>
    have hi : i.size = z := by simpa [hq] using hs
    obtain ⟨ad, rfl, hc⟩ := hsrc
    have hlc := run_loadCells_list (P := P) w ad cs hc
    rw [hl] at hlc
    simp [Builtin.copy_, run_underlying hu, Builtin.lenOf, Builtin.firstCells, sizeOf, typeInfo, hq, hi, hmin, hlc, hst]
theorem step_copy_at {P : Program} {w : World} {ops : Array Oper} {o : Oper} {a : Act} {K : Act → World → Prop} {Q : Exit → Act → World → Prop} {E : Prop} (hgd : o.guard = none) (d s : Operand) (dT sT : TypeId)
    (ho : o.op = .call { callee := .builtin .copy, args := #[d, s], argTypes := #[dT, sT] }) (elem : TypeId) (z : Nat) (hu : P.underlying dT = some (.slice elem)) (hsz : (P.info? elem).map (·.size) = some z)
    (g off dl dcap : Nat) (sa : Option Addr) (n m cap : Nat) (hd : a.eval d = .slice (some ⟨g, off, none⟩) dl dcap) (hs : a.eval s = .slice sa n cap)
    (cur : Array Value) (t : TypeId) (cs : List Value) (hg : w.heap[g]? = some (.cells cur t (0, 0))) (hmin : Nat.min n dl = m) (hl : cs.length = m * z) (hm0 : 0 < m)
    (hsrc : ∃ ad, sa = some ad ∧ ∀ j v, cs[j]? = some v → w.cell? (ad.add j) = some v) (hfit : off + cs.length ≤ cur.size) (h1 : ∀ v ∈ cs, v.oneCell' = true)
    (h : ∀ w', Hid (w'.heap[g]? = some (.cells (cur.toList.take off ++ cs ++ cur.toList.drop (off + cs.length)).toArray t (0, 0))) → Out g (g + 1) w w' → K (a.put o.dst (goInt m)) w') : if Region.wanted o (yielded ops a.tmps) = true then Oper.wp P o a w K Q else E := by
  have hw : Region.wanted o (yielded ops a.tmps) = true := by simp [Region.wanted, hgd]
  rw [if_pos hw]
  have hrun := run_copy_at (P := P) w dT sT o.type elem z g off dl dcap sa n m cap cur t cs hu hsz hg hmin hl hm0 hsrc hfit h1
  generalize (cur.toList.take off ++ cs ++ cur.toList.drop (off + cs.length)).toArray = R at hrun h
  unfold Oper.wp
  simp [execOp, ho, resolve, invoke, builtin, hd, hs, hrun, Result.andThen]
  exact h _ (setRow_heap w g cur R t _ hg) (out_setRow w g R)
theorem sizeSl2 : (Tryd.prog.info? 41).map (·.size) = some 4 := by kernel_rfl
theorem gs_rep {n i : Nat} {s : Sl} (h : i < n) : gs (List.replicate n s) i = s := by simp [gs, h]
theorem slsN_copy {k m : Nat} {s : Sl} {c : Array Value} (h : slsN k (fun _ => s) c) (hc : (k + m) * 4 ≤ c.size) :
    slsN (k + m) (fun _ => s) (c.toList.take (k * 4) ++ css (List.replicate m s) ++ c.toList.drop (k * 4 + (css (List.replicate m s)).length)).toArray := by
  have hlen : (c.toList.take (k * 4)).length = k * 4 := by simp; omega
  have hcl : (css (List.replicate m s)).length = m * 4 := by rw [css_len]; simp
  intro i hi
  have at1 : ∀ j, j < k * 4 → (c.toList.take (k * 4) ++ css (List.replicate m s) ++ c.toList.drop (k * 4 + (css (List.replicate m s)).length)).toArray[j]? = c[j]? := fun j hj => by
    rw [List.getElem?_toArray, List.getElem?_append_left (by rw [List.length_append, hlen]; omega), List.getElem?_append_left (by rw [hlen]; exact hj), List.getElem?_take, if_pos hj]
    simp
  have at2 : ∀ j, k * 4 ≤ j → j < (k + m) * 4 → (c.toList.take (k * 4) ++ css (List.replicate m s) ++ c.toList.drop (k * 4 + (css (List.replicate m s)).length)).toArray[j]? = (css (List.replicate m s))[j - k * 4]? := fun j h1 h2 => by
    rw [List.getElem?_toArray, List.getElem?_append_left (by rw [List.length_append, hlen, hcl]; omega), List.getElem?_append_right (by rw [hlen]; exact h1), hlen]
  by_cases hk : i < k
  · rw [at1 _ (by omega), at1 _ (by omega), at1 _ (by omega), at1 _ (by omega)]
    exact h i hk
  · rw [at2 _ (by omega) (by omega), at2 _ (by omega) (by omega), at2 _ (by omega) (by omega), at2 _ (by omega) (by omega)]
    have := css_at (List.replicate m s) (i - k) (by simp; omega)
    rw [gs_rep (by omega)] at this
    rw [show i * 4 - k * 4 = (i - k) * 4 by omega, show i * 4 + 1 - k * 4 = (i - k) * 4 + 1 by omega, show i * 4 + 2 - k * 4 = (i - k) * 4 + 2 by omega, show i * 4 + 3 - k * 4 = (i - k) * 4 + 3 by omega]
    exact this
set_option maxHeartbeats 1000000 in
/-- A row of slots copied. -/
theorem copyList_any (a : Option Addr) (cap : Nat) (l : List Sl) (w : World) (hn : l.length ≤ 1048576) (hc : Sls w a l) :
    Calls Tryd.prog 57 #[.slice a l.length cap] w fun e w' => Below w.heap.size w w' ∧ ∃ a', e = .returned (.slice a' l.length l.length) ∧ MineS w' w.heap.size w'.heap.size a' l.length (gs l) := by
  have hmk := make_any (P := Tryd.prog) 22 41 _ 4 40 Tryd.underlying22 infoSl .i64 .i64 l.length (by omega) (by omega)
  have hsrc := RowS.src (hc.below (below_alloc w (.cells (made (.agg #[.int .i64 0, .int .i64 0, .string ⟨#[]⟩, .int .i64 0]) (l.length * 4)) 41)))
  have hat := css_at l
  have hlen := css_len l
  have HAT : Hid _ := hat
  have HLN : Hid _ := hlen
  have hone := css_one l
  clear hat hlen
  generalize hn' : l.length = n at *
  clear hn'
  go_enter Tryd.func57, Tryd.ntmps57
  go_wp2_with (refine wpList_copy_mine rfl _ _ 22 22 rfl 41 4 Tryd.underlying22 sizeSl2 w.heap.size n n a n cap rfl rfl (made (.agg #[.int .i64 0, .int .i64 0, .string ⟨#[]⟩, .int .i64 0]) (n * 4)) 41 (css l) (heap_alloc_new w _) HLN.out (Nat.le_refl _) hsrc (by rw [HLN.out, size_made]; omega) hone ?_; intro w1 hB1 ho1)
  go_ret
  refine ⟨(below_alloc w _).trans (ho1.below (by simp)), _, rfl, .inr ⟨_, _, Nat.le_refl _, (Array.getElem?_eq_some_iff.1 hB1.out).1, rfl, hB1.out, fun i hi => ?_⟩⟩
  have k := HAT.out i hi
  have e := HLN.out
  rw [List.getElem?_toArray, List.getElem?_toArray, List.getElem?_toArray, List.getElem?_toArray, List.getElem?_append_left (by omega), List.getElem?_append_left (by omega), List.getElem?_append_left (by omega), List.getElem?_append_left (by omega)]
  exact k
set_option maxHeartbeats 4000000 in
/-- One slot, so many times. -/
theorem Repeat_any (a : Option Addr) (s : Sl) (n : Nat) (w : World) (hn : 1 ≤ n) (hn2 : n ≤ 24) (ha : Sls w a [s]) :
    Calls Tryd.prog 45 #[.slice a 1 1, .int .i64 (n : Int)] w fun e w' => Below w.heap.size w w' ∧ ∃ a', e = .returned (.slice a' n n) ∧ MineS w' w.heap.size w'.heap.size a' n (fun _ => s) := by
  have hmk := make_any (P := Tryd.prog) 22 41 _ 4 40 Tryd.underlying22 infoSl .i64 .i64 n (by omega) (by omega)
  have cM : ∀ W, Calls Tryd.prog 65 #[.int .u64 1, .int .u64 (n : Int)] W fun e w' => e = .returned (.tuple #[.int .u64 0, .int .u64 (n : Int)]) ∧ w' = W := fun W => by
    have := Tryd.bits_Mul 1 n (by omega) (by omega) W
    rw [show 1 * n / 18446744073709551616 = 0 by omega, show 1 * n % 18446744073709551616 = n by omega] at this
    exact this
  have hs1 := RowS.src (ha.below (below_alloc w (.cells (made (.agg #[.int .i64 0, .int .i64 0, .string ⟨#[]⟩, .int .i64 0]) (n * 4)) 41)))
  have hn0 : ¬ ((n : Int) < 0) := by omega
  have hw1 : IntKind.u64.wrap (n : Int) = (n : Int) := by simp only [IntKind.wrap, IntKind.bits, IntKind.signed]; simp; omega
  have hw2 : IntKind.i64.wrap (n : Int) = (n : Int) := wrapI (by omega) (by omega)
  clear ha
  go_enter Tryd.func45, Tryd.ntmps45
  go_wp2_with (first
    | (go_at_call 65; refine (cM _).mono ?_; rintro e w' ⟨rfl, hww⟩; have hww := hww.symm; subst hww)
    | (refine wpList_copy_mine rfl _ _ 22 22 rfl 41 4 Tryd.underlying22 sizeSl2 w.heap.size n n a 1 1 rfl rfl (made (.agg #[.int .i64 0, .int .i64 0, .string ⟨#[]⟩, .int .i64 0]) (n * 4)) 41 (css [s]) (heap_alloc_new w _) rfl hn hs1 (by rw [size_made]; show 4 ≤ _; omega) (css_one _) ?_; intro w1 hB1 ho1))
  have hs0 : slsN 1 (fun _ => s) (css [s] ++ (made (.agg #[.int .i64 0, .int .i64 0, .string ⟨#[]⟩, .int .i64 0]) (n * 4)).toList.drop (css [s]).length).toArray := fun i hi => by
    obtain rfl : i = 0 := by omega
    have k := css_at [s] 0 (by simp)
    have e := css_len [s]
    simp only [List.length_cons, List.length_nil] at e
    rw [List.getElem?_toArray, List.getElem?_toArray, List.getElem?_toArray, List.getElem?_toArray, List.getElem?_append_left (by omega), List.getElem?_append_left (by omega), List.getElem?_append_left (by omega), List.getElem?_append_left (by omega)]
    exact k
  have hz0 : (css [s] ++ (made (.agg #[.int .i64 0, .int .i64 0, .string ⟨#[]⟩, .int .i64 0]) (n * 4)).toList.drop (css [s]).length).toArray.size = n * 4 := by
    have e := css_len [s]
    have e2 := size_made (.agg #[.int .i64 0, .int .i64 0, .string ⟨#[]⟩, .int .i64 0]) (n * 4)
    simp only [List.length_cons, List.length_nil] at e
    simp only [List.size_toArray, List.length_append, List.length_drop, Array.length_toList]
    omega
  generalize (css [s] ++ (made (.agg #[.int .i64 0, .int .i64 0, .string ⟨#[]⟩, .int .i64 0]) (n * 4)).toList.drop (css [s]).length).toArray = c1 at hB1 hs0 hz0
  have hb1 : Below w.heap.size w w1 := (below_alloc w _).trans (ho1.below (by simp))
  have HB1 : Hid (Below w.heap.size w w1) := hb1
  clear hb1 ho1 hmk cM hs1
  obtain ⟨G, hG⟩ : ∃ G, w.heap.size = G := ⟨_, rfl⟩
  have HG : Hid (w.heap.size = G) := hG
  rw [hG] at hB1
  simp only [hG]
  clear hG
  go_loopw [8] (fun i wr => ∃ (k : Nat) (c : Array Value), 1 ≤ k ∧ k ≤ n ∧ i = .int .i64 (k : Int) ∧ Hid (wr.heap[G]? = some (.cells c 41 (0, 0))) ∧ Hid (c.size = n * 4) ∧ Hid (slsN k (fun _ => s) c) ∧ Hid (Out G (G + 1) w1 wr)) (fun i _ => n - (intOf i).toNat)
  case atStart => exact ⟨1, c1, Nat.le_refl _, hn, rfl, hB1, hz0, hs0, Out.refl _ _ _⟩
  case round =>
    obtain ⟨k, c, hk1, hk, rfl, hB, hcs, hst, ho⟩ := hrel
    by_cases hlt : k < n
    · obtain ⟨m, hm⟩ : ∃ m, Nat.min k (n - k) = m := ⟨_, rfl⟩
      have hm1 : 0 < m ∧ m ≤ k ∧ k + m ≤ n := by rw [← hm]; simp only [Nat.min_def]; split <;> omega
      have hFr : ∀ W, (Instr.slice 22 (.slice (some ⟨G, 0, none⟩) n n) (some (.int .i64 (k : Int))) none none).run Tryd.prog W = .ok (.slice (some ⟨G, k * 4, none⟩) (n - k) (n - k)) W := fun W => by
        rw [slice_from _ n n k (by omega) W, show subA (some ⟨G, 0, none⟩) k n = some ⟨G, k * 4, none⟩ by unfold subA; rw [if_neg (by omega)]; simp [addN]]
      have hTo : ∀ W, (Instr.slice 22 (.slice (some ⟨G, 0, none⟩) n n) none (some (.int .i64 (k : Int))) none).run Tryd.prog W = .ok (.slice (some ⟨G, 0, none⟩) k n) W := fun W => by
        rw [slice_to _ n n k (by omega) W, show subA (some ⟨G, 0, none⟩) 0 n = some ⟨G, 0, none⟩ by unfold subA; rw [if_neg (by omega)]; simp [addN]]
      have hwk : IntKind.i64.wrap ((k : Int) + (m : Int)) = ((k + m : Nat) : Int) := by rw [wrapI (by omega) (by omega)]; omega
      have hlt' : (k : Int) < (n : Int) := by omega
      have Hm : Hid _ := hm
      have Hsrc : Hid (∀ W : World, W.heap[G]? = some (.cells c 41 (0, 0)) → ∃ ad, some (⟨G, 0, none⟩ : Addr) = some ad ∧ ∀ j v, (css (List.replicate m s))[j]? = some v → W.cell? (ad.add j) = some v) := fun W hW => ⟨_, rfl, RowS.cells (off := 0) (fun i hi => by
        simp only [List.length_replicate] at hi
        rw [gs_rep hi]
        obtain ⟨a0, a1, a2, a3⟩ := hst.out i (by omega)
        simp only [Nat.zero_add]
        exact ⟨cell_of_block hW a0, cell_of_block hW a1, cell_of_block hW a2, cell_of_block hW a3⟩)⟩
      have Hlen : Hid ((css (List.replicate m s)).length = m * 4) := by show _ = _; rw [css_len]; simp
      clear hm
      go_wp2
      go_region_held3 (fun _ => True) (trivial)
        (first
        | (refine step_copy_at (by rfl) _ _ 22 22 (by rfl) 41 4 Tryd.underlying22 sizeSl2 G (k * 4) (n - k) (n - k) (some ⟨G, 0, none⟩) k m n rfl rfl c 41 (css (List.replicate m s)) hB.out Hm.out Hlen.out hm1.1 (Hsrc.out _ hB.out) (by rw [Hlen.out, hcs.out]; omega) (css_one _) ?_; intro w2 hB2 ho2))
      all_goals go_wp2
      all_goals go_roundw
      case rel =>
        have od : Out G (G + 1) wr wr.drew := Out.of_below (Below.drew (Below.refl _ wr))
        refine ⟨k + m, _, by omega, hm1.2.2, by go_num, hB2, ?_, slsN_copy hst.out (by rw [hcs.out]; omega), (ho.out.trans od).trans ho2⟩
        show _ = _
        have e1 := Hlen.out
        have e2 := hcs.out
        simp only [List.size_toArray, List.length_append, List.length_drop, List.length_take, Array.length_toList]
        omega
      case measure => simp [intOf]; omega
    · obtain rfl : k = n := by omega
      go_wp2
      go_ret
      have hlt : G < wr.heap.size := box_lt hB.out
      refine ⟨HB1.out.trans (ho.out.below (by have := HB1.out.size; have := HG.out; omega) |>.mono (by have := HG.out; omega)), _, rfl, .inr ⟨G, c, by have := HG.out; omega, hlt, rfl, hB.out, hst.out⟩⟩
end Go.Proofs.YtcfjkejaenmibaaDoor
