import Derived.Test.YthioomihpfmlmaaDoorB2
import Derived.Test.YthioomihpfmlmaaDoorQ5
import Derived.Test.YthioomihpfmlmaaDoorH2
/- Rows of texts; texts cut at slashes by Go's library. -/
namespace Go.Proofs.YthioomihpfmlmaaDoor
open Go.ChangeShapes Go.WideShapes Go.ChangeAt Go.RowKit
set_option linter.unusedVariables false
open Hd

attribute [local go_sem] Oper.semAt_some

/-- The text at a place of a list. -/
def gs (l : List ByteArray) (i : Nat) : ByteArray := l.getD i ⟨#[]⟩
theorem gs_eq {l : List ByteArray} {i : Nat} (h : i < l.length) : gs l i = l[i] := by simp [gs, h]
/-- A row of texts that can be read. -/
abbrev Strs (w : World) (a : Option Addr) (l : List ByteArray) : Prop := At w a l.length (fun i => .string (gs l i))
theorem Strs.nil {w : World} {a : Option Addr} : Strs w a [] := fun h => absurd rfl h
theorem info9 : (Tryd.prog.info? 9).map (fun i => (i.zero, i.size, i.bytes)) = some (some (.string ⟨#[]⟩), 1, 16) := by kernel_rfl
def css (l : List ByteArray) : List Value := l.map .string
theorem css_len (l : List ByteArray) : (css l).length = l.length := by simp [css]
theorem css_app (l m : List ByteArray) : css (l ++ m) = css l ++ css m := by simp [css]
theorem css_one (l : List ByteArray) : ∀ u ∈ css l, u.oneCell' = true := by
  intro u hu
  simp only [css, List.mem_map] at hu
  obtain ⟨x, _, rfl⟩ := hu
  rfl
theorem css_at {l : List ByteArray} {i : Nat} (h : i < l.length) : (css l)[i]? = some (.string (gs l i)) := by simp [css, gs, h]
/-- A row of texts that may be appended to. -/
abbrev OwnS (w : World) (B : Nat) (v : Value) (l : List ByteArray) : Prop := w.ownsRow B 9 1 v l.length (css l)
theorem OwnS.nil (w : World) (B : Nat) : OwnS w B (.slice none 0 0) [] := ⟨rfl, .inl ⟨rfl, rfl⟩⟩
theorem OwnS.strs {w : World} {B : Nat} {v : Value} {l : List ByteArray} (h : OwnS w B v l) : ∃ a c, v = .slice a l.length c ∧ l.length ≤ c ∧ Strs w a l := by
  rcases h.2 with ⟨rfl, h2⟩ | ⟨g, cap, cur, rfl, hb, hg, hc, hm, hcs, ht⟩
  · have : l = [] := List.eq_nil_of_length_eq_zero h2
    subst this
    exact ⟨none, 0, rfl, Nat.le_refl _, Strs.nil⟩
  · refine ⟨_, cap, rfl, hc, fun _ => ⟨g, 0, rfl, fun i hi => ?_⟩⟩
    have k := css_at hi
    rw [← ht, List.getElem?_take, if_pos (by omega)] at k
    rw [Nat.zero_add]
    exact cell_of_block hg (by simpa using k)
theorem ext_ext (s : ByteArray) (a b c d : Nat) (h : a + d ≤ b) : (s.extract a b).extract c d = s.extract (a + c) (a + d) := by
  apply ByteArray.ext
  simp only [ByteArray.data_extract, Array.extract_extract]
  rw [Nat.min_eq_left h]
theorem ext_size {s : ByteArray} {a b : Nat} (h : b ≤ s.size) : (s.extract a b).size = b - a := by
  rw [ByteArray.size_extract, Nat.min_eq_left h]
theorem ext_bt (p : ByteArray) (i : Nat) : bt (p.extract i p.size) = (bt p).drop i := by
  unfold bt
  rw [ByteArray.data_extract, Array.toList_extract]
  simp [List.extract]
  rw [List.take_of_length_le (by simp)]
theorem ext_all (p : ByteArray) : p.extract 0 p.size = p := by
  apply ByteArray.ext
  rw [ByteArray.data_extract]
  show p.data.extract 0 p.data.size = p.data
  exact Array.extract_size
theorem ext_get {p : ByteArray} {i k : Nat} (h : i + k < p.size) (hk : k < (p.extract i p.size).size) : (p.extract i p.size)[k] = p[i + k] := by
  show (p.extract i p.size).data[k]'(by exact hk) = p.data[i + k]'(by exact h)
  simp only [ByteArray.data_extract]
  rw [Array.getElem_extract]
theorem slice_mid (s : ByteArray) (a b : Nat) (h1 : a ≤ b) (h2 : b ≤ s.size) (w : World) : (Instr.slice 9 (.string s) (some (.int .i64 (a : Int))) (some (.int .i64 (b : Int))) none).run Tryd.prog w = .ok (.string (s.extract a b)) w := by
  rw [run_slice_string w 9 s .i64 .i64 (a : Int) (b : Int) Tryd.underlying9 (by omega) (by omega) (by omega)]
  simp
theorem slice_end (s : ByteArray) (a : Nat) (h1 : a ≤ s.size) (w : World) : (Instr.slice 9 (.string s) (some (.int .i64 (a : Int))) none none).run Tryd.prog w = .ok (.string (s.extract a s.size)) w := by
  rw [run_slice_string_from_if w 9 s .i64 (a : Int) Tryd.underlying9, if_pos (by omega)]
  simp
theorem slice_to (s : ByteArray) (b : Nat) (h2 : b ≤ s.size) (w : World) : (Instr.slice 9 (.string s) none (some (.int .i64 (b : Int))) none).run Tryd.prog w = .ok (.string (s.extract 0 b)) w := by
  rw [run_slice_string_h w 9 s Tryd.underlying9 .i64 (b : Int) (by omega) (by omega)]
  simp
theorem sliceS_to (b off n c k : Nat) (h : k ≤ c) (w : World) : (Instr.slice 41 (.slice (some ⟨b, off, none⟩) n c) none (some (.int .i64 (k : Int))) none).run Tryd.prog w = .ok (.slice (some ⟨b, off, none⟩) k c) w := by
  rw [run_slice_h w 41 (some ⟨b, off, none⟩) n c (by kernel_rfl) .i64 k (by omega) (by omega), show Tryd.prog.elem 41 = 9 from by kernel_rfl, Tryd.sizeOf9]
  simp only [Result.andThen, sliced]
  split
  · simp
  · simp [addN]
theorem ib_neg_or (l : List UInt8) : Lib.indexByte l 47 = -1 ∨ 0 ≤ Lib.indexByte l 47 := by
  have := Lib.indexByte_ge l 47
  omega
set_option maxRecDepth 100000 in
theorem index1_any (x : ByteArray) (w : World) : Calls Tryd.prog 64 #[.string x, .string ⟨#[47]⟩] w fun e w' => e = .returned (.int .i64 (Lib.indexByte (bt x) 47)) ∧ w' = w := by
  have c := fun W => indexByte1_any x 47 W
  rw [show (Int.toNat 47).toUInt8 = (47 : UInt8) from rfl] at c
  have he := eqs_is ⟨#[47]⟩ x
  rw [show (⟨#[47]⟩ : ByteArray).toList = [47] from by rw [Lib.toList_data]] at he
  by_cases h : (⟨#[47]⟩ : ByteArray) = x
  · rw [decide_eq_true h] at he
    have h0 : Lib.indexByte (bt x) 47 = 0 := by rw [← h]; rfl
    rw [h0]
    clear c h0 h
    go_enter Tryd.func64, Tryd.ntmps64
    go_wp2
    go_ret
    exact ⟨rfl, rfl⟩
  · rw [decide_eq_false h] at he
    generalize Lib.indexByte (bt x) 47 = r at *
    go_enter Tryd.func64, Tryd.ntmps64
    go_wp2_with (go_at_call 58; refine (c _).mono ?_; rintro e w' ⟨rfl, rfl⟩)
    go_ret
    exact ⟨rfl, rfl⟩
theorem index_any (x : ByteArray) (w : World) : Calls Tryd.prog 57 #[.string x, .string ⟨#[47]⟩] w fun e w' => e = .returned (.int .i64 (Lib.indexByte (bt x) 47)) ∧ w' = w := by
  have c := fun W => index1_any x W
  generalize Lib.indexByte (bt x) 47 = r at *
  go_enter Tryd.func57, Tryd.ntmps57
  go_wp2_with (go_at_call 64; refine (c _).mono ?_; rintro e w' ⟨rfl, rfl⟩)
  go_ret
  exact ⟨rfl, rfl⟩
set_option maxRecDepth 100000 in
theorem count_any (x : ByteArray) (w : World) : Calls Tryd.prog 56 #[.string x, .string ⟨#[47]⟩] w fun e w' => e = .returned (.int .i64 (Lib.countByte (bt x) 47 : Nat)) ∧ w' = w := by
  go_enter Tryd.func56, Tryd.ntmps56
  go_wp2
  rw [run_callFunc_extern Tryd.func63 (by kernel_rfl) (by kernel_rfl) (by kernel_rfl) (e := Extern.BytealgCount.count) (by kernel_rfl), Lib.run_countString]
  simp only [Result.andThen]
  rw [Oper.upon_value]
  go_wp2
  go_ret
  exact ⟨rfl, rfl⟩
theorem made9 {n i : Nat} (h : i < n) : (made (.string ⟨#[]⟩) n)[i]? = some (.string ⟨#[]⟩) := by
  have := toList_madeCells_one (.string ⟨#[]⟩) n
  unfold made
  rw [show (Value.string ⟨#[]⟩).cells = #[.string ⟨#[]⟩] from rfl, ← Array.getElem?_toList, this]
  simp [h]
set_option maxHeartbeats 4000000 in
set_option maxRecDepth 100000 in
theorem genSplit_any (p : ByteArray) (w : World) (hp : p.size ≤ 1048576) :
    Calls Tryd.prog 47 #[.string p, .string ⟨#[47]⟩, .int .i64 0, .int .i64 (-1)] w fun e w' => Below w.heap.size w w' ∧ ∃ a c, e = .returned (.slice a (pcs p 0).length c) ∧ (pcs p 0).length ≤ c ∧ Strs w' a (pcs p 0) := by
  have cC := fun W => count_any p W
  have cI := fun x W => index_any x W
  have hca := count_all p
  have hcl : Lib.countByte (bt p) 47 ≤ p.size := by
    have := List.count_le_length (a := (47 : UInt8)) (l := bt p)
    rw [bt_len] at this
    exact this
  obtain ⟨N, hN⟩ : ∃ N, (pcs p 0).length = N := ⟨_, rfl⟩
  obtain ⟨C, hC⟩ : ∃ C, Lib.countByte (bt p) 47 = C := ⟨_, rfl⟩
  rw [hC] at cC hca hcl
  rw [hN] at hca
  obtain ⟨L, hL⟩ : ∃ L, pcs p 0 = L := ⟨_, rfl⟩
  have HL : Hid _ := hL
  rw [hL] at hN ⊢
  have HN : Hid _ := hN
  rw [hN]
  clear hL hN hC
  have hmk := make_any (P := Tryd.prog) 41 9 _ 1 16 Tryd.underlying41 info9 .i64 .i64 N (by omega) (by omega)
  simp only [Nat.mul_one] at hmk
  have e1 : IntKind.i64.wrap ((C : Int) + 1) = (N : Int) := by rw [wrapI (by omega) (by omega)]; omega
  have e2 : IntKind.i64.wrap ((p.size : Int) + 1) = (p.size : Int) + 1 := wrapI (by omega) (by omega)
  have e3 : min (N : Int) ((p.size : Int) + 1) = (N : Int) := Int.min_eq_left (by omega)
  have e4 : IntKind.i64.wrap ((N : Int) - 1) = (C : Int) := by rw [wrapI (by omega) (by omega)]; omega
  obtain ⟨g, hg⟩ : ∃ g, w.heap.size = g := ⟨_, rfl⟩
  obtain ⟨W0, hW0⟩ : ∃ W0, w.alloc (.cells (made (.string ⟨#[]⟩) N) 9) = W0 := ⟨_, rfl⟩
  have q0 : Below w.heap.size w W0 := by subst hW0; exact below_alloc _ _
  have HB0 : Hid (W0.heap[g]? = some (.cells (made (.string ⟨#[]⟩) N) 9 (0, 0))) := by subst hW0 hg; exact al1 _ _
  have hall := ext_all p
  have HAll : Hid _ := hall
  have HCN : Hid _ := hca
  clear hall hca
  go_enter Tryd.func47, Tryd.ntmps47
  go_wp2_with (go_at_call 56; refine (cC _).mono ?_; rintro e w' ⟨rfl, hww⟩; rw [hww])
  clear cC hmk hW0
  go_loopw [0, 10] (fun s0 s10 wr => ∃ (i pos : Nat) (c : Array Value) (r : ByteArray), i ≤ C ∧ pos ≤ p.size ∧ s0 = .string r ∧ Hid (r = p.extract pos p.size) ∧ s10 = .int .i64 i ∧ Hid (wr.heap[g]? = some (.cells c 9 (0, 0))) ∧ c.size = N ∧ Hid (∀ j, j < i → c[j]? = some (.string (gs L j))) ∧ Hid (L.drop i = pcs p pos) ∧ Below w.heap.size w wr) (fun _ s10 _ => C - (intOf s10).toNat)
  case atStart => exact ⟨0, 0, _, p, by omega, Nat.zero_le _, rfl, HAll.out.symm, rfl, HB0, by rw [size_made], fun j hj => absurd hj (by omega), by rw [List.drop_zero]; exact HL.out.symm, q0⟩
  case round =>
    obtain ⟨i, pos, c, r, hi, hpos, rfl, HR, rfl, HB, hcs, HS, HD, hb⟩ := hrel
    have hNC : N = C + 1 := HCN.out
    have hic : i < c.size := by omega
    have hstep := pcs_step hpos
    have hge := nx_ge p pos
    have hle := nx_le hpos
    have hrs : r.size = p.size - pos := by rw [HR.out, ext_size (Nat.le_refl _)]
    have hlen : (pcs p pos).length = N - i := by rw [← HD.out, List.length_drop, HN.out]
    have hgi : gs L i = p.extract pos (nx p pos) := by
      have h5 : (L.drop i)[0]? = some (p.extract pos (nx p pos)) := by rw [HD.out, hstep]; rfl
      rw [List.getElem?_drop, Nat.add_zero] at h5
      simp [gs, h5]
    have g0 : wr.cell? ⟨g, i, none⟩ = some c[i] := cell_of_block HB.out (by simp)
    have f0 := free_of_block (i := i) HB.out
    have hiN : (i : Int) < (N : Int) := by omega
    by_cases hlt : i < C
    · have hJ : nx p pos < p.size := by
        by_cases h : nx p pos < p.size
        · exact h
        · rw [hstep, if_neg h] at hlen
          simp at hlen
          omega
      obtain ⟨M, hM⟩ : ∃ M, nx p pos - pos = M := ⟨_, rfl⟩
      have hix := nx_index p _ pos rfl
      rw [if_pos hJ, ← ext_bt, ← HR.out, show ((nx p pos : Nat) : Int) - pos = (M : Int) by omega] at hix
      have cI' := fun W => cI r W
      rw [hix] at cI'
      have hs1 : ∀ w, (Instr.slice 9 (.string r) none (some (.int .i64 (M : Int))) none).run Tryd.prog w = .ok (.string (r.extract 0 M)) w := fun w => slice_to r M (by omega) w
      have hw1 : IntKind.i64.wrap ((M : Int) + 1) = ((M + 1 : Nat) : Int) := by rw [wrapI (by omega) (by omega)]; omega
      have hs2 : ∀ w, (Instr.slice 9 (.string r) (some (.int .i64 ((M + 1 : Nat) : Int))) none none).run Tryd.prog w = .ok (.string (r.extract (M + 1) r.size)) w := fun w => slice_end r (M + 1) (by omega) w
      generalize hQ : ((M + 1 : Nat) : Int) = Q at hw1 hs2
      have hrb : r.size ≤ 9223372036854775807 := by omega
      obtain ⟨r1, hr1⟩ : ∃ r1, r.extract 0 M = r1 := ⟨_, rfl⟩
      obtain ⟨r2, hr2⟩ : ∃ r2, r.extract (M + 1) r.size = r2 := ⟨_, rfl⟩
      rw [hr1] at hs1
      rw [hr2] at hs2
      have HR1 : Hid (r1 = gs L i) := by
        show r1 = _
        rw [← hr1, hgi, HR.out, ext_ext _ _ _ _ _ (by omega)]
        congr 1
        omega
      have HR2 : Hid (r2 = p.extract (nx p pos + 1) p.size) := by
        show r2 = _
        rw [← hr2, hrs, HR.out, ext_ext _ _ _ _ _ (by omega)]
        congr 1 <;> omega
      have HD2 : Hid (L.drop (i + 1) = pcs p (nx p pos + 1)) := by
        show _ = _
        rw [← List.drop_drop, HD.out, hstep, if_pos hJ]
        rfl
      have hm0 : decide ((M : Int) < 0) = false := by simp
      have hpos' : nx p pos + 1 ≤ p.size := hJ
      have HQ : Hid _ := hQ
      have hwM : wrap64 (M : Int) = (M : Int) := wrap64_of (by omega) (by omega)
      clear hix hQ hstep hgi hlen hrs hM hge hle hJ cI hNC
      go_wp2_with (go_at_call 57; refine (cI' _).mono ?_; rintro e w' ⟨rfl, hww⟩; rw [hww])
      go_roundw
      case rel =>
        refine ⟨i + 1, nx p pos + 1, _, r2, by omega, hpos', rfl, HR2.out, by go_num, block_set HB.out, by simpa using hcs, fun j hj => ?_, HD2.out, hb.setCell (by rw [hg]; simp) _⟩
        by_cases e : j = i
        · subst e; rw [set_at (by omega), HR1.out]
        · rw [set_ne e]; exact HS.out j (by omega)
      case measure => simp [intOf]; omega
    · have hiC : i = C := by omega
      have hlast : r = gs L i := by
        have hnx : nx p pos = p.size := by
          by_cases h : nx p pos < p.size
          · exfalso
            rw [hstep, if_pos h, List.length_cons] at hlen
            have h6 : 1 ≤ (pcs p (nx p pos + 1)).length := List.length_pos_iff.2 (pcs_ne p h)
            have := HCN.out
            omega
          · omega
        rw [hgi, hnx]
        exact HR.out
      have HLast : Hid _ := hlast
      have hw2 : IntKind.i64.wrap ((i : Int) + 1) = (N : Int) := by have := HCN.out; rw [wrapI (by omega) (by omega)]; omega
      have hs3 : ∀ w, (Instr.slice 41 (.slice (some ⟨g, 0, none⟩) N N) none (some (.int .i64 (N : Int))) none).run Tryd.prog w = .ok (.slice (some ⟨g, 0, none⟩) N N) w := fun w => sliceS_to g 0 N N N (Nat.le_refl _) w
      clear hlast hstep hgi hlen hrs hge hle cI hNC
      subst hiC
      go_wp2
      go_ret
      have HSet := block_set (v := .string r) (i := i) HB.out
      refine ⟨hb.setCell (by rw [hg]; simp) _, some ⟨g, 0, none⟩, N, rfl, by first | exact Nat.le_refl _ | (rw [HN.out]; exact Nat.le_refl _), fun _ => ⟨g, 0, rfl, fun j hj => ?_⟩⟩
      rw [Nat.zero_add]
      refine cell_of_block HSet ?_
      rw [HN.out] at hj
      by_cases e : j = i
      · subst e; rw [set_at (by omega), HLast.out]
      · rw [set_ne e]; exact HS.out j (by have := HCN.out; omega)
theorem split_any (p : ByteArray) (w : World) (hp : p.size ≤ 1048576) :
    Calls Tryd.prog 38 #[.string p, .string ⟨#[47]⟩] w fun e w' => Below w.heap.size w w' ∧ ∃ a c, e = .returned (.slice a (pcs p 0).length c) ∧ (pcs p 0).length ≤ c ∧ Strs w' a (pcs p 0) := by
  have c := genSplit_any p w hp
  go_enter Tryd.func38, Tryd.ntmps38
  go_wp2_with fail
  refine c.mono ?_
  rintro e w1 ⟨b1, a, cc, rfl, h1, h2⟩
  have H2 : Hid _ := h2
  clear h2
  go_wp2_with fail
  go_ret
  exact ⟨b1, a, cc, rfl, h1, H2.out⟩
end Go.Proofs.YthioomihpfmlmaaDoor
