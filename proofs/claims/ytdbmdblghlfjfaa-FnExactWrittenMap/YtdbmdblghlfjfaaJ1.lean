import Derived.Test.YtdbmdblghlfjfaaY4
import Derived.Test.YtdbmdblghlfjfaaP6
/- impl.joinAll over pieces. -/
namespace Go.Proofs.Ytdbmdblghlfjfaa
open Go.ChangeShapes Go.WideShapes Go.ChangeAt Go.RowKit
set_option linter.unusedVariables false
open Mp

attribute [local go_sem] Oper.semAt_some

theorem OwnP.last {w : World} {B : Nat} {v : Value} {l : List Pc} {y : Pc} (h : OwnP w B v (l ++ [y])) :
    ∃ g cap cur, v = .slice (some ⟨g, 0, none⟩) (l.length + 1) cap ∧ B ≤ g ∧ w.heap[g]? = some (.cells cur 40 (0, 0)) ∧ (w.cell? ⟨g, l.length * 4, none⟩ = some (.int .i64 y.f) ∧ w.cell? ⟨g, l.length * 4 + 1, none⟩ = some (.int .i64 y.n) ∧ w.cell? ⟨g, l.length * 4 + 2, none⟩ = some (.int .i64 y.a) ∧ w.cell? ⟨g, l.length * 4 + 3, none⟩ = some (.bool y.z)) ∧ w.frozen? ⟨g, l.length * 4, none⟩ = false ∧ w.frozen? ⟨g, l.length * 4 + 1, none⟩ = false ∧ w.frozen? ⟨g, l.length * 4 + 2, none⟩ = false ∧ w.frozen? ⟨g, l.length * 4 + 3, none⟩ = false := by
  rcases h.2 with ⟨rfl, h0⟩ | ⟨g, cap, cur, rfl, hb, hg, hc, hm, hcs, ht⟩
  · simp at h0
  · have el : (l ++ [y]).length = l.length + 1 := by simp
    have hx := cpp_at (l ++ [y]) l.length (by simp)
    rw [← ht, el, List.getElem?_take, if_pos (by omega), List.getElem?_take, if_pos (by omega), List.getElem?_take, if_pos (by omega), List.getElem?_take, if_pos (by omega)] at hx
    have eg : gp (l ++ [y]) l.length = y := by simp [gp]
    rw [eg] at hx
    exact ⟨g, cap, cur, by rw [el], hb, hg, ⟨cell_of_block hg (by simpa using hx.1), cell_of_block hg (by simpa using hx.2.1), cell_of_block hg (by simpa using hx.2.2.1), cell_of_block hg (by simpa using hx.2.2.2)⟩, free_of_block hg, free_of_block hg, free_of_block hg, free_of_block hg⟩
/-- A block whose last element is another one. -/
theorem OwnP.re {w w' : World} {B g cap : Nat} {l : List Pc} {y p : Pc} {cur' : Array Value} (h : OwnP w B (.slice (some ⟨g, 0, none⟩) (l.length + 1) cap) (l ++ [y])) (hg' : w'.heap[g]? = some (.cells cur' 40 (0, 0)))
    (hc : ∀ cur, w.heap[g]? = some (.cells cur 40 (0, 0)) → (l.length + 1) * 4 ≤ cur.size → cur'.size = cur.size ∧ (∀ i, i < l.length * 4 → cur'[i]? = cur[i]?) ∧ cur'[l.length * 4]? = some (.int .i64 p.f) ∧ cur'[l.length * 4 + 1]? = some (.int .i64 p.n) ∧ cur'[l.length * 4 + 2]? = some (.int .i64 p.a) ∧ cur'[l.length * 4 + 3]? = some (.bool p.z)) :
    OwnP w' B (.slice (some ⟨g, 0, none⟩) (l.length + 1) cap) (l ++ [p]) := by
  rcases h.2 with ⟨h1, h0⟩ | ⟨g', cap', cur, h1, hb, hg, hcp, hm, hcs, ht⟩
  · simp at h0
  · simp only [Value.slice.injEq, Option.some.injEq, Addr.mk.injEq] at h1
    obtain ⟨⟨rfl, -, -⟩, hn, rfl⟩ := h1
    have el : (l ++ [y]).length = l.length + 1 := by simp
    have el' : (l ++ [p]).length = l.length + 1 := by simp
    rw [el] at hcp ht
    have hsz : (l.length + 1) * 4 ≤ cur.size := by rw [hcs]; exact Nat.mul_le_mul_right _ hcp
    obtain ⟨k0, k1, k2, k3, k4, k5⟩ := hc cur hg hsz
    refine ⟨by rw [cpp_len], .inr ⟨g, cap, cur', by rw [el'], hb, hg', by rw [el']; exact hcp, hm, by rw [k0]; exact hcs, ?_⟩⟩
    rw [el']
    apply List.ext_getElem?
    intro i
    rw [List.getElem?_take]
    by_cases hi : i < (l.length + 1) * 4
    · rw [if_pos hi, Array.getElem?_toList, cpp_app]
      by_cases e1 : i < l.length * 4
      · have h3 := congrArg (fun L => L[i]?) ht
        simp only [List.getElem?_take, if_pos hi, Array.getElem?_toList] at h3
        rw [k1 i e1, h3, cpp_app, List.getElem?_append_left (by rw [cpp_len]; omega), List.getElem?_append_left (by rw [cpp_len]; omega)]
      · have : i = l.length * 4 ∨ i = l.length * 4 + 1 ∨ i = l.length * 4 + 2 ∨ i = l.length * 4 + 3 := by omega
        rw [List.getElem?_append_right (by rw [cpp_len]; omega), cpp_len]
        rcases this with rfl | rfl | rfl | rfl
        · rw [k2, Nat.sub_self]; rfl
        · rw [k3, show l.length * 4 + 1 - l.length * 4 = 1 by omega]; rfl
        · rw [k4, show l.length * 4 + 2 - l.length * 4 = 2 by omega]; rfl
        · rw [k5, show l.length * 4 + 3 - l.length * 4 = 3 by omega]; rfl
    · rw [if_neg hi, List.getElem?_eq_none]
      rw [cpp_len, el']
      omega
theorem OwnP.put {w : World} {B g cap : Nat} {l : List Pc} {y : Pc} (h : OwnP w B (.slice (some ⟨g, 0, none⟩) (l.length + 1) cap) (l ++ [y])) (p : Pc) :
    OwnP ((((w.setCell ⟨g, l.length * 4, none⟩ (.int .i64 p.f)).setCell ⟨g, l.length * 4 + 1, none⟩ (.int .i64 p.n)).setCell ⟨g, l.length * 4 + 2, none⟩ (.int .i64 p.a)).setCell ⟨g, l.length * 4 + 3, none⟩ (.bool p.z)) B (.slice (some ⟨g, 0, none⟩) (l.length + 1) cap) (l ++ [p]) := by
  obtain ⟨g', cap', cur0, e, -, hg, -⟩ := OwnP.last h
  simp only [Value.slice.injEq, Option.some.injEq, Addr.mk.injEq] at e
  obtain ⟨⟨rfl, -, -⟩, -, -⟩ := e
  refine OwnP.re h (block_set (block_set (block_set (block_set hg)))) fun cur hc hs => ?_
  rw [hg] at hc
  obtain rfl : cur0 = cur := by simpa using hc
  refine ⟨by simp, fun i hi => ?_, ?_, ?_, ?_, ?_⟩
  · rw [set_ne (by omega), set_ne (by omega), set_ne (by omega), set_ne (by omega)]
  · rw [set_ne (by omega), set_ne (by omega), set_ne (by omega), set_at (by omega)]
  · rw [set_ne (by omega), set_ne (by omega), set_at (by simp; omega)]
  · rw [set_ne (by omega), set_at (by simp; omega)]
  · rw [set_at (by simp; omega)]
theorem OwnP.put2 {w : World} {B g cap : Nat} {l : List Pc} {y : Pc} (h : OwnP w B (.slice (some ⟨g, 0, none⟩) (l.length + 1) cap) (l ++ [y])) (q : Int) :
    OwnP (w.setCell ⟨g, l.length * 4 + 1, none⟩ (.int .i64 q)) B (.slice (some ⟨g, 0, none⟩) (l.length + 1) cap) (l ++ [⟨y.f, q, y.a, y.z⟩]) := by
  obtain ⟨g', cap', cur0, e, -, hg, ⟨c0, c1, c2, c3⟩, -⟩ := OwnP.last h
  simp only [Value.slice.injEq, Option.some.injEq, Addr.mk.injEq] at e
  obtain ⟨⟨rfl, -, -⟩, -, -⟩ := e
  refine OwnP.re h (block_set hg) fun cur hc hs => ?_
  rw [hg] at hc
  obtain rfl : cur0 = cur := by simpa using hc
  simp only [World.cell?, hg] at c0 c1 c2 c3
  refine ⟨by simp, fun i hi => ?_, ?_, ?_, ?_, ?_⟩
  · rw [set_ne (by omega)]
  · rw [set_ne (by omega)]; exact c0
  · rw [set_at (by omega)]
  · rw [set_ne (by omega)]; exact c2
  · rw [set_ne (by omega)]; exact c3
set_option maxHeartbeats 8000000 in
theorem joinAllP_any (a : Option Addr) (c : Nat) (l : List Pc) (w : World) (hl : l.length ≤ 1000) (hok : ∀ y, y ∈ l → pok y) (ha : Pcs w a l) :
    Calls Try.prog 80 #[.slice a l.length c, .func (.func 73) #[] #[]] w fun e w' => Below w.heap.size w w' ∧ ∃ v, e = .returned v ∧ OwnP w' w.heap.size v (jnP l) := by
  have HOk : Hid (∀ k, (∀ y, y ∈ jnP (l.take k) → pok y) ∧ (jnP (l.take k)).length ≤ 1000) := fun k => ⟨jnP_ok _ (fun y hy => hok y (List.mem_of_mem_take hy)), by have := len_jnP (l.take k); simp at this; omega⟩
  have HOx : Hid (∀ k, k < l.length → pok (gp l k)) := fun k hk => hok _ (gp_mem hk)
  have HJ : Hid (∀ k, k < l.length → jnP (l.take (k + 1)) = jstP (jnP (l.take k)) (gp l k)) := fun k hk => by rw [take_gp hk, jnP_snoc]
  have HE : Hid (jnP (l.take l.length) = jnP l) := by show _ = _; rw [List.take_length]
  have H0 : Hid (jnP (l.take 0) = []) := rfl
  obtain ⟨J, hJ⟩ : ∃ J : Nat → List Pc, (fun k => jnP (l.take k)) = J := ⟨_, rfl⟩
  have hJ' : ∀ k, jnP (l.take k) = J k := fun k => by rw [← hJ]
  simp only [hJ'] at HOk HJ HE H0
  clear hJ hJ' hok
  generalize jnP l = R at *
  unfold Pcs at ha
  generalize gp l = f at *
  generalize l.length = n at *
  obtain ⟨Z, hZ⟩ : ∃ Z, w.heap.size = Z := ⟨_, rfl⟩
  go_enter Try.func80, Try.ntmps80
  go_wp2
  go_loopw [13, 5] (fun i o wr => ∃ (k : Nat) (v : Value), k ≤ n ∧ i = .int .i64 k ∧ v = o ∧ Hid (OwnP wr Z v (J k)) ∧ Below Z w wr ∧ Z ≤ wr.heap.size) (fun i _ _ => n - (intOf i).toNat)
  case atStart => exact ⟨0, _, Nat.zero_le _, rfl, rfl, by rw [H0.out]; exact OwnP.nil _ _, Below.refl _ _, by omega⟩
  case round =>
    obtain ⟨k, v, hk, rfl, rfl, HO, hb, hz⟩ := hrel
    have hbW : Below w.heap.size w wr := hZ ▸ hb
    by_cases hlt : k < n
    · obtain ⟨bb, off, rfl, hcell⟩ := (ha.below hbW) (by omega)
      obtain ⟨k0, k1, k2, k3⟩ := hcell k hlt
      clear hcell
      have hokx := HOx.out k hlt
      have hst := HJ.out k hlt
      have hJk := HOk.out k
      generalize f k = x at *
      obtain ⟨W1, hW1⟩ : ∃ W1, wr.alloc (.cells #[.int .i64 x.f, .int .i64 x.n, .int .i64 x.a, .bool x.z] 40) = W1 := ⟨_, rfl⟩
      obtain ⟨E, hE⟩ : ∃ E, wr.heap.size = E := ⟨_, rfl⟩
      have b1 : Below wr.heap.size wr W1 := by subst hW1; exact below_alloc _ _
      have HE1 : Hid (W1.heap[E]? = some (.cells #[.int .i64 x.f, .int .i64 x.n, .int .i64 x.a, .bool x.z] 40 (0, 0))) := by subst hW1 hE; exact al1 _ _
      obtain ⟨e0, e1, e2, e3⟩ := box4_cells HE1.out
      have own1 : OwnP W1 Z v (J k) := owns_below HO.out b1
      have z1 : Z ≤ W1.heap.size := Nat.le_trans hz b1.size
      have g1 : Below Z w W1 := hb.trans (b1.mono hz)
      rcases cut_lastP (J k) with e | ⟨m, y, e⟩
      · rw [e] at own1 hst
        rw [jstP_nil] at hst
        obtain ⟨xa, c2, rfl⟩ := owns_form own1
        have own2 := owns_below own1 (below_alloc W1 (.cells #[.int .i64 x.f, .int .i64 x.n, .int .i64 x.a, .bool x.z] 40))
        have sr := srcP_one W1 x 40
        have z2 : Z ≤ (W1.alloc (.cells #[.int .i64 x.f, .int .i64 x.n, .int .i64 x.a, .bool x.z] 40)).heap.size := by simp; omega
        have HOw : Hid (OwnP W1 Z (.slice xa 0 c2) []) := own1
        have HST : Hid _ := hst
        clear own1 hst hJk hokx e
        obtain ⟨p0, p1, p2, p3⟩ := x
        simp only [List.length_nil] at *
        go_wp2_with (at_builtin; refine wpList_append_src rfl _ _ 27 rfl Z 40 _ 4 32 Try.underlying27 info40 rfl (by decide) (.slice xa 0 c2) 0 (cpp []) rfl own2 (some ⟨W1.heap.size, 0, none⟩) 1 1 (cpp [⟨p0, p1, p2, p3⟩]) rfl rfl sr (cpp_one _) (by omega) (by decide) z2 ?_; intro v2 w2 own3 gr2'; have gr2 := grown_alloc gr2'; have b2 : Below Z w w2 := g1.trans (Grown.below gr2 z1 (owns_ge HOw.out)); have z3 : Z ≤ w2.heap.size := Nat.le_trans z1 gr2.size; have HO3 : Hid (w2.ownsRow Z 40 4 v2 (0 + 1) (cpp [] ++ cpp [⟨p0, p1, p2, p3⟩])) := own3; clear gr2 gr2' own3)
        go_roundw
        case rel => exact ⟨k + 1, _, by omega, by go_num, rfl, by rw [HST.out]; exact HO3.out, b2, z3⟩
        case measure => simp [intOf]; omega
      · rw [e] at own1 hst hJk
        obtain ⟨g, c2, cur, rfl, hgZ, hgB, ⟨l0, l1, l2, l3⟩, -, -, -, -⟩ := OwnP.last own1
        have hoky := hJk.1 y (by simp)
        have hml : m.length ≤ 1000 := by have := hJk.2; simp at this; omega
        have cj := fun W => joinPieces_any y x W hoky hokx
        have HO1 : Hid (OwnP W1 Z (.slice (some ⟨g, 0, none⟩) (m.length + 1) c2) (m ++ [y])) := own1
        have HST : Hid _ := hst
        clear own1 hst hJk e hgB HO hoky hokx
        obtain ⟨M, hM⟩ : ∃ M, m.length = M := ⟨_, rfl⟩
        rw [hM] at l0 l1 l2 l3 hml
        have hM1 : (M : Int) < ((M + 1 : Nat) : Int) := by omega
        have hM2 : (M : Int) < (M : Int) + 1 := by omega
        have hM3 : IntKind.i64.wrap (M : Int) = M := wrapI (by omega) (by omega)
        have hM4 : (0 : Int) ≤ M := by omega
        have HHM : Hid _ := hM
        unfold jn at cj
        cases hd : goes y x with
        | true =>
          rw [hd] at cj
          simp only [cond_true] at cj
          have hst2 : J (k + 1) = m ++ [⟨y.f, y.n + x.n, y.a, y.z⟩] := by rw [HST.out, jstP_yes hd]
          obtain ⟨j, hj⟩ : ∃ j : Pc, (⟨y.f, y.n + x.n, y.a, y.z⟩ : Pc) = j := ⟨_, rfl⟩
          have cj2 : ∀ W, Calls Try.prog 73 #[pv y, pv x] W fun e w' => e = .returned (.tuple #[pv j, .bool true]) ∧ Below W.heap.size W w' := hj ▸ cj
          rw [hj] at hst2
          clear HST
          have HST : Hid _ := hst2
          clear hst2 hj cj hd
          obtain ⟨y0, y1, y2, y3⟩ := y
          obtain ⟨p0, p1, p2, p3⟩ := x
          obtain ⟨j0, j1, j2, j3⟩ := j
          simp only at *
          have SB : Hid (∀ W, Below W1.heap.size W1 W → W.cell? ⟨g, M * 4, none⟩ = some (.int .i64 y0) ∧ W.cell? ⟨g, M * 4 + 1, none⟩ = some (.int .i64 y1) ∧ W.cell? ⟨g, M * 4 + 2, none⟩ = some (.int .i64 y2) ∧ W.cell? ⟨g, M * 4 + 3, none⟩ = some (.bool y3) ∧ W.cell? ⟨E, 0, none⟩ = some (.int .i64 p0) ∧ W.cell? ⟨E, 1, none⟩ = some (.int .i64 p1) ∧ W.cell? ⟨E, 2, none⟩ = some (.int .i64 p2) ∧ W.cell? ⟨E, 3, none⟩ = some (.bool p3) ∧ Below W1.heap.size W1 W) := fun W h => ⟨cell_on l0 h, cell_on l1 h, cell_on l2 h, cell_on l3 h, cell_on e0 h, cell_on e1 h, cell_on e2 h, cell_on e3 h, h⟩
          rw [hM]
          go_wp2_with fail
          clear hW1 l0 l1 l2 l3 e0 e1 e2 e3 k0 k1 k2 k3
          go_region_held3 (fun W => W.cell? ⟨g, M * 4, none⟩ = some (.int .i64 y0) ∧ W.cell? ⟨g, M * 4 + 1, none⟩ = some (.int .i64 y1) ∧ W.cell? ⟨g, M * 4 + 2, none⟩ = some (.int .i64 y2) ∧ W.cell? ⟨g, M * 4 + 3, none⟩ = some (.bool y3) ∧ W.cell? ⟨E, 0, none⟩ = some (.int .i64 p0) ∧ W.cell? ⟨E, 1, none⟩ = some (.int .i64 p1) ∧ W.cell? ⟨E, 2, none⟩ = some (.int .i64 p2) ∧ W.cell? ⟨E, 3, none⟩ = some (.bool p3) ∧ Below W1.heap.size W1 W)
            ((refine SB.out _ ?_; first | assumption | exact Below.drew (Below.refl _ _) | exact Below.drew (below_alloc _ _) | exact (below_alloc _ _) | exact Below.comp hb2 (below_alloc _ _) | exact (((hb2.setCell (Nat.le_refl _) _).setCell (Nat.le_refl _) _).setCell (Nat.le_refl _) _).setCell (Nat.le_refl _) _ | exact ((hb2.setCell (Nat.le_refl _) _).setCell (Nat.le_refl _) _).setCell (Nat.le_refl _) _ | exact (hb2.setCell (Nat.le_refl _) _).setCell (Nat.le_refl _) _ | exact hb2.setCell (Nat.le_refl _) _))
            ((go_at_call 73; obtain ⟨-, -, -, -, -, -, -, -, hw0⟩ := ‹_ ∧ _ ∧ _ ∧ _ ∧ _ ∧ _ ∧ _ ∧ _ ∧ Below W1.heap.size W1 _›; refine (cj2 _).mono ?_; rintro e w2 ⟨rfl, b2⟩; have hb2 := Below.comp hw0 b2; (first | (have hbx : w2.heap[W1.heap.size]? = some (.cells #[.int .i64 0, .int .i64 0, .int .i64 0, .bool false] 40 (0, 0)) := box_on (w := (W1.alloc (.cells #[.int .i64 0, .int .i64 0, .int .i64 0, .bool false] 40)).drew) (al1 W1 _) b2; obtain ⟨f0, f1, f2, f3⟩ := box4_cells hbx; obtain ⟨f4, f5, f6, f7⟩ := box4_free hbx; have HBX : Hid (w2.heap[W1.heap.size]? = some (.cells #[.int .i64 0, .int .i64 0, .int .i64 0, .bool false] 40 (0, 0))) := hbx; clear hbx) | (have hbx : w2.heap[W1.heap.size]? = some (.cells #[.int .i64 0, .int .i64 0, .int .i64 0, .bool false] 40 (0, 0)) := box_on (w := W1.drew.alloc (.cells #[.int .i64 0, .int .i64 0, .int .i64 0, .bool false] 40)) (al1 W1.drew _) b2; obtain ⟨f0, f1, f2, f3⟩ := box4_cells hbx; obtain ⟨f4, f5, f6, f7⟩ := box4_free hbx; have HBX : Hid (w2.heap[W1.heap.size]? = some (.cells #[.int .i64 0, .int .i64 0, .int .i64 0, .bool false] 40 (0, 0))) := hbx; clear hbx) | skip)))
          · obtain ⟨W9, hW9⟩ : ∃ W9, w2.alloc (.cells #[.int .i64 j0, .int .i64 j1, .int .i64 j2, .bool j3] 40) = W9 := ⟨_, rfl⟩
            have HF : Hid (W9.heap[w2.heap.size]? = some (.cells #[.int .i64 j0, .int .i64 j1, .int .i64 j2, .bool j3] 40 (0, 0))) := by subst hW9; exact al1 _ _
            have b9 : Below W1.heap.size W1 W9 := by subst hW9; exact Below.comp hb2 (below_alloc _ _)
            rw [hW9]
            clear hW9
            obtain ⟨f0, f1, f2, f3⟩ := box4_cells HF.out
            obtain ⟨F, hF⟩ : ∃ F, w2.heap.size = F := ⟨_, rfl⟩
            rw [hF] at f0 f1 f2 f3 HF ⊢
            clear hF
            have own9 : OwnP W9 Z (.slice (some ⟨g, 0, none⟩) (m.length + 1) c2) (m ++ [⟨y0, y1, y2, y3⟩]) := owns_below HO1.out b9
            obtain ⟨g', c3, cur', ev, -, hg9, ⟨l0, l1, l2, l3⟩, r0, r1, r2, r3⟩ := OwnP.last own9
            simp only [Value.slice.injEq, Option.some.injEq, Addr.mk.injEq] at ev
            obtain ⟨⟨eg, -, -⟩, -, -⟩ := ev
            rw [← eg, hM] at l0 l1 l2 l3 r0 r1 r2 r3
            clear hg9
            have hpt := OwnP.put own9 ⟨j0, j1, j2, j3⟩
            rw [hM] at hpt
            have HPT : Hid _ := hpt
            clear hpt own9 eg
            go_wp2_with fail
            go_roundw
            case rel => exact ⟨k + 1, _, by omega, by go_num, rfl, by rw [HST.out]; exact HPT.out, ((((g1.trans (b9.mono z1)).setCell hgZ _).setCell hgZ _).setCell hgZ _).setCell hgZ _, by simpa [World.setCell] using Nat.le_trans z1 b9.size⟩
            case measure => simp [intOf]; omega
          · obtain ⟨W9, hW9⟩ : ∃ W9, (((w2.setCell ⟨W1.heap.size, 0, none⟩ (.int .i64 j0)).setCell ⟨W1.heap.size, 1, none⟩ (.int .i64 j1)).setCell ⟨W1.heap.size, 2, none⟩ (.int .i64 j2)).setCell ⟨W1.heap.size, 3, none⟩ (.bool j3) = W9 := ⟨_, rfl⟩
            have HF : Hid (W9.heap[W1.heap.size]? = some (.cells #[.int .i64 j0, .int .i64 j1, .int .i64 j2, .bool j3] 40 (0, 0))) := by subst hW9; exact box4_set HBX.out
            have b9 : Below W1.heap.size W1 W9 := by subst hW9; exact (((hb2.setCell (Nat.le_refl _) _).setCell (Nat.le_refl _) _).setCell (Nat.le_refl _) _).setCell (Nat.le_refl _) _
            rw [hW9]
            clear hW9 f0 f1 f2 f3 f4 f5 f6 f7
            obtain ⟨f0, f1, f2, f3⟩ := box4_cells HF.out
            obtain ⟨F, hF⟩ : ∃ F, W1.heap.size = F := ⟨_, rfl⟩
            rw [hF] at f0 f1 f2 f3 HF ⊢
            clear hF
            have own9 : OwnP W9 Z (.slice (some ⟨g, 0, none⟩) (m.length + 1) c2) (m ++ [⟨y0, y1, y2, y3⟩]) := owns_below HO1.out b9
            obtain ⟨g', c3, cur', ev, -, hg9, ⟨l0, l1, l2, l3⟩, r0, r1, r2, r3⟩ := OwnP.last own9
            simp only [Value.slice.injEq, Option.some.injEq, Addr.mk.injEq] at ev
            obtain ⟨⟨eg, -, -⟩, -, -⟩ := ev
            rw [← eg, hM] at l0 l1 l2 l3 r0 r1 r2 r3
            clear hg9
            have hpt := OwnP.put own9 ⟨j0, j1, j2, j3⟩
            rw [hM] at hpt
            have HPT : Hid _ := hpt
            clear hpt own9 eg
            go_wp2_with fail
            go_roundw
            case rel => exact ⟨k + 1, _, by omega, by go_num, rfl, by rw [HST.out]; exact HPT.out, ((((g1.trans (b9.mono z1)).setCell hgZ _).setCell hgZ _).setCell hgZ _).setCell hgZ _, by simpa [World.setCell] using Nat.le_trans z1 b9.size⟩
            case measure => simp [intOf]; omega
        | false =>
          rw [hd] at cj
          simp only [cond_false] at cj
          have hst2 : J (k + 1) = m ++ [y] ++ [x] := by rw [HST.out, jstP_no hd]
          obtain ⟨j, hj⟩ : ∃ j : Pc, (⟨0, 0, 0, false⟩ : Pc) = j := ⟨_, rfl⟩
          have cj2 : ∀ W, Calls Try.prog 73 #[pv y, pv x] W fun e w' => e = .returned (.tuple #[pv j, .bool false]) ∧ Below W.heap.size W w' := hj ▸ cj
          clear HST
          have HST : Hid _ := hst2
          clear hst2 hj cj hd
          obtain ⟨y0, y1, y2, y3⟩ := y
          obtain ⟨p0, p1, p2, p3⟩ := x
          obtain ⟨j0, j1, j2, j3⟩ := j
          simp only at *
          have SB : Hid (∀ W, Below W1.heap.size W1 W → W.cell? ⟨g, M * 4, none⟩ = some (.int .i64 y0) ∧ W.cell? ⟨g, M * 4 + 1, none⟩ = some (.int .i64 y1) ∧ W.cell? ⟨g, M * 4 + 2, none⟩ = some (.int .i64 y2) ∧ W.cell? ⟨g, M * 4 + 3, none⟩ = some (.bool y3) ∧ W.cell? ⟨E, 0, none⟩ = some (.int .i64 p0) ∧ W.cell? ⟨E, 1, none⟩ = some (.int .i64 p1) ∧ W.cell? ⟨E, 2, none⟩ = some (.int .i64 p2) ∧ W.cell? ⟨E, 3, none⟩ = some (.bool p3) ∧ Below W1.heap.size W1 W) := fun W h => ⟨cell_on l0 h, cell_on l1 h, cell_on l2 h, cell_on l3 h, cell_on e0 h, cell_on e1 h, cell_on e2 h, cell_on e3 h, h⟩
          rw [hM]
          go_wp2_with fail
          clear hW1 l0 l1 l2 l3 e0 e1 e2 e3 k0 k1 k2 k3
          go_region_held3 (fun W => W.cell? ⟨g, M * 4, none⟩ = some (.int .i64 y0) ∧ W.cell? ⟨g, M * 4 + 1, none⟩ = some (.int .i64 y1) ∧ W.cell? ⟨g, M * 4 + 2, none⟩ = some (.int .i64 y2) ∧ W.cell? ⟨g, M * 4 + 3, none⟩ = some (.bool y3) ∧ W.cell? ⟨E, 0, none⟩ = some (.int .i64 p0) ∧ W.cell? ⟨E, 1, none⟩ = some (.int .i64 p1) ∧ W.cell? ⟨E, 2, none⟩ = some (.int .i64 p2) ∧ W.cell? ⟨E, 3, none⟩ = some (.bool p3) ∧ Below W1.heap.size W1 W)
            ((refine SB.out _ ?_; first | assumption | exact Below.drew (Below.refl _ _) | exact Below.drew (below_alloc _ _) | exact (below_alloc _ _) | exact Below.comp hb2 (below_alloc _ _) | exact (((hb2.setCell (Nat.le_refl _) _).setCell (Nat.le_refl _) _).setCell (Nat.le_refl _) _).setCell (Nat.le_refl _) _ | exact ((hb2.setCell (Nat.le_refl _) _).setCell (Nat.le_refl _) _).setCell (Nat.le_refl _) _ | exact (hb2.setCell (Nat.le_refl _) _).setCell (Nat.le_refl _) _ | exact hb2.setCell (Nat.le_refl _) _))
            ((go_at_call 73; obtain ⟨-, -, -, -, -, -, -, -, hw0⟩ := ‹_ ∧ _ ∧ _ ∧ _ ∧ _ ∧ _ ∧ _ ∧ _ ∧ Below W1.heap.size W1 _›; refine (cj2 _).mono ?_; rintro e w2 ⟨rfl, b2⟩; have hb2 := Below.comp hw0 b2; (first | (have hbx : w2.heap[W1.heap.size]? = some (.cells #[.int .i64 0, .int .i64 0, .int .i64 0, .bool false] 40 (0, 0)) := box_on (w := (W1.alloc (.cells #[.int .i64 0, .int .i64 0, .int .i64 0, .bool false] 40)).drew) (al1 W1 _) b2; obtain ⟨f0, f1, f2, f3⟩ := box4_cells hbx; obtain ⟨f4, f5, f6, f7⟩ := box4_free hbx; have HBX : Hid (w2.heap[W1.heap.size]? = some (.cells #[.int .i64 0, .int .i64 0, .int .i64 0, .bool false] 40 (0, 0))) := hbx; clear hbx) | (have hbx : w2.heap[W1.heap.size]? = some (.cells #[.int .i64 0, .int .i64 0, .int .i64 0, .bool false] 40 (0, 0)) := box_on (w := W1.drew.alloc (.cells #[.int .i64 0, .int .i64 0, .int .i64 0, .bool false] 40)) (al1 W1.drew _) b2; obtain ⟨f0, f1, f2, f3⟩ := box4_cells hbx; obtain ⟨f4, f5, f6, f7⟩ := box4_free hbx; have HBX : Hid (w2.heap[W1.heap.size]? = some (.cells #[.int .i64 0, .int .i64 0, .int .i64 0, .bool false] 40 (0, 0))) := hbx; clear hbx) | skip)))
          · obtain ⟨W9, hW9⟩ : ∃ W9, w2.alloc (.cells #[.int .i64 j0, .int .i64 j1, .int .i64 j2, .bool j3] 40) = W9 := ⟨_, rfl⟩
            have HF : Hid (W9.heap[w2.heap.size]? = some (.cells #[.int .i64 j0, .int .i64 j1, .int .i64 j2, .bool j3] 40 (0, 0))) := by subst hW9; exact al1 _ _
            have b9 : Below W1.heap.size W1 W9 := by subst hW9; exact Below.comp hb2 (below_alloc _ _)
            rw [hW9]
            clear hW9
            obtain ⟨f0, f1, f2, f3⟩ := box4_cells HF.out
            obtain ⟨F, hF⟩ : ∃ F, w2.heap.size = F := ⟨_, rfl⟩
            rw [hF] at f0 f1 f2 f3 HF ⊢
            clear hF
            have own9 : OwnP W9 Z (.slice (some ⟨g, 0, none⟩) (m.length + 1) c2) (m ++ [⟨y0, y1, y2, y3⟩]) := owns_below HO1.out b9
            obtain ⟨e0, e1, e2, e3⟩ := box4_cells (box_on HE1.out b9)
            have own10 := owns_below own9 (below_alloc W9 (.cells #[.int .i64 p0, .int .i64 p1, .int .i64 p2, .bool p3] 40))
            have sr := srcP_one W9 ⟨p0, p1, p2, p3⟩ 40
            have z9 : Z ≤ W9.heap.size := Nat.le_trans z1 b9.size
            have z10 : Z ≤ (W9.alloc (.cells #[.int .i64 p0, .int .i64 p1, .int .i64 p2, .bool p3] 40)).heap.size := by simp; omega
            have el : (m ++ [(⟨y0, y1, y2, y3⟩ : Pc)]).length = M + 1 := by simp; omega
            have el2 : (m ++ [(⟨y0, y1, y2, y3⟩ : Pc)] ++ [(⟨p0, p1, p2, p3⟩ : Pc)]).length = M + 1 + 1 := by simp; omega
            have ec : cpp (m ++ [(⟨y0, y1, y2, y3⟩ : Pc)] ++ [(⟨p0, p1, p2, p3⟩ : Pc)]) = cpp (m ++ [(⟨y0, y1, y2, y3⟩ : Pc)]) ++ cpp [(⟨p0, p1, p2, p3⟩ : Pc)] := cpp_app _ _
            have HL : Hid _ := And.intro el2 ec
            unfold OwnP at own10
            rw [el, hM] at own10
            clear own9 el el2 ec
            generalize cpp (m ++ [(⟨y0, y1, y2, y3⟩ : Pc)]) = CM at *
            go_wp2_with (at_builtin; refine wpList_append_src rfl _ _ 27 rfl Z 40 _ 4 32 Try.underlying27 info40 rfl (by decide) (.slice (some ⟨g, 0, none⟩) (M + 1) c2) (M + 1) CM rfl own10 (some ⟨W9.heap.size, 0, none⟩) 1 1 (cpp [⟨p0, p1, p2, p3⟩]) rfl rfl sr (cpp_one _) (by omega) (by decide) z10 ?_; intro v2 w3 own11 gr2'; have gr2 := grown_alloc gr2'; have b3 : Below Z W9 w3 := Grown.below gr2 z9 (fun k hk => by simp [Value.ownBlock] at hk; omega); have z3 : Z ≤ w3.heap.size := Nat.le_trans z9 gr2.size; have HO3 : Hid (w3.ownsRow Z 40 4 v2 (M + 1 + 1) (CM ++ cpp [⟨p0, p1, p2, p3⟩])) := own11; clear gr2 gr2' own11)
            go_roundw
            case rel => exact ⟨k + 1, _, by omega, by go_num, rfl, by rw [HST.out]; show OwnP _ _ _ _; unfold OwnP; rw [HL.out.1, HL.out.2]; exact HO3.out, (g1.trans (b9.mono z1)).trans b3, z3⟩
            case measure => simp [intOf]; omega
          · obtain ⟨W9, hW9⟩ : ∃ W9, (((w2.setCell ⟨W1.heap.size, 0, none⟩ (.int .i64 j0)).setCell ⟨W1.heap.size, 1, none⟩ (.int .i64 j1)).setCell ⟨W1.heap.size, 2, none⟩ (.int .i64 j2)).setCell ⟨W1.heap.size, 3, none⟩ (.bool j3) = W9 := ⟨_, rfl⟩
            have HF : Hid (W9.heap[W1.heap.size]? = some (.cells #[.int .i64 j0, .int .i64 j1, .int .i64 j2, .bool j3] 40 (0, 0))) := by subst hW9; exact box4_set HBX.out
            have b9 : Below W1.heap.size W1 W9 := by subst hW9; exact (((hb2.setCell (Nat.le_refl _) _).setCell (Nat.le_refl _) _).setCell (Nat.le_refl _) _).setCell (Nat.le_refl _) _
            rw [hW9]
            clear hW9 f0 f1 f2 f3 f4 f5 f6 f7
            obtain ⟨f0, f1, f2, f3⟩ := box4_cells HF.out
            obtain ⟨F, hF⟩ : ∃ F, W1.heap.size = F := ⟨_, rfl⟩
            rw [hF] at f0 f1 f2 f3 HF ⊢
            clear hF
            have own9 : OwnP W9 Z (.slice (some ⟨g, 0, none⟩) (m.length + 1) c2) (m ++ [⟨y0, y1, y2, y3⟩]) := owns_below HO1.out b9
            obtain ⟨e0, e1, e2, e3⟩ := box4_cells (box_on HE1.out b9)
            have own10 := owns_below own9 (below_alloc W9 (.cells #[.int .i64 p0, .int .i64 p1, .int .i64 p2, .bool p3] 40))
            have sr := srcP_one W9 ⟨p0, p1, p2, p3⟩ 40
            have z9 : Z ≤ W9.heap.size := Nat.le_trans z1 b9.size
            have z10 : Z ≤ (W9.alloc (.cells #[.int .i64 p0, .int .i64 p1, .int .i64 p2, .bool p3] 40)).heap.size := by simp; omega
            have el : (m ++ [(⟨y0, y1, y2, y3⟩ : Pc)]).length = M + 1 := by simp; omega
            have el2 : (m ++ [(⟨y0, y1, y2, y3⟩ : Pc)] ++ [(⟨p0, p1, p2, p3⟩ : Pc)]).length = M + 1 + 1 := by simp; omega
            have ec : cpp (m ++ [(⟨y0, y1, y2, y3⟩ : Pc)] ++ [(⟨p0, p1, p2, p3⟩ : Pc)]) = cpp (m ++ [(⟨y0, y1, y2, y3⟩ : Pc)]) ++ cpp [(⟨p0, p1, p2, p3⟩ : Pc)] := cpp_app _ _
            have HL : Hid _ := And.intro el2 ec
            unfold OwnP at own10
            rw [el, hM] at own10
            clear own9 el el2 ec
            generalize cpp (m ++ [(⟨y0, y1, y2, y3⟩ : Pc)]) = CM at *
            go_wp2_with (at_builtin; refine wpList_append_src rfl _ _ 27 rfl Z 40 _ 4 32 Try.underlying27 info40 rfl (by decide) (.slice (some ⟨g, 0, none⟩) (M + 1) c2) (M + 1) CM rfl own10 (some ⟨W9.heap.size, 0, none⟩) 1 1 (cpp [⟨p0, p1, p2, p3⟩]) rfl rfl sr (cpp_one _) (by omega) (by decide) z10 ?_; intro v2 w3 own11 gr2'; have gr2 := grown_alloc gr2'; have b3 : Below Z W9 w3 := Grown.below gr2 z9 (fun k hk => by simp [Value.ownBlock] at hk; omega); have z3 : Z ≤ w3.heap.size := Nat.le_trans z9 gr2.size; have HO3 : Hid (w3.ownsRow Z 40 4 v2 (M + 1 + 1) (CM ++ cpp [⟨p0, p1, p2, p3⟩])) := own11; clear gr2 gr2' own11)
            go_roundw
            case rel => exact ⟨k + 1, _, by omega, by go_num, rfl, by rw [HST.out]; show OwnP _ _ _ _; unfold OwnP; rw [HL.out.1, HL.out.2]; exact HO3.out, (g1.trans (b9.mono z1)).trans b3, z3⟩
            case measure => simp [intOf]; omega
    · obtain rfl : k = n := by omega
      go_wp2
      go_ret
      exact ⟨hZ ▸ hb, _, rfl, by rw [← HE.out]; exact hZ ▸ HO.out⟩
end Go.Proofs.Ytdbmdblghlfjfaa
