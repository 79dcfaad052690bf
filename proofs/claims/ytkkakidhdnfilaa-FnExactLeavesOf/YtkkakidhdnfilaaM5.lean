import Derived.Test.YtkkakidhdnfilaaM4
/- The specification: all cells below one are marked. -/
namespace Go.Proofs.Ytkkakidhdnfilaa
open Go.ChangeShapes Go.WideShapes Go.ChangeAt Go.RowKit
set_option linter.unusedVariables false
open Hd

attribute [local go_sem] Oper.semAt_some

/-- A row of bools that fills a block. -/
def RowB (w : World) (g : Nat) (s : List Bool) : Prop := w.heap[g]? = some (.cells (s.map Value.bool).toArray 4 (0, 0))
theorem RowB.cell {w : World} {g : Nat} {s : List Bool} (h : RowB w g s) {i : Nat} (hi : i < s.length) : w.cell? ⟨g, i, none⟩ = some (.bool (gb' s i)) ∧ w.frozen? ⟨g, i, none⟩ = false :=
  ⟨cell_of_block h (by simp [hi, gb'_eq hi]), free_of_block h⟩
theorem RowB.set {w : World} {g : Nat} {s : List Bool} (h : RowB w g s) (i : Nat) (v : Bool) : RowB (w.setCell ⟨g, i, none⟩ (.bool v)) g (s.set i v) := by
  unfold RowB
  rw [block_set h]
  congr 2
  apply Array.ext'
  simp
theorem RowB.below {w w' : World} {g : Nat} {s : List Bool} (h : RowB w g s) (hb : Below w.heap.size w w') : RowB w' g s := box_on h hb
theorem RowB.out {w w' : World} {B C g : Nat} {s : List Bool} (h : RowB w g s) (ho : Out B C w w') (hd : g < B ∨ C ≤ g) : RowB w' g s := box_out h ho hd
theorem RowB.lt {w : World} {g : Nat} {s : List Bool} (h : RowB w g s) : g < w.heap.size := box_lt h
theorem rowB_made (w : World) (n : Nat) : RowB (w.alloc (.cells (made (.bool false) (n * 1)) 4)) w.heap.size (zeb n) := by
  unfold RowB
  rw [al1]
  congr 2
  apply Array.ext'
  have := toList_madeCells_one (.bool false) n
  unfold made
  rw [show (Value.bool false).cells = #[.bool false] from rfl, Nat.mul_one, this]
  simp [zeb]
def MarkR (b' : List Bool) (g : Nat) (w : World) (e : Ending) (w' : World) : Prop := e = .returned (.tuple #[]) ∧ Out g (g + 1) w w' ∧ RowB w' g b'
set_option maxHeartbeats 2000000 in
theorem mark_step {c : Co} (hok : ∀ i, i < c.cs.length → okC (gc c.cs i) = true) (w0 : World) (v : Value) (hc : CowAt w0 v c) (hn : c.cs.length ≤ 80) (l : Nat)
    (IH : ∀ (k : Int) (s : List Bool) (g : Nat) (w : World), isO c.cs l k = true → w0.heap.size ≤ g → Below w0.heap.size w0 w → RowB w g s → s.length = c.cs.length →
      Calls Try.prog 57 #[v, .int .i64 k, .slice (some ⟨g, 0, none⟩) c.cs.length c.cs.length] w (MarkR (mk c.cs l s k) g w))
    (k : Int) (s : List Bool) (g : Nat) (w : World) (ho : isO c.cs (l + 1) k = true) (hg : w0.heap.size ≤ g) (hb : Below w0.heap.size w0 w) (hs : RowB w g s) (hsl : s.length = c.cs.length) :
    Calls Try.prog 57 #[v, .int .i64 k, .slice (some ⟨g, 0, none⟩) c.cs.length c.cs.length] w (MarkR (mk c.cs (l + 1) s k) g w) := by
  obtain ⟨a, ca, a', ca', rfl, -, -, hI, -⟩ := hc
  obtain ⟨W0, hW0⟩ : ∃ W0, w.alloc (.cells #[.slice a c.cs.length ca, .slice a' c.rs.length ca', .int .i64 c.lv] 25) = W0 := ⟨_, rfl⟩
  have q0 : Below w.heap.size w W0 := by subst hW0; exact below_alloc _ _
  have hgw := hs.lt
  have H1 : Hid (W0.heap[w.heap.size]? = some (.cells #[.slice a c.cs.length ca, .slice a' c.rs.length ca', .int .i64 c.lv] 25 (0, 0))) := by subst hW0; exact al1 _ _
  obtain ⟨i0, i1, i2⟩ := box3_one H1.out
  have HS : Hid (RowB W0 g s) := hs.below q0
  unfold kv at *
  have HI : Hid _ := IH
  have Hsl : Hid (s.length = c.cs.length) := hsl
  clear IH
  rcases isO_succ.1 ho with hr | ⟨hr, hct, hz, hK⟩
  · subst hr
    have e0 : mk c.cs (l + 1) s (-1) = s := by unfold mk; rw [if_pos (.inl (by omega))]
    rw [e0]
    clear hsl hok ho e0
    go_enter Try.func57, Try.ntmps57
    go_wp2
    go_end0
    exact ⟨rfl, Out.of_below q0, HS.out⟩
  obtain ⟨q, rfl⟩ : ∃ q : Nat, k = q := ⟨k.toNat, by have := hr.1; omega⟩
  have hq : q < c.cs.length := by have := hr.2; omega
  rw [Int.toNat_natCast] at hct hz hK
  obtain ⟨oo, hoo⟩ : ∃ oo, mk c.cs (l + 1) s (q : Int) = oo := ⟨_, rfl⟩
  have HO : Hid (oo = if (q : Int) < 0 ∨ gb' s q = true then s else (gc c.cs q).kd.foldl (mk c.cs l) (s.set q true)) := hoo.symm
  rw [hoo]
  clear hoo
  obtain ⟨s0, f0⟩ := HS.out.cell (i := q) (by omega)
  have hkn : (q : Int) < (c.cs.length : Int) := by omega
  have HBW : Hid (∀ wr, Out g (g + 1) w wr → Below w0.heap.size w0 wr) := fun wr ho => hb.trans ((ho.below (by omega)).mono hg)
  have HKk : Hid _ := hK
  obtain ⟨b, off, rfl, hcell⟩ := hI (by omega)
  obtain ⟨ka, kc, k0', k1', k2', k3, -⟩ := hcell q hq
  have HKd : Hid (∀ W, Below w0.heap.size w0 W → Ints W ka (gc c.cs q).kd) := fun W h => k3.below h
  have HK2 : Hid (∀ W, Below w0.heap.size w0 W → W.cell? ⟨b, off + q * 3 + 2, none⟩ = some (.slice ka (gc c.cs q).kd.length kc)) := fun W h => cell_on k2' h
  have hkd4 : (gc c.cs q).kd.length ≤ 4 := by
    have ho := hok q hq
    unfold okC at ho
    rw [if_neg hct] at ho
    split at ho
    · rename_i h; rw [h]; simp
    · simp at ho; omega
  have hs1l : Hid ((s.set q true).length = c.cs.length) := by show _ = _; simpa using hsl
  clear hcell hI hsl hr k0' k1' k2' k3 hok ho hct hz hK
  obtain ⟨z, hz⟩ : ∃ z, gb' s q = z := ⟨_, rfl⟩
  rw [hz] at s0 HO
  clear hz
  cases z with
  | true =>
    have HO1 : Hid _ := HO.out
    rw [if_pos (.inr rfl)] at HO1
    clear HO
    go_enter Try.func57, Try.ntmps57
    go_wp2
    go_end0
    exact ⟨rfl, Out.of_below q0, by rw [HO1.out]; exact HS.out⟩
  | false =>
    have HO1 : Hid _ := HO.out
    rw [if_neg (by rintro (e | e); omega; cases e)] at HO1
    clear HO
    obtain ⟨W2, hW2⟩ : ∃ W2, W0.setCell ⟨g, q, none⟩ (.bool true) = W2 := ⟨_, rfl⟩
    have o2 : Out g (g + 1) W0 W2 := by subst hW2; exact out_setCell _ _ _ _
    have HS2 : Hid (RowB W2 g (s.set q true)) := by subst hW2; exact HS.out.set _ _
    have o02 : Out g (g + 1) w W2 := (Out.of_below q0).trans o2
    have hb2 : Below w0.heap.size w0 W2 := HBW.out _ o02
    have H2 : Hid (W2.heap[w.heap.size]? = _) := box_out H1.out o2 (by omega)
    obtain ⟨j0, j1, j2⟩ := box3_one H2.out
    have k2 := HK2.out W2 hb2
    generalize s.set q true = s1 at *
    generalize (gc c.cs q).kd = kd at *
    generalize hN : c.cs.length = n at *
    have HN : Hid _ := hN
    clear hN
    generalize hkl : kd.length = m at *
    have Hkl : Hid _ := hkl
    clear hkl HK2
    go_enter Try.func57, Try.ntmps57
    go_wp2
    clear hW0 hW2 i0 i1 i2 j0 j1 j2 s0 f0 k2
    go_loopw [26] (fun s26 wr => ∃ j : Nat, j ≤ m ∧ s26 = .int .i64 j ∧ Hid (RowB wr g ((kd.take j).foldl (mk c.cs l) s1)) ∧ Out g (g + 1) W2 wr) (fun s26 _ => m - (intOf s26).toNat)
    case atStart => exact ⟨0, Nat.zero_le _, rfl, HS2.out, Out.refl _ _ _⟩
    case round =>
      obtain ⟨j, hj, rfl, HR, ho⟩ := hrel
      have how := o02.trans ho
      obtain ⟨y0, y1, y2⟩ := box3_one (box_out H2.out ho (by omega))
      by_cases hlt : j < m
      · obtain ⟨kb, ko, rfl, hcc⟩ := HKd.out wr (HBW.out _ how) (by have := Hkl.out; omega)
        have hj' : j < kd.length := by rw [Hkl.out]; exact hlt
        have c0 : wr.cell? ⟨kb, ko + j, none⟩ = some (.int .i64 (gi kd j)) := hcc j hj'
        clear hcc
        have t1 : Hid (((kd.take j).foldl (mk c.cs l) s1).length = n) := by show _ = _; rw [mk_foldlen (mk_len _ _)]; exact hs1l.out
        have hox := HKk.out (gi kd j) (by rw [gi_eq hj']; exact List.getElem_mem _)
        have cD := fun W h1 h2 => HI.out (gi kd j) _ g W hox hg h1 h2 t1.out
        have HT1 : Hid ((kd.take (j + 1)).foldl (mk c.cs l) s1 = mk c.cs l ((kd.take j).foldl (mk c.cs l) s1) (gi kd j)) := by
          show _ = _
          rw [List.take_succ_eq_append_getElem hj', List.foldl_append, gi_eq hj']
          rfl
        clear hox
        generalize (kd.take j).foldl (mk c.cs l) s1 = sj at *
        generalize gi kd j = x at *
        go_wp2_with fail
        refine (cD _ (HBW.out _ how) HR.out).mono ?_
        rintro e w1 ⟨rfl, ho1, hR1⟩
        go_wp2_with fail
        go_roundw
        case rel => exact ⟨j + 1, by omega, by go_num, by rw [HT1.out]; exact hR1, ho.trans ho1⟩
        case measure => simp [intOf]; omega
      · have hjm : j = m := by omega
        subst hjm
        have hfin : kd.take j = kd := List.take_of_length_le (by rw [Hkl.out]; exact Nat.le_refl _)
        rw [hfin] at HR
        go_wp2
        go_end0
        exact ⟨rfl, how, by rw [HO1.out]; exact HR.out⟩
theorem mark_any {c : Co} (hok : ∀ i, i < c.cs.length → okC (gc c.cs i) = true) (w0 : World) (v : Value) (hc : CowAt w0 v c) (hn : c.cs.length ≤ 80) :
    ∀ (l : Nat) (k : Int) (s : List Bool) (g : Nat) (w : World), 1 ≤ l → isO c.cs l k = true → w0.heap.size ≤ g → Below w0.heap.size w0 w → RowB w g s → s.length = c.cs.length →
      Calls Try.prog 57 #[v, .int .i64 k, .slice (some ⟨g, 0, none⟩) c.cs.length c.cs.length] w (MarkR (mk c.cs l s k) g w) := by
  have z : ∀ (k : Int) (s : List Bool) (g : Nat) (w : World), isO c.cs 0 k = true → w0.heap.size ≤ g → Below w0.heap.size w0 w → RowB w g s → s.length = c.cs.length →
      Calls Try.prog 57 #[v, .int .i64 k, .slice (some ⟨g, 0, none⟩) c.cs.length c.cs.length] w (MarkR (mk c.cs 0 s k) g w) := by
    intro k s g w ho hg hb hs hsl
    simp [isO] at ho
    subst ho
    obtain ⟨a, ca, a', ca', rfl, -, -, -, -⟩ := hc
    have HS : Hid (RowB w g s) := hs
    show Calls _ _ _ _ (MarkR s g w)
    clear hs hsl hok
    go_enter Try.func57, Try.ntmps57
    go_wp2
    go_end0
    exact ⟨rfl, Out.of_below (below_alloc _ _), HS.out.below (below_alloc _ _)⟩
  intro l
  induction l with
  | zero => intro k s g w h; omega
  | succ l ih =>
    intro k s g w _ ho hg hb hs hsl
    refine mark_step hok w0 v hc hn l (fun k s g w ho hg hb hs hsl => ?_) k s g w ho hg hb hs hsl
    cases l with
    | zero => exact z k s g w ho hg hb hs hsl
    | succ l => exact ih k s g w (by omega) ho hg hb hs hsl
end Go.Proofs.Ytkkakidhdnfilaa
