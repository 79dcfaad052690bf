import Derived.Test.YtpolhigpcllhiaaIB
/- What is open: the program's list, and the model's. -/
namespace Go.Proofs.Ytpolhigpcllhiaa
open Go.ChangeShapes Go.WideShapes Go.ChangeAt Go.RowKit
set_option linter.unusedVariables false
open Room

attribute [local go_sem] Oper.semAt_some

/-- A promise that is open. -/
def isO (x : It) : Bool := decide (x.u < x.x.2)
/-- Small numbers in a promise. -/
def Sml (x : It) : Prop := 0 ≤ x.u ∧ x.u ≤ x.x.2 ∧ x.x.2 ≤ 400
def opn (r : Option (List It)) : List It := match r with
  | none => []
  | some P => P.filter isO
theorem Inv.sml {b : Int} {pre P : List It} (h : Inv b pre P) (hb : b ≤ 400) : ∀ x, x ∈ P → Sml x := by
  intro x hx
  obtain ⟨j, hj, rfl⟩ := List.getElem_of_mem hx
  have h1 := h.ids j hj
  rw [gi_eq hj] at h1
  have h2 := inB_iff.1 h1.2.2.1
  exact ⟨h1.2.2.2.1, h1.2.2.2.2, by omega⟩
theorem prO_sml {b : Int} {l s : List Ex} {nx : Int} {t P : List It} (h : prO b l s nx t = some P) : (∀ x, x ∈ P → Sml x) ∧ P.length ≤ 30 := by
  obtain ⟨h1, h2, h3, h4, h5⟩ := prO_inv h
  exact ⟨Inv.sml h3 (good_iff.1 h1).1.2, Nat.le_trans (Inv.len h3) h2⟩
theorem opn_sml {b : Int} {l s : List Ex} {nx : Int} {t : List It} : (∀ x, x ∈ opn (prO b l s nx t) → Sml x) ∧ (opn (prO b l s nx t)).length ≤ 30 := by
  cases h : prO b l s nx t with
  | none => simp [opn]
  | some P =>
    obtain ⟨h1, h2⟩ := prO_sml h
    exact ⟨fun x hx => h1 x (List.mem_filter.1 hx).1, Nat.le_trans (List.length_filter_le _ _) h2⟩
theorem leftOf_any (x : It) (w : World) (h : Sml x) : Calls Try.prog 49 #[iv x] w fun e w' => e = .returned (.int .i64 (x.x.2 - x.u)) ∧ Below w.heap.size w w' := by
  obtain ⟨pk, pi, ⟨px, py⟩, pu⟩ := x
  obtain ⟨h1, h2, h3⟩ := h
  simp only at h1 h2 h3
  have ew : IntKind.i64.wrap (py - pu) = py - pu := wrapI (by omega) (by omega)
  go_enter Try.func49, Try.ntmps49
  go_wp2
  go_ret
  exact ⟨rfl, below_alloc _ _⟩
theorem filter_take {P : List It} {k : Nat} (h : k < P.length) : (P.take (k + 1)).filter isO = (P.take k).filter isO ++ if isO (gi P k) then [gi P k] else [] := by
  rw [take_gi h, List.filter_append]
  by_cases q : isO (gi P k) = true
  · rw [if_pos q]; simp [q]
  · rw [if_neg q]; simp at q; simp [q]
set_option maxHeartbeats 4000000 in
theorem implOpen_any (b : Int) (a : Option Addr) (ca : Nat) (a' : Option Addr) (ca' : Nat) (l s : List Ex) (nx : Int) (i : Option Addr) (ci : Nat) (t : List It) (w : World) (hn : l.length ≤ 1048576) (hn' : s.length ≤ 1048576) (hm : t.length ≤ 1048577) (hx : ∀ x, x ∈ l → x.1 ≤ 9223372036854775807) (hxi : ∀ x, x ∈ t → x.x.1 ≤ 9223372036854775807) (ha : Exs w a l) (ha' : Exs w a' s) (hi : Its w i t) :
    Calls Try.prog 24 #[wv b a l.length ca a' s.length ca' nx i t.length ci] w fun e w' => Below w.heap.size w w' ∧ ∃ y cy, e = .returned (.tuple #[.slice y (opn (prO b l s nx t)).length cy, .bool (prO b l s nx t).isSome]) ∧ OwnI w' w.heap.size (.slice y (opn (prO b l s nx t)).length cy) (opn (prO b l s nx t)) := by
  have cP := fun W h => promisesOf_any b a ca a' ca' l s nx i ci t W hn hn' hm hx hxi (ha.below h) (ha'.below h) (hi.below h)
  have HS : Hid (∀ P, prO b l s nx t = some P → (∀ x, x ∈ P → Sml x) ∧ P.length ≤ 30) := fun P h => prO_sml h
  generalize prO b l s nx t = R at *
  clear ha ha' hi hx hxi
  generalize l.length = n at *
  generalize s.length = n' at *
  generalize t.length = m at *
  obtain ⟨D, hD⟩ : ∃ D, w.heap.size = D := ⟨_, rfl⟩
  obtain ⟨W0, hW0⟩ : ∃ W0, w.alloc (.cells #[.int .i64 b, .slice a n ca, .slice a' n' ca', .int .i64 nx, .slice i m ci] 27) = W0 := ⟨_, rfl⟩
  have g0 : Below w.heap.size w W0 := by subst hW0; exact below_alloc _ _
  have B1 : W0.heap[D]? = some (.cells #[.int .i64 b, .slice a n ca, .slice a' n' ca', .int .i64 nx, .slice i m ci] 27 (0, 0)) := by subst hW0 hD; exact al1 _ _
  obtain ⟨i0, i1, i2, i3, i4⟩ := box5_cells B1
  have z0 := g0.size
  clear B1
  cases R with
  | none =>
    go_enter Try.func24, Try.ntmps24
    go_wp2_with fail
    refine (cP _ g0).mono ?_
    rintro e w1 ⟨b1, hA⟩
    obtain rfl : e = _ := hA
    have gR : Below w.heap.size w w1 := Below.comp g0 b1
    go_wp2
    refine wp_loop_rounds 1 ?_
    rw [rounds_succ]
    go_wp2
    refine bodyPost_ret (v := .tuple #[.slice none 0 0, .bool false]) (by simp [results, Try.results24, go_sem]) rfl ?_
    exact ⟨by first | exact gR | exact (hD ▸ gR), none, 0, rfl, OwnI.nil _ _⟩
  | some P =>
    obtain ⟨hsm, hP30⟩ := HS.out P rfl
    rw [show (some P).isSome = true from rfl, show opn (some P) = P.filter isO from rfl]
    have HF : Hid (∀ k, k < P.length → (P.take (k + 1)).filter isO = (P.take k).filter isO ++ if isO (gi P k) then [gi P k] else []) := fun k hk => filter_take hk
    have HSm : Hid (∀ k, k < P.length → Sml (gi P k)) := fun k hk => by rw [gi_eq hk]; exact hsm _ (List.getElem_mem hk)
    have HAll : Hid (P.take P.length = P) := List.take_length
    have HLe : Hid (∀ k, ((P.take k).filter isO).length ≤ 30) := fun k => Nat.le_trans (List.length_filter_le _ _) (by rw [List.length_take]; omega)
    clear hsm HS
    go_enter Try.func24, Try.ntmps24
    go_wp2_with fail
    refine (cP _ g0).mono ?_
    rintro e w1 ⟨b1, y, cy, rfl, ho⟩
    have g1 : Below w.heap.size w w1 := Below.comp g0 b1
    have HRw : Hid (RowI w1 y P.length (gi P)) := MineI.row (OwnI.own ho).1
    have z1 := b1.size
    clear hW0 i0 i1 i2 i3 i4 ho
    obtain ⟨pn, hpn⟩ : ∃ pn, P.length = pn := ⟨_, rfl⟩
    rw [hpn] at HF HSm HAll HRw hP30
    rw [hpn]
    clear hpn
    generalize gi P = Gp at *
    go_wp2
    go_loopw [16, 6] (fun q sv wr => ∃ (k : Nat), k ≤ pn ∧ q = .int .i64 k ∧ OwnI wr w1.heap.size sv ((P.take k).filter isO) ∧ Below w1.heap.size w1 wr) (fun q _ _ => pn - (intOf q).toNat)
    case atStart => exact ⟨0, Nat.zero_le _, rfl, by rw [List.take_zero]; exact OwnI.nil _ _, Below.refl _ _⟩
    case round =>
      obtain ⟨k, hk, rfl, ho, hb1⟩ := hrel
      obtain ⟨ya, yc, rfl⟩ := owns_form ho
      have HO : Hid (OwnI wr w1.heap.size (.slice ya ((P.take k).filter isO).length yc) ((P.take k).filter isO)) := ho
      clear ho
      by_cases hlt : k < pn
      · obtain ⟨bb, off, rfl, hcell⟩ := (HRw.out.below hb1) (by omega)
        obtain ⟨c0, c1, c2, c3, c4⟩ := hcell k hlt
        clear hcell
        have hfl := HF.out k hlt
        have hsm := HSm.out k hlt
        have hle := HLe.out k
        generalize Gp k = x at c0 c1 c2 c3 c4 hfl hsm
        have HFl : Hid ((P.take (k + 1)).filter isO = (P.take k).filter isO ++ if isO x then [x] else []) := hfl
        clear hfl
        generalize (P.take k).filter isO = A at *
        have cL := fun W => leftOf_any x W hsm
        have hio : isO x = decide (0 < x.x.2 - x.u) := by unfold isO; rw [decide_eq_decide]; omega
        obtain ⟨E, hE⟩ : ∃ E, wr.heap.size = E := ⟨_, rfl⟩
        obtain ⟨W1, hW1⟩ : ∃ W1, wr.alloc (.cells #[.int .i64 x.k, .int .i64 x.i, .int .i64 x.x.1, .int .i64 x.x.2, .int .i64 x.u] 71) = W1 := ⟨_, rfl⟩
        have b2 : Below wr.heap.size wr W1 := by subst hW1; exact below_alloc _ _
        have HE : Hid (W1.heap[E]? = some (.cells #[.int .i64 x.k, .int .i64 x.i, .int .i64 x.x.1, .int .i64 x.x.2, .int .i64 x.u] 71 (0, 0))) := by subst hW1 hE; exact al1 _ _
        have hw1 : w1.heap.size ≤ wr.heap.size := hb1.size
        have sr := src_oneI
        obtain ⟨pk, pi, ⟨px, py⟩, pu⟩ := x
        simp only at c0 c1 c2 c3 c4 hW1 HE cL hio
        clear hsm
        obtain ⟨e0, e1, e2, e3, e4⟩ := box5_cells HE.out
        by_cases hpos : 0 < py - pu
        · have hA : (P.take (k + 1)).filter isO = A ++ [⟨pk, pi, (px, py), pu⟩] := by
            rw [HFl.out, if_pos (by rw [hio]; simpa using hpos)]
          have HA : Hid ((P.take (k + 1)).filter isO = A ++ [⟨pk, pi, (px, py), pu⟩]) := hA
          clear hA HFl hio
          go_wp2_with fail
          refine (cL _).mono ?_
          rintro e w3 ⟨rfl, b3⟩
          clear hW1 e0 e1 e2 e3 e4 c0 c1 c2 c3 c4 cL
          obtain ⟨e0, e1, e2, e3, e4⟩ := box5_cells (box_on HE.out b3)
          have own3 : OwnI w3 w1.heap.size (.slice ya A.length yc) A := owns_below HO.out (Below.comp b2 b3)
          have z3 : wr.heap.size ≤ w3.heap.size := Nat.le_trans b2.size b3.size
          obtain ⟨W4, hW4⟩ : ∃ W4, w3.alloc (.cells #[.int .i64 pk, .int .i64 pi, .int .i64 px, .int .i64 py, .int .i64 pu] 71) = W4 := ⟨_, rfl⟩
          have b4 : Below w3.heap.size w3 W4 := by subst hW4; exact below_alloc _ _
          have own4 : W4.ownsRow w1.heap.size 71 5 (.slice ya A.length yc) A.length (cis A) := owns_below own3 b4
          have sr4 : (1 : Nat) = 0 ∨ ∃ ad, some (⟨w3.heap.size, 0, none⟩ : Addr) = some ad ∧ ∀ j u, (cis [⟨pk, pi, (px, py), pu⟩])[j]? = some u → W4.cell? (ad.add j) = some u := by subst hW4; exact sr w3 ⟨pk, pi, (px, py), pu⟩ _
          have z4 : w1.heap.size ≤ W4.heap.size := Nat.le_trans (Nat.le_trans hw1 z3) b4.size
          have HB : Hid (Below w1.heap.size w1 W4) := Below.comp hb1 (Below.comp b2 (Below.comp b3 b4))
          have HL : Hid (∀ v w, World.ownsRow w w1.heap.size 71 5 v (A.length + 1) (cis A ++ cis [⟨pk, pi, (px, py), pu⟩]) → OwnI w w1.heap.size v (A ++ [⟨pk, pi, (px, py), pu⟩])) := fun v w h => by
            show World.ownsRow w _ _ _ v (A ++ [_]).length (cis (A ++ [_]))
            rw [List.length_append, cis_app]
            exact h
          clear own3 sr HO
          generalize hpn : A.length = an at *
          clear hpn
          go_wp2_with (at_builtin; refine wpList_append_src rfl _ _ 25 rfl w1.heap.size 71 _ 5 40 Try.underlying25 infoIt rfl (by decide) (.slice ya an yc) an (cis A) rfl own4 (some ⟨w3.heap.size, 0, none⟩) 1 1 (cis [⟨pk, pi, (px, py), pu⟩]) rfl rfl sr4 (cis_one _) (by omega) (by decide) z4 ?_; intro v5 w5 own5 gr5)
          go_roundw
          case rel => exact ⟨k + 1, by omega, by go_num, by rw [HA.out]; exact HL.out _ _ own5, grown_on' HB.out z4 own4 gr5⟩
          case measure => simp [intOf]; omega
        · have hA : (P.take (k + 1)).filter isO = A := by
            rw [HFl.out, if_neg (by rw [hio]; simpa using hpos), List.append_nil]
          have HA : Hid ((P.take (k + 1)).filter isO = A) := hA
          clear hA HFl hio
          go_wp2_with fail
          refine (cL _).mono ?_
          rintro e w3 ⟨rfl, b3⟩
          have own3 : OwnI w3 w1.heap.size (.slice ya A.length yc) A := owns_below HO.out (Below.comp b2 b3)
          have HO3 : Hid (OwnI w3 w1.heap.size (.slice ya A.length yc) A) := own3
          clear own3
          go_wp2
          go_roundw
          case rel => exact ⟨k + 1, by omega, by go_num, by rw [HA.out]; exact HO3.out, Below.comp hb1 (Below.comp b2 b3)⟩
          case measure => simp [intOf]; omega
      · have hkn : k = pn := by omega
        subst hkn
        have gR : Below w.heap.size w wr := Below.comp g1 hb1
        have hAll := HAll.out
        rw [hAll] at HO
        have HO2 : Hid (OwnI wr w1.heap.size (.slice ya (P.filter isO).length yc) (P.filter isO)) := HO
        rw [hAll]
        clear hAll HAll HO HF HLe
        go_wp2
        refine bodyPost_ret (v := .tuple #[.slice ya (P.filter isO).length yc, .bool true]) (by simp [results, Try.results24, go_sem]) rfl ?_
        exact ⟨by first | exact gR | exact (hD ▸ gR), ya, yc, rfl, owns_mono HO2.out (by omega)⟩
end Go.Proofs.Ytpolhigpcllhiaa
