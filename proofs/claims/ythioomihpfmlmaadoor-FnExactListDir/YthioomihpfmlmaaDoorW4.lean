import Derived.Test.YthioomihpfmlmaaDoorW3
/- A directory listed, on both sides. -/
namespace Go.Proofs.YthioomihpfmlmaaDoor
open Go.ChangeShapes Go.WideShapes Go.ChangeAt Go.RowKit
set_option linter.unusedVariables false
open Hd

attribute [local go_sem] Oper.semAt_some

theorem own_empty (w : World) (e : TypeId) (size : Nat) : (w.alloc (.cells #[] e)).ownsRow w.heap.size e size (.slice (some ⟨w.heap.size, 0, none⟩) 0 0) 0 [] := ⟨by simp, .inr ⟨w.heap.size, 0, #[], rfl, Nat.le_refl _, al1 _ _, Nat.le_refl _, Nat.zero_le _, by simp, by simp⟩⟩
theorem sz47 : (Tryd.prog.info? 52).map (·.size) = some 2 := by kernel_rfl
set_option maxHeartbeats 1000000 in
theorem copyNm_any (a : Option Addr) (cap n : Nat) (cs : List Value) (w : World) (hl : cs.length = n * 2) (h1 : ∀ u ∈ cs, u.oneCell' = true) (hn : n ≤ 1048576) (hsrc : n = 0 ∨ ∃ ad, a = some ad ∧ ∀ j u, cs[j]? = some u → w.cell? (ad.add j) = some u) :
    Calls Tryd.prog 28 #[.slice a n cap] w fun e w' => Below w.heap.size w w' ∧ e = .returned (.slice (some ⟨w.heap.size, 0, none⟩) n n) ∧ w'.heap[w.heap.size]? = some (.cells cs.toArray 52 (0, 0)) := by
  have hmk := make_any (P := Tryd.prog) 34 52 _ 2 24 Tryd.underlying34 info47 .i64 .i64 n (by omega) (by omega)
  obtain ⟨W0, hW0⟩ : ∃ W0, w.alloc (.cells (made (.agg #[.string ⟨#[]⟩, .int .i64 0]) (n * 2)) 52) = W0 := ⟨_, rfl⟩
  have q0 : Below w.heap.size w W0 := by subst hW0; exact below_alloc _ _
  have HA : Hid (W0.heap[w.heap.size]? = some (.cells (made (.agg #[.string ⟨#[]⟩, .int .i64 0]) (n * 2)) 52 (0, 0))) := by subst hW0; exact al1 _ _
  have hs0 : n = 0 ∨ ∃ ad, a = some ad ∧ ∀ j u, cs[j]? = some u → W0.cell? (ad.add j) = some u := by
    rcases hsrc with h | ⟨ad, e, h⟩
    · exact .inl h
    · refine .inr ⟨ad, e, fun j u hj => ?_⟩
      have := h j u hj
      rw [q0.cell (p := ad.add j) (World.block_lt_of_cell? w _ this)]
      exact this
  have HS : Hid _ := hs0
  have HL : Hid _ := hl
  have H1 : Hid _ := h1
  have Hfit : Hid (cs.length ≤ (made (.agg #[.string ⟨#[]⟩, .int .i64 0]) (n * 2)).size) := by show _ ≤ _; rw [hl, size_made]; exact Nat.le_refl _
  have Hdrop : Hid ((cs ++ (made (.agg #[.string ⟨#[]⟩, .int .i64 0]) (n * 2)).toList.drop cs.length).toArray = cs.toArray) := by
    show _ = _
    rw [List.drop_of_length_le (by rw [hl]; simp [size_made]), List.append_nil]
  clear hl h1 hsrc hs0
  go_enter Tryd.func28, Tryd.ntmps28
  go_wp2_with (refine wpList_copy_mine rfl _ _ 34 34 rfl 52 2 Tryd.underlying34 sz47 w.heap.size n n a n cap rfl rfl (made (.agg #[.string ⟨#[]⟩, .int .i64 0]) (n * 2)) 52 cs HA.out HL.out (Nat.le_refl _) HS.out Hfit.out H1.out ?_; intro w1 HG o1)
  go_ret
  refine ⟨q0.trans (o1.below (by have := q0.size; omega) |>.mono (by omega)), rfl, ?_⟩
  rw [HG.out, Hdrop.out]
/-- What listing a directory tells. -/
def ldR (kp : List Nm → ByteArray → Nat) (B : Bool) (T : List Ino) (p : ByteArray) : List Nm × Nat :=
  if (wpR kp B T p).2 = 0 then (if (gn T (wpR kp B T p).1).dr then ((gn T (wpR kp B T p).1).ns, 0) else ([], 4)) else ([], (wpR kp B T p).2)
def NlA (w : World) (R : List Nm) (C : Int) (e : Ending) (w' : World) : Prop :=
  Below w.heap.size w w' ∧ ∃ u g, e = .returned (.tuple #[u, .int .i64 C]) ∧ NB w' w.heap.size w'.heap.size u R g
theorem NB.void {w : World} {B C g : Nat} : NB w B C (.slice none 0 0) [] g := ⟨none, 0, rfl, Nat.le_refl _, fun h => absurd rfl h⟩
theorem ldR_few {kp : List Nm → ByteArray → Nat} {B : Bool} {T : List Ino} (hB : B = true ↔ TS T) (p : ByteArray) : (ldR kp B T p).1.length ≤ 20 := by
  unfold ldR
  split
  · rename_i h
    obtain ⟨h1, h2⟩ := wpR_lt hB h
    split
    · exact ((hB.1 h2).2.2.2.2.1 _ h1).2.2
    · simp
  · simp
set_option maxHeartbeats 1000000 in
theorem specList_any (kp : List Nm → ByteArray → Nat) (hkp : ∀ l s, AtN l s (kp l s)) (B : Bool) (T : List Ino) (hB : B = true ↔ TS T) (v : Value) (p : ByteArray) (w : World) (hp : p.size ≤ 1048576) (hf : FewI T) (hc : NamAt w v T) :
    Calls Tryd.prog 11 #[v, .string p] w fun e w' => NlA w (ldR kp B T p).1 (((ldR kp B T p).2 : Nat) : Int) e w' := by
  obtain ⟨a, ca, rfl, hca, hI⟩ := hc
  obtain ⟨W0, hW0⟩ : ∃ W0, w.alloc (.cells #[.slice a T.length ca] 30) = W0 := ⟨_, rfl⟩
  have q0 : Below w.heap.size w W0 := by subst hW0; exact below_alloc _ _
  have HX : Hid (W0.heap[w.heap.size]? = some (.cells #[.slice a T.length ca] 30 (0, 0))) := by subst hW0; exact al1 _ _
  have cW := specWalk_any kp hkp B T hB (tv a T.length ca) p W0 hp hf ⟨a, ca, rfl, hca, hI.below q0⟩
  have HLt : Hid _ := fun h => (wpR_lt (kp := kp) hB (p := p) h).1
  have HFew : Hid _ := ldR_few (kp := kp) hB p
  have HI : Hid (∀ W, Below W0.heap.size W0 W → Inos W a T) := fun W h => (hI.below q0).below h
  unfold ldR at *
  obtain ⟨x0, -⟩ := box1_cells HX.out
  generalize (wpR kp B T p).1 = R1 at *
  generalize (wpR kp B T p).2 = R2 at *
  unfold tv at *
  clear hI hca
  by_cases hz : R2 = 0
  · subst hz
    have hlt := HLt.out rfl
    rw [if_pos rfl] at HFew ⊢
    generalize hTn : T.length = n at *
    have HT : Hid _ := hTn
    clear hTn
    have hRn : (R1 : Int) < (n : Int) := by omega
    obtain ⟨X, hX⟩ : ∃ X, gn T R1 = X := ⟨_, rfl⟩
    rw [hX] at HFew ⊢
    have HXX : Hid _ := hX
    clear hX
    obtain ⟨dr, lk, l⟩ := X
    simp only at HFew ⊢
    cases dr with
    | false =>
      simp only [Bool.false_eq_true, if_false]
      go_enter Tryd.func11, Tryd.ntmps11
      go_wp2_with fail
      refine cW.mono ?_
      rintro e w1 ⟨rfl, b1⟩
      clear x0 hW0 cW
      obtain ⟨x0, -⟩ := box1_cells (box_on HX.out b1)
      obtain ⟨b, off, rfl, hcell⟩ := HI.out _ b1 (by rw [HT.out]; omega)
      obtain ⟨na, nc, u0, u1, u2, -, -⟩ := hcell R1 (by rw [HT.out]; exact hlt)
      rw [HXX.out] at u0 u1 u2
      simp only at u0 u1 u2
      clear hcell
      generalize l.length = nl at *
      go_wp2_with fail
      go_ret2
      exact ⟨Below.comp q0 b1, .slice none 0 0, 0, rfl, NB.void⟩
    | true =>
      simp only [if_true] at HFew ⊢
      have hl20 := HFew.out
      go_enter Tryd.func11, Tryd.ntmps11
      go_wp2_with fail
      refine cW.mono ?_
      rintro e w1 ⟨rfl, b1⟩
      clear x0 hW0 cW
      obtain ⟨x0, -⟩ := box1_cells (box_on HX.out b1)
      obtain ⟨b, off, rfl, hcell⟩ := HI.out _ b1 (by rw [HT.out]; omega)
      obtain ⟨na, nc, u0, u1, u2, u3, -⟩ := hcell R1 (by rw [HT.out]; exact hlt)
      rw [HXX.out] at u0 u1 u2 u3
      simp only at u0 u1 u2 u3
      clear hcell
      obtain ⟨W2, hW2⟩ : ∃ W2, w1.alloc (.cells #[] 52) = W2 := ⟨_, rfl⟩
      have b2 : Below w1.heap.size w1 W2 := by subst hW2; exact below_alloc _ _
      have own0 : W2.ownsRow w1.heap.size 52 2 (.slice (some ⟨w1.heap.size, 0, none⟩) 0 0) 0 [] := by subst hW2; exact own_empty _ _ _
      have st := (u3.below b2).src
      have hcl := cns_len l
      have z1 : w1.heap.size ≤ W2.heap.size := b2.size
      have hb2 := Below.comp b1 b2
      obtain ⟨x1, -⟩ := box1_cells (box_on HX.out hb2)
      have v2 := cell_on u2 b2
      have HZ : Hid (w.heap.size ≤ w1.heap.size) := (Below.comp q0 b1).size
      clear u3
      generalize hll : l.length = nl at *
      have HLL : Hid _ := hll
      clear hll
      go_wp2_with (at_builtin; refine wpList_append_src rfl _ _ 34 rfl w1.heap.size 52 _ 2 24 Tryd.underlying34 info47 rfl (by decide) (.slice (some ⟨w1.heap.size, 0, none⟩) 0 0) 0 [] rfl own0 na nl nc (cns l) rfl hcl st (cns_one _) (by omega) (by decide) z1 ?_; intro v6 w6 own6 gr6; have b6 : Below w1.heap.size w1 w6 := grown_on b2 z1 own0 gr6; rw [Nat.zero_add, List.nil_append] at own6; have OW : Hid (OwnN w6 w1.heap.size v6 l) := (by show OwnN _ _ _ _; unfold OwnN; rw [HLL.out]; exact own6); clear own6 gr6)
      go_ret2
      obtain ⟨g, hg⟩ := OwnN.nb OW.out
      exact ⟨Below.comp q0 (Below.comp b1 b6), v6, g, rfl, hg.mono HZ.out (Nat.le_refl _)⟩
  · rw [if_neg hz]
    have hz' : ((R2 : Int) != 0) = true := by simp [hz]
    clear hz HLt HFew
    generalize T.length = n at *
    go_enter Tryd.func11, Tryd.ntmps11
    go_wp2_with fail
    refine cW.mono ?_
    rintro e w1 ⟨rfl, b1⟩
    clear x0 hW0 cW
    go_wp2_with fail
    go_ret2
    exact ⟨Below.comp q0 b1, .slice none 0 0, 0, rfl, NB.void⟩
set_option maxHeartbeats 1000000 in
theorem implList_any (kp : List Nm → ByteArray → Nat) (hkp : ∀ l s, AtN l s (kp l s)) (B : Bool) (T : List Ino) (hB : B = true ↔ TS T) (v : Value) (p : ByteArray) (w : World) (hp : p.size ≤ 1048576) (hf : FewI T) (hc : NamAt w v T) :
    Calls Tryd.prog 12 #[v, .string p] w fun e w' => NlA w (ldR kp B T p).1 (((ldR kp B T p).2 : Nat) : Int) e w' := by
  obtain ⟨a, ca, rfl, hca, hI⟩ := hc
  obtain ⟨W0, hW0⟩ : ∃ W0, w.alloc (.cells #[.slice a T.length ca] 30) = W0 := ⟨_, rfl⟩
  have q0 : Below w.heap.size w W0 := by subst hW0; exact below_alloc _ _
  have HX : Hid (W0.heap[w.heap.size]? = some (.cells #[.slice a T.length ca] 30 (0, 0))) := by subst hW0; exact al1 _ _
  have cW := implWalk_any kp hkp B T hB (tv a T.length ca) p W0 hp hf ⟨a, ca, rfl, hca, hI.below q0⟩
  have HLt : Hid _ := fun h => (wpR_lt (kp := kp) hB (p := p) h).1
  have HFew : Hid _ := ldR_few (kp := kp) hB p
  have HI : Hid (∀ W, Below W0.heap.size W0 W → Inos W a T) := fun W h => (hI.below q0).below h
  unfold ldR at *
  obtain ⟨x0, -⟩ := box1_cells HX.out
  generalize (wpR kp B T p).1 = R1 at *
  generalize (wpR kp B T p).2 = R2 at *
  unfold tv at *
  clear hI hca
  by_cases hz : R2 = 0
  · subst hz
    have hlt := HLt.out rfl
    rw [if_pos rfl] at HFew ⊢
    generalize hTn : T.length = n at *
    have HT : Hid _ := hTn
    clear hTn
    have hRn : (R1 : Int) < (n : Int) := by omega
    obtain ⟨X, hX⟩ : ∃ X, gn T R1 = X := ⟨_, rfl⟩
    rw [hX] at HFew ⊢
    have HXX : Hid _ := hX
    clear hX
    obtain ⟨dr, lk, l⟩ := X
    simp only at HFew ⊢
    cases dr with
    | false =>
      simp only [Bool.false_eq_true, if_false]
      go_enter Tryd.func12, Tryd.ntmps12
      go_wp2_with fail
      refine cW.mono ?_
      rintro e w1 ⟨rfl, b1⟩
      clear x0 hW0 cW
      obtain ⟨x0, -⟩ := box1_cells (box_on HX.out b1)
      obtain ⟨b, off, rfl, hcell⟩ := HI.out _ b1 (by rw [HT.out]; omega)
      obtain ⟨na, nc, u0, u1, u2, -, -⟩ := hcell R1 (by rw [HT.out]; exact hlt)
      rw [HXX.out] at u0 u1 u2
      simp only at u0 u1 u2
      clear hcell
      generalize l.length = nl at *
      obtain ⟨W2, hW2⟩ : ∃ W2, w1.alloc (.cells #[.bool false, .int .i64 lk, .slice na nl nc] 49) = W2 := ⟨_, rfl⟩
      have b2 : Below w1.heap.size w1 W2 := by subst hW2; exact below_alloc _ _
      obtain ⟨y0, y1, y2⟩ := box3_one (show W2.heap[w1.heap.size]? = some (.cells #[.bool false, .int .i64 lk, .slice na nl nc] 49 (0, 0)) by subst hW2; exact al1 _ _)
      go_wp2_with fail
      go_ret2
      exact ⟨Below.comp q0 (Below.comp b1 b2), .slice none 0 0, 0, rfl, NB.void⟩
    | true =>
      simp only [if_true] at HFew ⊢
      have hl20 := HFew.out
      go_enter Tryd.func12, Tryd.ntmps12
      go_wp2_with fail
      refine cW.mono ?_
      rintro e w1 ⟨rfl, b1⟩
      clear x0 hW0 cW
      obtain ⟨x0, -⟩ := box1_cells (box_on HX.out b1)
      obtain ⟨b, off, rfl, hcell⟩ := HI.out _ b1 (by rw [HT.out]; omega)
      obtain ⟨na, nc, u0, u1, u2, u3, -⟩ := hcell R1 (by rw [HT.out]; exact hlt)
      rw [HXX.out] at u0 u1 u2 u3
      simp only at u0 u1 u2 u3
      clear hcell
      obtain ⟨W2, hW2⟩ : ∃ W2, w1.alloc (.cells #[.bool true, .int .i64 lk, .slice na l.length nc] 49) = W2 := ⟨_, rfl⟩
      have b2 : Below w1.heap.size w1 W2 := by subst hW2; exact below_alloc _ _
      obtain ⟨y0, y1, y2⟩ := box3_one (show W2.heap[w1.heap.size]? = some (.cells #[.bool true, .int .i64 lk, .slice na l.length nc] 49 (0, 0)) by subst hW2; exact al1 _ _)
      have cC := copyNm_any na nc l.length (cns l) W2 (cns_len l) (cns_one l) (by omega) (u3.below b2).src
      have HZ : Hid (w.heap.size ≤ W2.heap.size) := Nat.le_trans (Below.comp q0 b1).size b2.size
      clear u3
      generalize hll : l.length = nl at *
      have HLL : Hid _ := hll
      clear hll
      go_wp2_with fail
      refine cC.mono ?_
      rintro e w3 ⟨b3, rfl, h3⟩
      have H3 : Hid _ := h3
      clear h3 y0 y1 y2 u0 u1 u2 x0 cC hW2
      go_wp2_with fail
      go_ret2
      refine ⟨Below.comp q0 (Below.comp b1 (Below.comp b2 b3)), .slice (some ⟨W2.heap.size, 0, none⟩) nl nl, W2.heap.size, rfl, some ⟨W2.heap.size, 0, none⟩, nl, by rw [HLL.out], by rw [HLL.out]; exact Nat.le_refl _, fun _ => ⟨rfl, HZ.out, box_lt H3.out, _, H3.out, ?_⟩⟩
      rw [HLL.out]
      intro i hi
      have h9 := cns_at l i (by rw [HLL.out]; exact hi)
      simpa using h9
  · rw [if_neg hz]
    have hz' : ((R2 : Int) != 0) = true := by simp [hz]
    clear hz HLt HFew
    generalize T.length = n at *
    go_enter Tryd.func12, Tryd.ntmps12
    go_wp2_with fail
    refine cW.mono ?_
    rintro e w1 ⟨rfl, b1⟩
    clear x0 hW0 cW
    go_wp2_with fail
    go_ret2
    exact ⟨Below.comp q0 b1, .slice none 0 0, 0, rfl, NB.void⟩
end Go.Proofs.YthioomihpfmlmaaDoor
