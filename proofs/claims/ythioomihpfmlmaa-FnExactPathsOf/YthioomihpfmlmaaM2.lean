import Derived.Test.YthioomihpfmlmaaM1
/- What the laws do with names: copy, compare and measure. -/
namespace Go.Proofs.Ythioomihpfmlmaa
open Go.ChangeShapes Go.WideShapes Go.ChangeAt Go.RowKit
set_option linter.unusedVariables false
open Hd

attribute [local go_sem] Oper.semAt_some

theorem box1_set {w : World} {b : Nat} {v0 x0 : Value} {e : TypeId} {z : Nat × Nat} (h : w.heap[b]? = some (.cells #[v0] e z)) :
    (w.setCell ⟨b, 0, none⟩ x0).heap[b]? = some (.cells #[x0] e z) := by
  rw [block_setz h]; rfl
theorem box1_cells {w : World} {b : Nat} {v0 : Value} {e : TypeId} (h : w.heap[b]? = some (.cells #[v0] e (0, 0))) :
    w.cell? ⟨b, 0, none⟩ = some v0 ∧ w.frozen? ⟨b, 0, none⟩ = false := ⟨cell_of_block h rfl, free_of_block h⟩
/-- Names as a value. -/
abbrev tv (a : Option Addr) (n c : Nat) : Value := .agg #[.slice a n c]
/-- Names as a value, and where they can be read. -/
def NamAt (w : World) (v : Value) (T : List Ino) : Prop := ∃ a c, v = tv a T.length c ∧ T.length ≤ c ∧ Inos w a T
theorem NamAt.below {w w' : World} {v : Value} {T : List Ino} (h : NamAt w v T) (hb : Below w.heap.size w w') : NamAt w' v T := by
  obtain ⟨a, c, e, h1, h2⟩ := h
  exact ⟨a, c, e, h1, h2.below hb⟩
/-- Names whose memory lies between two marks, each row in a block of its own. -/
def NOwn (w : World) (B C : Nat) (v : Value) (T : List Ino) : Prop := ∃ a c, v = tv a T.length c ∧ T.length ≤ c ∧ IOwn w B C a T
theorem NOwn.below {w w' : World} {B C : Nat} {v : Value} {T : List Ino} (h : NOwn w B C v T) (hb : Below w.heap.size w w') : NOwn w' B C v T := by
  obtain ⟨a, c, e, h1, h2⟩ := h
  exact ⟨a, c, e, h1, h2.below hb⟩
theorem NOwn.mono {w : World} {B C B' C' : Nat} {v : Value} {T : List Ino} (h : NOwn w B C v T) (k1 : B' ≤ B) (k2 : C ≤ C') : NOwn w B' C' v T := by
  obtain ⟨a, c, e, h1, h2⟩ := h
  exact ⟨a, c, e, h1, h2.mono k1 k2⟩
theorem NOwn.out {w w' : World} {B C B' C' : Nat} {v : Value} {T : List Ino} (h : NOwn w B C v T) (ho : Out B' C' w w') (hd : C ≤ B' ∨ C' ≤ B) : NOwn w' B C v T := by
  obtain ⟨a, c, e, h1, h2⟩ := h
  exact ⟨a, c, e, h1, h2.out ho hd⟩
theorem NOwn.at_ {w : World} {B C : Nat} {v : Value} {T : List Ino} (h : NOwn w B C v T) : NamAt w v T := by
  obtain ⟨a, c, rfl, h1, h2⟩ := h
  exact ⟨a, c, rfl, h1, h2.inos⟩
/-- Names that the laws look at. -/
def Sml (T : List Ino) : Prop := T.length ≤ 1048576 ∧ nk3 T T.length ≤ 1048576
theorem toNames_any (v : Value) (T : List Ino) (w : World) (hs : Sml T) (hc : NamAt w v T) :
    Calls Try.prog 13 #[v] w fun e w' => Below w.heap.size w w' ∧ ∃ v', e = .returned v' ∧ NOwn w' w.heap.size w'.heap.size v' T := by
  obtain ⟨a, ca, rfl, -, ha⟩ := hc
  have c1 := fun W h => toInodeS_any a T ca W hs.1 hs.2 h
  have HA : Hid (Inos w a T) := ha
  clear ha
  obtain ⟨n, hn⟩ : ∃ n, T.length = n := ⟨_, rfl⟩
  have Hn : Hid _ := hn
  rw [hn] at c1
  unfold tv
  rw [hn]
  clear hn
  obtain ⟨s, hs'⟩ : ∃ s, w.heap.size = s := ⟨_, rfl⟩
  obtain ⟨W0, hW0⟩ : ∃ W0, ((w.alloc (.cells #[.slice a n ca] 31)).alloc (.cells #[.slice none 0 0] 24)).alloc (.cells #[.slice none 0 0] 24) = W0 := ⟨_, rfl⟩
  have hb0 : Below w.heap.size w W0 := by subst hW0; exact ba3 _ _ _ _
  obtain ⟨B1, B2, B3⟩ : W0.heap[s]? = some (.cells #[.slice a n ca] 31 (0, 0)) ∧ W0.heap[s + 1]? = some (.cells #[.slice none 0 0] 24 (0, 0)) ∧ W0.heap[s + 1 + 1]? = some (.cells #[.slice none 0 0] 24 (0, 0)) := by subst hW0 hs'; exact al3 _ _ _ _
  have z0 : s + 1 + 1 < W0.heap.size := box_lt B3
  have H2 : Hid _ := B2
  have H3 : Hid _ := B3
  obtain ⟨i0, -⟩ := box1_cells B1
  clear B1 B2 B3
  go_enter Try.func13, Try.ntmps13
  go_wp2_with fail
  refine (c1 _ (HA.out.below hb0)).mono ?_
  rintro e w1 ⟨b1, x, cx, rfl, hcx, m1⟩
  clear hW0 i0
  have z2 := b1.size
  obtain ⟨K2, K3⟩ : Hid (w1.heap[s + 1]? = _) ∧ Hid (w1.heap[s + 1 + 1]? = _) := ⟨box_on H2.out b1, box_on H3.out b1⟩
  obtain ⟨r0, q0⟩ := box1_cells K3.out
  obtain ⟨e0, d0⟩ := box1_cells K2.out
  have M1 : Hid _ := m1
  clear m1
  go_wp2
  obtain ⟨W3, hW3⟩ : ∃ W3, (w1.setCell ⟨s + 1 + 1, 0, none⟩ (.slice x n cx)).setCell ⟨s + 1, 0, none⟩ (.slice x n cx) = W3 := ⟨_, rfl⟩
  have o3 : Out (s + 1) (s + 1 + 1 + 1) w1 W3 := by
    subst hW3
    exact ((Out.refl _ _ _).setCell (by omega) (by omega) _ _).setCell (by omega) (by omega) _ _
  have R : W3.heap[s + 1]? = some (.cells #[.slice x n cx] 24 (0, 0)) := by
    subst hW3
    exact box1_set (box_out K2.out (out_setCell _ _ _ _) (by omega))
  rw [hW3]
  clear hW3 r0 q0 e0 d0
  obtain ⟨t0, -⟩ := box1_cells R
  have z5 := o3.size
  refine bodyPost_ret (v := .agg #[.slice x n cx]) (by simp [results, Try.results13, go_sem, t0]) rfl ⟨?_, _, rfl, x, cx, by rw [Hn.out], by rw [Hn.out]; exact hcx, ?_⟩
  · exact (Below.comp hb0 b1).trans ((o3.below (by omega)).mono (by omega))
  · have hM : IOwn w1 W0.heap.size w1.heap.size x T := M1.out
    exact IOwn.mono (IOwn.out hM o3 (.inr (by omega))) (by omega) (by omega)
theorem eqNames_same (v v' : Value) (T : List Ino) (w : World) (hf : FewI T) (hc : NamAt w v T) (hc' : NamAt w v' T) :
    Calls Try.prog 8 #[v, v'] w fun e w' => e = .returned (.bool true) ∧ Below w.heap.size w w' := by
  obtain ⟨a, ca, rfl, -, ha⟩ := hc
  obtain ⟨a', ca', rfl, -, ha'⟩ := hc'
  have c1 := fun W h h' => eqInodeS_same a a' T ca ca' W hf.1 (fun i hi => (hf.2 i hi).1) h h'
  have HA : Hid (Inos w a T ∧ Inos w a' T) := ⟨ha, ha'⟩
  clear ha ha'
  unfold tv
  generalize T.length = n at *
  obtain ⟨s, hs⟩ : ∃ s, w.heap.size = s := ⟨_, rfl⟩
  obtain ⟨W0, hW0⟩ : ∃ W0, (w.alloc (.cells #[.slice a n ca] 24)).alloc (.cells #[.slice a' n ca'] 24) = W0 := ⟨_, rfl⟩
  have hb0' : Below w.heap.size w W0 := by subst hW0; exact ba2 _ _ _
  obtain ⟨B1, B2⟩ : W0.heap[s]? = some (.cells #[.slice a n ca] 24 (0, 0)) ∧ W0.heap[s + 1]? = some (.cells #[.slice a' n ca'] 24 (0, 0)) := by subst hW0 hs; exact al2 _ _ _
  obtain ⟨i0, -⟩ := box1_cells B1
  obtain ⟨j0, -⟩ := box1_cells B2
  clear B1 B2
  go_enter Try.func8, Try.ntmps8
  go_wp2_with fail
  refine (c1 _ (HA.out.1.below hb0') (HA.out.2.below hb0')).mono ?_
  rintro e w1 ⟨rfl, b1⟩
  go_wp2
  go_ret
  exact ⟨rfl, Below.comp hb0' b1⟩
theorem szNames_left (v : Value) (T : List Ino) (left : Int) (w : World) (h0 : 0 ≤ left) (h1 : left ≤ 1048576) (hf : FewI T) (hc : NamAt w v T) :
    Calls Try.prog 11 #[v, .int .i64 left] w fun e w' => Below w.heap.size w w' ∧ ∃ r : Int, e = .returned (.int .i64 r) ∧ r ≤ left ∧ (r < 0 ∨ (Sml T ∧ r + T.length + nk3 T T.length ≤ left)) := by
  obtain ⟨a, ca, rfl, -, ha⟩ := hc
  have c1 := fun W h => szInodeS_any a T ca left W hf h h0 h1
  have HA : Hid (Inos w a T) := ha
  clear ha
  unfold tv Sml
  generalize nk3 T T.length = m at *
  generalize T.length = n at *
  obtain ⟨W0, hW0⟩ : ∃ W0, w.alloc (.cells #[.slice a n ca] 31) = W0 := ⟨_, rfl⟩
  have q0 : Below w.heap.size w W0 := by subst hW0; exact below_alloc _ _
  have H1 : Hid (W0.heap[w.heap.size]? = some (.cells #[.slice a n ca] 31 (0, 0))) := by subst hW0; exact al1 _ _
  obtain ⟨i0, -⟩ := box1_cells H1.out
  go_enter Try.func11, Try.ntmps11
  go_wp2_with fail
  refine (c1 _ (HA.out.below q0)).mono ?_
  rintro e w1 ⟨b1, r, rfl, hr⟩
  have g1 := Below.comp q0 b1
  by_cases h : r < 0
  · go_wp2_with fail
    go_ret
    exact ⟨g1, -1, rfl, by omega, .inl (by omega)⟩
  · go_wp2_with fail
    go_ret
    exact ⟨g1, r, rfl, by omega, .inr ⟨⟨by omega, by omega⟩, by omega⟩⟩
end Go.Proofs.Ythioomihpfmlmaa
