import Derived.Test.YtgapplfnlndckaaZ3
import Derived.Test.YtgapplfnlndckaaT1
/- impl.leastFree. -/
namespace Go.Proofs.Ytgapplfnlndckaa
open Go.ChangeShapes Go.WideShapes Go.ChangeAt Go.RowKit
set_option linter.unusedVariables false
open Room

attribute [local go_sem] Oper.semAt_some

theorem sx_of {w : World} {a : Option Addr} {n cap : Nat} {f : Nat → Ex} (h : RowX w a n f) : Sx (w.alloc (.cells #[.slice a n cap] 22)) (w.alloc (.cells #[.slice a n cap] 22)).heap.size w.heap.size a n cap f :=
  ⟨by simp, (cell1 (al1 w _)).1, fun hn => by
    obtain ⟨b, off, e, hc⟩ := h hn
    have h0 := World.block_lt_of_cell? w ⟨b, off + 0 * 2, none⟩ (hc 0 (by omega)).1
    exact ⟨b, off, e, by simp at h0 ⊢; omega, fun i hi => ⟨cell_on (hc i hi).1 (below_alloc _ _), cell_on (hc i hi).2 (below_alloc _ _)⟩⟩⟩
theorem All_any (a : Option Addr) (n cap : Nat) (w : World) : Calls Try.prog 49 #[.slice a n cap] w fun e w' => e = .returned (.func (.func 56) #[] #[.pointer (some ⟨w.heap.size, 0, none⟩)]) ∧ w' = w.alloc (.cells #[.slice a n cap] 22) := by
  go_enter Try.func49, Try.ntmps49
  go_wp2
  go_ret
  exact ⟨rfl, rfl⟩
/-- Of an order; at a place. -/
def isO (t : Int) (x : Ex) : Bool := decide (x.2 = t)
def isA (t : Int) (x : Ex) : Bool := decide (x.1 = t)
theorem cl54_any (t : Int) (L : Nat) (x : Ex) (w : World) (hc : w.cell? ⟨L, 0, none⟩ = some (.int .i64 t)) :
    Calls Try.prog 54 #[xv x, .pointer (some ⟨L, 0, none⟩)] w fun e w' => e = .returned (.bool (isO t x)) ∧ Below w.heap.size w w' := by
  obtain ⟨p, q⟩ := x
  have y0 := cell_on hc (below_alloc w (.cells #[.int .i64 p, .int .i64 q] 43))
  go_enter Try.func54, Try.ntmps54
  go_wp2
  go_ret
  exact ⟨by simp [isO, Bool.beq_eq_decide_eq], below_alloc _ _⟩
theorem cl50_any (t : Int) (L : Nat) (x : Ex) (w : World) (hc : w.cell? ⟨L, 0, none⟩ = some (.int .i64 t)) :
    Calls Try.prog 50 #[xv x, .pointer (some ⟨L, 0, none⟩)] w fun e w' => e = .returned (.bool (isA t x)) ∧ Below w.heap.size w w' := by
  obtain ⟨p, q⟩ := x
  have y0 := cell_on hc (below_alloc w (.cells #[.int .i64 p, .int .i64 q] 43))
  go_enter Try.func50, Try.ntmps50
  go_wp2
  go_ret
  exact ⟨by simp [isA, Bool.beq_eq_decide_eq], below_alloc _ _⟩
/-- What leastFree tells. -/
def Lf (F : List Ex) (o : Int) (y : Ex) (r : Bool) : Prop := (r = true ∧ ∃ k, Best F o k ∧ y = gx F k) ∨ (r = false ∧ y = (0, 0) ∧ ∀ i, i < F.length → (gx F i).2 < o)
def LfE (F : List Ex) (o : Int) (e : Ending) : Prop := ∃ y r, e = .returned (.tuple #[xv y, .bool r]) ∧ Lf F o y r
/-- How far a count stands from its end. -/
def toGo (L : Nat) (e : Int) (w : World) : Nat := match w.cell? ⟨L, 0, none⟩ with | some (.int _ t) => (e - t).toNat | _ => 0

set_option maxHeartbeats 2000000 in
theorem leastFree_any (b : Int) (a : Option Addr) (ca : Nat) (a' : Option Addr) (n' ca' : Nat) (F : List Ex) (o : Int) (w : World) (ho0 : 0 ≤ o) (hb0 : 0 ≤ b) (hb8 : b ≤ 8) (hn : F.length ≤ 1000) (hFb : ∀ i, i < F.length → (gx F i).2 ≤ b) (ha : Exs w a F) :
    Calls Try.prog 44 #[fv b a F.length ca a' n' ca', .int .i64 o] w fun e w' => Below w.heap.size w w' ∧ LfE F o e := by
  obtain ⟨D, hD⟩ : ∃ D, w.heap.size = D := ⟨_, rfl⟩
  obtain ⟨W0, hW0⟩ : ∃ W0, ((w.alloc (.cells #[.int .i64 b, .slice a F.length ca, .slice a' n' ca'] 24)).alloc (.cells #[.int .i64 o] 3)).alloc (.cells #[.int .i64 0, .int .i64 0] 43) = W0 := ⟨_, rfl⟩
  have g0 : Below w.heap.size w W0 := by subst hW0; exact ba3 _ _ _ _
  obtain ⟨B1, B2, B3⟩ : W0.heap[D]? = some (.cells #[.int .i64 b, .slice a F.length ca, .slice a' n' ca'] 24 (0, 0)) ∧ W0.heap[D + 1]? = some (.cells #[.int .i64 o] 3 (0, 0)) ∧ W0.heap[D + 1 + 1]? = some (.cells #[.int .i64 0, .int .i64 0] 43 (0, 0)) := by subst hW0 hD; exact al3 _ _ _ _
  have H0 : Hid (W0.heap[D]? = some (.cells #[.int .i64 b, .slice a F.length ca, .slice a' n' ca'] 24 (0, 0)) ∧ W0.heap[D + 1]? = some (.cells #[.int .i64 o] 3 (0, 0)) ∧ W0.heap[D + 1 + 1]? = some (.cells #[.int .i64 0, .int .i64 0] 43 (0, 0))) := ⟨B1, B2, B3⟩
  clear B1 B2 B3
  have hg0 : Below D w W0 := hD ▸ g0
  go_enter Try.func44, Try.ntmps44
  go_wp2
  clear hW0
  go_loopw [8] (fun _ wr => ∃ t : Int, wr.heap[D]? = some (.cells #[.int .i64 b, .slice a F.length ca, .slice a' n' ca'] 24 (0, 0)) ∧ wr.heap[D + 1]? = some (.cells #[.int .i64 t] 3 (0, 0)) ∧ wr.heap[D + 1 + 1]? = some (.cells #[.int .i64 0, .int .i64 0] 43 (0, 0)) ∧ o ≤ t ∧ (∀ i, i < F.length → o ≤ (gx F i).2 → t ≤ (gx F i).2) ∧ Below D w wr) (fun _ wr => toGo (D + 1) (b + 1) wr)
  case atStart => exact ⟨o, H0.out.1, H0.out.2.1, H0.out.2.2, Int.le_refl _, fun i hi h => h, hg0⟩
  case round =>
    obtain ⟨t, B1, B2, B3, hot, hmin, hb⟩ := hrel
    have H1 : Hid _ := B1
    have H2 : Hid (wr.heap[D + 1]? = some (.cells #[.int .i64 t] 3 (0, 0))) := B2
    have H3 : Hid (wr.heap[D + 1 + 1]? = some (.cells #[.int .i64 0, .int .i64 0] 43 (0, 0))) := B3
    obtain ⟨i0, i1, i2, -, -, -⟩ := box3_cells B1
    obtain ⟨t0, t1⟩ := cell1 B2
    have z0 : D + 1 + 1 < wr.heap.size := box_lt B3
    clear B1 B2 B3
    have hb' : Below w.heap.size w wr := hD ▸ hb
    by_cases hlt : t ≤ b
    · have cf := first54 wr.heap.size (D + 1) a F.length ca (gx F) (isO t) (wr.alloc (.cells #[.slice a F.length ca] 22)) (by omega) (sx_of (ha.below hb')) (fun i hi W hW => cl54_any t (D + 1) (gx F i) W (cell_on t0 (Below.comp (below_alloc _ _) hW)))
      go_wp2_with fail
      refine (All_any a F.length ca _).mono ?_
      rintro e w2 ⟨rfl, rfl⟩
      go_wp2_with fail
      refine cf.mono ?_
      rintro e w3 ⟨b3, y, r, rfl, hF⟩
      obtain ⟨y1, y2⟩ := y
      obtain ⟨W4, hW4⟩ : ∃ W4, w3.alloc (.cells #[.int .i64 y1, .int .i64 y2] 43) = W4 := ⟨_, rfl⟩
      have b4 : Below w3.heap.size w3 W4 := by subst hW4; exact below_alloc _ _
      have b34 := Below.comp (below_alloc wr (.cells #[.slice a F.length ca] 22)) (Below.comp b3 b4)
      have hE : W4.heap[w3.heap.size]? = some (.cells #[.int .i64 y1, .int .i64 y2] 43 (0, 0)) := by subst hW4; exact al1 _ _
      obtain ⟨e0, e1, -, -⟩ := box2_cells hE
      have K3 : Hid (W4.heap[D + 1 + 1]? = _) := box_on H3.out b34
      have K2 : Hid (W4.heap[D + 1]? = some (.cells #[.int .i64 t] 3 (0, 0))) := box_on H2.out b34
      have K1 : Hid (W4.heap[D]? = _) := box_on H1.out b34
      obtain ⟨r0, r1, q0, q1⟩ := box2_cells K3.out
      obtain ⟨t2, t3⟩ := cell1 K2.out
      have z4 : D + 1 + 1 < W4.heap.size := box_lt K3.out
      have hb4 : Below D w W4 := hb.trans (b34.mono (by omega))
      clear cf hE i0 i1 i2 t0 t1
      cases r with
      | true =>
        have HL : Hid (Lf F o (y1, y2) true) := by
          rcases hF with ⟨_, k, hk, h1, h2, h3⟩ | ⟨h, _⟩
          · have e2 : (gx F k).2 = t := by simpa [isO] using h2
            refine .inl ⟨rfl, k, ⟨hk, by omega, fun i hi ho => by rw [e2]; exact hmin i hi ho, fun i hi ho => ?_⟩, h1⟩
            have h4 := hmin i (by omega) ho
            have h5 : (gx F i).2 ≠ t := by simpa [isO] using h3 i hi
            omega
          · cases h
        clear hF
        go_wp2
        obtain ⟨X, hX⟩ : ∃ X, (W4.setCell ⟨D + 1 + 1, 0, none⟩ (.int .i64 y1)).setCell ⟨D + 1 + 1, 1, none⟩ (.int .i64 y2) = X := ⟨_, rfl⟩
        have R : X.heap[D + 1 + 1]? = some (.cells #[.int .i64 y1, .int .i64 y2] 43 (0, 0)) := by subst hX; exact box2_set K3.out
        have bX : Below D w X := by subst hX; exact below_set2 hb4 (by omega)
        rw [hX]
        clear hX r0 r1
        obtain ⟨r0, r1, -, -⟩ := box2_cells R
        refine bodyPost_ret (v := .tuple #[xv (y1, y2), .bool true]) (by simp [results, Try.results44, go_sem, r0, r1]) rfl ⟨by first | exact bX | exact hD ▸ bX, _, _, rfl, HL.out⟩
      | false =>
        have HN : Hid (∀ i, i < F.length → o ≤ (gx F i).2 → t + 1 ≤ (gx F i).2) := fun i hi ho => by
          rcases hF with ⟨h, _⟩ | ⟨_, _, h3⟩
          · cases h
          · have h4 := hmin i hi ho
            have h5 : (gx F i).2 ≠ t := by simpa [isO] using h3 i hi
            omega
        have hwr : IntKind.i64.wrap (t + 1) = t + 1 := wrapI (by omega) (by omega)
        clear hF
        go_wp2
        obtain ⟨X, hX⟩ : ∃ X, W4.setCell ⟨D + 1, 0, none⟩ (.int .i64 (t + 1)) = X := ⟨_, rfl⟩
        have o1 : Out (D + 1) (D + 1 + 1) W4 X := by subst hX; exact out_setCell _ _ _ _
        have R2 : X.heap[D + 1]? = some (.cells #[.int .i64 (t + 1)] 3 (0, 0)) := by subst hX; exact block_set K2.out
        have R1 := box_out K1.out o1 (.inl (by omega))
        have R3 := box_out K3.out o1 (.inr (by omega))
        have bX : Below D w X := hb4.trans ((o1.below (by omega)).mono (by omega))
        rw [hX]
        clear hX
        go_roundw
        case rel => exact ⟨t + 1, R1, R2, R3, by omega, HN.out, bX⟩
        case measure =>
          have c1 := (cell1 R2).1
          have c2 := (cell1 H2.out).1
          simp only [toGo, c1, c2]
          omega
    · have HN : Hid (∀ i, i < F.length → (gx F i).2 < o) := fun i hi => by
        have h1 := hFb i hi
        have h2 := hmin i hi
        omega
      obtain ⟨r0, r1, q0, q1⟩ := box2_cells H3.out
      go_wp2
      obtain ⟨X, hX⟩ : ∃ X, (wr.setCell ⟨D + 1 + 1, 0, none⟩ (.int .i64 0)).setCell ⟨D + 1 + 1, 1, none⟩ (.int .i64 0) = X := ⟨_, rfl⟩
      have R : X.heap[D + 1 + 1]? = some (.cells #[.int .i64 0, .int .i64 0] 43 (0, 0)) := by subst hX; exact box2_set H3.out
      have bX : Below D w X := by subst hX; exact below_set2 hb (by omega)
      rw [hX]
      clear hX r0 r1
      obtain ⟨r0, r1, -, -⟩ := box2_cells R
      refine bodyPost_ret (v := .tuple #[xv (0, 0), .bool false]) (by simp [results, Try.results44, go_sem, r0, r1]) rfl ⟨by first | exact bX | exact hD ▸ bX, _, _, rfl, .inr ⟨rfl, rfl, HN.out⟩⟩
end Go.Proofs.Ytgapplfnlndckaa
