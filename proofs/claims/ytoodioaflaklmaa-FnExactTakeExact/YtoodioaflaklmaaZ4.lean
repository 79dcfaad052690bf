/- l5Within, spec.IsFreeAt. -/
import Derived.Test.YtoodioaflaklmaaZ3
import Derived.Test.YtoodioaflaklmaaG4
namespace Go.Proofs.Ytoodioaflaklmaa
open Go.ChangeShapes Go.WideShapes Go.ChangeAt Go.RowKit
set_option linter.unusedVariables false
open Room
attribute [local go_sem] Oper.semAt_some

/-- Whether an extent lies wholly in another one. -/
def wiP (x o : Ex) : Bool := decide (o.1 ≤ x.1) && decide (fin x ≤ fin o)
/-- The number of the first extent of a list in which one lies, -1 for none. -/
def Wi (l : List Ex) (x : Ex) (k : Int) : Prop :=
  (∃ j : Nat, j < l.length ∧ k = j ∧ wiP x (gx l j) = true ∧ ∀ i, i < j → wiP x (gx l i) = false) ∨ (k = -1 ∧ ∀ i, i < l.length → wiP x (gx l i) = false)

theorem wi_any {l : List Ex} {t k : Int} (h : Wi l (t, 1) k) : decide (0 ≤ k) = l.any (inX t) := by
  have e : ∀ o : Ex, wiP (t, 1) o = inX t o := fun o => by
    unfold wiP inX
    congr 1
  simp only [Wi, e] at h
  rcases h with ⟨j, hj, rfl, h1, -⟩ | ⟨rfl, h1⟩
  · rw [decide_eq_true (by omega)]
    refine (List.any_eq_true.2 ⟨l[j], List.getElem_mem hj, ?_⟩).symm
    rw [← gx_eq hj]; exact h1
  · rw [decide_eq_false (by omega)]
    refine (List.any_eq_false.2 fun x hx => ?_).symm
    obtain ⟨i, hi, rfl⟩ := List.getElem_of_mem hx
    have := h1 i hi
    rw [gx_eq hi] at this
    simp [this]

set_option maxHeartbeats 1000000 in
theorem l5Within_any (a : Option Addr) (cap : Nat) (l : List Ex) (x : Ex) (w : World) (hn : l.length ≤ 1048576) (hx : -9223372036854775808 ≤ fin x ∧ fin x ≤ 9223372036854775807) (ho : ∀ i, i < l.length → -9223372036854775808 ≤ fin (gx l i) ∧ fin (gx l i) ≤ 9223372036854775807) (ha : Exs w a l) :
    Calls Try.prog 46 #[.slice a l.length cap, xv x] w fun e w' => Below w.heap.size w w' ∧ ∃ k : Int, e = .returned (.int .i64 k) ∧ Wi l x k := by
  obtain ⟨n, hL⟩ : ∃ n, l.length = n := ⟨_, rfl⟩
  unfold Wi
  unfold Exs at ha
  rw [hL] at ha hn ho ⊢
  clear hL
  obtain ⟨f, hf⟩ : ∃ f, wiP x = f := ⟨_, rfl⟩
  rw [hf]
  have HF : Hid _ := hf
  clear hf
  unfold fin at hx ho
  obtain ⟨p, q⟩ := x
  simp only at hx
  have HO : Hid _ := ho
  clear ho
  generalize hG : gx l = g at *
  clear hG
  have e1 := wrapI hx.1 hx.2
  obtain ⟨D, hD⟩ : ∃ D, w.heap.size = D := ⟨_, rfl⟩
  obtain ⟨W0, hW0⟩ : ∃ W0, w.alloc (.cells #[.int .i64 p, .int .i64 q] 41) = W0 := ⟨_, rfl⟩
  have g0 : Below w.heap.size w W0 := by subst hW0; exact below_alloc _ _
  have B1 : W0.heap[D]? = some (.cells #[.int .i64 p, .int .i64 q] 41 (0, 0)) := by subst hW0 hD; exact al1 _ _
  have HB : Hid _ := B1
  clear B1
  have Ha : Hid (RowX w a n g) := ha
  clear ha
  go_enter Try.func46, Try.ntmps46
  go_wp2
  clear hW0
  go_loopw [9] (fun i wr => ∃ k : Nat, k ≤ n ∧ i = .int .i64 k ∧ Hid (∀ j, j < k → f (g j) = false) ∧ Below W0.heap.size W0 wr) (fun i _ => n - (intOf i).toNat)
  case atStart => exact ⟨0, Nat.zero_le _, rfl, (show Hid _ from fun j hj => by omega), Below.refl _ _⟩
  case round =>
    obtain ⟨k, hk, rfl, HP, hb⟩ := hrel
    obtain ⟨i0, i1, -, -⟩ := box2_cells (box_on HB.out hb)
    by_cases hlt : k < n
    · obtain ⟨bb, off, rfl, hcell⟩ := (Ha.out.below (Below.comp g0 hb)) (by omega)
      obtain ⟨k0, k1⟩ := hcell k hlt
      have hfo := HO.out k hlt
      have HW : Hid (f (g k) = (decide ((g k).1 ≤ p) && decide (p + q ≤ (g k).1 + (g k).2))) := by
        show _ = _
        rw [← HF.out]; rfl
      clear hcell
      obtain ⟨W1, hW1⟩ : ∃ W1, wr.alloc (.cells #[.int .i64 (g k).1, .int .i64 (g k).2] 41) = W1 := ⟨_, rfl⟩
      have b1 : Below wr.heap.size wr W1 := by subst hW1; exact below_alloc _ _
      obtain ⟨A, hA⟩ : ∃ A, wr.heap.size = A := ⟨_, rfl⟩
      have hA1 : W1.heap[A]? = some (.cells #[.int .i64 (g k).1, .int .i64 (g k).2] 41 (0, 0)) := by subst hW1 hA; exact al1 _ _
      obtain ⟨m0, m1, -, -⟩ := box2_cells hA1
      have y0 := cell_on i0 b1
      have y1 := cell_on i1 b1
      have step : f (g k) = false → Hid (∀ j, j < k + 1 → f (g j) = false) := fun h j hj => by
        by_cases e : j = k
        · subst e; exact h
        · exact HP.out j (by omega)
      have fini : f (g k) = true → (∃ j : Nat, j < n ∧ (k : Int) = j ∧ f (g j) = true ∧ ∀ i, i < j → f (g i) = false) := fun h => ⟨k, hlt, rfl, h, HP.out⟩
      have HS : Hid _ := step
      have HN : Hid _ := fini
      clear step fini HP HF
      generalize hgk : g k = z at *
      clear hgk
      obtain ⟨u, v⟩ := z
      simp only at k0 k1 hfo m0 m1 hW1 HW
      have e2 := wrapI hfo.1 hfo.2
      by_cases h1 : u ≤ p
      · by_cases h2 : p + q ≤ u + v
        · have ht : f (u, v) = true := by rw [HW.out, decide_eq_true h1, decide_eq_true h2]; rfl
          have HT : Hid _ := ht
          clear ht HW
          go_wp2
          go_ret
          exact ⟨by first | exact Below.comp g0 (Below.comp hb (hW1 ▸ b1)) | exact Below.comp g0 (Below.comp hb b1) | exact (hD ▸ Below.comp g0 (Below.comp hb b1)), _, rfl, .inl (HN.out HT.out)⟩
        · have ht : f (u, v) = false := by rw [HW.out, decide_eq_false h2]; simp
          have HT : Hid _ := ht
          clear ht HW
          go_wp2
          go_roundw
          case rel => exact ⟨k + 1, by omega, by go_num, HS.out HT.out, by first | exact Below.comp hb b1 | exact Below.comp hb (hW1 ▸ b1)⟩
          case measure => simp [intOf]; omega
      · have ht : f (u, v) = false := by rw [HW.out, decide_eq_false h1]; simp
        have HT : Hid _ := ht
        clear ht HW
        go_wp2
        go_roundw
        case rel => exact ⟨k + 1, by omega, by go_num, HS.out HT.out, by first | exact Below.comp hb b1 | exact Below.comp hb (hW1 ▸ b1)⟩
        case measure => simp [intOf]; omega
    · obtain rfl : k = n := by omega
      go_wp2
      go_ret
      exact ⟨by first | exact Below.comp g0 hb | exact (hD ▸ Below.comp g0 hb), _, rfl, .inr ⟨rfl, HP.out⟩⟩

set_option maxHeartbeats 1000000 in
theorem specIsFree_any (b : Int) (a : Option Addr) (ca : Nat) (a' : Option Addr) (ca' : Nat) (l s : List Ex) (t : Int) (w : World) (hb0 : -9223372036854775808 ≤ b) (hb1 : b ≤ 9223372036854775807) (hn : l.length ≤ 1048576) (hn' : s.length ≤ 1048576) (ha : Exs w a l) (ha' : Exs w a' s) :
    Calls Try.prog 26 #[fv b a l.length ca a' s.length ca', .int .i64 t] w fun e w' => e = .returned (.tuple #[.bool (isF b l s t), .bool (isO b l s t)]) ∧ Below w.heap.size w w' := by
  obtain ⟨D, hD⟩ : ∃ D, w.heap.size = D := ⟨_, rfl⟩
  obtain ⟨W0, hW0⟩ : ∃ W0, w.alloc (.cells #[.int .i64 b, .slice a l.length ca, .slice a' s.length ca'] 29) = W0 := ⟨_, rfl⟩
  have g0 : Below w.heap.size w W0 := by subst hW0; exact below_alloc _ _
  have B1 : W0.heap[D]? = some (.cells #[.int .i64 b, .slice a l.length ca, .slice a' s.length ca'] 29 (0, 0)) := by subst hW0 hD; exact al1 _ _
  have HB : Hid _ := B1
  obtain ⟨i0, i1, i2, -, -, -⟩ := box3_cells B1
  clear B1
  have cg := specGood_any b a ca a' ca' l s W0 hb0 hb1 hn hn' (ha.below g0) (ha'.below g0)
  have hfin : good b l s = true → (1 ≤ b ∧ b ≤ 400) ∧ ∀ i, i < l.length → -9223372036854775808 ≤ fin (gx l i) ∧ fin (gx l i) ≤ 9223372036854775807 := fun hr => by
    have hg := good_iff.1 hr
    refine ⟨hg.1, fun i hi => ?_⟩
    have := hg.2.2.1.ins (gx l i) (by rw [gx_eq hi]; exact List.getElem_mem hi)
    unfold fin at *
    omega
  unfold isF isO
  obtain ⟨r, hr⟩ : ∃ r, good b l s = r := ⟨_, rfl⟩
  rw [hr] at cg hfin ⊢
  clear hr
  go_enter Try.func26, Try.ntmps26
  go_wp2_with fail
  refine cg.mono ?_
  rintro e w1 ⟨rfl, b1⟩
  clear cg hW0 i0 i1 i2
  obtain ⟨i0, i1, i2, -, -, -⟩ := box3_cells (box_on HB.out b1)
  have g1 := Below.comp g0 b1
  cases r with
  | false =>
    go_wp2
    go_ret2
    exact ⟨rfl, by first | exact g1 | exact (hD ▸ g1)⟩
  | true =>
    obtain ⟨hb, hfi⟩ := hfin rfl
    have HI : Hid _ := hfi
    clear hfin hfi
    obtain ⟨v, hv⟩ : ∃ v, (decide (0 ≤ t) && decide (t ≤ b - 1)) = v := ⟨_, rfl⟩
    have hv' : (decide (0 ≤ t) && decide (t < b)) = v := by rw [← hv]; congr 1; exact decide_eq_decide.2 ⟨fun h => by omega, fun h => by omega⟩
    have ew := wrapI (z := b - 1) (by omega) (by omega)
    have HV : Hid _ := hv'
    clear hv'
    cases v with
    | false =>
      go_wp2_with (go_at_call 42; refine (l1In_any _ _ _ _).mono ?_; rintro e w2 ⟨rfl, rfl⟩; rw [hv])
      go_ret2
      exact ⟨by rw [HV.out]; rfl, by first | exact g1 | exact (hD ▸ g1)⟩
    | true =>
      have ht : 0 ≤ t ∧ t ≤ b - 1 := by simpa using hv
      have cw := l5Within_any a ca l (t, 1) w1 hn (by unfold fin; simp only; omega) HI.out (ha.below g1)
      go_wp2_with (first | (go_at_call 42; refine (l1In_any _ _ _ _).mono ?_; rintro e w2 ⟨rfl, rfl⟩; rw [hv]) | (go_at_call 46; refine cw.mono ?_; rintro e w2 ⟨b2, k, rfl, hW⟩; have hk := wi_any hW; clear hW cw))
      go_ret2
      exact ⟨by rw [HV.out, ← hk]; rfl, by first | exact Below.comp g1 b2 | exact (hD ▸ Below.comp g1 b2)⟩
end Go.Proofs.Ytoodioaflaklmaa
