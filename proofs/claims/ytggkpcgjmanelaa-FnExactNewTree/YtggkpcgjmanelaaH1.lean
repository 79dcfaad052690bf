import Derived.Test.YtggkpcgjmanelaaI1
/- Where a key belongs among keys that rise. -/
namespace Go.Proofs.Ytggkpcgjmanelaa
open Go.ChangeShapes Go.WideShapes Go.ChangeAt Go.RowKit
set_option linter.unusedVariables false
open Bt

attribute [local go_sem] Oper.semAt_some

/-- How many keys are less, and whether the next one is it. -/
def la (l : List Int) (key : Int) : Nat := (l.takeWhile (fun x => decide (x < key))).length
def hsK (l : List Int) (key : Int) : Bool := decide (la l key < l.length) && decide (gi l (la l key) = key)
theorem la_le (l : List Int) (key : Int) : la l key ≤ l.length := (List.takeWhile_sublist _).length_le
theorem la_first {key : Int} : ∀ {l : List Int} {k : Nat}, k ≤ l.length → (∀ t, t < k → gi l t < key) → (k < l.length → key ≤ gi l k) → la l key = k := by
  intro l
  induction l with
  | nil => intro k h1 h2 h3; simp at h1; simp [la, h1]
  | cons x l ih =>
    intro k h1 h2 h3
    cases k with
    | zero =>
      have := h3 (by simp)
      simp [gi] at this
      have h9 : ¬ x < key := by omega
      simp [la, h9]
    | succ k =>
      have h0 := h2 0 (by omega)
      simp [gi] at h0
      have := ih (k := k) (by simpa using h1) (fun t ht => by have := h2 (t + 1) (by omega); simpa [gi] using this) (fun h => by have := h3 (by simpa using h); simpa [gi] using this)
      unfold la at this ⊢
      simp [h0, this]
theorem less_any (x y : Int) (w : World) : Calls Try.prog 107 #[.int .i64 x, .int .i64 y] w fun e w' => e = .returned (.bool (decide (x < y))) ∧ w = w' := by
  have hx : (x != x) = false := by simp
  have hy : (y != y) = false := by simp
  go_enter Try.func107, Try.ntmps107
  go_wp2
  all_goals
    go_ret
    refine ⟨?_, rfl⟩
    simp
set_option maxHeartbeats 1000000 in
theorem l7At_any (a : Option Addr) (l : List Int) (cap : Nat) (key : Int) (w : World) (hn : l.length ≤ 100000000) (hc : Ints w a l) :
    Calls Try.prog 91 #[.slice a l.length cap, .int .i64 key] w fun e w' => e = .returned (.tuple #[.int .i64 (la l key), .bool (hsK l key)]) ∧ Below w.heap.size w w' := by
  have HL : Hid (∀ k, k ≤ l.length → (∀ t, t < k → gi l t < key) → (k < l.length → key ≤ gi l k) → la l key = k) := fun k => la_first
  have HH : Hid (hsK l key = (decide (la l key < l.length) && decide (gi l (la l key) = key))) := (rfl : hsK l key = _)
  unfold Ints at hc
  generalize la l key = K at *
  generalize hsK l key = B at *
  generalize hf : gi l = f at *
  generalize l.length = n at *
  clear hf
  go_enter Try.func91, Try.ntmps91
  go_wp2
  go_loopw [6] (fun i wr => ∃ k : Nat, k ≤ n ∧ i = .int .i64 k ∧ Hid (∀ t, t < k → f t < key) ∧ wr = w) (fun i _ => n - (intOf i).toNat)
  case atStart => exact ⟨0, Nat.zero_le _, rfl, fun t ht => absurd ht (by omega), rfl⟩
  case round =>
    obtain ⟨k, hk, rfl, hP, rfl⟩ := hrel
    by_cases hlt : k < n
    · obtain ⟨b, off, rfl, hcell⟩ := hc (by omega)
      have kc : wr.cell? ⟨b, off + k, none⟩ = some (iv (f k)) := hcell k hlt
      clear hcell hc
      have d0 : (k : Int) < (n : Int) := by omega
      generalize hx : f k = x at kc
      have HX : Hid _ := hx
      clear hx
      by_cases hl : x < key
      · go_wp2
        go_roundw
        case rel =>
          refine ⟨k + 1, by omega, by go_num, fun t ht => ?_, trivial⟩
          by_cases e : t = k
          · rw [e, HX.out]; exact hl
          · exact hP.out t (by omega)
        case measure => simp [intOf]; omega
      · have hKk : K = k := HL.out k hk hP.out (fun _ => by rw [HX.out]; omega)
        have hB : B = decide (x = key) := by rw [HH.out, hKk, HX.out, decide_eq_true hlt]; rfl
        subst hKk
        have HB : Hid _ := hB
        clear hB
        have d1 : decide ((K : Int) < (n : Int)) = true := decide_eq_true d0
        go_wp2_with fail
        go_quiet (fail)
        go_wp2_with fail
        go_ret2
        refine ⟨?_, below_drewN (Below.refl _ _) _⟩
        have e2 : (x == key) = decide (x = key) := by rw [Bool.eq_iff_iff]; simp
        rw [HB.out, ← e2]
        rfl
    · have hKk : K = k := HL.out k hk hP.out (fun h => absurd h hlt)
      have hB : B = false := by rw [HH.out, hKk, decide_eq_false hlt]; rfl
      subst hKk hB
      have d1 : decide ((K : Int) < (n : Int)) = false := decide_eq_false (by omega)
      have d2 : ¬ (K : Int) < (n : Int) := by omega
      go_wp2_with fail
      go_quiet (fail)
      go_wp2_with fail
      go_ret2
      exact ⟨rfl, below_drewN (Below.refl _ _) _⟩
set_option maxHeartbeats 2000000 in
theorem search_any (a : Option Addr) (l : List Int) (cap : Nat) (key : Int) (w : World) (hn : l.length ≤ 100000000) (hs : l.Pairwise (· < ·)) (hc : Ints w a l) :
    Calls Try.prog 84 #[.slice a l.length cap, .int .i64 key] w fun e w' => e = .returned (.tuple #[.int .i64 (la l key), .bool (hsK l key)]) ∧ Below w.heap.size w w' := by
  have Hm : Hid (∀ i j, i ≤ j → j < l.length → gi l i ≤ gi l j) := fun i j hij hj => by
    by_cases e : i = j
    · rw [e]; exact Int.le_refl _
    · have := List.pairwise_iff_getElem.1 hs i j (by omega) hj (by omega)
      rw [← gi_eq (by omega), ← gi_eq hj] at this
      omega
  have HL : Hid (∀ k, k ≤ l.length → (∀ t, t < k → gi l t < key) → (k < l.length → key ≤ gi l k) → la l key = k) := fun k => la_first
  have HH : Hid (hsK l key = (decide (la l key < l.length) && decide (gi l (la l key) = key))) := (rfl : hsK l key = _)
  unfold Ints at hc
  clear hs
  generalize la l key = K at *
  generalize hsK l key = B at *
  generalize hf : gi l = f at *
  generalize l.length = n at *
  clear hf
  go_enter Try.func84, Try.ntmps84
  go_wp2_with fail
  go_loopw [7, 8] (fun i j wr => ∃ (lo hi : Nat), lo ≤ hi ∧ hi ≤ n ∧ i = .int .i64 lo ∧ j = .int .i64 hi ∧ Hid ((∀ t, t < lo → f t < key) ∧ (∀ t, hi ≤ t → t < n → key ≤ f t)) ∧ wr = w) (fun i j _ => (intOf j).toNat - (intOf i).toNat)
  case atStart => exact ⟨0, n, Nat.zero_le _, Nat.le_refl _, rfl, rfl, ⟨fun t ht => absurd ht (by omega), fun t h1 h2 => absurd h2 (by omega)⟩, rfl⟩
  case round =>
    obtain ⟨lo, hi, hlh, hin, rfl, rfl, HI, rfl⟩ := hrel
    by_cases hlt : lo < hi
    · obtain ⟨h, hh⟩ : ∃ h, (lo + hi) / 2 = h := ⟨_, rfl⟩
      have hm0 : h < n := by omega
      have hm1 : lo ≤ h := by omega
      have hm2 : h < hi := by omega
      have eh : ((lo : Int) + (hi : Int)) / 2 = (h : Int) := by omega
      have hm0' : (h : Int) < (n : Int) := by omega
      clear hh
      obtain ⟨b, off, rfl, hcell⟩ := hc (by omega)
      have kc : wr.cell? ⟨b, off + h, none⟩ = some (iv (f h)) := hcell h hm0
      clear hcell hc
      generalize hx : f h = x at kc
      have HX : Hid _ := hx
      clear hx
      have cL := fun W => less_any x key W
      by_cases hl : x < key
      · rw [decide_eq_true hl] at cL
        go_wp2_with (go_at_call 107; refine (cL _).mono ?_; rintro e w1 ⟨rfl, rfl⟩)
        go_roundw
        case rel => exact ⟨h + 1, hi, by omega, hin, by go_num, rfl, ⟨fun t ht => by have := Hm.out t h (by omega) hm0; rw [HX.out] at this; omega, HI.out.2⟩, trivial⟩
        case measure => simp [intOf]; omega
      · rw [decide_eq_false hl] at cL
        go_wp2_with (go_at_call 107; refine (cL _).mono ?_; rintro e w1 ⟨rfl, rfl⟩)
        go_roundw
        case rel => exact ⟨lo, h, by omega, by omega, rfl, by go_num, ⟨HI.out.1, fun t h1 h2 => by have := Hm.out h t h1 h2; rw [HX.out] at this; omega⟩, trivial⟩
        case measure => simp [intOf]; omega
    · have hKk : K = lo := HL.out lo (by omega) HI.out.1 (fun h => HI.out.2 lo (by omega) h)
      subst hKk
      have hlt9 : ¬ (K : Int) < (hi : Int) := by omega
      by_cases hKn : K < n
      · have d0 : (K : Int) < (n : Int) := by omega
        obtain ⟨b, off, rfl, hcell⟩ := hc (by omega)
        have kc : wr.cell? ⟨b, off + K, none⟩ = some (iv (f K)) := hcell K hKn
        clear hcell hc
        generalize hx : f K = x at kc
        have hB : B = decide (x = key) := by rw [HH.out, hx, decide_eq_true hKn]; rfl
        clear hx
        by_cases hxk : x = key
        · subst hxk
          have hB' : B = true := by rw [hB]; simp
          subst hB'
          clear hB
          go_wp2_with (refine ⟨fun f h => absurd h (by simp), ?_⟩)
          go_ret2
          exact ⟨rfl, Below.refl _ _⟩
        · have hB' : B = false := by rw [hB]; exact decide_eq_false hxk
          subst hB'
          have hxx : (x != x) = false := by simp
          have hxk' : (x == key) = false := by simp; exact hxk
          clear hB
          go_wp2
          go_ret2
          exact ⟨rfl, Below.refl _ _⟩
      · have d0 : ¬ (K : Int) < (n : Int) := by omega
        have hB' : B = false := by rw [HH.out, decide_eq_false hKn]; rfl
        subst hB'
        go_wp2_with (refine ⟨fun f h => absurd h (by simp), ?_⟩)
        go_ret2
        exact ⟨rfl, Below.refl _ _⟩
end Go.Proofs.Ytggkpcgjmanelaa
