import Derived.Test.YtpolhigpcllhiaaI8
/- Work that is good: the program's look. -/
namespace Go.Proofs.Ytpolhigpcllhiaa
open Go.ChangeShapes Go.WideShapes Go.ChangeAt Go.RowKit
set_option linter.unusedVariables false
open Room

attribute [local go_sem] Oper.semAt_some

/-- The promises of good work. -/
def prO (b : Int) (l s : List Ex) (nx : Int) (t : List It) : Option (List It) := match prs b l s t with
  | none => none
  | some P => if nx = (P.length : Int) + 1 then some P else none
theorem gw_prO (b : Int) (l s : List Ex) (nx : Int) (t : List It) : gw b l s nx t = (prO b l s nx t).isSome := by
  unfold gw prO
  cases prs b l s t with
  | none => rfl
  | some P => by_cases h : nx = (P.length : Int) + 1 <;> simp [h]
theorem prO_inv {b : Int} {l s : List Ex} {nx : Int} {t P : List It} (h : prO b l s nx t = some P) : good b l s = true ∧ t.length ≤ 30 ∧ Inv b t P ∧ rnP b l [] t = some P ∧ nx = (P.length : Int) + 1 := by
  unfold prO at h
  cases hp : prs b l s t with
  | none => rw [hp] at h; cases h
  | some Q =>
    rw [hp] at h
    simp only at h
    split at h
    · next hx =>
      cases h
      obtain ⟨h1, h2, h3, h4⟩ := prs_inv hp
      exact ⟨h1, h2, h3, h4, hx⟩
    · cases h
theorem AnsP.below {w w' : World} {B : Nat} {e : Ending} {r : Option (List It)} (h : AnsP w B e r) (hb : Below w.heap.size w w') : AnsP w' B e r := by
  cases r with
  | none => exact h
  | some P =>
    obtain ⟨y, cy, h1, h2⟩ := h
    exact ⟨y, cy, h1, owns_below h2 hb⟩
set_option maxHeartbeats 2000000 in
theorem promisesOf_any (b : Int) (a : Option Addr) (ca : Nat) (a' : Option Addr) (ca' : Nat) (l s : List Ex) (nx : Int) (i : Option Addr) (ci : Nat) (t : List It) (w : World) (hn : l.length ≤ 1048576) (hn' : s.length ≤ 1048576) (hm : t.length ≤ 1048577) (hx : ∀ x, x ∈ l → x.1 ≤ 9223372036854775807) (hxi : ∀ x, x ∈ t → x.x.1 ≤ 9223372036854775807) (ha : Exs w a l) (ha' : Exs w a' s) (hi : Its w i t) :
    Calls Try.prog 42 #[wv b a l.length ca a' s.length ca' nx i t.length ci] w fun e w' => Below w.heap.size w w' ∧ AnsP w' w.heap.size e (prO b l s nx t) := by
  have cP := fun W h => promisesIn_any b a ca a' ca' l s i ci t W hn hn' hm hx hxi (ha.below h) (ha'.below h) (hi.below h)
  have HL : Hid (∀ P, prs b l s t = some P → P.length ≤ 30) := fun P h => by
    have h1 := prs_inv h
    exact Nat.le_trans (Inv.len h1.2.2.1) h1.2.1
  unfold prO
  generalize prs b l s t = R at *
  clear ha ha' hi hx hxi
  generalize l.length = n at *
  generalize s.length = n' at *
  generalize t.length = m at *
  obtain ⟨D, hD⟩ : ∃ D, w.heap.size = D := ⟨_, rfl⟩
  obtain ⟨W0, hW0⟩ : ∃ W0, w.alloc (.cells #[.int .i64 b, .slice a n ca, .slice a' n' ca', .int .i64 nx, .slice i m ci] 27) = W0 := ⟨_, rfl⟩
  have g0 : Below w.heap.size w W0 := by subst hW0; exact below_alloc _ _
  have B1 : W0.heap[D]? = some (.cells #[.int .i64 b, .slice a n ca, .slice a' n' ca', .int .i64 nx, .slice i m ci] 27 (0, 0)) := by subst hW0 hD; exact al1 _ _
  have H1 : Hid (W0.heap[D]? = some (.cells #[.int .i64 b, .slice a n ca, .slice a' n' ca', .int .i64 nx, .slice i m ci] 27 (0, 0))) := B1
  have z0 := g0.size
  obtain ⟨i0, i1, i2, i3, i4⟩ := box5_cells B1
  clear B1
  cases R with
  | none =>
    go_enter Try.func42, Try.ntmps42
    go_wp2_with fail
    refine (cP _ g0).mono ?_
    rintro e w1 ⟨b1, hA⟩
    obtain rfl : e = _ := hA
    clear hW0 i0 i1 i2 i3 i4
    obtain ⟨-, -, -, c3', -⟩ := box5_cells (box_on H1.out b1)
    have c3 : ∀ d os, (Go.Sort.grow (redrawn w1 d) os).cell? ⟨D, 3, none⟩ = some (.int .i64 nx) := fun d os => cell_regrown c3' d os
    have kN := reg_of (fun u => (nextId_any none 0 0 u (by omega)).mono (fun e w' h => ⟨h.1, by rw [h.2]; exact Below.refl _ _⟩)) w1
    clear c3'
    go_wp2
    refine wp_region_quiet_below (by kernel_rfl) (by kernel_rfl) ?_
    repeat (go_big_quiet_step (first | with_reducible exact kN _ _))
    refine wpQuiet_nil ?_
    intro _ hw'
    obtain ⟨⟨dq', osq⟩, hw''⟩ := hw'
    subst hw''
    have b8 := below_regrown w1 dq' osq
    clear c3 kN
    generalize Go.Sort.grow (redrawn w1 dq') osq = w8 at *
    go_wp2
    refine bodyPost_ret (v := .tuple #[.slice none 0 0, .bool false]) (by simp [results, Try.results42, go_sem]) rfl ?_
    exact ⟨by first | exact Below.comp g0 (Below.comp b1 b8) | exact (hD ▸ Below.comp g0 (Below.comp b1 b8)), rfl⟩
  | some P =>
    have hP := HL.out P rfl
    simp only
    by_cases hN : nx = (P.length : Int) + 1
    · rw [if_pos hN]
      have hN' : (nx != (P.length : Int) + 1) = false := by simpa using hN
      have HN : Hid (nx = (P.length : Int) + 1) := hN
      clear hN
      go_enter Try.func42, Try.ntmps42
      go_wp2_with fail
      refine (cP _ g0).mono ?_
      rintro e w1 ⟨b1, y, cy, rfl, ho⟩
      have HO : Hid (OwnI w1 W0.heap.size (.slice y P.length cy) P) := ho
      clear hW0 i0 i1 i2 i3 i4 ho
      obtain ⟨-, -, -, c3', -⟩ := box5_cells (box_on H1.out b1)
      have c3 : ∀ d os, (Go.Sort.grow (redrawn w1 d) os).cell? ⟨D, 3, none⟩ = some (.int .i64 nx) := fun d os => cell_regrown c3' d os
      have kN := reg_of (fun u => (nextId_any y P.length cy u (by omega)).mono (fun e w' h => ⟨h.1, by rw [h.2]; exact Below.refl _ _⟩)) w1
      clear c3'
      generalize hpn : P.length = pn at *
      go_wp2
      refine wp_region_quiet_below (by kernel_rfl) (by kernel_rfl) ?_
      repeat (go_big_quiet_step (first | with_reducible exact kN _ _))
      refine wpQuiet_nil ?_
      intro _ hw'
      obtain ⟨⟨dq', osq⟩, hw''⟩ := hw'
      subst hw''
      have b8 := below_regrown w1 dq' osq
      clear c3 kN
      generalize Go.Sort.grow (redrawn w1 dq') osq = w8 at *
      go_wp2
      subst hpn
      refine bodyPost_ret (v := .tuple #[.slice y P.length cy, .bool true]) (by simp [results, Try.results42, go_sem]) rfl ?_
      exact ⟨by first | exact Below.comp g0 (Below.comp b1 b8) | exact (hD ▸ Below.comp g0 (Below.comp b1 b8)), y, cy, rfl, owns_mono (owns_below HO.out b8) (by omega)⟩
    · rw [if_neg hN]
      have hN' : (nx != (P.length : Int) + 1) = true := by simpa using hN
      clear hN
      go_enter Try.func42, Try.ntmps42
      go_wp2_with fail
      refine (cP _ g0).mono ?_
      rintro e w1 ⟨b1, y, cy, rfl, ho⟩
      clear hW0 i0 i1 i2 i3 i4 ho
      obtain ⟨-, -, -, c3', -⟩ := box5_cells (box_on H1.out b1)
      have c3 : ∀ d os, (Go.Sort.grow (redrawn w1 d) os).cell? ⟨D, 3, none⟩ = some (.int .i64 nx) := fun d os => cell_regrown c3' d os
      have kN := reg_of (fun u => (nextId_any y P.length cy u (by omega)).mono (fun e w' h => ⟨h.1, by rw [h.2]; exact Below.refl _ _⟩)) w1
      clear c3'
      generalize P.length = pn at *
      go_wp2
      refine wp_region_quiet_below (by kernel_rfl) (by kernel_rfl) ?_
      repeat (go_big_quiet_step (first | with_reducible exact kN _ _))
      refine wpQuiet_nil ?_
      intro _ hw'
      obtain ⟨⟨dq', osq⟩, hw''⟩ := hw'
      subst hw''
      have b8 := below_regrown w1 dq' osq
      clear c3 kN
      generalize Go.Sort.grow (redrawn w1 dq') osq = w8 at *
      go_wp2
      refine bodyPost_ret (v := .tuple #[.slice none 0 0, .bool false]) (by simp [results, Try.results42, go_sem]) rfl ?_
      exact ⟨by first | exact Below.comp g0 (Below.comp b1 b8) | exact (hD ▸ Below.comp g0 (Below.comp b1 b8)), rfl⟩
set_option maxHeartbeats 1000000 in
theorem implGoodW_any (b : Int) (a : Option Addr) (ca : Nat) (a' : Option Addr) (ca' : Nat) (l s : List Ex) (nx : Int) (i : Option Addr) (ci : Nat) (t : List It) (w : World) (hn : l.length ≤ 1048576) (hn' : s.length ≤ 1048576) (hm : t.length ≤ 1048577) (hx : ∀ x, x ∈ l → x.1 ≤ 9223372036854775807) (hxi : ∀ x, x ∈ t → x.x.1 ≤ 9223372036854775807) (ha : Exs w a l) (ha' : Exs w a' s) (hi : Its w i t) :
    Calls Try.prog 17 #[wv b a l.length ca a' s.length ca' nx i t.length ci] w fun e w' => e = .returned (.bool (gw b l s nx t)) ∧ Below w.heap.size w w' := by
  have cP := fun W h => promisesOf_any b a ca a' ca' l s nx i ci t W hn hn' hm hx hxi (ha.below h) (ha'.below h) (hi.below h)
  rw [gw_prO]
  generalize prO b l s nx t = R at *
  clear ha ha' hi hx hxi
  generalize l.length = n at *
  generalize s.length = n' at *
  generalize t.length = m at *
  obtain ⟨D, hD⟩ : ∃ D, w.heap.size = D := ⟨_, rfl⟩
  obtain ⟨W0, hW0⟩ : ∃ W0, w.alloc (.cells #[.int .i64 b, .slice a n ca, .slice a' n' ca', .int .i64 nx, .slice i m ci] 27) = W0 := ⟨_, rfl⟩
  have g0 : Below w.heap.size w W0 := by subst hW0; exact below_alloc _ _
  have B1 : W0.heap[D]? = some (.cells #[.int .i64 b, .slice a n ca, .slice a' n' ca', .int .i64 nx, .slice i m ci] 27 (0, 0)) := by subst hW0 hD; exact al1 _ _
  obtain ⟨i0, i1, i2, i3, i4⟩ := box5_cells B1
  clear B1
  cases R with
  | none =>
    rw [show (none : Option (List It)).isSome = false from rfl]
    go_enter Try.func17, Try.ntmps17
    go_wp2_with fail
    refine (cP _ g0).mono ?_
    rintro e w1 ⟨b1, hA⟩
    obtain rfl : e = _ := hA
    go_wp2
    go_ret
    exact ⟨rfl, by first | exact Below.comp g0 b1 | exact (hD ▸ Below.comp g0 b1)⟩
  | some P =>
    rw [show (some P).isSome = true from rfl]
    go_enter Try.func17, Try.ntmps17
    go_wp2_with fail
    refine (cP _ g0).mono ?_
    rintro e w1 ⟨b1, y, cy, rfl, ho⟩
    go_wp2
    go_ret
    exact ⟨rfl, by first | exact Below.comp g0 b1 | exact (hD ▸ Below.comp g0 b1)⟩
end Go.Proofs.Ytpolhigpcllhiaa
