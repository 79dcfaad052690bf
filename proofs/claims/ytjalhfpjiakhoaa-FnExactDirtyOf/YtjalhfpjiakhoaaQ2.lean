import Derived.Test.YtjalhfpjiakhoaaQ1
import Derived.Test.YtjalhfpjiakhoaaN1
import Derived.Deep.Onto
namespace Go.Proofs.Ytjalhfpjiakhoaa
open Go.ChangeShapes Go.WideShapes Go.ChangeAt Go.RowKit
set_option linter.unusedVariables false

def intL (L : List Int) : List Value := L.map (Value.int .i64)
def getI (L : List Int) : Nat → Int := fun i => L.getD i 0
theorem intL_len (L : List Int) : (intL L).length = L.length := by simp [intL]
theorem intL_one (L : List Int) : ∀ u ∈ intL L, u.oneCell' = true := by
  intro u hu
  simp [intL] at hu
  obtain ⟨x, _, rfl⟩ := hu
  rfl
theorem intL_at {L : List Int} {i : Nat} (h : i < L.length) : (intL L)[i]? = some (.int .i64 (getI L i)) := by simp [intL, getI, h]
theorem intL_append (A B : List Int) : intL A ++ intL B = intL (A ++ B) := by simp [intL]
theorem owns_ints {w : World} {B : Nat} {x : Option Addr} {n cx : Nat} {L : List Int} (hn : n = L.length) (h : w.ownsRow B 3 1 (.slice x n cx) n (intL L)) : Mine w B w.heap.size 3 n x (ints n (getI L)) := by
  by_cases h0 : n = 0
  · exact .inl h0
  · obtain ⟨g, cap, cur, hv, hb, hg, hs, hc⟩ := owns_mine h h0
    simp at hv
    exact .inr ⟨g, cur, hb, (Array.getElem?_eq_some_iff.1 hg).1, hv.1, hg, fun i hi => by rw [hc i (by omega)]; exact intL_at (by omega)⟩
/-- The cells of an owned row, from an index on. -/
theorem owns_from {w : World} {g off : Nat} {L M : List Int} (h : ∀ i, i < L.length → w.cell? ⟨g, i, none⟩ = some (.int .i64 (getI L i))) (hM : ∀ j, j < M.length → off + j < L.length ∧ getI L (off + j) = getI M j) :
    ∀ j v, (intL M)[j]? = some v → w.cell? ((⟨g, off, none⟩ : Addr).add j) = some v := by
  intro j v hj
  have hlt : j < M.length := by have := (List.getElem?_eq_some_iff.1 hj).1; rw [intL_len] at this; exact this
  have e : (⟨g, off, none⟩ : Addr).add j = ⟨g, off + j, none⟩ := by unfold Addr.add; split <;> simp_all
  rw [intL_at hlt] at hj
  rw [e, h _ (hM j hlt).1, (hM j hlt).2, hj]
theorem getI_left {A R : List Int} {j : Nat} (h : j < A.length) : getI (A ++ R) j = getI A j := by simp [getI, List.getElem?_append_left h]
theorem getI_right {A R : List Int} {j : Nat} : getI (A ++ R) (A.length + j) = getI R j := by simp [getI, List.getElem?_append_right]
theorem getI_mem {A : List Int} {j : Nat} (h : j < A.length) : getI A j ∈ A := by simp [getI, h]

theorem owns_cast {w : World} {B n : Nat} {v : Value} {L L' : List Int} (h : w.ownsRow B 3 1 v n (intL L)) (hL : L = L') : w.ownsRow B 3 1 v L'.length (intL L') := by
  subst hL
  have : n = L.length := by have := h.1; rw [intL_len] at this; omega
  subst this
  exact h

/-- What l1Put answers, where A is all below t and R all else. -/
def insL (A : List Int) (t : Int) (R : List Int) : List Int := if R.head? = some t then A ++ R else A ++ t :: R

set_option maxHeartbeats 1600000 in
theorem l1Put_any (A R : List Int) (t : Int) (v : Value) (B : Nat) (w : World) (hA : ∀ x ∈ A, x < t) (hR : ∀ x, R.head? = some x → t ≤ x) (hlen : A.length + R.length ≤ 1000)
    (hB : B ≤ w.heap.size) (hown : w.ownsRow B 3 1 v (A ++ R).length (intL (A ++ R))) :
    Calls Try.prog 65 #[v, .int .i64 t] w fun e w' => Below w.heap.size w w' ∧ ∃ v', e = .returned v' ∧ w'.ownsRow B 3 1 v' (insL A t R).length (intL (insL A t R)) := by
  have hn : (A ++ R).length = A.length + R.length := by simp
  rcases hown.2 with ⟨rfl, h0⟩ | ⟨g, cap, cur, rfl, hb, hg, hc, hcm, hcs, ht⟩
  · have hA0 : A = [] := List.eq_nil_of_length_eq_zero (by omega)
    have hR0 : R = [] := List.eq_nil_of_length_eq_zero (by omega)
    subst hA0 hR0
    have e1 : insL [] t [] = [t] := rfl
    rw [e1]
    have HN := World.ownsRow_nil w w.heap.size 3 1
    go_enter Try.func65, Try.ntmps65
    go_wp2
    refine wp_loop_rounds 1 ?_
    rw [rounds_succ]
    go_wp2_with (at_builtin; first
      | (refine wpList_append_src rfl (.tmp 34) (.tmp 37) 61 rfl w.heap.size 3 _ 1 8 Try.underlying61 info3 rfl (by decide) (.slice none 0 0) 0 [] rfl (World.ownsRow_nil w w.heap.size 3 1) _ (([] : List Int)).length _ (intL ([] : List Int)) rfl (by rw [intL_len]; omega) ?_ (intL_one _) ?_ (by omega) (Nat.le_refl _) ?_
         · exact .inl rfl
         · omega
         intro v1 w1 hown1 hgrow1
         have b1 : Below w.heap.size w w1 := Grown.below hgrow1 (Nat.le_refl _) (by intro k hk; simp [Value.ownBlock] at hk)
         rw [List.nil_append, Nat.zero_add] at hown1
         have HO1 : Hid _ := hown1
         clear hown1 hgrow1)
      | (refine wpList_append_src rfl (.tmp 39) (.tmp 41) 61 rfl w.heap.size 3 _ 1 8 Try.underlying61 info3 rfl (by decide) v1 (([] : List Int)).length (intL ([] : List Int)) rfl (World.ownsRow.alloc HO1.out _) (some ⟨w1.heap.size, 0, none⟩) 1 1 (intL [t]) rfl rfl (.inr ⟨_, rfl, ?_⟩) (intL_one _) ?_ (by omega) ?_ ?_
         · exact new_one _ _ _
         · omega
         · have := b1.size; simp; omega
         intro v2 w2 hown2 hgrow2
         have b2 : Below w.heap.size w w2 := (b1.trans ((below_alloc w1 (.cells #[.int .i64 t] 3)).mono b1.size)).trans (Grown.below hgrow2 (by have := b1.size; simp; omega) (fun q hq => (World.ownsRow.lt HO1.out q hq).1))
         rw [intL_append] at hown2
         have HO2 : Hid _ := hown2
         clear hown2 hgrow2)
      | (refine wpList_append_src rfl (.tmp 43) (.tmp 46) 61 rfl w.heap.size 3 _ 1 8 Try.underlying61 info3 rfl (by decide) v2 ((([] : List Int)).length + 1) (intL (([] : List Int) ++ [t])) rfl HO2.out _ (([] : List Int)).length _ (intL ([] : List Int)) rfl (by rw [intL_len]; omega) ?_ (intL_one _) ?_ (by omega) b2.size ?_
         · exact .inl rfl
         · omega
         intro v3 w3 hown3 hgrow3
         have b3 : Below w.heap.size w w3 := b2.trans (Grown.below hgrow3 b2.size (fun q hq => (World.ownsRow.lt HO2.out q hq).1))
         rw [intL_append] at hown3
         have HO3 : Hid _ := hown3
         clear hown3 hgrow3))
    go_ret
    exact ⟨b3, v3, rfl, World.ownsRow.mono HO3.out hB⟩
  · have cells : ∀ i, i < (A ++ R).length → w.cell? ⟨g, i, none⟩ = some (.int .i64 (getI (A ++ R) i)) := fun i hi => by
      have := World.ownsRow.cells hown (g := g) rfl i _ (intL_at hi)
      have e : (⟨g, 0, none⟩ : Addr).add i = ⟨g, i, none⟩ := by unfold Addr.add; split <;> simp_all
      rw [e] at this; exact this
    have hgl : g < w.heap.size := (Array.getElem?_eq_some_iff.1 hg).1
    have CE : Hid _ := cells
    have S1 : Hid (∀ j v, (intL A)[j]? = some v → w.cell? ((⟨g, 0, none⟩ : Addr).add j) = some v) := owns_from cells (fun j hj => ⟨by omega, by rw [Nat.zero_add]; exact getI_left hj⟩)
    have S3 : Hid (∀ w2, Below w.heap.size w w2 → ∀ j v, (intL R)[j]? = some v → w2.cell? ((⟨g, A.length, none⟩ : Addr).add j) = some v) := fun w2 b2 => owns_from (L := A ++ R) (fun i hi => (b2.cell (p := ⟨g, i, none⟩) hgl).trans (cells i hi)) (fun j hj => ⟨by omega, getI_right⟩)
    have HW : Hid _ := hown
    clear cells hg ht hcs hown
    generalize hnn : (A ++ R).length = n at *
    unfold maxLen at hcm
    have HA : Hid _ := hA
    have HR : Hid _ := hR
    clear hA hR hnn
    go_enter Try.func65, Try.ntmps65
    go_wp2
    go_loop [5] (fun i => ∃ (k : Nat), k ≤ A.length ∧ i = .int .i64 k) (fun i => A.length - (intOf i).toNat)
    case atStart => exact ⟨0, Nat.zero_le _, rfl⟩
    case round =>
      obtain ⟨k, hk, rfl⟩ := hrel
      by_cases hlt : k < A.length
      · have hck := CE.out k (by omega)
        have hx : getI (A ++ R) k < t := by rw [getI_left hlt]; exact HA.out _ (getI_mem hlt)
        have hkn : (k : Int) < (n : Int) := by omega
        go_wp2
        go_round
        case rel => exact ⟨k + 1, by omega, by go_num⟩
        case measure => simp [intOf]; omega
      · have hka : k = A.length := by omega
        subst hka
        cases R with
        | nil =>
          have hnA : n = A.length := by simpa using hn
          subst hnA
          have e1 : Hid (insL A t [] = A ++ [t]) := rfl
          have hkn : ¬ ((A.length : Int) < (A.length : Int)) := by omega
          clear hn
          go_wp2_with (at_builtin; first
              | (refine wpList_append_src rfl (.tmp 34) (.tmp 37) 61 rfl w.heap.size 3 _ 1 8 Try.underlying61 info3 rfl (by decide) (.slice none 0 0) 0 [] rfl (World.ownsRow_nil w w.heap.size 3 1) _ (A).length _ (intL A) rfl (by rw [intL_len]; omega) ?_ (intL_one _) ?_ (by omega) (Nat.le_refl _) ?_
                 · exact .inr ⟨_, rfl, S1.out⟩
                 · omega
                 intro v1 w1 hown1 hgrow1
                 have b1 : Below w.heap.size w w1 := Grown.below hgrow1 (Nat.le_refl _) (by intro k hk; simp [Value.ownBlock] at hk)
                 rw [List.nil_append, Nat.zero_add] at hown1
                 have HO1 : Hid _ := hown1
                 clear hown1 hgrow1)
              | (refine wpList_append_src rfl (.tmp 39) (.tmp 41) 61 rfl w.heap.size 3 _ 1 8 Try.underlying61 info3 rfl (by decide) v1 (A).length (intL A) rfl (World.ownsRow.alloc HO1.out _) (some ⟨w1.heap.size, 0, none⟩) 1 1 (intL [t]) rfl rfl (.inr ⟨_, rfl, ?_⟩) (intL_one _) ?_ (by omega) ?_ ?_
                 · exact new_one _ _ _
                 · omega
                 · have := b1.size; simp; omega
                 intro v2 w2 hown2 hgrow2
                 have b2 : Below w.heap.size w w2 := (b1.trans ((below_alloc w1 (.cells #[.int .i64 t] 3)).mono b1.size)).trans (Grown.below hgrow2 (by have := b1.size; simp; omega) (fun q hq => (World.ownsRow.lt HO1.out q hq).1))
                 rw [intL_append] at hown2
                 have HO2 : Hid _ := hown2
                 clear hown2 hgrow2)
              | (refine wpList_append_src rfl (.tmp 43) (.tmp 46) 61 rfl w.heap.size 3 _ 1 8 Try.underlying61 info3 rfl (by decide) v2 ((A).length + 1) (intL (A ++ [t])) rfl HO2.out _ (([] : List Int)).length _ (intL ([] : List Int)) rfl (by rw [intL_len]; omega) ?_ (intL_one _) ?_ (by omega) b2.size ?_
                 · exact .inl rfl
                 · omega
                 intro v3 w3 hown3 hgrow3
                 have b3 : Below w.heap.size w w3 := b2.trans (Grown.below hgrow3 b2.size (fun q hq => (World.ownsRow.lt HO2.out q hq).1))
                 rw [intL_append] at hown3
                 have HO3 : Hid _ := hown3
                 clear hown3 hgrow3))
          all_goals
            go_ret
            refine ⟨b3, v3, rfl, World.ownsRow.mono ?_ hB⟩
            rw [e1.out]
            exact owns_cast HO3.out (by simp)
        | cons x R =>
          have hck := CE.out A.length (by simp at hn; omega)
          have hgx : getI (A ++ x :: R) A.length = x := by simp [getI]
          rw [hgx] at hck
          have htx : ¬ x < t := by have := HR.out x rfl; omega
          have hkn : ((A.length : Int) < (n : Int)) := by simp at hn; omega
          have hkn2 : A.length ≤ n := by omega
          have hnR : n - A.length = (x :: R).length := by omega
          have HN : Hid _ := hn
          clear hn
          by_cases hxt : x = t
          · have e1' : insL A t (x :: R) = A ++ x :: R := by simp [insL, hxt]
            have e1 : Hid _ := e1'
            clear e1'
            go_wp2
            go_ret
            refine ⟨Below.refl _ _, _, rfl, ?_⟩
            exact owns_cast HW.out (by simp [insL, hxt])
          · have e1' : insL A t (x :: R) = A ++ t :: x :: R := by simp [insL, hxt]
            have e1 : Hid _ := e1'
            clear e1'
            go_wp2_with (at_builtin; first
                | (refine wpList_append_src rfl (.tmp 34) (.tmp 37) 61 rfl w.heap.size 3 _ 1 8 Try.underlying61 info3 rfl (by decide) (.slice none 0 0) 0 [] rfl (World.ownsRow_nil w w.heap.size 3 1) _ (A).length _ (intL A) rfl (by rw [intL_len]; omega) ?_ (intL_one _) ?_ (by omega) (Nat.le_refl _) ?_
                   · exact .inr ⟨_, rfl, S1.out⟩
                   · omega
                   intro v1 w1 hown1 hgrow1
                   have b1 : Below w.heap.size w w1 := Grown.below hgrow1 (Nat.le_refl _) (by intro k hk; simp [Value.ownBlock] at hk)
                   rw [List.nil_append, Nat.zero_add] at hown1
                   have HO1 : Hid _ := hown1
                   clear hown1 hgrow1)
                | (refine wpList_append_src rfl (.tmp 39) (.tmp 41) 61 rfl w.heap.size 3 _ 1 8 Try.underlying61 info3 rfl (by decide) v1 (A).length (intL A) rfl (World.ownsRow.alloc HO1.out _) (some ⟨w1.heap.size, 0, none⟩) 1 1 (intL [t]) rfl rfl (.inr ⟨_, rfl, ?_⟩) (intL_one _) ?_ (by omega) ?_ ?_
                   · exact new_one _ _ _
                   · omega
                   · have := b1.size; simp; omega
                   intro v2 w2 hown2 hgrow2
                   have b2 : Below w.heap.size w w2 := (b1.trans ((below_alloc w1 (.cells #[.int .i64 t] 3)).mono b1.size)).trans (Grown.below hgrow2 (by have := b1.size; simp; omega) (fun q hq => (World.ownsRow.lt HO1.out q hq).1))
                   rw [intL_append] at hown2
                   have HO2 : Hid _ := hown2
                   clear hown2 hgrow2)
                | (refine wpList_append_src rfl (.tmp 43) (.tmp 46) 61 rfl w.heap.size 3 _ 1 8 Try.underlying61 info3 rfl (by decide) v2 ((A).length + 1) (intL (A ++ [t])) rfl HO2.out _ ((x :: R)).length _ (intL (x :: R)) rfl (by rw [intL_len]; omega) ?_ (intL_one _) ?_ (by omega) b2.size ?_
                   · exact .inr ⟨_, rfl, S3.out _ b2⟩
                   · omega
                   intro v3 w3 hown3 hgrow3
                   have b3 : Below w.heap.size w w3 := b2.trans (Grown.below hgrow3 b2.size (fun q hq => (World.ownsRow.lt HO2.out q hq).1))
                   rw [intL_append] at hown3
                   have HO3 : Hid _ := hown3
                   clear hown3 hgrow3))
            go_ret
            refine ⟨b3, v3, rfl, World.ownsRow.mono ?_ hB⟩
            rw [e1.out]
            exact owns_cast HO3.out (by simp)
end Go.Proofs.Ytjalhfpjiakhoaa
