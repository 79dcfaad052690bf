import Derived.Test.YtggkpcgjmanelaaH1
import Derived.Test.YtggkpcgjmanelaaG1
/- HasKey, both sides. -/
namespace Go.Proofs.Ytggkpcgjmanelaa
open Go.ChangeShapes Go.WideShapes Go.ChangeAt Go.RowKit
set_option linter.unusedVariables false
open Bt

attribute [local go_sem] Oper.semAt_some

/-- A look for a key: whether it is there, how many nodes are looked at. -/
def look : Nat → Tr → Int → Bool × Nat
  | 0, _, _ => (false, 0)
  | h + 1, ⟨ks, cs⟩, key => if hsK ks key then (true, 1) else if cs.isEmpty then (false, 1) else ((look h (gt cs (la ks key)) key).1, (look h (gt cs (la ks key)) key).2 + 1)
theorem look_le (key : Int) : ∀ (h : Nat) (t : Tr), (look h t key).2 ≤ h := by
  intro h
  induction h with
  | zero => intro t; simp [look]
  | succ h ih =>
    intro t
    obtain ⟨ks, cs⟩ := t
    unfold look
    split
    · simp
    · split
      · simp
      · have := ih (gt cs (la ks key))
        simp
        omega
theorem keyList_leaf (a : Option Addr) (n c : Nat) (w : World) : Calls Try.prog 136 #[.agg #[.slice a n c]] w fun e w' => e = .returned (.slice a n c) ∧ Below w.heap.size w w' := by
  go_enter Try.func136, Try.ntmps136
  go_wp2
  go_ret
  exact ⟨rfl, below_alloc _ _⟩
theorem keyList_fork (a : Option Addr) (n c : Nat) (a' : Option Addr) (n' c' : Nat) (w : World) : Calls Try.prog 137 #[nv a n c a' n' c'] w fun e w' => e = .returned (.slice a n c) ∧ Below w.heap.size w w' := by
  go_enter Try.func137, Try.ntmps137
  go_wp2
  go_ret
  exact ⟨rfl, below_alloc _ _⟩
theorem meth91 (v : Value) (w : World) : (method 265 91 v "loop.example/g00261/impl.keyList").run Try.prog w = .ok (136, v) w := by kernel_rfl
theorem meth101 (v : Value) (w : World) : (method 265 101 v "loop.example/g00261/impl.keyList").run Try.prog w = .ok (137, v) w := by kernel_rfl
attribute [go_sem] meth91 meth101

set_option maxHeartbeats 2000000 in
theorem lookFor_any (key : Int) (h : Nat) : ∀ (root : Bool) (t : Tr) (d : Nat) (v : Value) (w : World), Ok root h t → IN w d v t → Ris (flat t) → h ≤ 1000 →
    Calls Try.prog 55 #[v, .int .i64 key] w fun e w' => e = .returned (.tuple #[.bool (look h t key).1, .int .i64 (look h t key).2]) ∧ Below w.heap.size w w' := by
  induction h with
  | zero => intro root t d v w h; simp [Ok] at h
  | succ h ih =>
    intro root t d v w hok hin hris hh
    obtain ⟨d', rfl, a, c, h1, h2, h3⟩ := hin.cases
    have hwf := hok.wf
    obtain ⟨ks, cs⟩ := t
    rw [Wf_eq] at hwf
    simp only at h1 h2 h3
    have hsr : ks.Pairwise (· < ·) := (hris.sub (keys_sub hwf.1)).1
    simp only [Ok] at hok
    obtain ⟨-, hk5, hkids⟩ := hok
    have cS := fun W h => search_any a ks c key W (by omega) hsr h
    have hla := la_le ks key
    have Hlk : Hid (look (h + 1) ⟨ks, cs⟩ key = if hsK ks key then (true, 1) else if cs.isEmpty then (false, 1) else ((look h (gt cs (la ks key)) key).1, (look h (gt cs (la ks key)) key).2 + 1)) := (rfl : look (h + 1) ⟨ks, cs⟩ key = _)
    generalize look (h + 1) ⟨ks, cs⟩ key = R at *
    rcases h3 with ⟨rfl, rfl⟩ | ⟨h3, c', b, off, rfl, h5, h6⟩
    · have hR : R = (hsK ks key, 1) := by
        rw [Hlk.out]
        cases hsK ks key <;> rfl
      have HR : Hid _ := hR
      clear hR Hlk
      generalize hsK ks key = B at *
      generalize la ks key = K at *
      generalize hn : ks.length = n at *
      clear hn
      go_enter Try.func55, Try.ntmps55
      go_wp2_with fail
      refine (keyList_leaf _ _ _ _).mono ?_
      rintro e w1 ⟨rfl, b1⟩
      go_wp2_with fail
      refine (cS _ (h2.below b1)).mono ?_
      rintro e w2 ⟨rfl, b2⟩
      go_wp2_with fail
      refine (kidsOf_leaf _ _).mono ?_
      rintro e w3 ⟨rfl, h9⟩
      have h9' := h9.symm
      subst h9'
      cases B with
      | true =>
        go_wp2_with fail
        go_ret2
        rw [HR.out]
        exact ⟨rfl, Below.comp b1 b2⟩
      | false =>
        go_wp2_with fail
        go_ret2
        rw [HR.out]
        exact ⟨rfl, Below.comp b1 b2⟩
    · have hz0 : cs.isEmpty = false := by cases cs <;> simp_all
      obtain ⟨hcl, hko⟩ : cs.length = ks.length + 1 ∧ ∀ x, x ∈ cs → Ok false h x := by rcases hkids with ⟨h, -⟩ | h; exact absurd h h3; exact h
      have hlt : la ks key < cs.length := by omega
      obtain ⟨p, k0, k2⟩ := h6 _ hlt
      have hm := gt_mem hlt
      have cI := fun W hW => ih false _ d' p W (hko _ hm) (k2.below hW) (hris.sub (kid_sub hm)) (by omega)
      have hlk := look_le key h (gt cs (la ks key))
      rw [hz0] at Hlk
      obtain ⟨T, u, rfl⟩ := k2.form
      clear h6 k2 hm hko hkids hris hz0 ih
      generalize look h (gt cs (la ks key)) key = Q at *
      obtain ⟨q1, q2⟩ := Q
      simp only at cI Hlk hlk
      generalize hsK ks key = B at *
      generalize la ks key = K at *
      have hKl : (K : Int) < (cs.length : Int) := by omega
      cases B with
      | true =>
        have hR : R = (true, 1) := by rw [Hlk.out]; rfl
        have HR : Hid _ := hR
        clear hR Hlk
        go_enter Try.func55, Try.ntmps55
        go_wp2_with fail
        refine (keyList_fork _ _ _ _ _ _ _).mono ?_
        rintro e w1 ⟨rfl, b1⟩
        go_wp2_with fail
        refine (cS _ (h2.below b1)).mono ?_
        rintro e w2 ⟨rfl, b2⟩
        go_wp2_with fail
        refine (kidsOf_fork _ _ _ _ _ _ _).mono ?_
        rintro e w3 ⟨rfl, b3⟩
        go_wp2_with fail
        go_ret2
        rw [HR.out]
        exact ⟨rfl, Below.comp b1 (Below.comp b2 b3)⟩
      | false =>
        have hR : R = (q1, q2 + 1) := by rw [Hlk.out]; rfl
        have HR : Hid _ := hR
        clear hR Hlk
        have hcl0 : ((cs.length : Int) == 0) = false := by simp; intro h; rw [h] at hcl; simp at hcl
        go_enter Try.func55, Try.ntmps55
        go_wp2_with fail
        refine (keyList_fork _ _ _ _ _ _ _).mono ?_
        rintro e w1 ⟨rfl, b1⟩
        go_wp2_with fail
        refine (cS _ (h2.below b1)).mono ?_
        rintro e w2 ⟨rfl, b2⟩
        go_wp2_with fail
        refine (kidsOf_fork _ _ _ _ _ _ _).mono ?_
        rintro e w3 ⟨rfl, b3⟩
        have g3 := Below.comp b1 (Below.comp b2 b3)
        have k3 := cell_on k0 g3
        go_wp2_with fail
        refine (cI _ g3).mono ?_
        rintro e w4 ⟨rfl, b4⟩
        go_wp2_with fail
        go_ret2
        rw [HR.out]
        exact ⟨by simp, Below.comp g3 b4⟩
end Go.Proofs.Ytggkpcgjmanelaa
