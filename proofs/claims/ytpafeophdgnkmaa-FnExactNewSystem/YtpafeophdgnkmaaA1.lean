import Derived.Test.YtpafeophdgnkmaaG5s
/- What is used: the model's list, and the program's. -/
namespace Go.Proofs.Ytpafeophdgnkmaa
open Go.ChangeShapes Go.WideShapes Go.ChangeAt Go.RowKit
set_option linter.unusedVariables false
open Room

attribute [local go_sem] Oper.semAt_some

/-- The blocks from one on and ahead of another. -/
def btw (f t : Int) : List Ex := if f = t then [] else [(f, t - f)]
theorem grown_alloc {w w' : World} {o : Obj} {row : Option Nat} (h : (w.alloc o).grownBy w' row) : w.grownBy w' row where
  os := h.os
  tape := h.tape
  output := h.output
  size := Nat.le_trans (by simp) h.size
  block := fun k hk hr => by
    have := h.block k (by simp; omega) hr
    rw [this]
    exact (below_alloc w o).block k hk
theorem addBetween_any (v : Value) (l : List Ex) (f t : Int) (w : World) (B : Nat) (h : OwnR w B v l) (hB : B ≤ w.heap.size) (hl : l.length ≤ 100000) (h0 : -9223372036854775808 ≤ t - f) (h1 : t - f ≤ 9223372036854775807) :
    Calls Try.prog 12 #[v, .int .i64 f, .int .i64 t] w fun e w' => ∃ x c, e = .returned (.slice x (l ++ btw f t).length c) ∧ OwnR w' B (.slice x (l ++ btw f t).length c) (l ++ btw f t) ∧ w.grownBy w' v.ownBlock := by
  obtain ⟨x, c, rfl⟩ := owns_form h
  by_cases e : f = t
  · have eb : btw f t = [] := if_pos e
    rw [eb, List.append_nil]
    have HO : Hid (OwnR w B (.slice x l.length c) l) := h
    clear h
    subst e
    go_enter Try.func12, Try.ntmps12
    go_wp2
    go_ret
    exact ⟨x, c, rfl, HO.out, World.grownBy.refl _ _⟩
  · have eb : btw f t = [(f, t - f)] := if_neg e
    have e' : (f == t) = false := by simp [e]
    have own1 := owns_below h (below_alloc w (.cells #[.int .i64 f, .int .i64 (t - f)] 36))
    have sr := src_one w f (t - f) 36
    have el : (l ++ btw f t).length = l.length + 1 := by rw [eb]; simp
    have ec : cxs (l ++ btw f t) = cxs l ++ cxs [(f, t - f)] := by rw [eb, cxs_app]
    unfold OwnR
    rw [el, ec]
    clear el ec eb h e
    generalize l.length = n at *
    have hz : B ≤ (w.alloc (.cells #[.int .i64 f, .int .i64 (t - f)] 36)).heap.size := by simp; omega
    go_enter Try.func12, Try.ntmps12
    go_wp2_with (at_builtin; refine wpList_append_src rfl _ _ 22 rfl B 36 _ 2 16 Try.underlying22 info31 rfl (by decide) (.slice x n c) n (cxs l) rfl own1 (some ⟨w.heap.size, 0, none⟩) 1 1 (cxs [(f, t - f)]) rfl rfl sr (cxs_one _) (by omega) (by decide) hz ?_; intro v1 w1 own2 gr1; obtain ⟨x1, c1, e1⟩ := owns_form own2; subst e1)
    go_ret
    exact ⟨x1, c1, rfl, own2, grown_alloc gr1⟩

/-- What is used, from one block on. -/
def usd (b : Int) : Int → List Ex → List Ex → List Ex
  | f, acc, [] => acc ++ btw f b
  | f, acc, x :: l => usd b (fin x) (acc ++ btw f x.1) l
def used (b : Int) (l s : List Ex) : List Ex := bif good b l s then usd b 0 [] l else []
theorem btw_len (f t : Int) : (btw f t).length ≤ 1 := by
  unfold btw
  split <;> simp

end Go.Proofs.Ytpafeophdgnkmaa
