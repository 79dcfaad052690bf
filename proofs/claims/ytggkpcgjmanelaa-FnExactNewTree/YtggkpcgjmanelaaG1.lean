import Derived.Test.YtggkpcgjmanelaaE4
import Derived.Test.YtggkpcgjmanelaaP5
import Derived.Test.YtggkpcgjmanelaaS4
/- The program and the specification: good trees. -/
namespace Go.Proofs.Ytggkpcgjmanelaa
open Go.ChangeShapes Go.WideShapes Go.ChangeAt Go.RowKit
set_option linter.unusedVariables false
open Bt

attribute [local go_sem] Oper.semAt_some

set_option maxHeartbeats 1000000 in
theorem rootOf_any (N : List Nd) (a : Option Addr) (cap : Nat) (root : Int) (o : Option Tr) (w : World) (hN : Nodes w a N) (hn : N.length ≤ 1048576) (hbk : bk N N.length ≤ 1048576) (ho : ∀ t, o = some t ↔ Is N root t) :
    Calls Try.prog 51 #[tv a N.length cap root] w fun e w' => LnkA w o e w' := by
  have hnone : (∀ t, ¬ Is N root t) → o = none := by
    intro h
    cases ho' : o with
    | none => rfl
    | some t => exact absurd ((ho t).1 ho') (h t)
  have Hho : Hid _ := ho
  have Hnone : Hid _ := hnone
  clear ho hnone
  obtain ⟨W0, hW0⟩ : ∃ W0, w.alloc (.cells #[.slice a N.length cap, .int .i64 root] 27) = W0 := ⟨_, rfl⟩
  have q0 : Below w.heap.size w W0 := by subst hW0; exact below_alloc _ _
  have HA : Hid (W0.heap[w.heap.size]? = some (.cells #[.slice a N.length cap, .int .i64 root] 27 (0, 0))) := by subst hW0; exact al1 _ _
  obtain ⟨x0, x1, -, -⟩ := box2_cells HA.out
  have cL := linkNodes_any N a cap root W0 (hN.below q0) hn hbk
  have Hlk : Hid (∀ t, lk N root = some t ↔ N.length ≤ 101 ∧ link root N 0 [] = some [(root, t)]) := fun t => lk_is
  generalize lk N root = O at *
  go_enter Try.func51, Try.ntmps51
  go_wp2_with fail
  refine cL.mono ?_
  rintro e w1 ⟨b1, v, rfl, hv⟩
  have g1 := Below.comp q0 b1
  clear cL x0 x1 hW0
  cases O with
  | none =>
    have hno : o = none := Hnone.out (fun t ht => by
      have h := impl_is.2 ht
      have := (Hlk.out t).2 ⟨h.1, h.2.1⟩
      simp at this)
    simp only [Option.isSome_none]
    go_wp2_with (refine ⟨fun f h => absurd h (by simp), ?_⟩)
    go_ret2
    exact LnkA.no hno rfl g1
  | some t =>
    obtain ⟨h101, hlink⟩ := (Hlk.out t).1 rfl
    obtain ⟨hwf, hfl⟩ := link_len hlink
    have hv' := hv t rfl
    have hfl' : (flat t).length ≤ 100000000 := by rw [hfl]; exact Nat.le_trans (bk_ksum N) (by omega)
    obtain ⟨T, u, rfl⟩ := hv'.form
    have cR := isRising_any 101 _ t w1 hv' hwf hfl'
    have Hun : Hid (∀ t', Is N root t' → t' = t) := fun t' ht => by
      have h := (impl_is.2 ht).2.1
      rw [hlink] at h
      simpa using h.symm
    have HL : Hid _ := hlink
    clear hlink hfl hv
    simp only [Option.isSome_some]
    go_wp2_with fail
    refine cR.mono ?_
    rintro e w2 ⟨⟨r, rfl, hr⟩, b2⟩
    have g2 := Below.comp g1 b2
    cases r with
    | false =>
      have hno : o = none := Hnone.out (fun t' ht => by
        have e := Hun.out t' ht
        subst e
        have h := impl_is.2 ht
        have := hr.2 ⟨h.2.2.1, h.2.2.2.1⟩
        simp at this)
      go_wp2_with fail
      go_ret2
      exact LnkA.no hno rfl g2
    | true =>
      have hr' := hr.1 rfl
      have hv2 := hv'.below b2
      have cD := depthBelow_any 101 _ t w2 hv2 hwf hfl' (by omega)
      obtain ⟨dd, hdd⟩ : ∃ dd, dI t = dd := ⟨_, rfl⟩
      rw [hdd] at cD
      obtain ⟨dv, ev⟩ := dd
      simp only at cD
      have Hd : Hid _ := hdd
      clear hdd hr
      go_wp2_with fail
      refine cD.mono ?_
      rintro e w3 ⟨rfl, b3⟩
      have g3 := Below.comp g2 b3
      cases ev with
      | false =>
        have hno : o = none := Hnone.out (fun t' ht => by
          have e := Hun.out t' ht
          subst e
          have h := (impl_is.2 ht).2.2.2.2
          rw [Hd.out] at h
          simp at h)
        go_wp2_with fail
        go_ret2
        exact LnkA.no hno rfl g3
      | true =>
        have hyes : o = some t := (Hho.out t).2 (impl_is.1 ⟨h101, HL.out, hr'.1, hr'.2, by rw [Hd.out]⟩)
        go_wp2_with fail
        go_ret2
        exact LnkA.yes hyes rfl g3 (hv2.below b3)
theorem implGood_any (N : List Nd) (a : Option Addr) (cap : Nat) (root : Int) (o : Option Tr) (w : World) (hN : Nodes w a N) (hn : N.length ≤ 1048576) (hbk : bk N N.length ≤ 1048576) (ho : ∀ t, o = some t ↔ Is N root t) :
    Calls Try.prog 32 #[tv a N.length cap root] w fun e w' => e = .returned (.bool o.isSome) ∧ Below w.heap.size w w' := by
  have cR := fun W h => rootOf_any N a cap root o W h hn hbk ho
  go_enter Try.func32, Try.ntmps32
  go_wp2_with fail
  refine (cR _ (hN.below (below_alloc _ _))).mono ?_
  rintro e w1 ⟨b1, v, rfl, hv⟩
  go_wp2_with fail
  go_ret
  exact ⟨rfl, Below.comp (below_alloc _ _) b1⟩
theorem specGood_any (N : List Nd) (a : Option Addr) (cap : Nat) (root : Int) (o : Option Tr) (w : World) (hN : Nodes w a N) (hn : N.length ≤ 1048576) (hbk : bk N N.length ≤ 1048576) (ho : ∀ t, o = some t ↔ Is N root t) :
    Calls Try.prog 30 #[tv a N.length cap root] w fun e w' => e = .returned (.bool o.isSome) ∧ Below w.heap.size w w' := by
  have cR := fun W h => l7Of_any N a cap root o W h hn hbk ho
  go_enter Try.func30, Try.ntmps30
  go_wp2_with fail
  refine (cR _ (hN.below (below_alloc _ _))).mono ?_
  rintro e w1 ⟨b1, x, n, c, x', n', c', rfl, hv⟩
  go_wp2_with fail
  go_ret
  exact ⟨rfl, Below.comp (Below.comp (below_alloc _ _) b1) (below_alloc _ _)⟩
end Go.Proofs.Ytggkpcgjmanelaa
