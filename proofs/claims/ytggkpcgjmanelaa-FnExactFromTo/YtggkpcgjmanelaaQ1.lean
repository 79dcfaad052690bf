import Derived.Test.YtggkpcgjmanelaaH3
import Derived.Test.YtggkpcgjmanelaaB2
import Derived.Test.YtggkpcgjmanelaaQ2
/- KeysOf, both sides. -/
namespace Go.Proofs.Ytggkpcgjmanelaa
open Go.ChangeShapes Go.WideShapes Go.ChangeAt Go.RowKit
set_option linter.unusedVariables false
open Bt

attribute [local go_sem] Oper.semAt_some

/-- What KeysOf answers. -/
def kOf (o : Option Tr) : List Int := match o with | none => [] | some t => flat t
theorem specKeys_few (o : Option Tr) (h : ∀ t, o = some t → (flat t).length ≤ 200) : (kOf o).length ≤ 200 := by
  cases o with
  | none => simp [kOf]
  | some t => exact h t rfl
set_option maxHeartbeats 1000000 in
theorem specKeys_any (N : List Nd) (a : Option Addr) (cap : Nat) (root : Int) (o : Option Tr) (w : World) (hN : Nodes w a N) (hn : N.length ≤ 1048576) (hbk : bk N N.length ≤ 1048576) (ho : ∀ t, o = some t ↔ Is N root t) :
    Calls Try.prog 33 #[tv a N.length cap root] w fun e w' => Below w.heap.size w w' ∧ ∃ u, e = .returned (.tuple #[u, .bool o.isSome]) ∧ IntV w' u (kOf o) := by
  have cR := fun W h => l7Of_any N a cap root o W h hn hbk ho
  have q0 := below_alloc w (.cells #[.slice a N.length cap, .int .i64 root] 27)
  go_enter Try.func33, Try.ntmps33
  go_wp2_with fail
  refine (cR _ (hN.below q0)).mono ?_
  rintro e w1 ⟨b1, x, n, c, x', n', c', rfl, hv⟩
  have g1 := Below.comp q0 b1
  have q1 := below_alloc w1 (.cells #[.slice x n c, .slice x' n' c'] 67)
  cases o with
  | none =>
    simp only [Option.isSome_none]
    go_wp2_with fail
    go_ret2
    exact ⟨Below.comp g1 q1, _, rfl, none, 0, rfl, Nat.le_refl _, fun h => absurd rfl h⟩
  | some t =>
    have hs := (ho t).1 rfl
    obtain ⟨hwf, hfl⟩ := is_small hs
    have hsn := (hv t rfl).below q1
    simp only [Option.isSome_some]
    go_wp2_with fail
    have q2 := below_alloc (w1.alloc (.cells #[.slice x n c, .slice x' n' c'] 67)) (.cells #[] 3)
    have q12 := Below.comp q1 q2
    have hrow0 : OwnI ((w1.alloc (.cells #[.slice x n c, .slice x' n' c'] 67)).alloc (.cells #[] 3)) w1.heap.size (.slice (some ⟨w1.heap.size + 1, 0, none⟩) 0 0) [] := by
      refine ⟨rfl, .inr ⟨w1.heap.size + 1, 0, #[], rfl, by omega, by simpa using al1 (w1.alloc (.cells #[.slice x n c, .slice x' n' c'] 67)) (.cells #[] 3), by simp, by simp, by simp, by simp [cis]⟩⟩
    refine (l7Keys_any 20 _ t _ (hsn.below q2) hwf (by omega)).mono ?_
    rintro e w2 ⟨b2, u, rfl, au, cu, rfl, hu1, hu2⟩
    have own2 := owns_below hrow0 b2
    have z2 : w1.heap.size ≤ w2.heap.size := Nat.le_trans q12.size b2.size
    have st2 := At.src hu2
    go_wp2_with (at_builtin; refine wpList_append_src rfl _ _ 23 rfl w1.heap.size 3 _ 1 8 Try.underlying23 info3 rfl (by decide) (.slice (some ⟨w1.heap.size + 1, 0, none⟩) 0 0) 0 (cis []) rfl own2 au (flat t).length cu (cis (flat t)) rfl (by rw [cis_len]; omega) st2 (cis_one _) (by omega) (by decide) z2 ?_; intro v3 w3 own3 gr3)
    have g3 : Below w1.heap.size w1 w3 := (Below.comp q12 b2).trans (Grown.below gr3 z2 (owns_ge own2))
    have own4 : OwnI w3 w1.heap.size v3 (flat t) := by simpa [OwnI, cis] using own3
    go_ret2
    exact ⟨Below.comp g1 g3, v3, rfl, own4.ints⟩
set_option maxHeartbeats 1000000 in
theorem implKeys_any (N : List Nd) (a : Option Addr) (cap : Nat) (root : Int) (o : Option Tr) (w : World) (hN : Nodes w a N) (hn : N.length ≤ 1048576) (hbk : bk N N.length ≤ 1048576) (ho : ∀ t, o = some t ↔ Is N root t) :
    Calls Try.prog 18 #[tv a N.length cap root] w fun e w' => Below w.heap.size w w' ∧ ∃ u, e = .returned (.tuple #[u, .bool o.isSome]) ∧ ∃ g, IB w' w.heap.size w'.heap.size u (kOf o) g := by
  have cR := fun W h => rootOf_any N a cap root o W h hn hbk ho
  have q0 := below_alloc w (.cells #[.slice a N.length cap, .int .i64 root] 27)
  go_enter Try.func18, Try.ntmps18
  go_wp2_with fail
  refine (cR _ (hN.below q0)).mono ?_
  rintro e w1 ⟨b1, v, rfl, hv⟩
  have g1 := Below.comp q0 b1
  cases o with
  | none =>
    simp only [Option.isSome_none]
    go_wp2_with fail
    go_ret2
    exact ⟨g1, _, rfl, 0, IB.nil⟩
  | some t =>
    have hs := (ho t).1 rfl
    obtain ⟨hwf, hfl⟩ := is_small hs
    have hin := hv t rfl
    simp only [Option.isSome_some]
    obtain ⟨T, u, rfl⟩ := hin.form
    go_wp2_with fail
    refine (callsIn_wide.1 (keysIn_any 8 T u _)).mono ?_
    rintro e w2 ⟨rfl, rfl⟩
    have q1 := below_alloc w1 (.cells #[.iface T u] 75)
    have cC := collect_any 101 (.iface T u) t _ w1.heap.size (hin.below q1) hwf (by omega) (al1 w1 (.cells #[.iface T u] 75))
    go_wp2_with fail
    refine cC.mono ?_
    rintro e w3 ⟨b3, r, rfl, own⟩
    have g3 := Below.comp g1 (Below.comp q1 b3)
    go_wp2_with fail
    go_ret2
    obtain ⟨g, hg⟩ := own.ib
    exact ⟨g3, r, rfl, g, hg.mono (Nat.le_trans g1.size q1.size) (Nat.le_refl _)⟩
end Go.Proofs.Ytggkpcgjmanelaa
