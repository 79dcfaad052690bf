import Derived.Test.YtienhdlhlddemaaFK
import Derived.Test.YtienhdlhlddemaaTA
import Derived.Test.YtienhdlhlddemaaTB
import Derived.Test.YtienhdlhlddemaaE7
import Derived.Test.YtienhdlhlddemaaOL
/- impl.closed. -/
namespace Go.Proofs.Ytienhdlhlddemaa
open Go.ChangeShapes Go.WideShapes Go.ChangeAt Go.RowKit
set_option linter.unusedVariables false
open Hd

attribute [local go_sem] Oper.semAt_some

abbrev zc : Value := .agg #[.int .i64 0, .string ⟨#[]⟩, .slice none 0 0]
theorem made3 {n i : Nat} (h : i < n) : (made zc (n * 3))[i * 3]? = some (.int .i64 0) ∧ (made zc (n * 3))[i * 3 + 1]? = some (.string ⟨#[]⟩) ∧ (made zc (n * 3))[i * 3 + 2]? = some (.slice none 0 0) := by
  have key : ∀ j, j < n * 3 → (made zc (n * 3))[j]? = some ((#[Value.int .i64 0, .string ⟨#[]⟩, .slice none 0 0] : Array Value)[j % 3]!) := fun j hj => by
    unfold made madeCells
    rw [show (zc).cells = #[.int .i64 0, .string ⟨#[]⟩, .slice none 0 0] from rfl]
    simp [hj]
  refine ⟨?_, ?_, ?_⟩
  · rw [key _ (by omega), show i * 3 % 3 = 0 by omega]; rfl
  · rw [key _ (by omega), show (i * 3 + 1) % 3 = 1 by omega]; rfl
  · rw [key _ (by omega), show (i * 3 + 2) % 3 = 2 by omega]; rfl
/-- The next cell is one that is not met. -/
theorem Fk.CeIn.zero {w : World} {B C : Nat} {c : Array Value} {kb : Nat → Nat} {L : List Ce} {k : Nat} (h : Fk.CeIn w B C c kb L k) (e : gc L k = ce0) (h0 : c[k * 3]? = some (.int .i64 0)) (h1 : c[k * 3 + 1]? = some (.string ⟨#[]⟩)) (h2 : c[k * 3 + 2]? = some (.slice none 0 0)) : Fk.CeIn w B C c (kbPut kb k 0) L (k + 1) := fun i hi => by
  by_cases ei : i = k
  · subst ei
    rw [e]
    exact ⟨h0, h1, _, h2, Fk.IB.nil⟩
  · obtain ⟨g1, g2, v, g3, g4⟩ := h i (by omega)
    exact ⟨g1, g2, v, g3, by rw [kbPut_ne _ _ _ ei]; exact g4⟩
/-- The blocks of the kids met so far. -/
def KbOk (pb z : Nat) (kb : Nat → Nat) (L : List Ce) (k : Nat) : Prop := ∀ r, r < k → kb r ≠ pb ∧ ((gc L r).kd ≠ [] → pb < kb r ∧ kb r < z ∧ ∀ r', r' < r → (gc L r').kd ≠ [] → kb r' < kb r)
theorem KbOk.put0 {pb z : Nat} {kb : Nat → Nat} {L : List Ce} {k : Nat} (h : KbOk pb z kb L k) (hp : 0 < pb) (e : (gc L k).kd = []) : KbOk pb z (kbPut kb k 0) L (k + 1) := fun r hr => by
  by_cases er : r = k
  · subst er
    rw [kbPut_0]
    exact ⟨by omega, fun hn => absurd e hn⟩
  · rw [kbPut_ne _ _ _ er]
    obtain ⟨h1, h2⟩ := h r (by omega)
    refine ⟨h1, fun hn => ?_⟩
    obtain ⟨h3, h4, h5⟩ := h2 hn
    exact ⟨h3, h4, fun r' hr' => by rw [kbPut_ne _ _ _ (by omega)]; exact h5 r' hr'⟩
theorem KbOk.putg {pb z z' g : Nat} {kb : Nat → Nat} {L : List Ce} {k : Nat} (h : KbOk pb z kb L k) (hz : z ≤ g) (hg : g < z') (hp : pb < z) : KbOk pb z' (kbPut kb k g) L (k + 1) := fun r hr => by
  by_cases er : r = k
  · subst er
    rw [kbPut_0]
    refine ⟨by omega, fun _ => ⟨by omega, hg, fun r' hr' hn' => ?_⟩⟩
    rw [kbPut_ne _ _ _ (by omega)]
    have := ((h r' hr').2 hn').2.1
    omega
  · rw [kbPut_ne _ _ _ er]
    obtain ⟨h1, h2⟩ := h r (by omega)
    refine ⟨h1, fun hn => ?_⟩
    obtain ⟨h3, h4, h5⟩ := h2 hn
    exact ⟨h3, by omega, fun r' hr' => by rw [kbPut_ne _ _ _ (by omega)]; exact h5 r' hr'⟩
theorem KbOk.mono {pb z z' : Nat} {kb : Nat → Nat} {L : List Ce} {k : Nat} (h : KbOk pb z kb L k) (hz : z ≤ z') : KbOk pb z' kb L k := fun r hr => ⟨(h r hr).1, fun hn => by obtain ⟨h3, h4, h5⟩ := (h r hr).2 hn; exact ⟨h3, by omega, h5⟩⟩
theorem KbOk.dst {pb z : Nat} {kb : Nat → Nat} {L : List Ce} (h : KbOk pb z kb L L.length) : DstC pb kb L := fun r hr hn => ⟨(h r hr).1, fun r' hr' hn' => by have := ((h r hr).2 hn).2.2 r' hr' hn'; omega⟩
/-- A cell as it goes out: what the open cow has of it. -/
theorem cell_cases {x : Ce} (h : okC x = true) (h0 : x.ct ≠ 0) : (x.kd = [] ∧ cwV x = .iface 72 (.string x.lf)) ∨ ∃ p r s t, x.kd = [p, r, s, t] ∧ x.lf = ⟨#[]⟩ ∧ cwV x = .iface 74 (fv p r s t) := by
  unfold okC at h
  rw [if_neg h0] at h
  by_cases hk : x.kd = []
  · exact .inl ⟨hk, by unfold cwV; rw [if_neg h0, if_pos hk]⟩
  · rw [if_neg hk] at h
    simp only [Bool.and_eq_true, decide_eq_true_eq] at h
    obtain ⟨h4, hl, -⟩ := h
    match hx : x.kd, h4 with
    | [p, r, s, t], _ => exact .inr ⟨p, r, s, t, rfl, empty_of hl, by unfold cwV; rw [if_neg h0, if_neg hk, hx]; rfl⟩
end Go.Proofs.Ytienhdlhlddemaa
