/- Room that is picked and taken: what is answered. -/
import Derived.Test.YtoodioaflaklmaaN9
import Derived.Test.YtoodioaflaklmaaZ9
namespace Go.Proofs.Ytoodioaflaklmaa
open Go.ChangeShapes Go.WideShapes Go.ChangeAt Go.RowKit
set_option linter.unusedVariables false
open Room
/-- What is left, where room is taken. -/
def roomR (b : Int) (l s : List Ex) (long how near : Int) : Option (List Ex) :=
  if good b l s = true ∧ 1 ≤ long ∧ 0 ≤ near ∧ near < b ∧ 0 ≤ pkI l s long how near then takeR b l s (pkI l s long how near, long) else none
def ansP (p : Int) (r : Option (List Ex)) : Int := match r with | some _ => p | none => 0
def AnsR (B : Nat) (w' : World) (b p : Int) (R : Option (List Ex)) (e : Ending) : Prop :=
  ∃ v, e = .returned (.tuple #[v, .int .i64 (ansP p R), .bool (ansO R)]) ∧ FreeAt B w' v (ansB b R) (ansL R) (srt (ansL R))
theorem ansR_none {B : Nat} {w' : World} {b p : Int} {e : Ending} (he : e = .returned (.tuple #[fv 0 none 0 0 none 0 0, .int .i64 0, .bool false])) (h : B ≤ w'.heap.size) : AnsR B w' b p none e :=
  ⟨_, he, FreeAt.nil h⟩
theorem good_so {b : Int} {l s : List Ex} (h : good b l s = true) : So ltS s := by
  obtain ⟨-, -, hPl, hss⟩ := good_iff.1 h
  rw [← hss]
  refine so_srt ?_
  refine List.Pairwise.imp_of_mem (R := fun x y => fin x < y.1) (fun {x y} hx hy hr he => ?_) hPl.rise
  subst he
  have := hPl.ins x hx
  unfold fin at *
  omega
theorem good_mem {b : Int} {l s : List Ex} (h : good b l s = true) : (∀ x, x ∈ s → x ∈ l) ∧ (∀ x, x ∈ l → 0 ≤ x.1 ∧ 1 ≤ x.2 ∧ fin x ≤ 400) ∧ s.length ≤ 60 ∧ l.length ≤ 60 ∧ (1 ≤ b ∧ b ≤ 400) := by
  obtain ⟨hb, hl, hPl, hss⟩ := good_iff.1 h
  refine ⟨fun x hx => ?_, fun x hx => ?_, ?_, hl, hb⟩
  · rw [← hss] at hx; exact mem_srt.1 hx
  · have := hPl.ins x hx; unfold fin at *; omega
  · rw [← hss, len_srt]; exact hl
/-- What is longer than all has no place. -/
theorem pk_far {b : Int} {l s : List Ex} {long how near : Int} (h : good b l s = true) (hlo : 1 ≤ long) (h0 : 0 ≤ pkI l s long how near) : long ≤ b ∧ 1 ≤ how ∧ how ≤ 4 ∧ pkI l s long how near ≤ 400 := by
  have hh : 1 ≤ how ∧ how ≤ 4 := by
    unfold pkI at h0
    refine Classical.byContradiction fun q => ?_
    rw [if_neg (by omega), if_neg (by omega), if_neg (by omega), if_neg (by omega)] at h0
    omega
  obtain ⟨o, ho, h1, h2⟩ := pk_lies (good_mem h).1 h0
  obtain ⟨-, -, hPl, -⟩ := good_iff.1 h
  have h3 := hPl.ins o ho
  have h4 := (good_mem h).2.2.2.2
  unfold fin at *
  simp only at h1 h2
  omega
end Go.Proofs.Ytoodioaflaklmaa
