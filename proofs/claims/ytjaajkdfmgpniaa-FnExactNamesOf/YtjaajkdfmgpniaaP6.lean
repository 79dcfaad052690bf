import Derived.Test.YtjaajkdfmgpniaaP5
/- All names of a directory in their order, of no program. -/
namespace Go.Proofs.Ytjaajkdfmgpniaa.Hd
set_option linter.unusedVariables false

theorem sort_ex : ∀ (l : List Nm), (l.Pairwise fun x y => x.nm ≠ y.nm) → ∃ R, So R ∧ (∀ x, x ∈ R ↔ x ∈ l)
  | [], _ => ⟨[], List.Pairwise.nil, fun x => Iff.rfl⟩
  | x :: l, h => by
    have h' := List.pairwise_cons.1 h
    obtain ⟨R, h1, h2⟩ := sort_ex l h'.2
    obtain ⟨k, hk⟩ := at_ex R x.nm
    obtain ⟨-, h3, h4, -⟩ := put_new h1 hk (fun y hy e => h'.1 y ((h2 y).1 hy) e.symm)
    exact ⟨_, h3, fun y => by rw [h4, List.mem_cons, h2]⟩
/-- What NamesOf answers. -/
def NaOk (d : Dr) (R : List Nm) (B : Bool) : Prop :=
  (B = true ↔ GS d) ∧ (B = false → R = []) ∧ (B = true → So R ∧ ∀ x, x ∈ R ↔ x ∈ alN d.bs d.bs.length)
theorem na_ex (d : Dr) : ∃ R B, NaOk d R B := by
  by_cases h : GS d
  · obtain ⟨R, h1, h2⟩ := sort_ex _ (alN_ne h d.bs.length (Nat.le_refl _))
    exact ⟨R, true, ⟨by simpa using h, ⟨fun h => (by cases h), fun _ => ⟨h1, h2⟩⟩⟩⟩
  · exact ⟨[], false, ⟨by simpa using h, ⟨fun _ => rfl, fun h => (by cases h)⟩⟩⟩
theorem so_len {l m : List Nm} (hl : l.Pairwise fun x y => x.nm ≠ y.nm) (hm : So m) (h : ∀ x, x ∈ m ↔ x ∈ l) : m.length = l.length := by
  have h1 : l.Nodup := hl.imp fun q e => q (by rw [e])
  have h2 : m.Nodup := hm.imp fun q e => by rw [e, les_irr] at q; cases q
  exact (List.perm_ext_iff_of_nodup h2 h1 |>.2 h).length_eq
end Go.Proofs.Ytjaajkdfmgpniaa.Hd
