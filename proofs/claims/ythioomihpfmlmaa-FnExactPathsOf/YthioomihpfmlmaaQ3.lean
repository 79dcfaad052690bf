import Derived.Test.YthioomihpfmlmaaQ2
import Derived.Test.YthioomihpfmlmaaP2
/- Inodes, of no program: what good names are, as the specification and as the program asks. -/
namespace Go.Proofs.Ythioomihpfmlmaa.Hd
set_option linter.unusedVariables false

/-- A name of an inode is as said, among so many inodes. -/
def okM (n : Nat) (l : List Nm) (i : Nat) : Prop :=
  isN (gm l i).nm = true ∧ 1 ≤ (gm l i).fl ∧ (gm l i).fl < n ∧ (0 < i → les (gm l (i - 1)).nm (gm l i).nm = true)
/-- An inode is as said. -/
def okN (n : Nat) (x : Ino) : Prop := (∀ i, i < x.ns.length → okM n x.ns i) ∧ (x.dr = true ∨ x.ns = []) ∧ x.ns.length ≤ 20
theorem Sk_of {T : List Ino} (h : ∀ k, k < T.length → okN T.length (gn T k)) : Sk T := by
  refine ⟨fun k hk x hx => ?_, fun k hk => (h k hk).2.1⟩
  obtain ⟨i, hi, rfl⟩ := List.mem_iff_getElem.1 hx
  obtain ⟨-, h1, h2, -⟩ := (h k hk).1 i hi
  rw [gm_eq hi] at h1 h2
  unfold tg
  omega
theorem few_of {T : List Ino} (h : ∀ k, k < T.length → okN T.length (gn T k)) (k : Nat) : (gn T k).ns.length ≤ 20 := by
  by_cases e : k < T.length
  · exact (h k e).2.2
  · rw [gn_out (by omega)]; simp [in0]
/-- Good names. -/
def TS (T : List Ino) : Prop := 1 ≤ T.length ∧ T.length ≤ 60 ∧ (gn T 0).dr = true ∧ (gn T 0).lk = 1 ∧ (∀ k, k < T.length → okN T.length (gn T k)) ∧ CS T
/-- How often an inode is named, / counted as named once. -/
def nam (T : List Ino) (k : Nat) : Nat := (if k = 0 then 1 else 0) + tot T k
def lnk (T : List Ino) (k : Nat) : Prop := (gn T k).lk = (nam T k : Int) ∧ ((gn T k).dr = true → (gn T k).lk = 1)
def clb (T : List Ino) (j : Nat) : Prop := (gn T j).ns = [] ∨ ∃ d, d < 8 ∧ cl T d j = 0
def TI (T : List Ino) : Prop := 1 ≤ T.length ∧ T.length ≤ 60 ∧ (gn T 0).dr = true ∧ (∀ k, k < T.length → okN T.length (gn T k)) ∧ (∀ k, k < T.length → lnk T k) ∧ ∀ j, j < T.length → clb T j
theorem names_is {T : List Ino} : TS T ↔ TI T := by
  constructor
  · rintro ⟨h1, h2, h3, h4, h5, h6⟩
    have hS := Sk_of h5
    obtain ⟨c1, c2⟩ := (counts hS (by omega) h3).1 h6
    refine ⟨h1, h2, h3, h5, fun k hk => ?_, fun j hj => ?_⟩
    · by_cases e : k = 0
      · subst e
        have : tot T 0 = 0 := sm_zero fun p hp => cn_root hS hp
        exact ⟨by rw [h4, nam, this]; rfl, fun _ => h4⟩
      · obtain ⟨a, b⟩ := c1 k (by omega) hk
        exact ⟨by rw [a, nam, if_neg e, Nat.zero_add], b⟩
    · by_cases e : (gn T j).ns = []
      · exact .inl e
      · exact .inr (c2 j hj e)
  · rintro ⟨h1, h2, h3, h5, h6, h7⟩
    have hS := Sk_of h5
    refine ⟨h1, h2, h3, ?_, h5, (counts hS (by omega) h3).2 ⟨fun k hk hl => ?_, fun j hj hn => ?_⟩⟩
    · exact (h6 0 (by omega)).2 h3
    · obtain ⟨a, b⟩ := h6 k hl
      exact ⟨by rw [a, nam, if_neg (by omega), Nat.zero_add], b⟩
    · rcases h7 j hj with e | e
      · exact absurd e hn
      · exact e
/-- What the count tells, of / from nothing on. -/
theorem ok_start {T : List Ino} : ok T 8 0 (fun _ => 0) ↔ dk T 8 0 ∧ ∀ y, y < T.length → (gn T y).dr = true → nb T 8 0 y ≤ 1 := by
  unfold ok
  constructor
  · rintro ⟨h1, h2⟩
    exact ⟨h1, fun y _ hy => by have h3 : nb T 8 0 y = 0 ∨ 0 + nb T 8 0 y ≤ 1 := h2 y hy; omega⟩
  · rintro ⟨h1, h2⟩
    refine ⟨h1, fun y hy => ?_⟩
    by_cases e : y < T.length
    · have := h2 y e hy; show nb T 8 0 y = 0 ∨ 0 + nb T 8 0 y ≤ 1; omega
    · rw [gn_out (by omega)] at hy; cases hy
/-- What is asked of the counted links. -/
def lkS (T : List Ino) (k : Nat) : Prop := 0 < k → (gn T k).lk = (nb T 8 0 k : Int) ∧ ((gn T k).dr = true → (gn T k).lk = 1)
theorem TS_of {T : List Ino} (h1 : 1 ≤ T.length) (h2 : T.length ≤ 60) (h3 : (gn T 0).dr = true) (h4 : (gn T 0).lk = 1) (h5 : ∀ k, k < T.length → okN T.length (gn T k)) (h6 : ok T 8 0 (fun _ => 0)) (h7 : ∀ k, k < T.length → lkS T k) : TS T := by
  obtain ⟨a, b⟩ := ok_start.1 h6
  exact ⟨h1, h2, h3, h4, h5, a, b, fun k hk hl => h7 k hl hk⟩
theorem TS.count {T : List Ino} (h : TS T) : ok T 8 0 (fun _ => 0) := ok_start.2 ⟨h.2.2.2.2.2.1, h.2.2.2.2.2.2.1⟩
theorem TS.lks {T : List Ino} (h : TS T) {k : Nat} (hk : k < T.length) : lkS T k := fun h0 => h.2.2.2.2.2.2.2 k h0 hk
end Go.Proofs.Ythioomihpfmlmaa.Hd
