import Derived.Test.YthioomihpfmlmaaQ1
/- Inodes, of no program: how the specification counts, name by name. -/
namespace Go.Proofs.Ythioomihpfmlmaa.Hd
set_option linter.unusedVariables false

theorem ls_add {A : Type} (f g : A → Nat) (l : List A) : ls (fun x => f x + g x) l = ls f l + ls g l := by
  induction l with
  | nil => rfl
  | cons x l ih => simp only [ls, ih]; omega
theorem ls_bound {A : Type} (f : A → Nat) (l : List A) (b : Nat) (h : ∀ x, x ∈ l → f x ≤ b) : ls f l ≤ l.length * b := by
  induction l with
  | nil => simp [ls]
  | cons x l ih =>
    have h1 := h x (by simp)
    have h2 := ih (fun y hy => h y (by simp [hy]))
    rw [ls, List.length_cons, Nat.succ_mul]
    omega
/-- What one name adds. -/
def ad (T : List Ino) (f : Nat) (y : Nat) (x : Nm) : Nat := (if tg x = y then 1 else 0) + (if (gn T (tg x)).dr then nb T f (tg x) y else 0)
/-- What the first names of an inode add. -/
def pt (T : List Ino) (f k i y : Nat) : Nat := ls (ad T f y) ((gn T k).ns.take i)
theorem nb_pt (T : List Ino) (f k y : Nat) : nb T (f + 1) k y = ls (ad T f y) (gn T k).ns := by
  rw [nb, cn, ← ls_add]; rfl
theorem pt_full (T : List Ino) (f k y : Nat) {i : Nat} (h : (gn T k).ns.length ≤ i) : pt T f k i y = nb T (f + 1) k y := by
  rw [pt, List.take_of_length_le h, nb_pt]
theorem pt_zero (T : List Ino) (f k y : Nat) : pt T f k 0 y = 0 := by simp [pt, ls]
theorem pt_step (T : List Ino) (f k y : Nat) {i : Nat} (h : i < (gn T k).ns.length) : pt T f k (i + 1) y = pt T f k i y + ad T f y (gm (gn T k).ns i) := by
  rw [pt, pt, List.take_succ_eq_append_getElem h, ls_append, gm_eq h]
  simp [ls]
theorem pt_le (T : List Ino) (f k y : Nat) (i : Nat) : pt T f k i y ≤ nb T (f + 1) k y := by
  rw [nb_pt, pt]
  conv => rhs; rw [← List.take_append_drop i (gn T k).ns]
  rw [ls_append]; omega
/-- How much a count can grow. -/
def mx : Nat → Nat
  | 0 => 20
  | f + 1 => 20 * (1 + mx f)
theorem nb_mx {T : List Ino} (h : ∀ k, (gn T k).ns.length ≤ 20) (y : Nat) : ∀ f k, nb T f k y ≤ mx f := by
  intro f
  induction f with
  | zero =>
    intro k
    have := ls_bound (fun x => if tg x = y then 1 else 0) (gn T k).ns 1 (fun x _ => by split <;> omega)
    have h2 := h k
    rw [nb, mx, cn]; omega
  | succ f ih =>
    intro k
    have := ls_bound (ad T f y) (gn T k).ns (1 + mx f) (fun x _ => by
      have := ih (tg x)
      unfold ad
      split <;> split <;> omega)
    have h2 := Nat.mul_le_mul_right (1 + mx f) (h k)
    rw [nb_pt, mx]; omega
theorem pt_mx {T : List Ino} (h : ∀ k, (gn T k).ns.length ≤ 20) (f k y : Nat) {i : Nat} (hi : i < (gn T k).ns.length) : pt T f k i y + 1 + mx f ≤ mx (f + 1) := by
  have := ls_bound (ad T f y) ((gn T k).ns.take i) (1 + mx f) (fun x _ => by
      have := nb_mx h y f (tg x)
      unfold ad
      split <;> split <;> omega)
  have h3 : ((gn T k).ns.take i).length = i := by simp; omega
  rw [h3] at this
  have h2 := h k
  have h4 : (i + 1) * (1 + mx f) ≤ 20 * (1 + mx f) := Nat.mul_le_mul_right _ (by omega)
  rw [Nat.succ_mul] at h4
  rw [pt, mx]; omega
/-- The count goes well. -/
def ok (T : List Ino) (f k : Nat) (s : Nat → Nat) : Prop := dk T f k ∧ ∀ y, (gn T y).dr = true → nb T f k y = 0 ∨ s y + nb T f k y ≤ 1
/-- .. so far. -/
def okP (T : List Ino) (f k i : Nat) (s : Nat → Nat) : Prop := (∀ j, j < i → (gn T (tg (gm (gn T k).ns j))).dr = true → dk T f (tg (gm (gn T k).ns j))) ∧ ∀ y, (gn T y).dr = true → pt T f k i y = 0 ∨ s y + pt T f k i y ≤ 1
theorem okP_zero (T : List Ino) (f k : Nat) (s : Nat → Nat) : okP T f k 0 s := ⟨fun j h => absurd h (by omega), fun y _ => .inl (pt_zero _ _ _ _)⟩
theorem okP_full {T : List Ino} {f k : Nat} {s : Nat → Nat} (h : okP T f k (gn T k).ns.length s) : ok T (f + 1) k s := by
  refine ⟨fun x hx hd => ?_, fun y hy => ?_⟩
  · obtain ⟨j, hj, rfl⟩ := List.mem_iff_getElem.1 hx
    have := h.1 j hj
    rw [gm_eq hj] at this
    exact this hd
  · have := h.2 y hy
    rwa [pt_full T f k y (Nat.le_refl _)] at this
theorem okP_file {T : List Ino} {f k i : Nat} {s : Nat → Nat} (h : okP T f k i s) (hi : i < (gn T k).ns.length) (hd : (gn T (tg (gm (gn T k).ns i))).dr = false) : okP T f k (i + 1) s := by
  refine ⟨fun j hj => ?_, fun y hy => ?_⟩
  · by_cases e : j = i
    · subst e; intro h'; rw [hd] at h'; cases h'
    · exact h.1 j (by omega)
  · rw [pt_step T f k y hi]
    have : ad T f y (gm (gn T k).ns i) = 0 := by
      unfold ad
      rw [if_neg (fun e => by rw [e, hy] at hd; cases hd), hd]
      rfl
    rw [this, Nat.add_zero]
    exact h.2 y hy
/-- The counts when a name has been counted itself. -/
def s1 (T : List Ino) (f k i : Nat) (s : Nat → Nat) (y : Nat) : Nat := s y + pt T f k i y + (if tg (gm (gn T k).ns i) = y then 1 else 0)
theorem s1_file {T : List Ino} {f k i : Nat} {s : Nat → Nat} (hi : i < (gn T k).ns.length) (hd : (gn T (tg (gm (gn T k).ns i))).dr = false) (y : Nat) : s1 T f k i s y = s y + pt T f k (i + 1) y := by
  rw [pt_step T f k y hi, s1, ad, hd]
  simp
  omega
theorem s1_dir {T : List Ino} {f k i : Nat} {s : Nat → Nat} (hi : i < (gn T k).ns.length) (hd : (gn T (tg (gm (gn T k).ns i))).dr = true) (y : Nat) : s1 T f k i s y + nb T f (tg (gm (gn T k).ns i)) y = s y + pt T f k (i + 1) y := by
  rw [pt_step T f k y hi, s1, ad, hd]
  simp
  omega
theorem ok_two {T : List Ino} {f k i : Nat} {s : Nat → Nat} (hi : i < (gn T k).ns.length) (hd : (gn T (tg (gm (gn T k).ns i))).dr = true) (h : 1 < s1 T f k i s (tg (gm (gn T k).ns i))) : ¬ ok T (f + 1) k s := by
  intro g
  have h1 := g.2 _ hd
  have h2 := s1_dir (f := f) (s := s) hi hd (tg (gm (gn T k).ns i))
  have h3 := pt_le T f k (tg (gm (gn T k).ns i)) (i + 1)
  have h4 : 0 < ad T f (tg (gm (gn T k).ns i)) (gm (gn T k).ns i) := by unfold ad; rw [if_pos rfl]; omega
  have h5 := pt_step T f k (tg (gm (gn T k).ns i)) hi
  omega
theorem ok_sub {T : List Ino} {f k i : Nat} {s : Nat → Nat} (hi : i < (gn T k).ns.length) (hd : (gn T (tg (gm (gn T k).ns i))).dr = true) (h : ¬ ok T f (tg (gm (gn T k).ns i)) (s1 T f k i s)) : ¬ ok T (f + 1) k s := by
  intro g
  refine h ⟨g.1 _ (by rw [gm_eq hi]; exact List.getElem_mem _) hd, fun y hy => ?_⟩
  have h1 := g.2 y hy
  have h2 := s1_dir (f := f) (s := s) hi hd y
  have h3 := pt_le T f k y (i + 1)
  have h5 := pt_step T f k y hi
  have h6 : nb T f (tg (gm (gn T k).ns i)) y ≤ ad T f y (gm (gn T k).ns i) := by unfold ad; rw [hd, if_pos rfl]; omega
  omega
theorem okP_dir {T : List Ino} {f k i : Nat} {s : Nat → Nat} (h : okP T f k i s) (hi : i < (gn T k).ns.length) (hd : (gn T (tg (gm (gn T k).ns i))).dr = true) (h1 : s1 T f k i s (tg (gm (gn T k).ns i)) ≤ 1)
    (h2 : ok T f (tg (gm (gn T k).ns i)) (s1 T f k i s)) : okP T f k (i + 1) s := by
  refine ⟨fun j hj => ?_, fun y hy => ?_⟩
  · by_cases e : j = i
    · subst e; intro _; exact h2.1
    · exact h.1 j (by omega)
  · have h3 := s1_dir (f := f) (s := s) hi hd y
    have h4 := h2.2 y hy
    have h5 := h.2 y hy
    have h6 := pt_step T f k y hi
    by_cases e : tg (gm (gn T k).ns i) = y
    · have h7 : s1 T f k i s y ≤ 1 := by rw [← e]; exact h1
      have : 0 < s1 T f k i s y := by unfold s1; rw [if_pos e]; omega
      omega
    · have h8 : s1 T f k i s y = s y + pt T f k i y := by unfold s1; rw [if_neg e]; omega
      omega
end Go.Proofs.Ythioomihpfmlmaa.Hd
