import Derived.Test.YthioomihpfmlmaaQ3
/- Inodes, of no program: how the program counts and notes what is above. -/
namespace Go.Proofs.Ythioomihpfmlmaa.Hd
set_option linter.unusedVariables false

/-- What is counted when the first inodes and the first names of the next were met. -/
def pn (T : List Ino) (k i y : Nat) : Nat := (if y = 0 then 1 else 0) + sm k (fun p => cn T p y) + ls (fun x => if tg x = y then 1 else 0) ((gn T k).ns.take i)
theorem pn_start (T : List Ino) (y : Nat) : pn T 0 0 y = if y = 0 then 1 else 0 := by simp [pn, sm, ls]
theorem pn_step (T : List Ino) {k i : Nat} (h : i < (gn T k).ns.length) (y : Nat) : pn T k (i + 1) y = pn T k i y + (if tg (gm (gn T k).ns i) = y then 1 else 0) := by
  rw [pn, pn, List.take_succ_eq_append_getElem h, ls_append, gm_eq h]
  simp [ls]
  omega
theorem pn_next (T : List Ino) {k i : Nat} (h : (gn T k).ns.length ≤ i) (y : Nat) : pn T k i y = pn T (k + 1) 0 y := by
  rw [pn, pn, List.take_of_length_le h, sm, List.take_zero, cn]
  simp [ls]
  omega
theorem pn_end (T : List Ino) (y : Nat) : pn T T.length 0 y = nam T y := by simp [pn, nam, tot, ls]
theorem pn_le {T : List Ino} (h : ∀ k, (gn T k).ns.length ≤ 20) (k i y : Nat) : pn T k i y ≤ 1 + 20 * k + 20 := by
  have hc : ∀ p, cn T p y ≤ 20 := fun p => by
    have := ls_bound (fun x => if tg x = y then 1 else 0) (gn T p).ns 1 (fun x _ => by split <;> omega)
    have := h p
    unfold cn
    omega
  have hs : ∀ k, sm k (fun p => cn T p y) ≤ 20 * k := fun k => by
    induction k with
    | zero => simp [sm]
    | succ k ih => rw [sm]; have := hc k; omega
  have hl := ls_bound (fun x => if tg x = y then 1 else 0) ((gn T k).ns.take i) 1 (fun x _ => by split <;> omega)
  have h2 := h k
  have h3 : ((gn T k).ns.take i).length ≤ (gn T k).ns.length := by simp; omega
  have := hs k
  unfold pn
  split <;> omega
/-- What is noted as above when the first inodes and the first names of the next were met. -/
def ab (T : List Ino) (k i y : Nat) : Nat := if 0 < ls (fun x => if tg x = y then 1 else 0) ((gn T k).ns.take i) then k else upN T k y
theorem ab_start (T : List Ino) (y : Nat) : ab T 0 0 y = 0 := by simp [ab, ls, upN]
theorem ab_step (T : List Ino) {k i : Nat} (h : i < (gn T k).ns.length) (y : Nat) : ab T k (i + 1) y = if tg (gm (gn T k).ns i) = y then k else ab T k i y := by
  unfold ab
  rw [List.take_succ_eq_append_getElem h, ls_append, gm_eq h]
  simp only [ls, Nat.add_zero]
  by_cases e : tg (gn T k).ns[i] = y
  · simp [e]
  · simp [e]
theorem ab_next (T : List Ino) {k i : Nat} (h : (gn T k).ns.length ≤ i) (y : Nat) : ab T k i y = ab T (k + 1) 0 y := by
  unfold ab
  rw [List.take_of_length_le h, List.take_zero]
  simp only [ls, Nat.lt_irrefl, if_false]
  rw [upN]
  rfl
theorem ab_end (T : List Ino) (y : Nat) : ab T T.length 0 y = up T y := by simp [ab, up, ls]
theorem cl_step (T : List Ino) (d y : Nat) : cl T (d + 1) y = up T (cl T d y) := by
  induction d generalizing y with
  | zero => rfl
  | succ d ih => rw [cl, ih]; rfl
end Go.Proofs.Ythioomihpfmlmaa.Hd
