import Derived.Test.YthioomihpfmlmaaP2
import Derived.Lib.Bytealg
/- Paths, of no program: pieces between slashes. -/
namespace Go.Proofs.Ythioomihpfmlmaa.Hd
set_option linter.unusedVariables false

/-- The next slash from a place on, or the end. -/
def nx (p : ByteArray) (i : Nat) : Nat := i + (((bt p).drop i).takeWhile (fun b => b != 47)).length
theorem bt_len (p : ByteArray) : (bt p).length = p.size := by simp
theorem nx_ge (p : ByteArray) (i : Nat) : i ≤ nx p i := Nat.le_add_right _ _
theorem nx_le {p : ByteArray} {i : Nat} (h : i ≤ p.size) : nx p i ≤ p.size := by
  unfold nx
  have h1 : (((bt p).drop i).takeWhile (fun b => b != 47)).length ≤ ((bt p).drop i).length := (List.takeWhile_sublist _).length_le
  rw [List.length_drop, bt_len] at h1
  omega
theorem bt_drop {p : ByteArray} {i : Nat} (h : i < p.size) : (bt p).drop i = p[i] :: (bt p).drop (i + 1) := by
  rw [List.drop_eq_getElem_cons (by simpa using h)]
  rfl
theorem nx_stop {p : ByteArray} {i : Nat} (h : i < p.size) (hc : p[i] = 47) : nx p i = i := by
  unfold nx
  rw [bt_drop h, List.takeWhile_cons, hc]
  simp
theorem nx_end {p : ByteArray} {i : Nat} (h : p.size ≤ i) : nx p i = i := by
  unfold nx
  rw [List.drop_eq_nil_of_le (by simpa using h)]
  simp
theorem nx_go {p : ByteArray} {i : Nat} (h : i < p.size) (hc : p[i] ≠ 47) : nx p i = nx p (i + 1) := by
  unfold nx
  rw [bt_drop h, List.takeWhile_cons, if_pos (by simpa using hc), List.length_cons]
  omega
theorem nx_at {p : ByteArray} : ∀ (m i : Nat), p.size - i = m → (h : nx p i < p.size) → p[nx p i] = 47 := by
  intro m
  induction m with
  | zero =>
    intro i hi h
    have := nx_ge p i
    omega
  | succ m ih =>
    intro i hi h
    have hlt : i < p.size := by omega
    by_cases hc : p[i] = 47
    · have e := nx_stop hlt hc
      simp only [e]
      exact hc
    · have e := nx_go hlt hc
      have h' : nx p (i + 1) < p.size := by rw [← e]; exact h
      have := ih (i + 1) (by omega) h'
      simp only [e]
      exact this
theorem nx_index (p : ByteArray) : ∀ (m i : Nat), p.size - i = m → Lib.indexByte ((bt p).drop i) 47 = if nx p i < p.size then ((nx p i : Nat) : Int) - i else -1 := by
  intro m
  induction m with
  | zero =>
    intro i hi
    rw [List.drop_eq_nil_of_le (by simp; omega), nx_end (by omega), if_neg (by omega)]
    rfl
  | succ m ih =>
    intro i hi
    have hlt : i < p.size := by omega
    rw [bt_drop hlt, Lib.indexByte]
    by_cases hc : p[i] = 47
    · rw [nx_stop hlt hc, if_pos hlt, if_pos (by simp [hc])]
      omega
    · have e := nx_go hlt hc
      have hi' := ih (i + 1) (by omega)
      rw [if_neg (by simp [hc]), hi', e]
      have := nx_ge p (i + 1)
      by_cases h : nx p (i + 1) < p.size
      · rw [if_pos h, if_pos h, if_neg (by simp; omega)]
        omega
      · rw [if_neg h, if_neg h]
        rfl
/-- The pieces from a place on. -/
def pc (p : ByteArray) : Nat → Nat → List ByteArray
  | 0, _ => []
  | f + 1, i => p.extract i (nx p i) :: (if nx p i < p.size then pc p f (nx p i + 1) else [])
def pcs (p : ByteArray) (i : Nat) : List ByteArray := pc p (p.size + 1 - i) i
theorem pc_fuel (p : ByteArray) : ∀ f f' i, p.size + 1 - i ≤ f → p.size + 1 - i ≤ f' → i ≤ p.size → pc p f i = pc p f' i := by
  intro f
  induction f with
  | zero => intro f' i h h' hi; omega
  | succ f ih =>
    intro f' i h h' hi
    cases f' with
    | zero => omega
    | succ f' =>
      rw [pc, pc]
      congr 1
      split
      · have := nx_ge p i
        exact ih f' _ (by omega) (by omega) (by omega)
      · rfl
theorem pcs_step {p : ByteArray} {i : Nat} (hi : i ≤ p.size) : pcs p i = p.extract i (nx p i) :: (if nx p i < p.size then pcs p (nx p i + 1) else []) := by
  have hge := nx_ge p i
  unfold pcs
  rw [show p.size + 1 - i = (p.size - i) + 1 by omega, pc]
  congr 1
  split
  · exact pc_fuel p _ _ _ (by omega) (by omega) (by omega)
  · rfl
theorem count_drop (p : ByteArray) : ∀ (m i : Nat), p.size - i = m → i ≤ p.size → (pcs p i).length = Lib.countByte ((bt p).drop i) 47 + 1 := by
  intro m
  induction m with
  | zero =>
    intro i hi h
    rw [pcs_step h, List.drop_eq_nil_of_le (by simp; omega), nx_end (by omega), if_neg (by omega)]
    rfl
  | succ m ih =>
    intro i hi h
    have hlt : i < p.size := by omega
    have hi' := ih (i + 1) (by omega) (by omega)
    rw [bt_drop hlt]
    unfold Lib.countByte at *
    by_cases hc : p[i] = 47
    · rw [pcs_step h, nx_stop hlt hc, if_pos hlt, List.length_cons, hi', hc, List.count_cons_self]
    · have e := nx_go hlt hc
      rw [List.count_cons_of_ne hc, ← hi', pcs_step h, pcs_step (i := i + 1) (by omega), e]
      simp
theorem count_all (p : ByteArray) : (pcs p 0).length = Lib.countByte (bt p) 47 + 1 := by
  have := count_drop p p.size 0 (by omega) (by omega)
  simpa using this
theorem pcs_ne (p : ByteArray) {i : Nat} (h : i ≤ p.size) : pcs p i ≠ [] := by rw [pcs_step h]; simp
/-- The text / alone. -/
def sl1 : ByteArray := ⟨#[47]⟩
/-- The names of a path. -/
def PN (p : ByteArray) : Option (List ByteArray) :=
  if p = sl1 then some [] else
  match pcs p 0 with
  | [] => none
  | a :: L => if a = ⟨#[]⟩ ∧ 1 ≤ L.length ∧ L.length ≤ 8 ∧ L.all isN = true then some L else none
theorem PN_root : PN sl1 = some [] := by simp [PN]
theorem ext_nil (p : ByteArray) (i : Nat) : p.extract i i = ⟨#[]⟩ := by
  apply ByteArray.ext
  simp
theorem ext_eq_nil {p : ByteArray} {i j : Nat} (h : i < j) (hj : j ≤ p.size) : p.extract i j ≠ ⟨#[]⟩ := by
  intro e
  have : (p.extract i j).size = 0 := by rw [e]; rfl
  rw [ByteArray.size_extract] at this
  omega
/-- A path that does not open with a slash. -/
theorem PN_noslash {p : ByteArray} (h : p ≠ sl1) (h0 : 0 < p.size) (hc : p[0] ≠ 47) : PN p = none := by
  unfold PN
  rw [if_neg h, pcs_step (Nat.zero_le _)]
  simp only
  rw [if_neg]
  rintro ⟨e, -⟩
  have h1 : nx p 0 = nx p 1 := nx_go h0 hc
  have h2 := nx_ge p 1
  exact ext_eq_nil (p := p) (i := 0) (j := nx p 0) (by omega) (nx_le (Nat.zero_le _)) e
theorem PN_empty {p : ByteArray} (h0 : p.size = 0) : PN p = none := by
  have hne : p ≠ sl1 := fun e => by rw [e] at h0; simp [sl1, ByteArray.size] at h0
  unfold PN
  rw [if_neg hne, pcs_step (Nat.zero_le _), nx_end (by omega), if_neg (by omega)]
  simp
/-- One that does: its names are the pieces behind. -/
theorem PN_slash {p : ByteArray} (h : p ≠ sl1) (h0 : 0 < p.size) (hc : p[0] = 47) : PN p = if (pcs p 1).length ≤ 8 ∧ (pcs p 1).all isN = true then some (pcs p 1) else none := by
  unfold PN
  rw [if_neg h, pcs_step (Nat.zero_le _), nx_stop h0 hc, if_pos h0]
  have hl : 1 ≤ (pcs p 1).length := List.length_pos_iff.2 (pcs_ne p (by omega))
  simp only [ext_nil, true_and, hl]
end Go.Proofs.Ythioomihpfmlmaa.Hd
