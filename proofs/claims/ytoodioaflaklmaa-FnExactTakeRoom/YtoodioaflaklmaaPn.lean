/- Room that is picked, of no program. -/
import Derived.Test.YtoodioaflaklmaaB1
namespace Go.Proofs.Ytoodioaflaklmaa
open Room
set_option linter.unusedVariables false

def gap (a b : Int) : Int := if a < b then b - a else a - b
/-- The nearer place, -1 where there is none yet. -/
def nrU (near best p : Int) : Int := if best < 0 ∨ gap p near < gap best near then p else best
def clampN (near lo hi : Int) : Int := min (max near lo) hi
/-- The nearest so far, behind one more extent. -/
def nrS (long near best : Int) (x : Ex) : Int := if x.2 < long then best else nrU near best (clampN near x.1 (x.1 + x.2 - long))
def nrL (long near : Int) (l : List Ex) : Int := l.foldl (nrS long near) (-1)
theorem nr_one {near best lo : Int} (h : 0 ≤ lo) : nrU near best lo = nrU near best (clampN near lo lo) := by
  unfold clampN; congr 1; omega
theorem nr_step {near best lo at' : Int} (h : 0 ≤ lo) (h1 : lo < at') : nrU near (nrU near best (clampN near lo (at' - 1))) at' = nrU near best (clampN near lo at') := by
  unfold nrU gap clampN
  repeat' split
  all_goals omega
theorem nr_pos {near best lo hi : Int} (h : 0 ≤ lo) (h1 : lo ≤ hi) : 0 ≤ nrU near best (clampN near lo hi) := by
  unfold nrU clampN
  split <;> omega
/-- The place: where the first that is long enough begins. -/
def fit (long : Int) (x : Ex) : Bool := decide (long ≤ x.2)
def fstA (long : Int) : List Ex → Int
  | [] => -1
  | x :: l => if long ≤ x.2 then x.1 else fstA long l
/-- Where the last one begins, if it is long enough. -/
def lstA (long : Int) (l : List Ex) : Int := if 0 < l.length ∧ long ≤ (gx l (l.length - 1)).2 then (gx l (l.length - 1)).1 else -1
def pkI (l s : List Ex) (long how near : Int) : Int :=
  if how = 1 then fstA long l else if how = 2 then fstA long s else if how = 3 then lstA long s else if how = 4 then nrL long near l else -1
theorem fstA_some {long : Int} : ∀ {l : List Ex} {k : Nat}, k < l.length → long ≤ (gx l k).2 → (∀ j, j < k → ¬ long ≤ (gx l j).2) → fstA long l = (gx l k).1
  | [], k, h, _, _ => by simp at h
  | x :: l, 0, _, h, _ => by
    have e : gx (x :: l) 0 = x := rfl
    rw [e] at h ⊢
    simp [fstA, h]
  | x :: l, k + 1, h, h1, h2 => by
    have h0 : ¬ long ≤ x.2 := h2 0 (by omega)
    have e2 : gx (x :: l) (k + 1) = gx l k := rfl
    rw [e2] at h1 ⊢
    rw [fstA, if_neg h0, fstA_some (k := k) (by simpa using h) h1 (fun j hj => h2 (j + 1) (by omega))]
theorem fstA_none {long : Int} : ∀ {l : List Ex}, (∀ j, j < l.length → ¬ long ≤ (gx l j).2) → fstA long l = -1
  | [], _ => rfl
  | x :: l, h => by
    have h0 : ¬ long ≤ x.2 := h 0 (by simp)
    rw [fstA, if_neg h0, fstA_none (fun j hj => h (j + 1) (by simpa using hj))]
/-- What lies in order by size and has one that is long enough has it last. -/
theorem lst_none {long : Int} {s : List Ex} (hs : So ltS s) (h : ¬ (0 < s.length ∧ long ≤ (gx s (s.length - 1)).2)) : ∀ j, j < s.length → ¬ long ≤ (gx s j).2 := fun j hj hl => by
  refine h ⟨by omega, ?_⟩
  by_cases e : j = s.length - 1
  · rw [← e]; exact hl
  · have := List.pairwise_iff_getElem.1 hs j (s.length - 1) hj (by omega) (by omega)
    rw [← gx_eq hj, ← gx_eq (by omega), ltS_iff] at this
    omega
/-- It lies in one of the extents. -/
def Lies (l : List Ex) (x : Ex) : Prop := ∃ o, o ∈ l ∧ o.1 ≤ x.1 ∧ fin x ≤ fin o
theorem fstA_lies {long : Int} : ∀ {l : List Ex}, 0 ≤ fstA long l → ∃ o, o ∈ l ∧ o.1 = fstA long l ∧ long ≤ o.2
  | [], h => by simp [fstA] at h
  | x :: l, h => by
    unfold fstA at h ⊢
    split
    · rename_i h1; exact ⟨x, by simp, rfl, h1⟩
    · rename_i h1
      rw [if_neg h1] at h
      obtain ⟨o, ho, h2⟩ := fstA_lies h
      exact ⟨o, by simp [ho], h2⟩
theorem nr_lies {long near : Int} {L : List Ex} : ∀ {l : List Ex} {B : Int}, (∀ x, x ∈ l → x ∈ L) → (0 ≤ B → Lies L (B, long)) → 0 ≤ l.foldl (nrS long near) B → Lies L (l.foldl (nrS long near) B, long)
  | [], B, _, h, h0 => h h0
  | x :: l, B, hs, h, h0 => by
    rw [List.foldl_cons] at h0 ⊢
    refine nr_lies (fun y hy => hs y (by simp [hy])) (fun hb => ?_) h0
    unfold nrS at hb ⊢
    split
    · rename_i h1; rw [if_pos h1] at hb; exact h hb
    · rename_i h1
      rw [if_neg h1] at hb
      unfold nrU at hb ⊢
      split
      · exact ⟨x, hs x (by simp), by unfold clampN; simp only; omega, by unfold clampN fin; simp only; omega⟩
      · rename_i h2; rw [if_neg h2] at hb; exact h hb
theorem pk_lies {l s : List Ex} {long how near : Int} (hm : ∀ x, x ∈ s → x ∈ l) (h : 0 ≤ pkI l s long how near) : Lies l (pkI l s long how near, long) := by
  unfold pkI at h ⊢
  have F : ∀ {m : List Ex}, (∀ x, x ∈ m → x ∈ l) → 0 ≤ fstA long m → Lies l (fstA long m, long) := fun hm h => by
    obtain ⟨o, ho, h1, h2⟩ := fstA_lies h
    exact ⟨o, hm o ho, by simp only; omega, by unfold fin; simp only; omega⟩
  split
  · rename_i e; rw [if_pos e] at h; exact F (fun _ h => h) h
  · rename_i e; rw [if_neg e] at h
    split
    · rename_i e; rw [if_pos e] at h; exact F hm h
    · rename_i e; rw [if_neg e] at h
      split
      · rename_i e; rw [if_pos e] at h
        unfold lstA at h ⊢
        split
        · rename_i k
          refine ⟨gx s (s.length - 1), hm _ (by rw [gx_eq (by omega)]; exact List.getElem_mem _), by simp only; omega, by unfold fin; simp only; omega⟩
        · rename_i k; rw [if_neg k] at h; omega
      · rename_i e; rw [if_neg e] at h
        split
        · rename_i e; rw [if_pos e] at h
          exact nr_lies (fun _ h => h) (fun h => absurd h (by omega)) h
        · rename_i e; rw [if_neg e] at h; omega
end Go.Proofs.Ytoodioaflaklmaa
