import Derived.Test.YthioomihpfmlmaaQ3
/- Inodes, of no program: all paths below an inode, put in order. -/
namespace Go.Proofs.Ythioomihpfmlmaa.Hd
set_option linter.unusedVariables false

/-- The path of a name below another path. -/
def jn (s x : ByteArray) : ByteArray := s ++ ⟨#[47]⟩ ++ x
/-- The paths below an inode, so deep at most. -/
def pb (T : List Ino) : Nat → Nat → ByteArray → List ByteArray
  | 0, _, _ => []
  | f + 1, k, s => (gn T k).ns.flatMap fun x => jn s x.nm :: pb T f (tg x) (jn s x.nm)
/-- No names lie deeper. -/
def dz (T : List Ino) : Nat → Nat → Prop
  | 0, k => (gn T k).ns = []
  | f + 1, k => ∀ x, x ∈ (gn T k).ns → dz T f (tg x)
theorem dz_nil {T : List Ino} {k : Nat} (h : (gn T k).ns = []) : ∀ f, dz T f k := by
  intro f
  cases f with
  | zero => exact h
  | succ f => intro x hx; rw [h] at hx; cases hx
theorem dz_of {T : List Ino} (hS : Sk T) : ∀ f k, k < T.length → dk T f k → dz T f k := by
  intro f
  induction f with
  | zero => intro k _ h; exact h
  | succ f ih =>
    intro k hk h x hx
    have hl := (hS.1 k hk x hx).2
    rcases hS.2 _ hl with e | e
    · exact ih _ hl (h x hx e)
    · exact dz_nil e f
theorem pb_nil {T : List Ino} {k : Nat} (h : (gn T k).ns = []) (f : Nat) (s : ByteArray) : pb T f k s = [] := by
  cases f with
  | zero => rfl
  | succ f => rw [pb, h]; rfl
/-- What one name adds to the paths. -/
def p1 (T : List Ino) (f : Nat) (s : ByteArray) (x : Nm) : List ByteArray := jn s x.nm :: pb T f (tg x) (jn s x.nm)
theorem pb_step {T : List Ino} {f k : Nat} {s : ByteArray} : pb T (f + 1) k s = (gn T k).ns.flatMap (p1 T f s) := rfl
theorem take_p1 {T : List Ino} {f k i : Nat} {s : ByteArray} (h : i < (gn T k).ns.length) : ((gn T k).ns.take (i + 1)).flatMap (p1 T f s) = ((gn T k).ns.take i).flatMap (p1 T f s) ++ p1 T f s (gm (gn T k).ns i) := by
  rw [List.take_succ_eq_append_getElem h, List.flatMap_append, gm_eq h]
  simp
theorem part_le {T : List Ino} {f k i : Nat} {s : ByteArray} (h : i < (gn T k).ns.length) : (((gn T k).ns.take i).flatMap (p1 T f s)).length + 1 + (pb T f (tg (gm (gn T k).ns i)) (jn s (gm (gn T k).ns i).nm)).length ≤ (pb T (f + 1) k s).length := by
  have e := take_p1 (T := T) (f := f) (s := s) h
  have : (((gn T k).ns.take (i + 1)).flatMap (p1 T f s)).length ≤ (pb T (f + 1) k s).length := by
    rw [pb_step]
    conv => rhs; rw [← List.take_append_drop (i + 1) (gn T k).ns, List.flatMap_append, List.length_append]
    omega
  rw [e, List.length_append] at this
  have h2 : (p1 T f s (gm (gn T k).ns i)).length = 1 + (pb T f (tg (gm (gn T k).ns i)) (jn s (gm (gn T k).ns i).nm)).length := by
    rw [p1, List.length_cons]; omega
  omega
theorem fm_ls {A : Type} (g : A → List ByteArray) (l : List A) : (l.flatMap g).length = ls (fun x => (g x).length) l := by
  induction l with
  | nil => rfl
  | cons x l ih => rw [List.flatMap_cons, List.length_append, ih, ls]
theorem ls_one {A : Type} (l : List A) : ls (fun _ => 1) l = l.length := by
  induction l with
  | nil => rfl
  | cons x l ih => rw [ls, ih, List.length_cons]; omega
theorem cn_sum {T : List Ino} (hS : Sk T) {k : Nat} (hk : k < T.length) : sm T.length (fun y => cn T k y) = (gn T k).ns.length := by
  have h : sm T.length (fun y => cn T k y) = ls (fun x => sm T.length (fun y => if tg x = y then 1 else 0)) (gn T k).ns := by
    unfold cn
    exact ls_sm T.length (fun x y => if tg x = y then 1 else 0) (gn T k).ns
  rw [h]
  refine Eq.trans (ls_congr (g := fun _ => 1) fun x hx => ?_) (ls_one _)
  have := sm_one (n := T.length) (k := tg x) (hS.1 k hk x hx).2 (fun _ => 1)
  simpa using this
theorem pb_len {T : List Ino} (hS : Sk T) : ∀ f k s, k < T.length → (pb T (f + 1) k s).length = sm T.length (fun y => nb T f k y) := by
  intro f
  induction f with
  | zero =>
    intro k s hk
    simp only [nb]
    rw [cn_sum hS hk, pb_step, fm_ls, ← ls_one]
    exact ls_congr fun x _ => rfl
  | succ f ih =>
    intro k s hk
    simp only [nb]
    rw [sm_add, cn_sum hS hk, ls_sm, pb_step, fm_ls, ← ls_one (gn T k).ns, ← ls_add]
    refine ls_congr fun x hx => ?_
    have hl := (hS.1 k hk x hx).2
    rw [p1, List.length_cons]
    rcases hS.2 _ hl with e | e
    · rw [ih _ _ hl]
      simp only [e, if_true]
      omega
    · rw [pb_nil e]
      have : sm T.length (fun v => if (gn T (tg x)).dr then nb T f (tg x) v else 0) = 0 := sm_zero fun y _ => by
        split
        · cases f with
          | zero => simp [nb, cn, e, ls]
          | succ f => simp [nb, cn, e, ls]
        · rfl
      rw [this]
      rfl
/-- Good names have few paths. -/
theorem pb_few {T : List Ino} (h : TS T) (s : ByteArray) : (pb T 9 0 s).length ≤ 1200 := by
  have hI := names_is.1 h
  obtain ⟨h1, h2, h3, h4, h5, h6⟩ := h
  have hS := Sk_of h5
  rw [pb_len hS 8 0 s (by omega)]
  have key : ∀ y, y < T.length → nb T 8 0 y = tot T y := by
    intro y hy
    by_cases e : y = 0
    · subst e
      have e1 : tot T 0 = 0 := sm_zero fun p hp => cn_root hS hp
      rw [e1, nb_eq hS 0 8 0 (by omega)]
      exact sm_zero fun p hp => by rw [cn_root hS hp]; simp
    · have a := (h6.2.2 y (by omega) hy).1
      have b := (hI.2.2.2.2.1 y hy).1
      rw [nam, if_neg e, Nat.zero_add] at b
      omega
  rw [sm_congr key]
  have sw2 : ∀ n m (f : Nat → Nat → Nat), sm n (fun y => sm m (fun p => f p y)) = sm m (fun p => sm n (fun y => f p y)) := by
    intro n m f
    induction m with
    | zero => simp only [sm]; exact sm_zero fun _ _ => rfl
    | succ m ih => simp only [sm]; rw [sm_add, ih]
  have : sm T.length (fun y => tot T y) = sm T.length (fun p => (gn T p).ns.length) := by
    unfold tot
    rw [sw2]
    exact sm_congr fun p hp => cn_sum hS hp
  rw [this]
  have bd : ∀ n, n ≤ T.length → sm n (fun p => (gn T p).ns.length) ≤ 20 * n := by
    intro n hn
    induction n with
    | zero => simp [sm]
    | succ n ih => rw [sm]; have := ih (by omega); have := (h5 n (by omega)).2.2; omega
  have := bd T.length (Nat.le_refl _)
  omega
/-- A text put ahead of the first that is not less. -/
def ins (p : ByteArray) : List ByteArray → List ByteArray
  | [] => [p]
  | x :: l => if les x p then x :: ins p l else p :: x :: l
theorem ins_len (p : ByteArray) (l : List ByteArray) : (ins p l).length = l.length + 1 := by
  induction l with
  | nil => rfl
  | cons x l ih => rw [ins]; split <;> simp [ih]
theorem ins_perm (p : ByteArray) (l : List ByteArray) : (ins p l).Perm (p :: l) := by
  induction l with
  | nil => exact List.Perm.refl _
  | cons x l ih =>
    rw [ins]
    split
    · exact (List.Perm.cons x ih).trans (List.Perm.swap p x l)
    · exact List.Perm.refl _
/-- Texts in order. -/
def le1 (a b : ByteArray) : Prop := bt a ≤ bt b
theorem le1_total (a b : ByteArray) : le1 a b ∨ le1 b a := List.le_total _ _
theorem le1_trans {a b c : ByteArray} (h : le1 a b) (k : le1 b c) : le1 a c := List.le_trans h k
theorem le1_anti {a b : ByteArray} (h : le1 a b) (k : le1 b a) : a = b := bt_inj (List.le_antisymm h k)
theorem les_le {a b : ByteArray} (h : les a b = true) : le1 a b := by
  unfold les at h
  rw [decide_eq_true_eq] at h
  exact List.le_of_lt h
theorem les_not {a b : ByteArray} (h : les a b = false) : le1 b a := by
  unfold les at h
  rw [decide_eq_false_iff_not] at h
  exact List.not_lt.1 h
theorem ins_sorted (p : ByteArray) {l : List ByteArray} (h : l.Pairwise le1) : (ins p l).Pairwise le1 := by
  induction l with
  | nil => exact List.pairwise_singleton _ _
  | cons x l ih =>
    obtain ⟨h1, h2⟩ := List.pairwise_cons.1 h
    rw [ins]
    cases hx : les x p with
    | true =>
      simp only [if_true]
      refine List.pairwise_cons.2 ⟨fun y hy => ?_, ih h2⟩
      rcases List.mem_cons.1 ((ins_perm p l).mem_iff.1 hy) with e | e
      · rw [e]; exact les_le hx
      · exact h1 y e
    | false =>
      simp only [Bool.false_eq_true, if_false]
      refine List.pairwise_cons.2 ⟨fun y hy => ?_, h⟩
      rcases List.mem_cons.1 hy with e | e
      · rw [e]; exact les_not hx
      · exact le1_trans (les_not hx) (h1 y e)
theorem sorted_uniq : ∀ {l m : List ByteArray}, l.Pairwise le1 → m.Pairwise le1 → l.Perm m → l = m := by
  intro l
  induction l with
  | nil => intro m _ _ h; exact (List.Perm.nil_eq h)
  | cons a l ih =>
    intro m hl hm h
    cases m with
    | nil => exact absurd (h.length_eq) (by simp)
    | cons b m =>
      obtain ⟨l1, l2⟩ := List.pairwise_cons.1 hl
      obtain ⟨m1, m2⟩ := List.pairwise_cons.1 hm
      have e : a = b := by
        have ha : a ∈ b :: m := h.mem_iff.1 (by simp)
        have hb : b ∈ a :: l := h.mem_iff.2 (by simp)
        rcases List.mem_cons.1 ha with e | e
        · exact e
        · rcases List.mem_cons.1 hb with e' | e'
          · exact e'.symm
          · exact le1_anti (l1 b e') (m1 a e)
      subst e
      rw [ih l2 m2 (List.Perm.cons_inv h)]
/-- The specification's way: each path put in its place. -/
def isr : List ByteArray → List ByteArray → List ByteArray
  | [], out => out
  | p :: l, out => isr l (ins p out)
theorem isr_app (l m out : List ByteArray) : isr (l ++ m) out = isr m (isr l out) := by
  induction l generalizing out with
  | nil => rfl
  | cons p l ih => rw [List.cons_append, isr, isr, ih]
theorem isr_len (l out : List ByteArray) : (isr l out).length = out.length + l.length := by
  induction l generalizing out with
  | nil => rfl
  | cons p l ih => rw [isr, ih, ins_len, List.length_cons]; omega
theorem isr_perm (l out : List ByteArray) : (isr l out).Perm (l ++ out) := by
  induction l generalizing out with
  | nil => exact List.Perm.refl _
  | cons p l ih =>
    rw [isr]
    exact (ih _).trans ((List.Perm.append_left l (ins_perm p out)).trans List.perm_middle)
theorem isr_sorted (l : List ByteArray) {out : List ByteArray} (h : out.Pairwise le1) : (isr l out).Pairwise le1 := by
  induction l generalizing out with
  | nil => exact h
  | cons p l ih => exact ih (ins_sorted p h)
end Go.Proofs.Ythioomihpfmlmaa.Hd
