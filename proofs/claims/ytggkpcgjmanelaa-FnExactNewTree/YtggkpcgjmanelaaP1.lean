/- Trees of keys, of no program: nodes laid in order, and what a good tree is. -/
namespace Go.Proofs.Ytggkpcgjmanelaa.Bt
set_option linter.unusedVariables false

/-- A node with all that is below it. -/
structure Tr where
  keys : List Int
  kids : List Tr
/-- A node as it lies in a list of nodes. -/
structure Nd where
  leaf : Bool
  ks : List Int
  cs : List Int
def tr0 : Tr := ⟨[], []⟩
def nd0 : Nd := ⟨false, [], []⟩

theorem Tr.ind {P : Tr → Prop} (h : ∀ ks cs, (∀ x, x ∈ cs → P x) → P ⟨ks, cs⟩) (t : Tr) : P t := by
  have key : ∀ n t, sizeOf t ≤ n → P t := by
    intro n
    induction n with
    | zero =>
      intro t ht
      obtain ⟨ks, cs⟩ := t
      simp at ht
    | succ n ih =>
      intro t ht
      obtain ⟨ks, cs⟩ := t
      refine h ks cs (fun x hx => ih x ?_)
      have := List.sizeOf_lt_of_mem hx
      simp at ht
      omega
  exact key _ t (Nat.le_refl _)

/-- Nodes in their order, from a number on. -/
def chain : List (Nat → List Nd) → Nat → List Nd × List Int
  | [], _ => ([], [])
  | f :: fs, o => (f o ++ (chain fs (o + (f o).length)).1, (((o + (f o).length : Nat) : Int) - 1) :: (chain fs (o + (f o).length)).2)
def tell : Tr → Nat → List Nd
  | ⟨ks, cs⟩ => fun o => (chain (cs.map tell) o).1 ++ [⟨cs.isEmpty, ks, (chain (cs.map tell) o).2⟩]
def tellK (o : Nat) (cs : List Tr) : List Nd × List Int := chain (cs.map tell) o
theorem tell_eq (o : Nat) (ks : List Int) (cs : List Tr) : tell ⟨ks, cs⟩ o = (tellK o cs).1 ++ [⟨cs.isEmpty, ks, (tellK o cs).2⟩] := by
  rw [tell]; rfl
theorem tellK_nil (o : Nat) : tellK o [] = ([], []) := rfl
theorem tellK_cons (o : Nat) (x : Tr) (xs : List Tr) : tellK o (x :: xs) = (tell x o ++ (tellK (o + (tell x o).length) xs).1, (((o + (tell x o).length : Nat) : Int) - 1) :: (tellK (o + (tell x o).length) xs).2) := rfl
theorem tell_pos (o : Nat) (t : Tr) : 1 ≤ (tell t o).length := by
  obtain ⟨ks, cs⟩ := t
  simp [tell_eq]
theorem tellK_snoc (xs : List Tr) (x : Tr) : ∀ o, tellK o (xs ++ [x]) = ((tellK o xs).1 ++ tell x (o + (tellK o xs).1.length), (tellK o xs).2 ++ [((o + (tellK o xs).1.length + (tell x (o + (tellK o xs).1.length)).length : Nat) : Int) - 1]) := by
  induction xs with
  | nil => intro o; simp [tellK_cons, tellK_nil]
  | cons y ys ih =>
    intro o
    simp only [List.cons_append, tellK_cons, ih, List.length_append, List.append_assoc, Nat.add_assoc]
theorem tellK_length (xs : List Tr) : ∀ o, (tellK o xs).2.length = xs.length := by
  induction xs with
  | nil => intro o; rfl
  | cons y ys ih => intro o; simp [tellK_cons, ih]

/-- All keys, from side to side. -/
def inter : List (List Int) → List Int → List Int
  | [], _ => []
  | x :: xs, ks => x ++ (ks.take 1 ++ inter xs (ks.drop 1))
def flat : Tr → List Int
  | ⟨ks, cs⟩ => if cs.isEmpty then ks else inter (cs.map flat) ks
def flatK (cs : List Tr) (ks : List Int) : List Int := inter (cs.map flat) ks
theorem flat_eq (ks : List Int) (cs : List Tr) : flat ⟨ks, cs⟩ = if cs.isEmpty then ks else flatK cs ks := by
  rw [flat]; rfl
theorem flatK_nil (ks : List Int) : flatK [] ks = [] := rfl
theorem flatK_cons (x : Tr) (xs : List Tr) (ks : List Int) : flatK (x :: xs) ks = flat x ++ (ks.take 1 ++ flatK xs (ks.drop 1)) := rfl
theorem flatK_snoc (xs : List Tr) (x : Tr) : ∀ ks, flatK (xs ++ [x]) ks = flatK xs ks ++ (flat x ++ (ks.drop xs.length).take 1) := by
  induction xs with
  | nil => intro ks; simp [flatK_cons, flatK_nil]
  | cons y ys ih =>
    intro ks
    simp only [List.cons_append, flatK_cons, ih, List.append_assoc, List.length_cons, List.drop_drop]
    rw [Nat.add_comm 1]

/-- How many keys a node has at least. -/
def lo (root : Bool) (leaf : Bool) : Nat := if root then (if leaf then 0 else 1) else 2
/-- A right node of this depth. -/
def Ok : Bool → Nat → Tr → Prop
  | _, 0, _ => False
  | root, h + 1, ⟨ks, cs⟩ => lo root cs.isEmpty ≤ ks.length ∧ ks.length ≤ 5 ∧ ((cs = [] ∧ h = 0) ∨ (cs.length = ks.length + 1 ∧ ∀ x, x ∈ cs → Ok false h x))
/-- Rising, and within bounds. -/
def Ris (l : List Int) : Prop := l.Pairwise (· < ·) ∧ ∀ x, x ∈ l → 0 ≤ x ∧ x ≤ 1000000
/-- A good tree. -/
def Gd (n : Tr) : Prop := (∃ h, Ok true h n) ∧ Ris (flat n) ∧ (flat n).length ≤ 200
/-- Each node has one kid more than keys, or none. -/
def Wf : Tr → Prop
  | ⟨ks, cs⟩ => (cs = [] ∨ cs.length = ks.length + 1) ∧ ∀ x, x ∈ cs → Wf x
theorem Wf_eq (ks : List Int) (cs : List Tr) : Wf ⟨ks, cs⟩ = ((cs = [] ∨ cs.length = ks.length + 1) ∧ ∀ x, x ∈ cs → Wf x) := by
  rw [Wf]

/-- The specification's depth. -/
def dpL (fst : Bool) (deep : Nat) : List Nat → Option Nat
  | [] => some deep
  | d :: ds => if d = 0 ∨ (fst = false ∧ d ≠ deep) then none else dpL false d ds
def dp : Tr → Bool → Nat
  | ⟨ks, cs⟩ => fun root => if lo root cs.isEmpty ≤ ks.length ∧ ks.length ≤ 5 then (match dpL true 0 (cs.map fun x => dp x false) with | none => 0 | some d => d + 1) else 0
theorem dp_eq (ks : List Int) (cs : List Tr) (root : Bool) : dp ⟨ks, cs⟩ root = if lo root cs.isEmpty ≤ ks.length ∧ ks.length ≤ 5 then (match dpL true 0 (cs.map fun x => dp x false) with | none => 0 | some d => d + 1) else 0 := by
  rw [dp]
theorem dpL_some {xs : List Nat} : ∀ {deep d : Nat}, dpL false deep xs = some d ↔ d = deep ∧ ∀ x, x ∈ xs → x = deep ∧ deep ≠ 0 := by
  induction xs with
  | nil => intro deep d; simp [dpL]; exact eq_comm
  | cons x xs ih =>
    intro deep d
    by_cases h : x = 0 ∨ x ≠ deep
    · have : dpL false deep (x :: xs) = none := by show (if x = 0 ∨ (false = false ∧ x ≠ deep) then none else dpL false x xs) = none; exact if_pos (by rcases h with h | h; exact .inl h; exact .inr ⟨rfl, h⟩)
      rw [this]
      simp only [reduceCtorEq, false_iff]
      rintro ⟨-, h2⟩
      obtain ⟨h3, h4⟩ := h2 x (by simp)
      rcases h with h | h
      · omega
      · exact h h3
    · have h1 : x ≠ 0 := fun e => h (.inl e)
      have h2 : x = deep := Decidable.not_not.1 fun e => h (.inr e)
      subst h2
      have : dpL false x (x :: xs) = dpL false x xs := by show (if x = 0 ∨ (false = false ∧ x ≠ x) then none else dpL false x xs) = _; exact if_neg (by rintro (h | h); exact h1 h; exact h.2 rfl)
      rw [this, ih]
      simp only [List.mem_cons, forall_eq_or_imp]
      constructor
      · rintro ⟨a, b⟩; exact ⟨a, by simpa using h1, b⟩
      · rintro ⟨a, -, b⟩; exact ⟨a, b⟩
theorem dpL_true {xs : List Nat} {d : Nat} : dpL true 0 xs = some d ↔ (xs = [] ∧ d = 0) ∨ (xs ≠ [] ∧ d ≠ 0 ∧ ∀ x, x ∈ xs → x = d) := by
  cases xs with
  | nil => simp [dpL]; exact eq_comm
  | cons x xs =>
    by_cases h : x = 0
    · subst h
      have : dpL true 0 (0 :: xs) = none := by simp [dpL]
      rw [this]
      simp
      intro h0 h1
      omega
    · have : dpL true 0 (x :: xs) = dpL false x xs := by rw [dpL]; exact if_neg (by simp [h])
      rw [this, dpL_some]
      simp only [List.mem_cons, forall_eq_or_imp, reduceCtorEq, false_and, false_or, ne_eq, not_false_eq_true, true_and]
      constructor
      · rintro ⟨rfl, b⟩; exact ⟨h, rfl, fun y hy => (b y hy).1⟩
      · rintro ⟨a, rfl, c⟩; exact ⟨rfl, fun y hy => ⟨c y hy, a⟩⟩
/-- The depth tells right nodes. -/
theorem dp_ok (n : Tr) : Wf n → ∀ root h, (dp n root = h ∧ h ≠ 0) ↔ Ok root h n := by
  refine Tr.ind (P := fun n => Wf n → ∀ root h, (dp n root = h ∧ h ≠ 0) ↔ Ok root h n) ?_ n
  intro ks cs ih hw root h
  rw [Wf_eq] at hw
  obtain ⟨hc, hk⟩ := hw
  cases h with
  | zero => simp [Ok]
  | succ h =>
    simp only [dp_eq, Ok]
    by_cases hb : lo root cs.isEmpty ≤ ks.length ∧ ks.length ≤ 5
    · rw [if_pos hb]
      obtain ⟨h1, h2⟩ := hb
      simp only [h1, h2, true_and]
      have e : ((match dpL true 0 (cs.map fun x => dp x false) with | none => 0 | some d => d + 1) = h + 1 ∧ h + 1 ≠ 0) ↔ dpL true 0 (cs.map fun x => dp x false) = some h := by
        cases dpL true 0 (cs.map fun x => dp x false) with
        | none => simp
        | some d => simp
      rw [e, dpL_true]
      by_cases hz : cs = []
      · subst hz; simp
      · have hl : cs.length = ks.length + 1 := by rcases hc with h | h; exact absurd h hz; exact h
        simp only [List.map_eq_nil_iff, hz, false_and, false_or, ne_eq, not_false_eq_true, true_and, hl, List.mem_map, forall_exists_index, and_imp, forall_apply_eq_imp_iff₂]
        constructor
        · rintro ⟨a, b⟩ x hx
          exact (ih x hx (hk x hx) false h).1 ⟨b x hx, a⟩
        · intro b
          obtain ⟨x, hx⟩ : ∃ x, x ∈ cs := List.exists_mem_of_ne_nil cs hz
          exact ⟨((ih x hx (hk x hx) false h).2 (b x hx)).2, fun y hy => ((ih y hy (hk y hy) false h).2 (b y hy)).1⟩
    · rw [if_neg hb]
      simp
      omega
theorem Ok.wf {n : Tr} : ∀ {root : Bool} {h : Nat}, Ok root h n → Wf n := by
  refine Tr.ind (P := fun n => ∀ {root : Bool} {h : Nat}, Ok root h n → Wf n) ?_ n
  intro ks cs ih root h hok
  rw [Wf_eq]
  cases h with
  | zero => simp [Ok] at hok
  | succ h =>
    simp only [Ok] at hok
    obtain ⟨-, -, hc⟩ := hok
    rcases hc with ⟨rfl, -⟩ | ⟨h1, h2⟩
    · exact ⟨.inl rfl, by simp⟩
    · exact ⟨.inr h1, fun x hx => ih x hx (h2 x hx)⟩
/-- How deep it is. -/
def ht (n : Tr) : Nat := dp n true
theorem Ok.dp {n : Tr} {root : Bool} {h : Nat} (a : Ok root h n) : dp n root = h := ((dp_ok n a.wf root h).2 a).1
theorem Ok.uniq {n : Tr} {root : Bool} {h h' : Nat} (a : Ok root h n) (b : Ok root h' n) : h = h' := a.dp.symm.trans b.dp

theorem flatK_sub {cs : List Tr} : ∀ {ks : List Int}, ks.length ≤ cs.length → List.Sublist ks (flatK cs ks) := by
  induction cs with
  | nil => intro ks h; have : ks = [] := List.eq_nil_of_length_eq_zero (by simpa using h); subst this; simp
  | cons x xs ih =>
    intro ks h
    rw [flatK_cons]
    cases ks with
    | nil => simp
    | cons k ks =>
      simp only [List.take_succ_cons, List.take_zero, List.drop_succ_cons, List.drop_zero]
      exact List.Sublist.trans (List.Sublist.cons_cons k (ih (by simpa using h))) (List.sublist_append_right _ _)
theorem flatK_mem {cs : List Tr} : ∀ {ks : List Int} {x : Tr}, x ∈ cs → List.Sublist (flat x) (flatK cs ks) := by
  induction cs with
  | nil => intro ks x h; simp at h
  | cons y xs ih =>
    intro ks x h
    rw [flatK_cons]
    rcases List.mem_cons.1 h with rfl | h
    · exact List.sublist_append_left _ _
    · exact (ih h).trans ((List.sublist_append_right _ _).trans (List.sublist_append_right _ _))
theorem keys_sub {ks : List Int} {cs : List Tr} (h : cs = [] ∨ cs.length = ks.length + 1) : List.Sublist ks (flat ⟨ks, cs⟩) := by
  rw [flat_eq]
  by_cases hz : cs = []
  · subst hz; simp
  · have : cs.isEmpty = false := by cases cs <;> simp_all
    rw [this]
    exact flatK_sub (by rcases h with h | h; exact absurd h hz; omega)
theorem kid_sub {ks : List Int} {cs : List Tr} {x : Tr} (h : x ∈ cs) : List.Sublist (flat x) (flat ⟨ks, cs⟩) := by
  rw [flat_eq]
  have : cs.isEmpty = false := by cases cs <;> simp_all
  rw [this]
  exact flatK_mem h
theorem Ris.sub {l m : List Int} (h : Ris m) (hs : List.Sublist l m) : Ris l := ⟨h.1.sublist hs, fun x hx => h.2 x (hs.subset hx)⟩
end Go.Proofs.Ytggkpcgjmanelaa.Bt
