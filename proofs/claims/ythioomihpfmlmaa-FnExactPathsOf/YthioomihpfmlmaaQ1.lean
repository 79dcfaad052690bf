import Derived.Test.YthioomihpfmlmaaP1
/- Inodes, of no program: ways from / on, counts, climbing. -/
namespace Go.Proofs.Ythioomihpfmlmaa.Hd
set_option linter.unusedVariables false
/-- An inode. -/
structure Ino where
  dr : Bool
  lk : Int
  ns : List Nm
def in0 : Ino := ⟨false, 0, []⟩
/-- The inode at a place of a list. -/
def gn (T : List Ino) (k : Nat) : Ino := T.getD k in0
theorem gn_eq {T : List Ino} {k : Nat} (h : k < T.length) : gn T k = T[k] := by simp [gn, h]
theorem gn_out {T : List Ino} {k : Nat} (h : T.length ≤ k) : gn T k = in0 := by simp [gn, h]
/-- The inode that a name means. -/
abbrev tg (x : Nm) : Nat := x.fl.toNat
/-- The sum of the first values. -/
def sm : Nat → (Nat → Nat) → Nat
  | 0, _ => 0
  | n + 1, f => sm n f + f n
theorem sm_congr {n : Nat} {f g : Nat → Nat} (h : ∀ i, i < n → f i = g i) : sm n f = sm n g := by
  induction n with
  | zero => rfl
  | succ n ih => rw [sm, sm, ih (fun i hi => h i (by omega)), h n (by omega)]
theorem sm_add (n : Nat) (f g : Nat → Nat) : sm n (fun i => f i + g i) = sm n f + sm n g := by
  induction n with
  | zero => rfl
  | succ n ih => simp only [sm]; omega
theorem sm_zero {n : Nat} {f : Nat → Nat} (h : ∀ i, i < n → f i = 0) : sm n f = 0 := by
  induction n with
  | zero => rfl
  | succ n ih => rw [sm, ih (fun i hi => h i (by omega)), h n (by omega)]
theorem sm_head (n : Nat) (f : Nat → Nat) : sm (n + 1) f = f 0 + sm n (fun i => f (i + 1)) := by
  induction n with
  | zero => simp [sm]
  | succ n ih => rw [sm, ih, sm]; omega
theorem sm_one {n k : Nat} (h : k < n) (f : Nat → Nat) : sm n (fun i => (if k = i then 1 else 0) * f i) = f k := by
  induction n with
  | zero => omega
  | succ n ih =>
    rw [sm]
    by_cases e : k = n
    · subst e
      rw [sm_zero (fun i hi => by rw [if_neg (by omega)]; simp)]
      simp
    · rw [ih (by omega), if_neg e]; simp
theorem sm_le {n k : Nat} (h : k < n) (f : Nat → Nat) : f k ≤ sm n f := by
  induction n with
  | zero => omega
  | succ n ih =>
    rw [sm]
    by_cases e : k = n
    · subst e; omega
    · have := ih (by omega); omega
theorem sm_two {n j k : Nat} (hj : j < n) (hk : k < n) (h : j ≠ k) (f : Nat → Nat) : f j + f k ≤ sm n f := by
  induction n with
  | zero => omega
  | succ n ih =>
    rw [sm]
    by_cases e : k = n
    · subst e; have := sm_le (n := k) (k := j) (by omega) f; omega
    · by_cases e' : j = n
      · subst e'; have := sm_le (n := j) (k := k) (by omega) f; omega
      · have := ih (by omega) (by omega); omega
theorem sm_pos {n : Nat} {f : Nat → Nat} (h : 0 < sm n f) : ∃ i, i < n ∧ 0 < f i := by
  induction n with
  | zero => simp [sm] at h
  | succ n ih =>
    rw [sm] at h
    by_cases e : 0 < sm n f
    · obtain ⟨i, h1, h2⟩ := ih e; exact ⟨i, by omega, h2⟩
    · exact ⟨n, by omega, by omega⟩
theorem sm_mulr (n : Nat) (f : Nat → Nat) (a : Nat) : sm n (fun i => f i * a) = sm n f * a := by
  induction n with
  | zero => simp [sm]
  | succ n ih => rw [sm, sm, ih, Nat.add_mul]
/-- The sum over a list. -/
def ls {A : Type} (f : A → Nat) : List A → Nat
  | [] => 0
  | x :: l => f x + ls f l
theorem ls_append {A : Type} (f : A → Nat) (l m : List A) : ls f (l ++ m) = ls f l + ls f m := by
  induction l with
  | nil => simp [ls]
  | cons x l ih => simp only [List.cons_append, ls, ih]; omega
theorem ls_congr {A : Type} {f g : A → Nat} {l : List A} (h : ∀ x, x ∈ l → f x = g x) : ls f l = ls g l := by
  induction l with
  | nil => rfl
  | cons x l ih => rw [ls, ls, h x (by simp), ih (fun y hy => h y (by simp [hy]))]
theorem ls_pos {A : Type} {f : A → Nat} {l : List A} (h : 0 < ls f l) : ∃ x, x ∈ l ∧ 0 < f x := by
  induction l with
  | nil => simp [ls] at h
  | cons x l ih =>
    rw [ls] at h
    by_cases e : 0 < f x
    · exact ⟨x, by simp, e⟩
    · obtain ⟨y, h1, h2⟩ := ih (by omega); exact ⟨y, by simp [h1], h2⟩
theorem ls_le {A : Type} {f : A → Nat} {l : List A} {x : A} (h : x ∈ l) : f x ≤ ls f l := by
  induction l with
  | nil => simp at h
  | cons y l ih =>
    rw [ls]
    rcases List.mem_cons.1 h with e | e
    · subst e; omega
    · have := ih e; omega
theorem ls_sm {A : Type} (n : Nat) (g : A → Nat → Nat) (l : List A) : sm n (fun v => ls (fun x => g x v) l) = ls (fun x => sm n (g x)) l := by
  induction l with
  | nil => simp only [ls]; exact sm_zero (fun _ _ => rfl)
  | cons x l ih => simp only [ls]; rw [sm_add, ih]
theorem ls_mulr {A : Type} (f : A → Nat) (l : List A) (a : Nat) : ls f l * a = ls (fun x => f x * a) l := by
  induction l with
  | nil => simp [ls]
  | cons x l ih => rw [ls, ls, Nat.add_mul, ih]

/-- How often an inode names another one. -/
def cn (T : List Ino) (p y : Nat) : Nat := ls (fun x => if tg x = y then 1 else 0) (gn T p).ns
/-- How many ways of so many names lead from one to another, by directories. -/
def wy (T : List Ino) : Nat → Nat → Nat → Nat
  | 0, k, v => if k = v then 1 else 0
  | d + 1, k, v => ls (fun x => if (gn T (tg x)).dr then wy T d (tg x) v else 0) (gn T k).ns
/-- .. of so many at most. -/
def sw (T : List Ino) : Nat → Nat → Nat → Nat
  | 0, k, v => if k = v then 1 else 0
  | f + 1, k, v => (if k = v then 1 else 0) + ls (fun x => if (gn T (tg x)).dr then sw T f (tg x) v else 0) (gn T k).ns
/-- How often an inode is named from a directory on, so deep at most. -/
def nb (T : List Ino) : Nat → Nat → Nat → Nat
  | 0, k, y => cn T k y
  | f + 1, k, y => cn T k y + ls (fun x => if (gn T (tg x)).dr then nb T f (tg x) y else 0) (gn T k).ns
/-- No name lies too deep. -/
def dk (T : List Ino) : Nat → Nat → Prop
  | 0, k => (gn T k).ns = []
  | f + 1, k => ∀ x, x ∈ (gn T k).ns → (gn T (tg x)).dr = true → dk T f (tg x)
/-- How often an inode is named at all. -/
def tot (T : List Ino) (y : Nat) : Nat := sm T.length (fun p => cn T p y)
/-- The last of the first inodes that names one. -/
def upN (T : List Ino) : Nat → Nat → Nat
  | 0, _ => 0
  | m + 1, y => if 0 < cn T m y then m else upN T m y
def up (T : List Ino) (y : Nat) : Nat := upN T T.length y
/-- Climbing. -/
def cl (T : List Ino) : Nat → Nat → Nat
  | 0, y => y
  | d + 1, y => cl T d (up T y)
/-- Names mean inodes, and only directories have some. -/
def Sk (T : List Ino) : Prop := (∀ k, k < T.length → ∀ x, x ∈ (gn T k).ns → 1 ≤ tg x ∧ tg x < T.length) ∧ ∀ k, k < T.length → (gn T k).dr = true ∨ (gn T k).ns = []

theorem wy_names {T : List Ino} {k y : Nat} (h : 0 < cn T k y) : (gn T k).ns ≠ [] := by
  intro e; simp [cn, e, ls] at h
theorem cn_root {T : List Ino} (h : Sk T) {p : Nat} (hp : p < T.length) : cn T p 0 = 0 := by
  rcases Nat.eq_zero_or_pos (cn T p 0) with e | e
  · exact e
  · obtain ⟨x, h1, h2⟩ := ls_pos e
    have := (h.1 p hp x h1).1
    split at h2 <;> omega
theorem nb_eq {T : List Ino} (h : Sk T) (y : Nat) : ∀ f k, k < T.length → nb T f k y = sm T.length (fun v => sw T f k v * cn T v y) := by
  intro f
  induction f with
  | zero => intro k hk; rw [nb]; simp only [sw]; rw [sm_one hk]
  | succ f ih =>
    intro k hk
    rw [nb]
    simp only [sw, Nat.add_mul]
    rw [sm_add, sm_one hk]
    congr 1
    simp only [ls_mulr]
    rw [ls_sm]
    refine ls_congr fun x hx => ?_
    split
    · exact ih _ (h.1 k hk x hx).2
    · rw [sm_zero (fun i _ => by simp)]
theorem sw_eq {T : List Ino} (v : Nat) : ∀ f k, sw T f k v = sm (f + 1) (fun d => wy T d k v) := by
  intro f
  induction f with
  | zero => intro k; simp [sw, sm, wy]
  | succ f ih =>
    intro k
    rw [sw, sm_head]
    simp only [wy]
    congr 1
    rw [ls_sm]
    refine ls_congr fun x _ => ?_
    split
    · exact ih _
    · rw [sm_zero (fun _ _ => rfl)]
theorem wy_last {T : List Ino} (h : Sk T) {v : Nat} (hv : (gn T v).dr = true) : ∀ d k, k < T.length → wy T (d + 1) k v = sm T.length (fun p => wy T d k p * cn T p v) := by
  intro d
  induction d with
  | zero =>
    intro k hk
    simp only [wy]
    rw [sm_one hk]
    refine ls_congr fun x _ => ?_
    by_cases e : tg x = v
    · simp [e, hv]
    · simp [e]
  | succ d ih =>
    intro k hk
    rw [wy]
    simp only [wy, ls_mulr]
    rw [ls_sm]
    refine ls_congr fun x hx => ?_
    split
    · exact ih _ (h.1 k hk x hx).2
    · rw [sm_zero (fun i _ => by simp)]
theorem dk_eq {T : List Ino} (h : Sk T) : ∀ f k, k < T.length → (dk T f k ↔ ∀ v, v < T.length → 0 < wy T f k v → (gn T v).ns = []) := by
  intro f
  induction f with
  | zero =>
    intro k hk
    simp only [dk, wy]
    constructor
    · intro e v hv h1
      split at h1
      · rename_i e'; rw [← e']; exact e
      · omega
    · intro e; exact e k hk (by simp)
  | succ f ih =>
    intro k hk
    simp only [dk, wy]
    constructor
    · intro e v hv h1
      obtain ⟨x, h2, h3⟩ := ls_pos h1
      split at h3
      · rename_i e'
        exact (ih _ (h.1 k hk x h2).2).1 (e x h2 e') v hv h3
      · omega
    · intro e x hx hd
      refine (ih _ (h.1 k hk x hx).2).2 fun v hv h1 => e v hv ?_
      have := ls_le (f := fun x => if (gn T (tg x)).dr then wy T f (tg x) v else 0) hx
      simp only [hd, if_true] at this
      omega
theorem up_some {T : List Ino} {y : Nat} : ∀ m, (∃ p, p < m ∧ 0 < cn T p y) → upN T m y < m ∧ 0 < cn T (upN T m y) y := by
  intro m
  induction m with
  | zero => rintro ⟨p, hp, _⟩; omega
  | succ m ih =>
    rintro ⟨p, hp, h⟩
    rw [upN]
    split
    · exact ⟨by omega, by assumption⟩
    · have := ih ⟨p, by by_cases e : p = m; (· subst e; contradiction); (· omega), h⟩
      exact ⟨by omega, this.2⟩
theorem up_none {T : List Ino} {y : Nat} : ∀ m, (∀ p, p < m → cn T p y = 0) → upN T m y = 0 := by
  intro m
  induction m with
  | zero => intro _; rfl
  | succ m ih =>
    intro h
    rw [upN, if_neg (by rw [h m (by omega)]; omega)]
    exact ih fun p hp => h p (by omega)
theorem up_lt {T : List Ino} (h : 0 < T.length) (y : Nat) : up T y < T.length := by
  by_cases e : ∃ p, p < T.length ∧ 0 < cn T p y
  · exact (up_some _ e).1
  · unfold up; rw [up_none]
    · exact h
    · intro p hp
      rcases Nat.eq_zero_or_pos (cn T p y) with e' | e'
      · exact e'
      · exact absurd ⟨p, hp, e'⟩ e
/-- Where it is named once, it is named by the one above. -/
theorem cn_up {T : List Ino} {y : Nat} (h : tot T y = 1) : up T y < T.length ∧ ∀ p, p < T.length → cn T p y = if up T y = p then 1 else 0 := by
  have h' : sm T.length (fun p => cn T p y) = 1 := h
  obtain ⟨i, h1, h2⟩ := sm_pos (n := T.length) (f := fun p => cn T p y) (by omega)
  obtain ⟨u1, u2⟩ := up_some T.length ⟨i, h1, h2⟩
  refine ⟨u1, fun p hp => ?_⟩
  have hle := sm_le u1 (fun p => cn T p y)
  have u3 : up T y = upN T T.length y := rfl
  by_cases e : up T y = p
  · rw [if_pos e, ← e, u3]
    omega
  · rw [if_neg e]
    have := sm_two u1 hp (by rw [← u3]; exact e) (fun p => cn T p y)
    have t2 : cn T (upN T T.length y) y + cn T p y ≤ sm T.length (fun p => cn T p y) := this
    omega
theorem wy_root {T : List Ino} (h : Sk T) (h0 : 0 < T.length) (hd : (gn T 0).dr = true) (d : Nat) : wy T (d + 1) 0 0 = 0 := by
  rw [wy_last h hd d 0 h0]
  exact sm_zero fun i hi => by rw [cn_root h hi]; simp
/-- The counts of the specification and of the program. -/
def CS (T : List Ino) : Prop := dk T 8 0 ∧ (∀ y, y < T.length → (gn T y).dr = true → nb T 8 0 y ≤ 1) ∧ ∀ k, 0 < k → k < T.length → (gn T k).lk = nb T 8 0 k ∧ ((gn T k).dr = true → (gn T k).lk = 1)
def CI (T : List Ino) : Prop := (∀ k, 0 < k → k < T.length → (gn T k).lk = tot T k ∧ ((gn T k).dr = true → (gn T k).lk = 1)) ∧ ∀ j, j < T.length → (gn T j).ns ≠ [] → ∃ d, d < 8 ∧ cl T d j = 0
theorem counts {T : List Ino} (h : Sk T) (h0 : 0 < T.length) (hd : (gn T 0).dr = true) : CS T ↔ CI T := by
  have sroot : sw T 8 0 0 = 1 := by
    rw [sw_eq, sm_head, sm_zero (fun d _ => wy_root h h0 hd d)]
    simp [wy]
  constructor
  · rintro ⟨h1, h2, h3⟩
    have h4 := (dk_eq h 8 0 h0).1 h1
    have hone : ∀ v, 0 < v → v < T.length → (gn T v).dr = true → nb T 8 0 v = 1 := by
      intro v hv hl hdv
      obtain ⟨a, b⟩ := h3 v hv hl
      have := b hdv
      omega
    have hsw : ∀ v, v < T.length → (gn T v).dr = true → sw T 8 0 v = 1 := by
      intro v hl hdv
      by_cases e : v = 0
      · subst e; exact sroot
      · have e1 := hone v (by omega) hl hdv
        rw [nb_eq h v 8 0 h0] at e1
        have e2 : sm T.length (fun p => sw T 8 0 p * cn T p v) = sm 9 (fun d => wy T (d + 1) 0 v) := by
          have : ∀ d, wy T (d + 1) 0 v = sm T.length (fun p => wy T d 0 p * cn T p v) := fun d => wy_last h hdv d 0 h0
          simp only [this, sw_eq, sm]
          simp only [Nat.add_mul, sm_add]
          simp only [Nat.zero_mul, sm_zero (n := T.length) (f := fun _ => 0) (fun _ _ => rfl)]
        rw [e2] at e1
        have e3 : wy T 9 0 v = 0 := by
          rw [wy_last h hdv 8 0 h0]
          refine sm_zero fun p hp => ?_
          rcases Nat.eq_zero_or_pos (wy T 8 0 p) with e' | e'
          · rw [e']; simp
          · simp [cn, h4 p hp e', ls]
        rw [sw_eq, sm_head]
        have e4 : sm 9 (fun d => wy T (d + 1) 0 v) = sm 8 (fun d => wy T (d + 1) 0 v) + wy T 9 0 v := rfl
        have e5 : wy T 0 0 v = 0 := by simp [wy]; omega
        omega
    have htot : ∀ y, nb T 8 0 y = tot T y := by
      intro y
      rw [nb_eq h y 8 0 h0]
      refine sm_congr fun p hp => ?_
      rcases h.2 p hp with e | e
      · rw [hsw p hp e, Nat.one_mul]
      · simp [cn, e, ls]
    refine ⟨fun k hk hl => ?_, fun j hj hn => ?_⟩
    · rw [← htot]; exact h3 k hk hl
    · have hdj : (gn T j).dr = true := by rcases h.2 j hj with e | e; (· exact e); (· exact absurd e hn)
      have e1 := hsw j hj hdj
      rw [sw_eq] at e1
      obtain ⟨d, d1, d2⟩ := sm_pos (n := 9) (f := fun d => wy T d 0 j) (by show 0 < sm (8 + 1) _; rw [e1]; omega)
      have d8 : d ≠ 8 := fun e => hn (h4 j hj (by subst e; exact d2))
      refine ⟨d, by omega, ?_⟩
      have key : ∀ d j, j < T.length → (gn T j).dr = true → 0 < wy T d 0 j → cl T d j = 0 := by
        intro d
        induction d with
        | zero => intro j _ _ hw; simp only [wy] at hw; split at hw; (· rename_i e; exact e.symm); (· omega)
        | succ d ih =>
          intro j hj hdj hw
          by_cases ej : j = 0
          · subst ej; rw [wy_root h h0 hd] at hw; omega
          · rw [wy_last h hdj d 0 h0] at hw
            obtain ⟨p, p1, p2⟩ := sm_pos hw
            have hp2 : 0 < cn T p j := Nat.pos_of_ne_zero fun e => by rw [e] at p2; simp at p2
            have hp3 : 0 < wy T d 0 p := Nat.pos_of_ne_zero fun e => by rw [e] at p2; simp at p2
            have ht : tot T j = 1 := by rw [← htot]; exact hone j (by omega) hj hdj
            have := (cn_up ht).2 p p1
            rw [cl]
            have hup : up T j = p := by
              by_cases e : up T j = p
              · exact e
              · rw [if_neg e] at this; omega
            rw [hup]
            have hdp : (gn T p).dr = true := by rcases h.2 p p1 with e | e; (· exact e); (· exact absurd e (wy_names hp2))
            exact ih p p1 hdp hp3
      exact key d j hj hdj d2
  · rintro ⟨h1, h2⟩
    have htot : ∀ v, 0 < v → v < T.length → (gn T v).dr = true → tot T v = 1 := by
      intro v hv hl hdv
      obtain ⟨a, b⟩ := h1 v hv hl
      have := b hdv
      omega
    have hstep : ∀ v, 0 < v → v < T.length → (gn T v).dr = true → ∀ d, wy T (d + 1) 0 v = wy T d 0 (up T v) := by
      intro v hv hl hdv d
      obtain ⟨u1, u2⟩ := cn_up (htot v hv hl hdv)
      rw [wy_last h hdv d 0 h0, sm_congr (g := fun p => (if up T v = p then 1 else 0) * wy T d 0 p) (fun p hp => by rw [u2 p hp, Nat.mul_comm]), sm_one u1]
    have hup : ∀ v, 0 < v → v < T.length → (gn T v).dr = true → up T v < T.length ∧ (gn T (up T v)).dr = true ∧ (gn T (up T v)).ns ≠ [] := by
      intro v hv hl hdv
      obtain ⟨u1, u2⟩ := cn_up (htot v hv hl hdv)
      have hc : 0 < cn T (up T v) v := by rw [u2 _ u1]; simp
      have hn := wy_names hc
      refine ⟨u1, ?_, hn⟩
      rcases h.2 _ u1 with e | e
      · exact e
      · exact absurd e hn
    have key : ∀ m v, v < T.length → (gn T v).dr = true → cl T m v = 0 → ∃ d0, d0 ≤ m ∧ ∀ d, wy T d 0 v = if d = d0 then 1 else 0 := by
      intro m
      induction m with
      | zero =>
        intro v hl hdv hc
        have e : v = 0 := hc
        subst e
        refine ⟨0, Nat.le_refl _, fun d => ?_⟩
        cases d with
        | zero => simp [wy]
        | succ d => rw [wy_root h h0 hd]; simp
      | succ m ih =>
        intro v hl hdv hc
        by_cases e : v = 0
        · subst e
          refine ⟨0, Nat.zero_le _, fun d => ?_⟩
          cases d with
          | zero => simp [wy]
          | succ d => rw [wy_root h h0 hd]; simp
        · obtain ⟨u1, u2, u3⟩ := hup v (by omega) hl hdv
          obtain ⟨d0, g1, g2⟩ := ih (up T v) u1 u2 hc
          refine ⟨d0 + 1, by omega, fun d => ?_⟩
          cases d with
          | zero =>
            rw [if_neg (by omega)]
            simp only [wy]
            rw [if_neg (by omega)]
          | succ d => rw [hstep v (by omega) hl hdv, g2]; simp
    have hsw : ∀ v, v < T.length → (gn T v).ns ≠ [] → sw T 8 0 v = 1 ∧ wy T 8 0 v = 0 := by
      intro v hl hn
      have hdv : (gn T v).dr = true := by rcases h.2 v hl with e | e; (· exact e); (· exact absurd e hn)
      obtain ⟨m, m1, m2⟩ := h2 v hl hn
      obtain ⟨d0, g1, g2⟩ := key m v hl hdv m2
      refine ⟨?_, by rw [g2, if_neg (by omega)]⟩
      rw [sw_eq]
      have : sm 9 (fun d => (if d0 = d then 1 else 0) * 1) = 1 := sm_one (by omega) (fun _ => 1)
      refine Eq.trans ?_ this
      refine sm_congr fun d _ => ?_
      rw [g2]
      by_cases e : d = d0
      · subst e; simp
      · rw [if_neg e, if_neg (by omega)]
    have hnb : ∀ y, nb T 8 0 y = tot T y := by
      intro y
      rw [nb_eq h y 8 0 h0]
      refine sm_congr fun p hp => ?_
      by_cases e : (gn T p).ns = []
      · simp [cn, e, ls]
      · rw [(hsw p hp e).1, Nat.one_mul]
    refine ⟨(dk_eq h 8 0 h0).2 fun v hv hw => ?_, fun y hy hdy => ?_, fun k hk hl => ?_⟩
    · by_cases e : (gn T v).ns = []
      · exact e
      · have := (hsw v hv e).2; omega
    · rw [hnb]
      by_cases e : y = 0
      · subst e
        have : tot T 0 = 0 := sm_zero fun p hp => cn_root h hp
        omega
      · rw [htot y (by omega) hy hdy]; omega
    · rw [hnb]; exact h1 k hk hl
end Go.Proofs.Ythioomihpfmlmaa.Hd
