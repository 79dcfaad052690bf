import Derived.Test.YtggkpcgjmanelaaP2
/- Trees of keys, of no program: nodes linked from the first one on. -/
namespace Go.Proofs.Ytggkpcgjmanelaa.Bt
set_option linter.unusedVariables false

/-- Whether a node has right counts. -/
def cnt (nd : Nd) (root : Bool) : Bool := decide (lo root nd.leaf ≤ nd.ks.length) && (decide (nd.ks.length ≤ 5) && decide (nd.cs.length = if nd.leaf then 0 else nd.ks.length + 1))
/-- All nodes have right counts. -/
def Cn : Bool → Tr → Prop
  | root, ⟨ks, cs⟩ => lo root cs.isEmpty ≤ ks.length ∧ ks.length ≤ 5 ∧ (cs = [] ∨ cs.length = ks.length + 1) ∧ ∀ x, x ∈ cs → Cn false x
theorem Cn_eq (root : Bool) (ks : List Int) (cs : List Tr) : Cn root ⟨ks, cs⟩ = (lo root cs.isEmpty ≤ ks.length ∧ ks.length ≤ 5 ∧ (cs = [] ∨ cs.length = ks.length + 1) ∧ ∀ x, x ∈ cs → Cn false x) := by
  rw [Cn]
theorem Ok.cn {n : Tr} : ∀ {root : Bool} {h : Nat}, Ok root h n → Cn root n := by
  refine Tr.ind (P := fun n => ∀ {root : Bool} {h : Nat}, Ok root h n → Cn root n) ?_ n
  intro ks cs ih root h hok
  rw [Cn_eq]
  cases h with
  | zero => simp [Ok] at hok
  | succ h =>
    simp only [Ok] at hok
    obtain ⟨h1, h2, hc⟩ := hok
    rcases hc with ⟨rfl, -⟩ | ⟨h3, h4⟩
    · exact ⟨h1, h2, .inl rfl, by simp⟩
    · exact ⟨h1, h2, .inr h3, fun x hx => ih x hx (h4 x hx)⟩
/-- Depth, and whether all leaves are as deep. -/
def dIL : List (Nat × Bool) → Nat → Nat → Bool → Nat × Bool
  | [], _, deep, ev => (deep + 1, ev)
  | x :: r, i, deep, ev => dIL r (i + 1) (max deep x.1) (ev && (x.2 && (decide (i = 0) || decide (x.1 = deep))))
def dI : Tr → Nat × Bool
  | ⟨ks, cs⟩ => dIL (cs.map dI) 0 0 true
theorem dI_eq (ks : List Int) (cs : List Tr) : dI ⟨ks, cs⟩ = dIL (cs.map dI) 0 0 true := by rw [dI]
theorem dIL_false (xs : List (Nat × Bool)) : ∀ i deep, (dIL xs i deep false).2 = false := by
  induction xs with
  | nil => intro i deep; rfl
  | cons x xs ih => intro i deep; rw [dIL]; exact ih _ _
theorem dIL_some {xs : List (Nat × Bool)} : ∀ {i deep h : Nat} {ev : Bool}, dIL xs (i + 1) deep ev = (h + 1, true) ↔ ev = true ∧ h = deep ∧ ∀ x, x ∈ xs → x = (deep, true) := by
  induction xs with
  | nil =>
    intro i deep h ev
    simp only [dIL, Prod.mk.injEq, List.not_mem_nil, false_implies, implies_true, and_true]
    constructor
    · rintro ⟨a, b⟩; exact ⟨b, by omega⟩
    · rintro ⟨a, b⟩; exact ⟨by omega, a⟩
  | cons x xs ih =>
    intro i deep h ev
    obtain ⟨d, ok⟩ := x
    rw [dIL]
    by_cases hx : ev = true ∧ ok = true ∧ d = deep
    · obtain ⟨rfl, rfl, rfl⟩ := hx
      simp only [Nat.max_self]
      rw [ih]
      simp
    · have e : (ev && (ok && (decide (i + 1 = 0) || decide (d = deep)))) = false := by
        cases ev <;> cases ok <;> simp_all
      simp only [e]
      constructor
      · intro hh
        have := dIL_false xs (i + 1 + 1) (max deep d)
        rw [hh] at this
        simp at this
      · rintro ⟨a, b, c⟩
        have := c (d, ok) (by simp)
        simp only [Prod.mk.injEq] at this
        exact absurd ⟨a, this.2, this.1⟩ hx
theorem dIL_true {xs : List (Nat × Bool)} {h : Nat} : dIL xs 0 0 true = (h + 1, true) ↔ (xs = [] ∧ h = 0) ∨ (xs ≠ [] ∧ ∀ x, x ∈ xs → x = (h, true)) := by
  cases xs with
  | nil => simp [dIL]
  | cons x xs =>
    obtain ⟨d, ok⟩ := x
    rw [dIL]
    simp only [Nat.zero_max, decide_true, Bool.true_or, Bool.and_true, Bool.true_and]
    rw [dIL_some]
    simp only [reduceCtorEq, false_and, false_or, ne_eq, not_false_eq_true, true_and, List.mem_cons, forall_eq_or_imp, Prod.mk.injEq]
    constructor
    · rintro ⟨rfl, rfl, c⟩; exact ⟨⟨rfl, rfl⟩, c⟩
    · rintro ⟨⟨rfl, rfl⟩, c⟩; exact ⟨rfl, rfl, c⟩
theorem dI_ok (n : Tr) : ∀ root h, Cn root n → (dI n = (h, true) ↔ Ok root h n) := by
  refine Tr.ind (P := fun n => ∀ root h, Cn root n → (dI n = (h, true) ↔ Ok root h n)) ?_ n
  intro ks cs ih root h hw
  rw [Cn_eq] at hw
  obtain ⟨h1, h2, hc, hk⟩ := hw
  cases h with
  | zero =>
    simp only [Ok, iff_false]
    rw [dI_eq]
    have : ∀ (xs : List (Nat × Bool)) i d e, 1 ≤ (dIL xs i d e).1 := by
      intro xs
      induction xs with
      | nil => intro i d e; simp [dIL]
      | cons x xs ih => intro i d e; rw [dIL]; exact ih _ _ _
    intro he
    have := this (cs.map dI) 0 0 true
    rw [he] at this
    simp at this
  | succ h =>
    rw [dI_eq, dIL_true]
    simp only [Ok, h1, h2, true_and]
    by_cases hz : cs = []
    · subst hz; simp
    · have hl : cs.length = ks.length + 1 := by rcases hc with h | h; exact absurd h hz; exact h
      simp only [List.map_eq_nil_iff, hz, false_and, false_or, ne_eq, not_false_eq_true, true_and, hl, List.mem_map, forall_exists_index, and_imp, forall_apply_eq_imp_iff₂]
      constructor
      · intro b x hx; exact (ih x hx false h (hk x hx)).1 (b x hx)
      · intro b x hx; exact (ih x hx false h (hk x hx)).2 (b x hx)

/-- One node more, on top of those that nobody has yet. -/
def stp (root : Int) (i : Nat) (nd : Nd) (st : List (Int × Tr)) : Option (List (Int × Tr)) :=
  if cnt nd (decide ((i : Int) = root)) = true ∧ nd.cs.length ≤ st.length then
    (if (st.drop (st.length - nd.cs.length)).map (·.1) = nd.cs then some (st.take (st.length - nd.cs.length) ++ [((i : Int), ⟨nd.ks, (st.drop (st.length - nd.cs.length)).map (·.2)⟩)]) else none)
  else none
def link (root : Int) : List Nd → Nat → List (Int × Tr) → Option (List (Int × Tr))
  | [], _, st => some st
  | nd :: r, i, st => match stp root i nd st with | none => none | some s => link root r (i + 1) s
/-- What is open lies as it was told. -/
def Opn (P : List Nd) (st : List (Int × Tr)) : Prop := P = (tellK 0 (st.map (·.2))).1 ∧ st.map (·.1) = (tellK 0 (st.map (·.2))).2
theorem tellK_append (xs ys : List Tr) : ∀ o, tellK o (xs ++ ys) = ((tellK o xs).1 ++ (tellK (o + (tellK o xs).1.length) ys).1, (tellK o xs).2 ++ (tellK (o + (tellK o xs).1.length) ys).2) := by
  induction xs with
  | nil => intro o; simp [tellK_nil]
  | cons y xs ih =>
    intro o
    simp only [List.cons_append, tellK_cons, ih, List.length_append, List.append_assoc, Nat.add_assoc]
theorem stp_sound {root : Int} {P : List Nd} {nd : Nd} {st s : List (Int × Tr)} (ho : Opn P st) (hc : ∀ x, x ∈ st → Cn false x.2) (h : stp root P.length nd st = some s) :
    Opn (P ++ [nd]) s ∧ ∃ st' n, s = st' ++ [((P.length : Int), n)] ∧ Cn (decide ((P.length : Int) = root)) n ∧ ∀ x, x ∈ st' → Cn false x.2 := by
  unfold stp at h
  by_cases h1 : cnt nd (decide ((P.length : Int) = root)) = true ∧ nd.cs.length ≤ st.length
  · rw [if_pos h1] at h
    obtain ⟨hcn, hle⟩ := h1
    generalize hm : st.length - nd.cs.length = m at h
    obtain ⟨A, B, rfl, hA⟩ : ∃ A B, st = A ++ B ∧ A.length = m := ⟨st.take m, st.drop m, (List.take_append_drop m st).symm, by simp; omega⟩
    have eT : (A ++ B).take m = A := by rw [← hA]; simp
    have eD : (A ++ B).drop m = B := by rw [← hA]; simp
    rw [eT, eD] at h
    by_cases h2 : B.map (·.1) = nd.cs
    · rw [if_pos h2] at h
      simp only [Option.some.injEq] at h
      subst h
      obtain ⟨o1, o2⟩ := ho
      simp only [List.map_append] at o1 o2
      rw [tellK_append] at o1 o2
      simp only [Nat.zero_add] at o1 o2
      have hlen : (A.map (·.1)).length = (tellK 0 (A.map (·.2))).2.length := by rw [tellK_length]; simp
      obtain ⟨o3, o4⟩ := List.append_inj o2 hlen
      obtain ⟨leaf, ks, cs⟩ := nd
      simp only at h2 hcn
      simp only [cnt, Bool.and_eq_true, decide_eq_true_eq] at hcn
      obtain ⟨c1, c2, c3⟩ := hcn
      have hBl : B.length = cs.length := by rw [← h2]; simp
      have hle : (B.map (·.2)).isEmpty = leaf := by
        cases leaf with
        | true => simp only [if_true] at c3; have : B = [] := List.eq_nil_of_length_eq_zero (by omega); subst this; rfl
        | false => simp only [Bool.false_eq_true, if_false] at c3; cases B with
          | nil => simp at hBl; omega
          | cons => rfl
      refine ⟨⟨?_, ?_⟩, A, _, rfl, ?_, fun x hx => hc x (by simp [hx])⟩
      · simp only [List.map_append, List.map_cons, List.map_nil]
        rw [tellK_snoc]
        simp only [Nat.zero_add]
        rw [tell_eq, hle, ← o4, h2, o1]
        simp
      · simp only [List.map_append, List.map_cons, List.map_nil]
        rw [tellK_snoc]
        simp only [Nat.zero_add]
        rw [tell_eq, ← o3]
        congr 2
        have := congrArg List.length o1
        simp only [List.length_append] at this
        simp only [List.length_append, List.length_cons, List.length_nil]
        omega
      · rw [Cn_eq, hle]
        refine ⟨c1, c2, ?_, ?_⟩
        · cases leaf with
          | true => simp only [if_true] at c3; left; simp; exact List.eq_nil_of_length_eq_zero (by omega)
          | false => simp only [Bool.false_eq_true, if_false] at c3; right; simp; omega
        · intro x hx
          obtain ⟨y, hy, rfl⟩ := List.mem_map.1 hx
          exact hc y (by simp [hy])
    · rw [if_neg h2] at h; simp at h
  · rw [if_neg h1] at h; simp at h
/-- Soundness up to the last node. -/
theorem link_sound {root : Int} : ∀ (r : List Nd) (P : List Nd) (st s : List (Int × Tr)), Opn P st → (∀ x, x ∈ st → Cn false x.2) → root = ((P.length + r.length : Nat) : Int) - 1 → r ≠ [] → link root r P.length st = some s →
    Opn (P ++ r) s ∧ ∃ st' n, s = st' ++ [(root, n)] ∧ Cn true n ∧ ∀ x, x ∈ st' → Cn false x.2 := by
  intro r
  induction r with
  | nil => intro P st s _ _ _ h; exact absurd rfl h
  | cons nd r ih =>
    intro P st s ho hc hr _ h
    rw [link] at h
    cases hs : stp root P.length nd st with
    | none => rw [hs] at h; simp at h
    | some t =>
      rw [hs] at h
      simp only at h
      obtain ⟨o1, st', n, rfl, hn, hst⟩ := stp_sound ho hc hs
      by_cases hz : r = []
      · subst hz
        simp only [link, Option.some.injEq] at h
        subst h
        have e : ((P.length : Int) = root) := by simp at hr; omega
        rw [decide_eq_true e] at hn
        exact ⟨o1, st', n, by rw [e], hn, hst⟩
      · have e : ¬ ((P.length : Int) = root) := by
          have : 0 < r.length := List.length_pos_iff.2 hz
          simp at hr; omega
        rw [decide_eq_false e] at hn
        have := ih (P ++ [nd]) _ s o1 (by
          intro x hx
          rcases List.mem_append.1 hx with hx | hx
          · exact hst x hx
          · rw [List.mem_singleton.1 hx]; exact hn) (by simp at hr ⊢; omega) hz (by simpa using h)
        simpa using this
theorem link_append (root : Int) : ∀ (a b : List Nd) (i : Nat) (st : List (Int × Tr)), link root (a ++ b) i st = match link root a i st with | none => none | some s => link root b (i + a.length) s := by
  intro a
  induction a with
  | nil => intro b i st; simp [link]
  | cons x a ih =>
    intro b i st
    simp only [List.cons_append, link]
    cases stp root i x st with
    | none => rfl
    | some s =>
      simp only
      rw [ih]
      simp only [List.length_cons]
      rw [show i + 1 + a.length = i + (a.length + 1) by omega]
theorem link_complete {root : Int} (n : Tr) : ∀ (o : Nat) (st : List (Int × Tr)), ((o + (tell n o).length : Nat) : Int) - 1 ≤ root → Cn (decide (((o + (tell n o).length : Nat) : Int) - 1 = root)) n →
    link root (tell n o) o st = some (st ++ [(((o + (tell n o).length : Nat) : Int) - 1, n)]) := by
  refine Tr.ind (P := fun n => ∀ (o : Nat) (st : List (Int × Tr)), ((o + (tell n o).length : Nat) : Int) - 1 ≤ root → Cn (decide (((o + (tell n o).length : Nat) : Int) - 1 = root)) n →
    link root (tell n o) o st = some (st ++ [(((o + (tell n o).length : Nat) : Int) - 1, n)])) ?_ n
  intro ks cs ih o st hle hcn
  rw [Cn_eq] at hcn
  obtain ⟨c1, c2, c3, c4⟩ := hcn
  have kids : ∀ (ys : List Tr) (o : Nat) (st : List (Int × Tr)), (∀ x, x ∈ ys → x ∈ cs) → ((o + (tellK o ys).1.length : Nat) : Int) ≤ root → link root (tellK o ys).1 o st = some (st ++ (tellK o ys).2.zip ys) := by
    intro ys
    induction ys with
    | nil => intro o st _ _; simp [tellK_nil, link]
    | cons y ys ihy =>
      intro o st hm hr
      rw [tellK_cons] at hr ⊢
      simp only [List.length_append] at hr ⊢
      rw [link_append, ih y (hm y (by simp)) o st (by omega) (by rw [decide_eq_false (by omega)]; exact c4 y (hm y (by simp)))]
      simp only
      rw [ihy (o + (tell y o).length) _ (fun x hx => hm x (by simp [hx])) (by omega)]
      simp
  rw [tell_eq] at hle c1 ⊢
  simp only [List.length_append, List.length_cons, List.length_nil] at hle c1 ⊢
  rw [link_append, kids cs o st (fun x hx => hx) (by omega)]
  simp only [link]
  have hz : ((tellK o cs).2.zip cs).length = cs.length := by simp [tellK_length]
  have hstp : stp root (o + (tellK o cs).1.length) ⟨cs.isEmpty, ks, (tellK o cs).2⟩ (st ++ (tellK o cs).2.zip cs) = some (st ++ [(((o + (tellK o cs).1.length : Nat) : Int), ⟨ks, cs⟩)]) := by
    have e1 : (st ++ (tellK o cs).2.zip cs).length - (tellK o cs).2.length = st.length := by rw [List.length_append, hz, tellK_length]; omega
    have e3 : ((tellK o cs).2.zip cs).map (·.1) = (tellK o cs).2 := List.map_fst_zip (by rw [tellK_length]; exact Nat.le_refl _)
    have e4 : ((tellK o cs).2.zip cs).map (·.2) = cs := List.map_snd_zip (by rw [tellK_length]; exact Nat.le_refl _)
    unfold stp
    simp only [e1, List.drop_left, List.take_left, e3, e4, if_true]
    rw [if_pos]
    refine ⟨?_, by rw [List.length_append, hz, tellK_length]; omega⟩
    simp only [cnt, Bool.and_eq_true, decide_eq_true_eq]
    refine ⟨?_, c2, ?_⟩
    · have : decide (((o + (tellK o cs).1.length : Nat) : Int) = root) = decide (((o + ((tellK o cs).1.length + (0 + 1)) : Nat) : Int) - 1 = root) := by
        congr 1
        apply propext
        constructor <;> intro h <;> omega
      rw [this]; exact c1
    · rw [tellK_length]
      rcases c3 with rfl | c3
      · simp
      · have : cs.isEmpty = false := by cases cs <;> simp at c3 ⊢
        rw [this]; simpa using c3
  rw [hstp]
  simp only [Option.some.injEq]
  congr 2
  simp only [Prod.mk.injEq, and_true]
  omega
end Go.Proofs.Ytggkpcgjmanelaa.Bt
