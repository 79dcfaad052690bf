import Derived.Test.YtggkpcgjmanelaaP1
/- Trees of keys, of no program: both ways to read a list of nodes tell the same. -/
namespace Go.Proofs.Ytggkpcgjmanelaa.Bt
set_option linter.unusedVariables false

theorem snoc_ind {α : Type} {P : List α → Prop} (h0 : P []) (h1 : ∀ xs x, P xs → P (xs ++ [x])) (l : List α) : P l := by
  have key : ∀ m : List α, P m.reverse := by
    intro m
    induction m with
    | nil => exact h0
    | cons x m ih => rw [List.reverse_cons]; exact h1 _ _ ih
  have := key l.reverse
  rwa [List.reverse_reverse] at this

/-- The specification reads nodes from the root down. -/
def rdK (g : Int → Option (Tr × Int)) : List Int → Int → Option (List Tr × Int)
  | [], first => some ([], first)
  | c :: cs, first => if c = first - 1 then (match g c with | none => none | some r => (rdK g cs r.2).map fun q => (q.1 ++ [r.1], q.2)) else none
def rd (N : List Nd) : Nat → Int → Option (Tr × Int)
  | 0, _ => none
  | f + 1, k =>
    if 0 ≤ k ∧ k < N.length then
      (if (N.getD k.toNat nd0).leaf then (if (N.getD k.toNat nd0).cs.length = 0 then some (⟨(N.getD k.toNat nd0).ks, []⟩, k) else none)
      else if (N.getD k.toNat nd0).cs.length = (N.getD k.toNat nd0).ks.length + 1 then
        (rdK (rd N f) (N.getD k.toNat nd0).cs.reverse k).map fun q => (⟨(N.getD k.toNat nd0).ks, q.1⟩, q.2)
      else none)
    else none
/-- What is read at a number: a node, and where it begins. -/
structure Rd (N : List Nd) (k : Int) (n : Tr) (first : Int) : Prop where
  nn : 0 ≤ first
  le : first ≤ k
  lt : k < N.length
  wf : Wf n
  eq : N.take (k.toNat + 1) = N.take first.toNat ++ tell n first.toNat
theorem rdK_sound {N : List Nd} {g : Int → Option (Tr × Int)} (hg : ∀ c r, g c = some r → Rd N c r.1 r.2) : ∀ (cs : List Int) (first : Int) (q : List Tr × Int), 0 ≤ first → first ≤ N.length → rdK g cs first = some q →
    0 ≤ q.2 ∧ q.2 ≤ first ∧ (∀ x, x ∈ q.1 → Wf x) ∧ N.take first.toNat = N.take q.2.toNat ++ (tellK q.2.toNat q.1).1 ∧ (tellK q.2.toNat q.1).2 = cs.reverse ∧ q.1.length = cs.length := by
  intro cs
  induction cs with
  | nil =>
    intro first q h0 h1 h
    simp only [rdK, Option.some.injEq] at h
    subst h
    exact ⟨h0, Int.le_refl _, by simp, by simp [tellK_nil], by simp [tellK_nil], rfl⟩
  | cons c cs ih =>
    intro first q h0 h1 h
    simp only [rdK] at h
    by_cases hc : c = first - 1
    · rw [if_pos hc] at h
      cases hgc : g c with
      | none => rw [hgc] at h; simp at h
      | some r =>
        rw [hgc] at h
        simp only [Option.map_eq_some_iff] at h
        obtain ⟨p, hp, rfl⟩ := h
        obtain ⟨a1, a2, a3, a4, a5⟩ := hg c r hgc
        obtain ⟨i1, i2, i3, i4, i5, i6⟩ := ih r.2 p a1 (by omega) hp
        have e1 : first.toNat = c.toNat + 1 := by omega
        have l1 : p.2.toNat + (tellK p.2.toNat p.1).1.length = r.2.toNat := by
          have := congrArg List.length i4
          simp only [List.length_append, List.length_take] at this
          omega
        have l2 : r.2.toNat + (tell r.1 r.2.toNat).length = first.toNat := by
          have := congrArg List.length a5
          simp only [List.length_append, List.length_take] at this
          omega
        refine ⟨i1, by simp only; omega, ?_, ?_, ?_, by simp [i6]⟩
        · intro x hx
          rcases List.mem_append.1 hx with hx | hx
          · exact i3 x hx
          · rw [List.mem_singleton.1 hx]; exact a4
        · simp only [tellK_snoc, l1]
          rw [e1, a5, i4, List.append_assoc]
        · simp only [tellK_snoc, l1, i5, l2, List.reverse_cons]
          congr 2
          omega
    · rw [if_neg hc] at h; simp at h
theorem rd_sound {N : List Nd} : ∀ (f : Nat) (k : Int) (r : Tr × Int), rd N f k = some r → Rd N k r.1 r.2 := by
  intro f
  induction f with
  | zero => intro k r h; simp [rd] at h
  | succ f ih =>
    intro k r h
    simp only [rd] at h
    by_cases hk : 0 ≤ k ∧ k < N.length
    · rw [if_pos hk] at h
      obtain ⟨hk0, hk1⟩ := hk
      have hget : N[k.toNat]? = some (N.getD k.toNat nd0) := by
        rw [List.getD_eq_getElem?_getD, List.getElem?_eq_getElem (by omega)]; rfl
      have htk : N.take (k.toNat + 1) = N.take k.toNat ++ [N.getD k.toNat nd0] := by rw [List.take_add_one, hget]; rfl
      generalize N.getD k.toNat nd0 = nd at h hget htk
      obtain ⟨leaf, ks, cs⟩ := nd
      simp only at h
      cases leaf with
      | true =>
        simp only [if_true] at h
        by_cases hc : cs.length = 0
        · rw [if_pos hc] at h
          simp only [Option.some.injEq] at h
          subst h
          have : cs = [] := List.eq_nil_of_length_eq_zero hc
          subst this
          exact ⟨hk0, Int.le_refl _, hk1, by rw [Wf_eq]; simp, by rw [htk, tell_eq]; simp [tellK_nil]⟩
        · rw [if_neg hc] at h; simp at h
      | false =>
        simp only [Bool.false_eq_true, if_false] at h
        by_cases hc : cs.length = ks.length + 1
        · rw [if_pos hc] at h
          simp only [Option.map_eq_some_iff] at h
          obtain ⟨q, hq, rfl⟩ := h
          obtain ⟨i1, i2, i3, i4, i5, i6⟩ := rdK_sound ih cs.reverse k q hk0 (by omega) hq
          have hne : q.1.isEmpty = false := by
            cases hq1 : q.1 with
            | nil => rw [hq1] at i6; simp at i6; omega
            | cons => rfl
          refine ⟨i1, i2, hk1, ?_, ?_⟩
          · rw [Wf_eq]; exact ⟨.inr (by rw [i6]; simpa using hc), i3⟩
          · rw [htk, tell_eq, i4, hne, i5]; simp
        · rw [if_neg hc] at h; simp at h
    · rw [if_neg hk] at h; simp at h
theorem rdK_complete {N : List Nd} {g : Int → Option (Tr × Int)} {C : Tr → Prop} (hg : ∀ x pre post, C x → N = pre ++ (tell x pre.length ++ post) → g (((pre.length + (tell x pre.length).length : Nat) : Int) - 1) = some (x, (pre.length : Int))) :
    ∀ (cs : List Tr) (pre post : List Nd), (∀ x, x ∈ cs → C x) → N = pre ++ ((tellK pre.length cs).1 ++ post) → rdK g (tellK pre.length cs).2.reverse ((pre.length + (tellK pre.length cs).1.length : Nat) : Int) = some (cs, (pre.length : Int)) := by
  intro cs
  refine snoc_ind (P := fun cs => ∀ (pre post : List Nd), (∀ x, x ∈ cs → C x) → N = pre ++ ((tellK pre.length cs).1 ++ post) → rdK g (tellK pre.length cs).2.reverse ((pre.length + (tellK pre.length cs).1.length : Nat) : Int) = some (cs, (pre.length : Int))) ?_ ?_ cs
  · intro pre post _ _
    simp [tellK_nil, rdK]
  · intro xs x ih pre post hC hN
    rw [tellK_snoc] at hN ⊢
    simp only [List.reverse_append, List.reverse_cons, List.reverse_nil, List.nil_append, List.singleton_append, List.length_append] at hN ⊢
    have e : ((pre ++ (tellK pre.length xs).1).length) = pre.length + (tellK pre.length xs).1.length := by simp
    have h1 := hg x (pre ++ (tellK pre.length xs).1) post (hC x (by simp)) (by rw [e, hN]; simp)
    rw [e] at h1
    rw [rdK, if_pos (by omega), h1]
    have h2 := ih pre (tell x (pre.length + (tellK pre.length xs).1.length) ++ post) (fun y hy => hC y (by simp [hy])) (by rw [hN]; simp)
    simp only
    rw [h2]
    rfl
theorem rd_complete {N : List Nd} : ∀ (h f : Nat) (root : Bool) (n : Tr) (pre post : List Nd), Ok root h n → h ≤ f → N = pre ++ (tell n pre.length ++ post) → rd N f (((pre.length + (tell n pre.length).length : Nat) : Int) - 1) = some (n, (pre.length : Int)) := by
  intro h
  induction h with
  | zero => intro f root n pre post hok; simp [Ok] at hok
  | succ h ih =>
    intro f root n pre post hok hf hN
    obtain ⟨ks, cs⟩ := n
    simp only [Ok] at hok
    obtain ⟨-, -, hc⟩ := hok
    obtain ⟨f, rfl⟩ : ∃ f', f = f' + 1 := ⟨f - 1, by omega⟩
    rw [tell_eq] at hN ⊢
    have ek : (((pre.length + ((tellK pre.length cs).1 ++ [(⟨cs.isEmpty, ks, (tellK pre.length cs).2⟩ : Nd)]).length : Nat) : Int) - 1) = ((pre.length + (tellK pre.length cs).1.length : Nat) : Int) := by simp; omega
    rw [ek]
    have hlt : pre.length + (tellK pre.length cs).1.length < N.length := by rw [hN]; simp
    have hget : N.getD (pre.length + (tellK pre.length cs).1.length) nd0 = ⟨cs.isEmpty, ks, (tellK pre.length cs).2⟩ := by
      rw [List.getD_eq_getElem?_getD, hN, List.getElem?_append_right (by omega)]
      simp
    simp only [rd]
    rw [if_pos ⟨by omega, by omega⟩]
    simp only [Int.toNat_natCast, hget]
    rcases hc with ⟨rfl, -⟩ | ⟨hl, hk⟩
    · simp [tellK_nil]
    · have hne : cs.isEmpty = false := by cases cs <;> simp at hl ⊢
      rw [hne, if_neg (by simp), if_pos (by rw [tellK_length]; exact hl)]
      rw [rdK_complete (C := Ok false h) (fun x pre post hx hN => ih f false x pre post hx (by omega) hN) cs pre ([⟨cs.isEmpty, ks, (tellK pre.length cs).2⟩] ++ post) hk (by rw [hN]; simp)]
      rfl
end Go.Proofs.Ytggkpcgjmanelaa.Bt
