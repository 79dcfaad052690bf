import Derived.Test.YtggkpcgjmanelaaP4
/- Trees of keys, of no program: what is linked. -/
namespace Go.Proofs.Ytggkpcgjmanelaa.Bt
set_option linter.unusedVariables false

theorem Cn.wf (n : Tr) : ∀ {root : Bool}, Cn root n → Wf n := by
  refine Tr.ind (P := fun n => ∀ {root : Bool}, Cn root n → Wf n) ?_ n
  intro ks cs ih root h
  rw [Cn_eq] at h
  rw [Wf_eq]
  exact ⟨h.2.2.1, fun x hx => ih x hx (h.2.2.2 x hx)⟩
theorem link_tree {N : List Nd} {root : Int} {n : Tr} (h2 : link root N 0 [] = some [(root, n)]) : N = tell n 0 ∧ Cn true n := by
  have hne : N ≠ [] := by rintro rfl; simp [link] at h2
  have hlast : root = ((([] : List Nd).length + N.length : Nat) : Int) - 1 := by
    -- the last node pushed bears the last number
    have key : ∀ (r : List Nd) (i : Nat) (st s : List (Int × Tr)), r ≠ [] → link root r i st = some s → ∃ s' t, s = s' ++ [(((i + r.length : Nat) : Int) - 1, t)] := by
      intro r
      induction r with
      | nil => intro i st s h; exact absurd rfl h
      | cons nd r ih =>
        intro i st s _ h
        rw [link] at h
        cases hs : stp root i nd st with
        | none => rw [hs] at h; simp at h
        | some t =>
          rw [hs] at h
          simp only at h
          by_cases hz : r = []
          · subst hz
            simp only [link, Option.some.injEq] at h
            subst h
            unfold stp at hs
            split at hs
            · split at hs
              · simp only [Option.some.injEq] at hs
                have e : ((i : Nat) : Int) = ((i + [nd].length : Nat) : Int) - 1 := by simp
                rw [e] at hs
                exact ⟨_, _, hs.symm⟩
              · simp at hs
            · simp at hs
          · obtain ⟨s', t', e⟩ := ih (i + 1) t s hz h
            refine ⟨s', t', ?_⟩
            rw [e]
            congr 3
            simp only [List.length_cons]
            omega
    obtain ⟨s', t, e⟩ := key N 0 [] _ hne h2
    cases s' with
    | nil =>
      simp only [List.nil_append, List.cons.injEq, Prod.mk.injEq, and_true] at e
      rw [e.1]
      simp
    | cons x s' => simp at e
  obtain ⟨o1, st', m, e, hm, -⟩ := link_sound N [] [] _ ⟨rfl, rfl⟩ (by simp) hlast hne h2
  have e' : st' = [] ∧ m = n := by
    cases st' with
    | nil => simp at e; exact ⟨rfl, e.symm⟩
    | cons x s' => simp at e
  obtain ⟨rfl, rfl⟩ := e'
  refine ⟨?_, hm⟩
  have := o1.1
  simp only [List.nil_append, List.map_cons, List.map_nil, tellK_cons, tellK_nil, List.append_nil] at this
  exact this
theorem link_len {N : List Nd} {root : Int} {n : Tr} (h2 : link root N 0 [] = some [(root, n)]) : Wf n ∧ (flat n).length = ksum N := by
  obtain ⟨h, hc⟩ := link_tree h2
  exact ⟨hc.wf, by rw [h, tell_ksum n hc.wf]⟩
end Go.Proofs.Ytggkpcgjmanelaa.Bt
