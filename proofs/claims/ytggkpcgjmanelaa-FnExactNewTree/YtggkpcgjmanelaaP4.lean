import Derived.Test.YtggkpcgjmanelaaP3
/- Trees of keys, of no program: how many keys; both readings are one. -/
namespace Go.Proofs.Ytggkpcgjmanelaa.Bt
set_option linter.unusedVariables false

theorem flatK_append (xs ys : List Tr) : ∀ ks, flatK (xs ++ ys) ks = flatK xs ks ++ flatK ys (ks.drop xs.length) := by
  induction xs with
  | nil => intro ks; simp [flatK_nil]
  | cons x xs ih =>
    intro ks
    simp only [List.cons_append, flatK_cons, ih, List.append_assoc, List.length_cons, List.drop_drop]
    rw [Nat.add_comm 1]
theorem flatK_take_len (cs : List Tr) (ks : List Int) (k : Nat) : (flatK (cs.take k) ks).length ≤ (flatK cs ks).length := by
  conv => rhs; rw [← List.take_append_drop k cs, flatK_append]
  simp
/-- The sum of the keys of kids. -/
def fsum (cs : List Tr) : Nat := (cs.map fun x => (flat x).length).sum
theorem fsum_cons (x : Tr) (xs : List Tr) : fsum (x :: xs) = (flat x).length + fsum xs := by simp [fsum]
theorem fsum_nil : fsum [] = 0 := rfl
theorem flatK_len {cs : List Tr} : ∀ {ks : List Int}, ks.length ≤ cs.length → (flatK cs ks).length = fsum cs + ks.length := by
  induction cs with
  | nil => intro ks h; have : ks = [] := List.eq_nil_of_length_eq_zero (by simpa using h); subst this; rfl
  | cons x xs ih =>
    intro ks h
    rw [flatK_cons, fsum_cons]
    cases ks with
    | nil => have := ih (ks := []) (by simp); simp at this ⊢; omega
    | cons k ks =>
      have := ih (ks := ks) (by simpa using h)
      simp only [List.take_succ_cons, List.take_zero, List.drop_succ_cons, List.drop_zero, List.length_append, List.length_cons, List.length_nil]
      omega
theorem flat_len {ks : List Int} {cs : List Tr} (h : cs = [] ∨ cs.length = ks.length + 1) : (flat ⟨ks, cs⟩).length = fsum cs + ks.length := by
  rw [flat_eq]
  by_cases hz : cs = []
  · subst hz; simp [fsum_nil]
  · have : cs.isEmpty = false := by cases cs <;> simp_all
    rw [this]
    exact flatK_len (by rcases h with h | h; exact absurd h hz; omega)
theorem fsum_le {cs : List Tr} {x : Tr} (h : x ∈ cs) : (flat x).length ≤ fsum cs := by
  induction cs with
  | nil => simp at h
  | cons y ys ih =>
    rw [fsum_cons]
    rcases List.mem_cons.1 h with rfl | h
    · omega
    · have := ih h; omega
theorem fsum_ge {cs : List Tr} {m : Nat} (h : ∀ x, x ∈ cs → m ≤ (flat x).length) : cs.length * m ≤ fsum cs := by
  induction cs with
  | nil => simp
  | cons y ys ih =>
    rw [fsum_cons, List.length_cons, Nat.add_mul]
    have := ih (fun x hx => h x (by simp [hx]))
    have := h y (by simp)
    omega
/-- How many keys nodes have. -/
def ksum (N : List Nd) : Nat := (N.map fun x => x.ks.length).sum
theorem ksum_app (a b : List Nd) : ksum (a ++ b) = ksum a + ksum b := by simp [ksum]
theorem tell_ksum (n : Tr) : Wf n → ∀ o, ksum (tell n o) = (flat n).length := by
  refine Tr.ind (P := fun n => Wf n → ∀ o, ksum (tell n o) = (flat n).length) ?_ n
  intro ks cs ih hw o
  rw [Wf_eq] at hw
  rw [tell_eq, ksum_app, flat_len hw.1]
  have key : ∀ (ys : List Tr) o, (∀ x, x ∈ ys → x ∈ cs) → ksum (tellK o ys).1 = fsum ys := by
    intro ys
    induction ys with
    | nil => intro o _; rfl
    | cons y ys ihy =>
      intro o hm
      rw [tellK_cons, fsum_cons]
      simp only
      rw [ksum_app, ih y (hm y (by simp)) (hw.2 y (hm y (by simp))), ihy _ (fun x hx => hm x (by simp [hx]))]
  rw [key cs o (fun x hx => hx)]
  simp [ksum]
theorem Rd.len {N : List Nd} {k : Int} {n : Tr} {first : Int} (h : Rd N k n first) : (flat n).length ≤ ksum N := by
  rw [← tell_ksum n h.wf first.toNat]
  have e : ksum N = ksum (N.take (k.toNat + 1)) + ksum (N.drop (k.toNat + 1)) := by rw [← ksum_app, List.take_append_drop]
  rw [e, h.eq, ksum_app]
  omega
/-- A right node has many keys for its depth. -/
theorem Ok.many : ∀ {h : Nat} {n : Tr}, Ok false h n → 2 ^ h ≤ (flat n).length := by
  intro h
  induction h with
  | zero => intro n hn; simp [Ok] at hn
  | succ h ih =>
    intro n hn
    obtain ⟨ks, cs⟩ := n
    have hw := hn.wf
    rw [Wf_eq] at hw
    rw [flat_len hw.1]
    simp only [Ok, lo, Bool.false_eq_true, if_false] at hn
    obtain ⟨h1, -, hc⟩ := hn
    rcases hc with ⟨rfl, rfl⟩ | ⟨h2, h3⟩
    · simp; omega
    · have := fsum_ge (cs := cs) (m := 2 ^ h) (fun x hx => ih (h3 x hx))
      have h4 : 2 * 2 ^ h ≤ cs.length * 2 ^ h := Nat.mul_le_mul_right _ (by omega)
      rw [Nat.pow_succ]
      omega
theorem Ok.low {h : Nat} {n : Tr} (hn : Ok true h n) (hl : (flat n).length ≤ 200) : h ≤ 20 := by
  obtain ⟨ks, cs⟩ := n
  cases h with
  | zero => omega
  | succ h =>
    have hw := hn.wf
    rw [Wf_eq] at hw
    rw [flat_len hw.1] at hl
    simp only [Ok, lo, if_true] at hn
    obtain ⟨h1, -, hc⟩ := hn
    rcases hc with ⟨rfl, rfl⟩ | ⟨h2, h3⟩
    · omega
    · have := fsum_ge (cs := cs) (m := 2 ^ h) (fun x hx => (h3 x hx).many)
      have h4 : 1 * 2 ^ h ≤ cs.length * 2 ^ h := Nat.mul_le_mul_right _ (by omega)
      by_cases hh : h ≤ 19
      · omega
      · have h5 : 2 ^ 19 ≤ 2 ^ h := Nat.pow_le_pow_right (by omega) (by omega)
        omega
/-- How many nodes. -/
theorem Cn.few (n : Tr) : Cn false n → ∀ o, 2 * (tell n o).length ≤ (flat n).length := by
  refine Tr.ind (P := fun n => Cn false n → ∀ o, 2 * (tell n o).length ≤ (flat n).length) ?_ n
  intro ks cs ih hw o
  rw [Cn_eq] at hw
  obtain ⟨h1, h2, h3, h4⟩ := hw
  simp only [lo, Bool.false_eq_true, if_false] at h1
  rw [tell_eq, flat_len h3]
  have key : ∀ (ys : List Tr) o, (∀ x, x ∈ ys → x ∈ cs) → 2 * (tellK o ys).1.length ≤ fsum ys := by
    intro ys
    induction ys with
    | nil => intro o _; simp [tellK_nil]
    | cons y ys ihy =>
      intro o hm
      rw [tellK_cons, fsum_cons]
      simp only [List.length_append]
      have := ih y (hm y (by simp)) (h4 y (hm y (by simp))) o
      have := ihy (o + (tell y o).length) (fun x hx => hm x (by simp [hx]))
      omega
  have := key cs o (fun x hx => hx)
  simp only [List.length_append, List.length_cons, List.length_nil]
  omega
theorem Cn.few_root {n : Tr} (h : Cn true n) (hl : (flat n).length ≤ 200) : (tell n 0).length ≤ 101 := by
  obtain ⟨ks, cs⟩ := n
  rw [Cn_eq] at h
  obtain ⟨h1, h2, h3, h4⟩ := h
  rw [flat_len h3] at hl
  rw [tell_eq]
  have key : ∀ (ys : List Tr) o, (∀ x, x ∈ ys → x ∈ cs) → 2 * (tellK o ys).1.length ≤ fsum ys := by
    intro ys
    induction ys with
    | nil => intro o _; simp [tellK_nil]
    | cons y ys ihy =>
      intro o hm
      rw [tellK_cons, fsum_cons]
      simp only [List.length_append]
      have := Cn.few y (h4 y (hm y (by simp))) o
      have := ihy (o + (tell y o).length) (fun x hx => hm x (by simp [hx]))
      omega
  have := key cs 0 (fun x hx => hx)
  simp only [List.length_append, List.length_cons, List.length_nil]
  omega
/-- These nodes are this good tree. -/
def Is (N : List Nd) (root : Int) (n : Tr) : Prop := N = tell n 0 ∧ root = (N.length : Int) - 1 ∧ Gd n
/-- The specification's reading: a node is read, and its number is the root's. -/
theorem spec_is {N : List Nd} {root : Int} {n : Tr} : (root = (N.length : Int) - 1 ∧ rd N 20 root = some (n, 0) ∧ dp n true ≠ 0 ∧ Ris (flat n) ∧ (flat n).length ≤ 200) ↔ Is N root n := by
  constructor
  · rintro ⟨h1, h2, h3, h4, h5⟩
    have r := rd_sound 20 root (n, 0) h2
    have hN : N = tell n 0 := by
      have e := r.eq
      simp only [Int.toNat_zero, List.take_zero, List.nil_append] at e
      have hl := r.lt
      have hle := r.le
      rw [List.take_of_length_le (by simp only at hle; omega)] at e
      exact e
    exact ⟨hN, h1, ⟨_, (dp_ok n r.wf true (dp n true)).1 ⟨rfl, h3⟩⟩, h4, h5⟩
  · rintro ⟨h1, h2, ⟨h, hok⟩, h4, h5⟩
    refine ⟨h2, ?_, ?_, h4, h5⟩
    · have := rd_complete (N := N) h 20 true n [] [] hok (hok.low h5) (by simpa using h1)
      simp only [List.length_nil, Nat.zero_add] at this
      rw [h2]
      have e : ((N.length : Int) - 1) = (((tell n 0).length : Nat) : Int) - 1 := by rw [← h1]
      rw [e, this]
      rfl
    · have := (dp_ok n hok.wf true h).2 hok
      rw [this.1]; exact this.2
/-- The program's reading. -/
theorem impl_is {N : List Nd} {root : Int} {n : Tr} : (N.length ≤ 101 ∧ link root N 0 [] = some [(root, n)] ∧ Ris (flat n) ∧ (flat n).length ≤ 200 ∧ (dI n).2 = true) ↔ Is N root n := by
  constructor
  · rintro ⟨h1, h2, h4, h5, h6⟩
    have hne : N ≠ [] := by rintro rfl; simp [link] at h2
    have hlast : root = ((([] : List Nd).length + N.length : Nat) : Int) - 1 := by
      -- the last node pushed bears the last number
      have key : ∀ (r : List Nd) (i : Nat) (st s : List (Int × Tr)), r ≠ [] → link root r i st = some s → ∃ s' t, s = s' ++ [(((i + r.length : Nat) : Int) - 1, t)] := by
        intro r
        induction r with
        | nil => intro i st s h; exact absurd rfl h
        | cons nd r ih =>
          intro i st s _ h
          rw [link] at h
          cases hs : stp root i nd st with
          | none => rw [hs] at h; simp at h
          | some t =>
            rw [hs] at h
            simp only at h
            by_cases hz : r = []
            · subst hz
              simp only [link, Option.some.injEq] at h
              subst h
              unfold stp at hs
              split at hs
              · split at hs
                · simp only [Option.some.injEq] at hs
                  have e : ((i : Nat) : Int) = ((i + [nd].length : Nat) : Int) - 1 := by simp
                  rw [e] at hs
                  exact ⟨_, _, hs.symm⟩
                · simp at hs
              · simp at hs
            · obtain ⟨s', t', e⟩ := ih (i + 1) t s hz h
              refine ⟨s', t', ?_⟩
              rw [e]
              congr 3
              simp only [List.length_cons]
              omega
      obtain ⟨s', t, e⟩ := key N 0 [] _ hne h2
      cases s' with
      | nil =>
        simp only [List.nil_append, List.cons.injEq, Prod.mk.injEq, and_true] at e
        rw [e.1]
        simp
      | cons x s' => simp at e
    obtain ⟨o1, st', m, e, hm, -⟩ := link_sound N [] [] _ ⟨rfl, rfl⟩ (by simp) hlast hne h2
    have e' : st' = [] ∧ m = n := by
      cases st' with
      | nil => simp at e; exact ⟨rfl, e.symm⟩
      | cons x s' => simp at e
    obtain ⟨rfl, rfl⟩ := e'
    refine ⟨?_, by simpa using hlast, ⟨(dI m).1, (dI_ok m true (dI m).1 hm).1 (Prod.ext rfl h6)⟩, h4, h5⟩
    have := o1.1
    simp only [List.nil_append, List.map_cons, List.map_nil, tellK_cons, tellK_nil, List.append_nil] at this
    exact this
  · rintro ⟨h1, h2, ⟨h, hok⟩, h4, h5⟩
    have hlen : ((N.length : Nat) : Int) = (((tell n 0).length : Nat) : Int) := by rw [← h1]
    refine ⟨by rw [h1]; exact hok.cn.few_root h5, ?_, h4, h5, ?_⟩
    · have := link_complete (root := root) n 0 [] (by simp only [Nat.zero_add]; omega) (by
        have : decide (((0 + (tell n 0).length : Nat) : Int) - 1 = root) = true := by simp only [Nat.zero_add]; exact decide_eq_true (by omega)
        rw [this]; exact hok.cn)
      rw [← h1] at this
      rw [this]
      simp only [Nat.zero_add, List.nil_append, Option.some.injEq, List.cons.injEq, Prod.mk.injEq, and_true]
      omega
    · rw [(dI_ok n true h hok.cn).2 hok]
theorem Is.uniq {N : List Nd} {root : Int} {n m : Tr} (a : Is N root n) (b : Is N root m) : n = m := by
  have h1 := (spec_is.2 a).2.1
  have h2 := (spec_is.2 b).2.1
  rw [h1] at h2
  simpa using h2
end Go.Proofs.Ytggkpcgjmanelaa.Bt
