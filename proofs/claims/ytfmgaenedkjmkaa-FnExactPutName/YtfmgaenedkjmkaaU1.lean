import Derived.Test.YtfmgaenedkjmkaaP4
/- Directories that differ in the numbers of their buckets alone, of no program. -/
namespace Go.Proofs.Ytfmgaenedkjmkaa.Hd
set_option linter.unusedVariables false

/-- Buckets stand in the order of their first slots, and there are no others. -/
def Cn (d : Dr) : Prop := (∀ i, i < d.sl.length → 0 ≤ gi d.sl i ∧ gi d.sl i ≤ sn d.sl i) ∧ sn d.sl d.sl.length = d.bs.length
/-- Two directories that differ in the numbers of their buckets alone. -/
def Sm (d e : Dr) : Prop := d.dp = e.dp ∧ d.sl.length = e.sl.length ∧ (∀ i j, i < d.sl.length → j < d.sl.length → (gi d.sl i = gi d.sl j ↔ gi e.sl i = gi e.sl j)) ∧ ∀ i, i < d.sl.length → gb d.bs (gi d.sl i).toNat = gb e.bs (gi e.sl i).toNat
theorem Sm.refl (d : Dr) : Sm d d := ⟨rfl, rfl, fun _ _ _ _ => Iff.rfl, fun _ _ => rfl⟩
theorem Sm.symm {d e : Dr} (h : Sm d e) : Sm e d := ⟨h.1.symm, h.2.1.symm, fun i j hi hj => (h.2.2.1 i j (by rw [h.2.1]; exact hi) (by rw [h.2.1]; exact hj)).symm, fun i hi => (h.2.2.2 i (by rw [h.2.1]; exact hi)).symm⟩
theorem Sm.trans {d e f : Dr} (h : Sm d e) (k : Sm e f) : Sm d f := ⟨h.1.trans k.1, h.2.1.trans k.2.1, fun i j hi hj => (h.2.2.1 i j hi hj).trans (k.2.2.1 i j (by rw [← h.2.1]; exact hi) (by rw [← h.2.1]; exact hj)), fun i hi => (h.2.2.2 i hi).trans (k.2.2.2 i (by rw [← h.2.1]; exact hi))⟩
theorem GS.cn {d : Dr} (h : GS d) : Cn d := ⟨fun i hi => ⟨(h.2.2.1 i hi).1, (h.2.2.1 i hi).2.2.1⟩, h.2.2.2.2⟩
/-- What lies ahead of a slot is less than the number met there. -/
theorem Cn.ahead {d : Dr} (h : Cn d) {i j : Nat} (hi : i ≤ d.sl.length) (hj : j < i) : gi d.sl j < (sn d.sl i : Int) := by
  have h1 := (h.1 j (by omega)).2
  have h2 := sn_mono d.sl (i := j + 1) (j := i) hj
  by_cases e : gi d.sl j = (sn d.sl j : Int)
  · rw [sn, if_pos e] at h2; omega
  · have := sn_mono d.sl (i := j) (j := i) (by omega); omega
theorem Sm.slots {d e : Dr} (h : Sm d e) (hd : Cn d) (he : Cn e) : ∀ n, n ≤ d.sl.length → sn d.sl n = sn e.sl n ∧ ∀ i, i < n → gi d.sl i = gi e.sl i := by
  intro n
  induction n with
  | zero => intro _; exact ⟨rfl, fun i hi => absurd hi (by omega)⟩
  | succ n ih =>
    intro hn
    obtain ⟨i1, i2⟩ := ih (by omega)
    have hl := h.2.1
    have key : ∀ {a b : Dr}, Cn a → Cn b → n < a.sl.length → n < b.sl.length → sn a.sl n = sn b.sl n → (∀ i, i < n → gi a.sl i = gi b.sl i) → (∀ i, i < n → (gi a.sl i = gi a.sl n → gi b.sl i = gi b.sl n)) → gi a.sl n < (sn a.sl n : Int) → gi a.sl n = gi b.sl n := by
      intro a b ha hb q1 q2 e1 e2 hr hlt
      obtain ⟨h0, -⟩ := ha.1 n q1
      obtain ⟨f, f1, f2⟩ := fst_ex a.sl n (gi a.sl n).toNat (by omega)
      have f3 : gi a.sl f = gi a.sl n := by rw [f2.1]; omega
      rw [← f3, e2 f f1]
      exact hr f f1 f3
    have hEq : gi d.sl n = gi e.sl n := by
      have d1 := (hd.1 n (by omega)).2
      have e1 := (he.1 n (by omega)).2
      by_cases q : gi d.sl n < (sn d.sl n : Int)
      · exact key hd he (by omega) (by omega) i1 i2 (fun i hi => (h.2.2.1 i n (by omega) (by omega)).1) q
      · by_cases q' : gi e.sl n < (sn e.sl n : Int)
        · exact (key he hd (by omega) (by omega) i1.symm (fun i hi => (i2 i hi).symm) (fun i hi => (h.2.2.1 i n (by omega) (by omega)).2) q').symm
        · omega
    refine ⟨?_, fun i hi => ?_⟩
    · rw [sn, sn, hEq, i1]
    · rcases Nat.lt_succ_iff_lt_or_eq.1 hi with h' | h'
      · exact i2 i h'
      · rw [h']; exact hEq
/-- In their order they are one. -/
theorem Sm.eq {d e : Dr} (h : Sm d e) (hd : Cn d) (he : Cn e) : d = e := by
  obtain ⟨h1, h2⟩ := h.slots hd he d.sl.length (Nat.le_refl _)
  have hl := h.2.1
  have hS : d.sl = e.sl := by
    refine List.ext_getElem hl fun i p q => ?_
    have := h2 i p
    rw [gi_eq p, gi_eq q] at this
    exact this
  have hB : d.bs.length = e.bs.length := by rw [← hd.2, ← he.2, h1, hl]
  have hbs : d.bs = e.bs := by
    refine List.ext_getElem hB fun k p q => ?_
    obtain ⟨f, f1, f2⟩ := fst_ex d.sl d.sl.length k (by rw [hd.2]; exact p)
    have := h.2.2.2 f f1
    rw [← h2 f f1, f2.1] at this
    simp only [Int.toNat_natCast] at this
    rw [gb_eq p, gb_eq q] at this
    exact this
  have hp := h.1
  cases d; cases e
  simp only at hS hbs hp
  subst hS hbs hp
  rfl
end Go.Proofs.Ytfmgaenedkjmkaa.Hd
