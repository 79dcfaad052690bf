import Derived.Test.YtfmgaenedkjmkaaU1
/- A directory as its slots see it, of no program. -/
namespace Go.Proofs.Ytfmgaenedkjmkaa.Hd
set_option linter.unusedVariables false

/-- The bucket that a slot means. -/
def vb (d : Dr) (i : Nat) : Bk := gb d.bs (gi d.sl i).toNat
/-- Two slots mean one bucket just where their lowest bits tell so. -/
def Rl (d : Dr) : Prop := ∀ i j, i < d.sl.length → j < d.sl.length → (gi d.sl i = gi d.sl j ↔ low i (vb d i).dp.toNat = low j (vb d i).dp.toNat)
/-- What slots see is good. -/
def GV (dp : Int) (n : Nat) (B : Nat → Bk) : Prop :=
  0 ≤ dp ∧ dp ≤ 8 ∧ n = 2 ^ dp.toNat ∧ ∀ i, i < n → 0 ≤ (B i).dp ∧ (B i).dp ≤ dp ∧ (B i).ns.length ≤ 4 ∧ (∀ t, t < (B i).ns.length → nmI (B i).dp.toNat (low i (B i).dp.toNat) (B i).ns t) ∧ ∀ j, j < n → low i (B i).dp.toNat = low j (B i).dp.toNat → B j = B i
theorem Cn.lt {d : Dr} (h : Cn d) {i : Nat} (hi : i < d.sl.length) : gi d.sl i < (d.bs.length : Int) := by rw [← h.2]; exact h.ahead (Nat.le_refl _) hi
theorem GS.rl {d : Dr} (h : GS d) : Rl d := by
  intro i j hi hj
  rcases Nat.lt_trichotomy i j with e | e | e
  · have := ((h.2.2.1 j hj).2.2.2.2.2 i e).2
    exact this.trans ⟨Eq.symm, Eq.symm⟩
  · subst e; exact ⟨fun _ => rfl, fun _ => rfl⟩
  · have := ((h.2.2.1 i hi).2.2.2.2.2 j e).1
    exact (show gi d.sl i = gi d.sl j ↔ gi d.sl j = gi d.sl i from ⟨Eq.symm, Eq.symm⟩).trans this
theorem gs_view {d : Dr} : GS d ↔ GV d.dp d.sl.length (vb d) ∧ Rl d ∧ Cn d := by
  constructor
  · intro h
    have hR := h.rl
    have hC := h.cn
    obtain ⟨⟨h1, h2, h3⟩, h4, h5, h6, h7⟩ := h
    refine ⟨⟨h1, h2, h3, fun i hi => ?_⟩, hR, hC⟩
    have s := h5 i hi
    obtain ⟨k, hk⟩ : ∃ k : Nat, gi d.sl i = (k : Int) := ⟨_, (Int.toNat_of_nonneg s.1).symm⟩
    have hv : vb d i = gb d.bs k := by unfold vb; rw [hk]; rfl
    have q1 : 0 ≤ (vb d i).dp := s.2.2.2.1
    have q2 : (vb d i).dp ≤ d.dp := s.2.2.2.2.1
    have b := h6 k (by have := s.2.1; omega)
    refine ⟨q1, q2, by rw [hv]; exact b.2, fun t ht => ?_, fun j hj e => ?_⟩
    · rw [hv] at ht
      obtain ⟨b1, b2, b3, b4⟩ := b.1 t ht
      have hs : low (nh (gm (gb d.bs k).ns t).nm) d.dp.toNat < d.sl.length := by rw [h3]; exact low_lt _ _
      have := (hR i _ hi hs).1 (by rw [b4, hk])
      rw [low_low (by omega), hv] at this
      rw [hv]
      exact ⟨b1, b2, this.symm, b3⟩
    · have := (hR i j hi hj).2 e
      unfold vb
      rw [this]
  · rintro ⟨⟨h1, h2, h3, h4⟩, hR, hC⟩
    refine ⟨⟨h1, h2, h3⟩, by rw [← hC.2]; exact sn_le _ _, fun i hi => ?_, fun k hk => ?_, hC.2⟩
    · obtain ⟨q1, q2, -, -, -⟩ := h4 i hi
      refine ⟨(hC.1 i hi).1, hC.lt hi, (hC.1 i hi).2, q1, q2, fun j hj => ⟨?_, ?_⟩⟩
      · exact (show gi d.sl j = gi d.sl i ↔ gi d.sl i = gi d.sl j from ⟨Eq.symm, Eq.symm⟩).trans (hR i j hi (by omega))
      · exact (hR j i (by omega) hi).trans ⟨Eq.symm, Eq.symm⟩
    · obtain ⟨f, f1, f2, -⟩ := fst_ex d.sl d.sl.length k (by rw [hC.2]; exact hk)
      have hv : vb d f = gb d.bs k := by unfold vb; rw [f2]; rfl
      obtain ⟨q1, q2, q3, q4, -⟩ := h4 f f1
      rw [hv] at q1 q2 q3 q4
      refine ⟨fun t ht => ?_, q3⟩
      obtain ⟨b1, b2, b3, b4⟩ := q4 t ht
      have hs : low (nh (gm (gb d.bs k).ns t).nm) d.dp.toNat < d.sl.length := by rw [h3]; exact low_lt _ _
      refine ⟨b1, b2, b4, ?_⟩
      rw [← f2]
      refine ((hR f _ f1 hs).2 ?_).symm
      rw [hv, low_low (by omega), b3]
/-- Seen alike, and told apart by their bits: but for numbers they are one. -/
theorem sm_of {d e : Dr} (hp : d.dp = e.dp) (hl : d.sl.length = e.sl.length) (hd : Rl d) (he : Rl e) (hv : ∀ i, i < d.sl.length → vb d i = vb e i) : Sm d e :=
  ⟨hp, hl, fun i j hi hj => by rw [hd i j hi hj, he i j (by omega) (by omega), hv i hi], hv⟩
theorem view_eq {d e : Dr} (hp : d.dp = e.dp) (hl : d.sl.length = e.sl.length) (hd : Rl d) (he : Rl e) (hv : ∀ i, i < d.sl.length → vb d i = vb e i) (cd : Cn d) (ce : Cn e) : d = e := (sm_of hp hl hd he hv).eq cd ce
end Go.Proofs.Ytfmgaenedkjmkaa.Hd
