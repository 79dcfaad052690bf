import Derived.Test.YtfmgaenedkjmkaaU4
/- A bucket cut as the program cuts it, of no program. -/
namespace Go.Proofs.Ytfmgaenedkjmkaa.Hd
set_option linter.unusedVariables false

theorem gi_range {n i : Nat} (f : Nat → Int) (h : i < n) : gi ((List.range n).map f) i = f i := by simp [gi, h]
/-- The first slot of a bucket is its place. -/
theorem first_is {d : Dr} (h : GS d) {i q k : Nat} (hi : i < d.sl.length) (hk : gi d.sl i = (k : Int)) (hq : (vb d i).dp = (q : Int)) : gi d.sl (low i q) = (k : Int) ∧ sn d.sl (low i q) = k := by
  obtain ⟨g, r, c⟩ := gs_view.1 h
  have hle := low_le i q
  have hv : (vb d i).dp.toNat = q := by omega
  have e1 : gi d.sl i = gi d.sl (low i q) := (r i _ hi (by omega)).2 (by rw [hv, low_low (Nat.le_refl _)])
  refine ⟨by rw [← e1, hk], ?_⟩
  have hc := (c.1 (low i q) (by omega)).2
  rw [← e1, hk] at hc
  by_cases z : sn d.sl (low i q) = k
  · exact z
  · exfalso
    obtain ⟨f, f1, f2, f3⟩ := fst_ex d.sl (low i q) k (by omega)
    have := (r i f hi (by omega)).1 (by rw [hk, f2])
    rw [hv] at this
    have := low_le f q
    omega
/-- The slots behind a cut: u the upper half's place, c the number that comes. -/
def cuS (S : List Int) (q u c : Nat) : List Int := (List.range S.length).map fun i => if low i (q + 1) = u then (c : Int) else if (c : Int) ≤ gi S i then gi S i + 1 else gi S i
def cuB (L : List Bk) (k c : Nat) (lo hi : Bk) : List Bk := (L.take c ++ [hi] ++ L.drop c).set k lo
/-- The directory with a bucket cut. -/
def cuI (d : Dr) (k q p : Nat) : Dr := ⟨d.dp, cuS d.sl q (p + 2 ^ q) (sn d.sl (p + 2 ^ q)), cuB d.bs k (sn d.sl (p + 2 ^ q)) ⟨((q + 1 : Nat) : Int), hf (q + 1) p (gb d.bs k).ns⟩ ⟨((q + 1 : Nat) : Int), hf (q + 1) (p + 2 ^ q) (gb d.bs k).ns⟩⟩
theorem cuB_len {L : List Bk} {k c : Nat} {lo hi : Bk} (hc : c ≤ L.length) : (cuB L k c lo hi).length = L.length + 1 := by simp [cuB]; omega
theorem cuB_at {L : List Bk} {k c : Nat} {lo hi : Bk} (hc : c ≤ L.length) (hk : k < c) (i : Nat) : gb (cuB L k c lo hi) i = if i = k then lo else if i < c then gb L i else if i = c then hi else gb L (i - 1) := by
  unfold cuB gb
  simp only [List.getD_eq_getElem?_getD]
  by_cases e : i = k
  · subst e
    rw [if_pos rfl, List.getElem?_set_self (by simp; omega)]
    rfl
  · rw [if_neg e, List.getElem?_set_ne (by omega)]
    by_cases e1 : i < c
    · rw [if_pos e1, List.append_assoc, List.getElem?_append_left (by simp; omega), List.getElem?_take_of_lt e1]
    · rw [if_neg e1]
      by_cases e2 : i = c
      · subst e2
        rw [if_pos rfl, List.append_assoc, List.getElem?_append_right (by simp; omega)]
        simp [Nat.min_eq_left hc]
      · rw [if_neg e2, List.getElem?_append_right (by simp; omega)]
        simp only [List.length_append, List.length_take, List.length_singleton, Nat.min_eq_left hc, List.getElem?_drop]
        rw [show c + (i - (c + 1)) = i - 1 by omega]
/-- A bucket that can be cut: that of a slot, with its depth and its place. -/
structure CutAt (d : Dr) (i0 k q p : Nat) : Prop where
  h : GS d
  hi0 : i0 < d.sl.length
  hk : gi d.sl i0 = (k : Int)
  hq : (vb d i0).dp = (q : Int)
  hlt : (q : Int) < d.dp
  hp : low i0 q = p
theorem cut_u {d : Dr} {i0 k q p : Nat} (C : CutAt d i0 k q p) : p < 2 ^ q ∧ p + 2 ^ q < d.sl.length ∧ k < sn d.sl (p + 2 ^ q) ∧ low (p + 2 ^ q) (q + 1) = p + 2 ^ q ∧ low (p + 2 ^ q) q = p ∧ sn d.sl (p + 2 ^ q) ≤ d.bs.length := by
  obtain ⟨h, hi0, hk, hq, hlt, hp⟩ := C
  have h1 : p < 2 ^ q := by rw [← hp]; exact low_lt _ _
  have h2 : 2 ^ (q + 1) ≤ 2 ^ d.dp.toNat := Nat.pow_le_pow_right (by omega) (by omega)
  rw [Nat.pow_succ] at h2
  have h3 : d.sl.length = 2 ^ d.dp.toNat := h.1.2.2
  obtain ⟨f1, f2⟩ := first_is h hi0 hk hq
  rw [hp] at f1 f2
  have h5 : sn d.sl (p + 1) = k + 1 := by rw [sn, f1, f2, if_pos rfl]
  have h6 := sn_mono d.sl (i := p + 1) (j := p + 2 ^ q) (by omega)
  have h7 := sn_mono d.sl (i := p + 2 ^ q) (j := d.sl.length) (by omega)
  rw [h.2.2.2.2] at h7
  refine ⟨h1, by omega, by omega, Nat.mod_eq_of_lt (by rw [Nat.pow_succ]; omega), ?_, h7⟩
  show (p + 2 ^ q) % 2 ^ q = p
  rw [Nat.add_mod_right, Nat.mod_eq_of_lt h1]
theorem cut_in {d : Dr} {i0 k q p : Nat} (C : CutAt d i0 k q p) (i : Nat) (hi : i < d.sl.length) : gi d.sl i = (k : Int) ↔ low i q = p := by
  obtain ⟨h, hi0, hk, hq, hlt, hp⟩ := C
  have := h.rl i0 i hi0 hi
  have hv : (vb d i0).dp.toNat = q := by omega
  rw [hk, hv, hp] at this
  exact ⟨fun e => (this.1 e.symm).symm, fun e => (this.2 e.symm).symm⟩
theorem cut_up {d : Dr} {i0 k q p : Nat} (C : CutAt d i0 k q p) (i : Nat) (e : low i (q + 1) = p + 2 ^ q) : low i q = p := by
  rw [← low_low (n := i) (Nat.le_succ q), e]
  exact (cut_u C).2.2.2.2.1
theorem cut_gi {d : Dr} {i0 k q p : Nat} (C : CutAt d i0 k q p) (i : Nat) (hi : i < d.sl.length) : gi (cuI d k q p).sl i = if low i (q + 1) = p + 2 ^ q then (sn d.sl (p + 2 ^ q) : Int) else if (sn d.sl (p + 2 ^ q) : Int) ≤ gi d.sl i then gi d.sl i + 1 else gi d.sl i := by
  unfold cuI cuS
  rw [gi_range _ hi]
theorem cut_vb {d : Dr} {i0 k q p : Nat} (C : CutAt d i0 k q p) (i : Nat) (hi : i < d.sl.length) : vb (cuI d k q p) i = vC (vb d) q p (gb d.bs k).ns i := by
  obtain ⟨u1, u2, u3, u4, u5, u6⟩ := cut_u C
  have hin := cut_in C i hi
  have h0 := (C.h.2.2.1 i hi).1
  have hg := cut_gi C i hi
  have hb : ∀ j, gb (cuI d k q p).bs j = _ := fun j => cuB_at u6 u3 j
  unfold vb
  rw [hb]
  by_cases a : low i (q + 1) = p + 2 ^ q
  · rw [if_pos a] at hg
    rw [hg, vC_in (cut_up C i a), a]
    simp only [Int.toNat_natCast]
    rw [if_neg (by omega), if_neg (by omega), if_pos trivial]
  · rw [if_neg a] at hg
    by_cases e : low i q = p
    · have ek := hin.2 e
      rw [if_neg (by omega), ek] at hg
      rw [hg, vC_in e]
      simp only [Int.toNat_natCast]
      rw [if_pos trivial]
      rcases low_two i q with z | z
      · rw [z, e]
      · rw [e] at z; exact absurd z a
    · have ek : ¬ gi d.sl i = (k : Int) := fun x => e (hin.1 x)
      rw [vC_out e]
      by_cases z : (sn d.sl (p + 2 ^ q) : Int) ≤ gi d.sl i
      · rw [if_pos z] at hg
        rw [hg, if_neg (by omega), if_neg (by omega), if_neg (by omega)]
        rw [show (gi d.sl i + 1).toNat - 1 = (gi d.sl i).toNat by omega]
      · rw [if_neg z] at hg
        rw [hg, if_neg (by omega), if_pos (by omega)]
theorem cut_rl {d : Dr} {i0 k q p : Nat} (C : CutAt d i0 k q p) : Rl (cuI d k q p) := by
  obtain ⟨u1, u2, u3, u4, u5, u6⟩ := cut_u C
  have hl : (cuI d k q p).sl.length = d.sl.length := by simp [cuI, cuS]
  intro i j hi hj
  rw [hl] at hi hj
  rw [cut_vb C i hi, cut_gi C i hi, cut_gi C j hj]
  have hini := cut_in C i hi
  have hinj := cut_in C j hj
  have hR := C.h.rl i j hi hj
  have hupj := cut_up C j
  by_cases e : low i q = p
  · rw [vC_in e]
    simp only [Int.toNat_natCast]
    by_cases a : low i (q + 1) = p + 2 ^ q
    · rw [if_pos a]
      by_cases b : low j (q + 1) = p + 2 ^ q
      · rw [if_pos b]; exact ⟨fun _ => a.trans b.symm, fun _ => rfl⟩
      · rw [if_neg b]
        refine ⟨fun x => ?_, fun x => absurd (x.symm.trans a) b⟩
        split at x <;> omega
    · have ek := hini.2 e
      have ai : low i (q + 1) = p := by
        rcases low_two i q with z | z
        · rw [z, e]
        · rw [e] at z; exact absurd z a
      rw [if_neg a, ek, if_neg (by omega), ai]
      by_cases b : low j (q + 1) = p + 2 ^ q
      · rw [if_pos b]
        refine ⟨fun x => by omega, fun x => ?_⟩
        have := Nat.two_pow_pos q
        omega
      · rw [if_neg b]
        constructor
        · intro x
          have ej : gi d.sl j = (k : Int) := by split at x <;> omega
          rcases low_two j q with z | z
          · rw [z]; exact (hinj.1 ej).symm
          · rw [hinj.1 ej] at z; exact absurd z b
        · intro x
          have ej := hinj.2 (by rw [← low_low (n := j) (Nat.le_succ q), ← x]; exact Nat.mod_eq_of_lt u1)
          rw [ej, if_neg (by omega)]
  · have ek : ¬ gi d.sl i = (k : Int) := fun x => e (hini.1 x)
    have a : ¬ low i (q + 1) = p + 2 ^ q := fun x => e (cut_up C i x)
    rw [vC_out e, if_neg a, ← hR]
    by_cases b : low j (q + 1) = p + 2 ^ q
    · rw [if_pos b]
      have ej := hinj.2 (hupj b)
      refine ⟨fun x => ?_, fun x => absurd (x.trans ej) ek⟩
      split at x <;> omega
    · rw [if_neg b]
      constructor
      · intro x; split at x <;> split at x <;> omega
      · intro x; rw [x]
theorem cut_cn {d : Dr} {i0 k q p : Nat} (C : CutAt d i0 k q p) : Cn (cuI d k q p) := by
  obtain ⟨u1, u2, u3, u4, u5, u6⟩ := cut_u C
  have hl : (cuI d k q p).sl.length = d.sl.length := by simp [cuI, cuS]
  have hc := C.h.cn
  have hub : ∀ i, low i (q + 1) = p + 2 ^ q → p + 2 ^ q ≤ i := fun i e => by have := low_le i (q + 1); omega
  have key : ∀ i, i ≤ d.sl.length → sn (cuI d k q p).sl i = if i ≤ p + 2 ^ q then sn d.sl i else sn d.sl i + 1 := by
    intro i
    induction i with
    | zero => intro _; simp [sn]
    | succ i ih =>
      intro hi
      have hlt' := hc.ahead (i := i + 1) hi (Nat.lt_succ_self i)
      have hle := (hc.1 i (by omega)).2
      have hin := cut_in C i (by omega)
      rw [sn, ih (by omega), cut_gi C i (by omega)]
      have hs : sn d.sl (i + 1) = if gi d.sl i = (sn d.sl i : Int) then sn d.sl i + 1 else sn d.sl i := by rw [sn]
      rcases Nat.lt_trichotomy i (p + 2 ^ q) with e | e | e
      · have a : ¬ low i (q + 1) = p + 2 ^ q := fun x => by have := hub i x; omega
        have hm := sn_mono d.sl (i := i + 1) (j := p + 2 ^ q) e
        rw [if_neg a, if_neg (show ¬ (sn d.sl (p + 2 ^ q) : Int) ≤ gi d.sl i by omega), if_pos (show i ≤ p + 2 ^ q by omega), if_pos (show i + 1 ≤ p + 2 ^ q by omega), hs]
      · subst e
        have hk' := hin.2 u5
        rw [if_pos u4, if_pos (Nat.le_refl _), if_pos rfl, if_neg (by omega), hs, hk', if_neg (by omega)]
      · have hm := sn_mono d.sl (i := p + 2 ^ q) (j := i) (by omega)
        rw [if_neg (by omega : ¬ i ≤ p + 2 ^ q), if_neg (by omega : ¬ i + 1 ≤ p + 2 ^ q), hs]
        by_cases a : low i (q + 1) = p + 2 ^ q
        · have hk' := hin.2 (cut_up C i a)
          rw [if_pos a, if_neg (by omega), hk', if_neg (by omega)]
        · rw [if_neg a]
          by_cases z : (sn d.sl (p + 2 ^ q) : Int) ≤ gi d.sl i
          · rw [if_pos z]
            by_cases y : gi d.sl i = (sn d.sl i : Int)
            · rw [if_pos (by omega), if_pos y]
            · rw [if_neg (by omega), if_neg y]
          · rw [if_neg z, if_neg (by omega), if_neg (by omega)]
  refine ⟨fun i hi => ?_, ?_⟩
  · rw [hl] at hi
    obtain ⟨h0, hle⟩ := hc.1 i hi
    have hlt' := hc.ahead (i := i + 1) (by omega) (Nat.lt_succ_self i)
    rw [key i (by omega), cut_gi C i hi]
    by_cases a : low i (q + 1) = p + 2 ^ q
    · have := hub i a
      have hm := sn_mono d.sl (i := p + 2 ^ q) (j := i) (by omega)
      rw [if_pos a]
      refine ⟨by omega, ?_⟩
      split <;> omega
    · rw [if_neg a]
      by_cases z : (sn d.sl (p + 2 ^ q) : Int) ≤ gi d.sl i
      · rw [if_pos z]
        refine ⟨by omega, ?_⟩
        by_cases y : i ≤ p + 2 ^ q
        · exfalso
          by_cases y2 : i = p + 2 ^ q
          · subst y2; exact a u4
          · have hm := sn_mono d.sl (i := i + 1) (j := p + 2 ^ q) (by omega); omega
        · rw [if_neg y]; omega
      · rw [if_neg z]
        refine ⟨h0, ?_⟩
        split <;> omega
  · rw [hl, key _ (Nat.le_refl _), if_neg (by omega), hc.2]
    exact (cuB_len u6).symm
theorem cut_gs {d : Dr} {i0 k q p : Nat} (C : CutAt d i0 k q p) : GS (cuI d k q p) := by
  have hl : (cuI d k q p).sl.length = d.sl.length := by simp [cuI, cuS]
  obtain ⟨g, r, c⟩ := gs_view.1 C.h
  refine gs_view.2 ⟨?_, cut_rl C, cut_cn C⟩
  have hg := gv_cut g C.hi0 C.hq C.hlt
  rw [C.hp] at hg
  have hv : (vb d i0).ns = (gb d.bs k).ns := by unfold vb; rw [C.hk]; rfl
  rw [hv] at hg
  rw [hl]
  show GV d.dp d.sl.length _
  obtain ⟨q1, q2, q3, q4⟩ := hg
  refine ⟨q1, q2, q3, fun i hi => ?_⟩
  rw [cut_vb C i hi]
  obtain ⟨a, b, x, f, z⟩ := q4 i hi
  refine ⟨a, b, x, f, fun j hj ej => ?_⟩
  rw [cut_vb C j hj]
  exact z j hj ej
end Go.Proofs.Ytfmgaenedkjmkaa.Hd
