import Derived.Test.YtfmgaenedkjmkaaU8
/- Room made for a name by both sides, of no program. -/
namespace Go.Proofs.Ytfmgaenedkjmkaa.Hd
set_option linter.unusedVariables false

/-- A list has a name. -/
def hasM (l : List Nm) (s : ByteArray) : Bool := l.any fun y => decide (y.nm = s)
theorem hasN_is {l : List Nm} {s : ByteArray} {k : Nat} (hr : Ris l) (hk : AtN l s k) : hasN l s k = hasM l s := by
  rw [Bool.eq_iff_iff]
  unfold hasN hasM
  rw [List.any_eq_true]
  constructor
  · intro h
    obtain ⟨h1, h2⟩ : k < l.length ∧ (gm l k).nm = s := by simpa using h
    exact ⟨gm l k, by rw [gm_eq h1]; exact List.getElem_mem h1, by simpa using h2⟩
  · rintro ⟨y, hy, e⟩
    obtain ⟨i, hi, rfl⟩ := mem_ns hy
    have e' : (gm l i).nm = s := by simpa using e
    rcases Nat.lt_trichotomy i k with z | z | z
    · have := hk.2.1 i z; rw [e', les_irr] at this; cases this
    · subst z; simp [hi, e']
    · have h1 := hk.2.2 (by omega)
      have h2 := ris_lt hr z hi
      rw [e', h1] at h2; cases h2
/-- The bucket of a name has it or has room. -/
def roomy (d : Dr) (s : ByteArray) : Bool := hasM (bkL d s) s || decide ((bkL d s).length < 4)
/-- The directory with a bit more, where the bucket wants one. -/
def wide (d : Dr) (s : ByteArray) : Dr := if (gb d.bs (bkN d s)).dp = d.dp then dbl d else d
def dpN (d : Dr) (s : ByteArray) : Nat := (gb d.bs (bkN d s)).dp.toNat
def stI (d : Dr) (s : ByteArray) : Dr := cuI (wide d s) (bkN d s) (dpN d s) (low (nh s) (dpN d s))
def stS (d : Dr) (s : ByteArray) : Dr := cuS2 (wide d s) (bkN d s) (dpN d s)
/-- Room made, as the program makes it. -/
def rm : Nat → Dr → ByteArray → Option Dr
  | 0, _, _ => none
  | f + 1, d, s => if roomy d s = true then some d else if (gb d.bs (bkN d s)).dp = 8 then none else rm f (stI d s) s
theorem GU.slot {d : Dr} (h : GU d) (s : ByteArray) : low (nh s) d.dp.toNat < d.sl.length ∧ gi d.sl (low (nh s) d.dp.toNat) = (bkN d s : Int) ∧ bkN d s < d.bs.length ∧ vb d (low (nh s) d.dp.toNat) = gb d.bs (bkN d s) := by
  have h1 : low (nh s) d.dp.toNat < d.sl.length := by rw [h.g.2.2.1]; exact low_lt _ _
  obtain ⟨h2, h3⟩ := h.b _ h1
  have h4 : gi d.sl (low (nh s) d.dp.toNat) = (bkN d s : Int) := by unfold bkN; omega
  exact ⟨h1, h4, by omega, by unfold vb; rw [h4]; rfl⟩
theorem GU.deep {d : Dr} (h : GU d) (s : ByteArray) : (gb d.bs (bkN d s)).dp = (dpN d s : Int) ∧ (dpN d s : Int) ≤ d.dp ∧ d.dp ≤ 8 := by
  obtain ⟨h1, -, -, h4⟩ := h.slot s
  obtain ⟨a, b, -⟩ := h.g.2.2.2 _ h1
  rw [h4] at a b
  have h5 : (gb d.bs (bkN d s)).dp = (dpN d s : Int) := by unfold dpN; omega
  exact ⟨h5, by omega, h.g.2.1⟩
theorem GU.ok {d : Dr} (h : GU d) (s : ByteArray) : okL (dpN d s) (low (nh s) (dpN d s)) (bkL d s) := by
  obtain ⟨h1, -, -, h4⟩ := h.slot s
  obtain ⟨d1, d2, d3⟩ := h.deep s
  obtain ⟨-, -, c, -⟩ := (gv_is.1 h.g).2.2.2 _ h1
  rw [h4, low_low (by unfold dpN at d2; omega)] at c
  exact c
theorem dbl_bk {d : Dr} (h : GU d) (s : ByteArray) : bkN (dbl d) s = bkN d s := by
  have hn : d.sl.length = 2 ^ d.dp.toNat := h.g.2.2.1
  have h0 := h.g.1
  have hp : (d.dp + 1).toNat = d.dp.toNat + 1 := by omega
  unfold bkN
  show (gi (d.sl ++ d.sl) (low (nh s) (d.dp + 1).toNat)).toNat = _
  rw [hp, dbl_gi hn, low_low (Nat.le_succ _)]
  have := low_lt (nh s) (d.dp.toNat + 1)
  rw [Nat.pow_succ] at this
  omega
theorem wide_gu {d : Dr} (h : GU d) (s : ByteArray) (h8 : ¬ (gb d.bs (bkN d s)).dp = 8) : GU (wide d s) ∧ bkN (wide d s) s = bkN d s ∧ (wide d s).bs = d.bs ∧ (dpN d s : Int) < (wide d s).dp := by
  obtain ⟨d1, d2, d3⟩ := h.deep s
  unfold wide
  split
  · next e => exact ⟨h.dbl (by omega), dbl_bk h s, rfl, by show _ < d.dp + 1; omega⟩
  · next e => exact ⟨h, rfl, rfl, by omega⟩
/-- A bucket that has no room can be cut. -/
theorem GU.cut {d : Dr} (h : GU d) (s : ByteArray) (h8 : ¬ (gb d.bs (bkN d s)).dp = 8) : CutU (wide d s) (low (nh s) (wide d s).dp.toNat) (bkN d s) (dpN d s) := by
  obtain ⟨w1, w2, w3, w4⟩ := wide_gu h s h8
  obtain ⟨s1, s2, s3, s4⟩ := w1.slot s
  rw [w2] at s2 s4
  refine ⟨w1, s1, s2, ?_, w4⟩
  rw [s4, w3]
  exact (h.deep s).1
theorem Way.bk {d e : Dr} (h : Way d e) (s : ByteArray) : gb d.bs (bkN d s) = gb e.bs (bkN e s) := by
  obtain ⟨h1, h2, h3, h4⟩ := h.u.slot s
  obtain ⟨k1, k2, k3, k4⟩ := h.s.gu.slot s
  rw [← h4, ← k4, h.vw _ h1, h.dp]
theorem Way.names {d e : Dr} (h : Way d e) (s : ByteArray) : bkL d s = bkL e s := congrArg Bk.ns (h.bk s)
theorem Way.dpN {d e : Dr} (h : Way d e) (s : ByteArray) : dpN d s = dpN e s := by unfold Hd.dpN; rw [h.bk s]
theorem Way.roomy {d e : Dr} (h : Way d e) (s : ByteArray) : roomy d s = roomy e s := by unfold Hd.roomy; rw [h.names s]
theorem Way.wide {d e : Dr} (h : Way d e) (s : ByteArray) (h8 : ¬ (gb d.bs (bkN d s)).dp = 8) : Way (wide d s) (wide e s) := by
  obtain ⟨d1, d2, d3⟩ := h.u.deep s
  unfold Hd.wide
  rw [← h.bk s, ← h.dp]
  split
  · exact h.dbl (by omega)
  · exact h
/-- Both sides' steps stay together. -/
theorem Way.step {d e : Dr} (h : Way d e) (s : ByteArray) (h8 : ¬ (gb d.bs (bkN d s)).dp = 8) : Way (stS d s) (stI e s) := by
  have hw := h.wide s h8
  have C := h.u.cut s h8
  obtain ⟨w1, w2, w3, w4⟩ := wide_gu h.s.gu s (by rw [← h.bk s]; exact h8)
  obtain ⟨s1, s2, s3, s4⟩ := w1.slot s
  rw [w2, ← hw.dp] at s2
  obtain ⟨-, r⟩ := hw.cut C s2
  have hlt := C.hlt
  have hle : Hd.dpN d s ≤ (Hd.wide d s).dp.toNat := by omega
  rw [low_low hle, h.dpN s] at r
  unfold stS stI
  rw [h.dpN s]
  exact r
theorem GS.step {e : Dr} (h : GS e) (s : ByteArray) (h8 : ¬ (gb e.bs (bkN e s)).dp = 8) : GS (stI e s) := (h.way.step s h8).s
/-- The bucket of the name is deeper by one behind a step. -/
theorem step_deep {e : Dr} (h : GS e) (s : ByteArray) (h8 : ¬ (gb e.bs (bkN e s)).dp = 8) : dpN (stI e s) s = dpN e s + 1 := by
  have C := h.gu.cut s h8
  have hw := h.way.wide s h8
  obtain ⟨D, -⟩ := hw.cut C C.hk
  have g := (h.step s h8).gu
  obtain ⟨s1, s2, s3, s4⟩ := g.slot s
  have hlt := C.hlt
  have hle : dpN e s ≤ (wide e s).dp.toNat := by omega
  have D' := D
  rw [low_low hle] at D'
  have hi : low (nh s) (wide e s).dp.toNat < (wide e s).sl.length := D.hi0
  have hv := cut_vb D' (low (nh s) (wide e s).dp.toNat) hi
  rw [vC_in (low_low hle)] at hv
  have hd : (stI e s).dp = (wide e s).dp := rfl
  rw [hd] at s4
  have : vb (stI e s) (low (nh s) (wide e s).dp.toNat) = _ := hv
  rw [s4] at this
  unfold dpN
  rw [this]
  rfl
/-- Nine rounds are enough. -/
theorem rm_more {e : Dr} (h : GS e) (s : ByteArray) : ∀ f g, 9 ≤ f + dpN e s → 9 ≤ g + dpN e s → rm f e s = rm g e s := by
  intro f
  induction f generalizing e with
  | zero => intro g h1 h2; have := h.gu.deep s; omega
  | succ f ih =>
    intro g h1 h2
    cases g with
    | zero => have := h.gu.deep s; omega
    | succ g =>
      rw [rm, rm]
      split
      · rfl
      · split
        · rfl
        · next _ h8 => exact ih (h.step s h8) g (by rw [step_deep h s h8]; omega) (by rw [step_deep h s h8]; omega)
end Go.Proofs.Ytfmgaenedkjmkaa.Hd
