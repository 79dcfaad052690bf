import Derived.Test.YtfmgaenedkjmkaaU5
/- A bucket cut as the specification cuts it, of no program. -/
namespace Go.Proofs.Ytfmgaenedkjmkaa.Hd
set_option linter.unusedVariables false

/-- A bit of a number. -/
def bit (n q : Nat) : Nat := n / 2 ^ q % 2
theorem bit_low (n q : Nat) : low n (q + 1) = low n q + 2 ^ q * bit n q := low_succ n q
theorem bit_two (n q : Nat) : bit n q = 0 ∨ bit n q = 1 := Nat.mod_two_eq_zero_or_one _
/-- The names of a list with a bit. -/
def hb (q b : Nat) (l : List Nm) : List Nm := l.filter fun x => decide (bit (nh x.nm) q = b)
theorem hb_lo {q p : Nat} {l : List Nm} (h : okL q p l) : hb q 0 l = hf (q + 1) p l := by
  refine List.filter_congr fun x hx => ?_
  have h1 := (h.2.2 x hx).2.2
  have h2 := bit_low (nh x.nm) q
  have := Nat.two_pow_pos q
  rw [decide_eq_decide]
  rcases bit_two (nh x.nm) q with e | e <;> rw [e] at h2 ⊢ <;> omega
theorem hb_hi {q p : Nat} {l : List Nm} (h : okL q p l) : hb q 1 l = hf (q + 1) (p + 2 ^ q) l := by
  refine List.filter_congr fun x hx => ?_
  have h1 := (h.2.2 x hx).2.2
  have h2 := bit_low (nh x.nm) q
  have := Nat.two_pow_pos q
  rw [decide_eq_decide]
  rcases bit_two (nh x.nm) q with e | e <;> rw [e] at h2 ⊢ <;> omega
/-- A directory whose buckets may stand in any order is good. -/
structure GU (d : Dr) : Prop where
  g : GV d.dp d.sl.length (vb d)
  r : Rl d
  b : Bd d
theorem GS.gu {d : Dr} (h : GS d) : GU d := by
  obtain ⟨g, r, c⟩ := gs_view.1 h
  exact ⟨g, r, c.bd⟩
/-- The directory with a bucket cut, as the specification leaves it. -/
def cuS2 (d : Dr) (k q : Nat) : Dr := ⟨d.dp, (List.range d.sl.length).map fun i => if gi d.sl i = (k : Int) ∧ bit i q = 1 then (d.bs.length : Int) else gi d.sl i, d.bs.set k ⟨((q + 1 : Nat) : Int), hb q 0 (gb d.bs k).ns⟩ ++ [⟨((q + 1 : Nat) : Int), hb q 1 (gb d.bs k).ns⟩]⟩
/-- A bucket that can be cut, in any order of buckets. -/
structure CutU (d : Dr) (i0 k q : Nat) : Prop where
  h : GU d
  hi0 : i0 < d.sl.length
  hk : gi d.sl i0 = (k : Int)
  hq : (vb d i0).dp = (q : Int)
  hlt : (q : Int) < d.dp
theorem CutU.ok {d : Dr} {i0 k q : Nat} (C : CutU d i0 k q) : okL q (low i0 q) (gb d.bs k).ns ∧ k < d.bs.length := by
  obtain ⟨a, b, c, -⟩ := (gv_is.1 C.h.g).2.2.2 i0 C.hi0
  have hv : vb d i0 = gb d.bs k := by unfold vb; rw [C.hk]; rfl
  have hq : (vb d i0).dp.toNat = q := by have := C.hq; omega
  rw [hq, hv] at c
  exact ⟨c, by have := (C.h.b i0 C.hi0).2; rw [C.hk] at this; omega⟩
theorem CutU.in {d : Dr} {i0 k q : Nat} (C : CutU d i0 k q) (i : Nat) (hi : i < d.sl.length) : gi d.sl i = (k : Int) ↔ low i q = low i0 q := by
  have := C.h.r i0 i C.hi0 hi
  have hv : (vb d i0).dp.toNat = q := by have := C.hq; omega
  rw [C.hk, hv] at this
  exact ⟨fun e => (this.1 e.symm).symm, fun e => (this.2 e.symm).symm⟩
theorem CutU.gi {d : Dr} {i0 k q : Nat} (C : CutU d i0 k q) (i : Nat) (hi : i < d.sl.length) : gi (cuS2 d k q).sl i = if gi d.sl i = (k : Int) ∧ bit i q = 1 then (d.bs.length : Int) else gi d.sl i := by
  unfold cuS2
  rw [gi_range _ hi]
theorem cu2_at {L : List Bk} {k : Nat} {lo hi : Bk} (hk : k < L.length) (i : Nat) : gb (L.set k lo ++ [hi]) i = if i = k then lo else if i < L.length then gb L i else if i = L.length then hi else bk0 := by
  unfold gb
  simp only [List.getD_eq_getElem?_getD]
  by_cases e1 : i < L.length
  · rw [List.getElem?_append_left (by simpa using e1)]
    by_cases e : i = k
    · subst e; rw [if_pos rfl, List.getElem?_set_self e1]; rfl
    · rw [if_neg e, if_pos e1, List.getElem?_set_ne (by omega)]
  · rw [if_neg (by omega), if_neg e1, List.getElem?_append_right (by simpa using e1)]
    by_cases e2 : i = L.length
    · subst e2; simp
    · rw [if_neg e2, List.getElem?_eq_none (by simp; omega)]; rfl
theorem CutU.vb {d : Dr} {i0 k q : Nat} (C : CutU d i0 k q) (i : Nat) (hi : i < d.sl.length) : vb (cuS2 d k q) i = vC (vb d) q (low i0 q) (gb d.bs k).ns i := by
  obtain ⟨ho, hk⟩ := C.ok
  have hin := C.in i hi
  have hg := C.gi i hi
  obtain ⟨b0, b1⟩ := C.h.b i hi
  have hbs : ∀ j, gb (cuS2 d k q).bs j = _ := fun j => cu2_at hk j
  unfold Hd.vb
  rw [hbs]
  have hbl := bit_low i q
  by_cases e : low i q = low i0 q
  · have ek := hin.2 e
    rw [vC_in e]
    rcases bit_two i q with z | z
    · rw [if_neg (fun x => by omega), ek] at hg
      rw [hg]
      simp only [Int.toNat_natCast]
      rw [if_pos trivial, hb_lo ho, hbl, z, e, Nat.mul_zero]
      rfl
    · rw [if_pos ⟨ek, z⟩] at hg
      rw [hg]
      simp only [Int.toNat_natCast]
      rw [if_neg (by omega), if_neg (by omega), if_pos trivial, hb_hi ho, hbl, z, e, Nat.mul_one]
  · have ek : ¬ Hd.gi d.sl i = (k : Int) := fun x => e (hin.1 x)
    rw [if_neg (fun x => ek x.1)] at hg
    rw [hg, vC_out e, if_neg (by omega), if_pos (by omega)]
theorem CutU.rl {d : Dr} {i0 k q : Nat} (C : CutU d i0 k q) : Rl (cuS2 d k q) := by
  obtain ⟨ho, hk⟩ := C.ok
  have hl : (cuS2 d k q).sl.length = d.sl.length := by simp [cuS2]
  intro i j hi hj
  rw [hl] at hi hj
  rw [C.vb i hi, C.gi i hi, C.gi j hj]
  have hini := C.in i hi
  have hinj := C.in j hj
  have hR := C.h.r i j hi hj
  obtain ⟨b0, b1⟩ := C.h.b i hi
  obtain ⟨c0, c1⟩ := C.h.b j hj
  have hbi := bit_low i q
  have hbj := bit_low j q
  have h2 := Nat.two_pow_pos q
  have hli := low_lt i q
  have hlj := low_lt j q
  by_cases e : low i q = low i0 q
  · rw [vC_in e]
    simp only [Int.toNat_natCast]
    have ek := hini.2 e
    have hw : low i (q + 1) = low j (q + 1) ↔ low j q = low i0 q ∧ bit i q = bit j q := by
      rw [hbi, hbj]
      rcases bit_two i q with z | z <;> rcases bit_two j q with y | y <;> rw [z, y] <;> simp <;> omega
    rw [hw, ← hinj, ek]
    rcases bit_two i q with z | z <;> rcases bit_two j q with y | y <;> rw [z, y] <;> by_cases x : Hd.gi d.sl j = (k : Int) <;> simp [x] <;> omega
  · have ek : ¬ Hd.gi d.sl i = (k : Int) := fun x => e (hini.1 x)
    rw [vC_out e, if_neg (fun x => ek x.1), ← hR]
    by_cases b : Hd.gi d.sl j = (k : Int) ∧ bit j q = 1
    · rw [if_pos b, b.1]
      exact ⟨fun x => by omega, fun x => absurd x ek⟩
    · rw [if_neg b]
theorem CutU.gu {d : Dr} {i0 k q : Nat} (C : CutU d i0 k q) : GU (cuS2 d k q) := by
  have hl : (cuS2 d k q).sl.length = d.sl.length := by simp [cuS2]
  have hbl : (cuS2 d k q).bs.length = d.bs.length + 1 := by simp [cuS2]
  obtain ⟨ho, hk⟩ := C.ok
  refine ⟨?_, C.rl, fun i hi => ?_⟩
  · have hg := gv_cut C.h.g C.hi0 C.hq C.hlt
    have hv : (Hd.vb d i0).ns = (gb d.bs k).ns := by unfold Hd.vb; rw [C.hk]; rfl
    rw [hv] at hg
    rw [hl]
    show GV d.dp d.sl.length _
    obtain ⟨q1, q2, q3, q4⟩ := hg
    refine ⟨q1, q2, q3, fun i hi => ?_⟩
    rw [C.vb i hi]
    obtain ⟨a, b, x, f, z⟩ := q4 i hi
    refine ⟨a, b, x, f, fun j hj ej => ?_⟩
    rw [C.vb j hj]
    exact z j hj ej
  · rw [hl] at hi
    obtain ⟨b0, b1⟩ := C.h.b i hi
    rw [C.gi i hi, hbl]
    split <;> omega
/-- The specification's directory and the program's, on the way. -/
structure Way (d e : Dr) : Prop where
  u : GU d
  s : GS e
  dp : d.dp = e.dp
  ln : d.sl.length = e.sl.length
  vw : ∀ i, i < d.sl.length → vb d i = vb e i
theorem GS.way {d : Dr} (h : GS d) : Way d d := ⟨h.gu, h, rfl, rfl, fun _ _ => rfl⟩
theorem GU.dbl {d : Dr} (h : GU d) (hlt : d.dp < 8) : GU (dbl d) := by
  have hn : d.sl.length = 2 ^ d.dp.toNat := h.g.2.2.1
  refine ⟨?_, dbl_rl hn (fun i hi => (h.g.2.2.2 i hi).2.1) h.r, dbl_bd hn h.b⟩
  have := gv_dbl h.g hlt
  have e : (Hd.dbl d).sl.length = d.sl.length + d.sl.length := by simp [Hd.dbl]
  show GV (d.dp + 1) (Hd.dbl d).sl.length (vb (Hd.dbl d))
  rw [e]
  obtain ⟨q1, q2, q3, q4⟩ := this
  refine ⟨q1, q2, q3, fun i hi => ?_⟩
  obtain ⟨a, b, c, f, z⟩ := q4 i hi
  rw [dbl_vb hn hi]
  refine ⟨a, b, c, f, fun j hj ej => ?_⟩
  rw [dbl_vb hn hj]
  exact z j hj ej
theorem Way.dbl {d e : Dr} (h : Way d e) (hlt : d.dp < 8) : Way (dbl d) (dbl e) := by
  have hn : d.sl.length = 2 ^ d.dp.toNat := h.u.g.2.2.1
  have hm : e.sl.length = 2 ^ e.dp.toNat := by rw [← h.ln, ← h.dp]; exact hn
  have hl := h.ln
  refine ⟨h.u.dbl hlt, dbl_gs h.s (by rw [← h.dp]; exact hlt), by simp [Hd.dbl, h.dp], by simp [Hd.dbl, hl], fun i hi => ?_⟩
  have hi' : i < d.sl.length + d.sl.length := by simpa [Hd.dbl] using hi
  rw [dbl_vb hn hi', dbl_vb hm (by omega), ← h.dp]
  exact h.vw _ (by rw [hn]; exact low_lt _ _)
theorem Way.cut {d e : Dr} (h : Way d e) {i0 k k' q : Nat} (C : CutU d i0 k q) (hk' : gi e.sl i0 = (k' : Int)) : CutAt e i0 k' q (low i0 q) ∧ Way (cuS2 d k q) (cuI e k' q (low i0 q)) := by
  have hl := h.ln
  have D : CutAt e i0 k' q (low i0 q) := ⟨h.s, by rw [← hl]; exact C.hi0, hk', by rw [← h.vw i0 C.hi0]; exact C.hq, by rw [← h.dp]; exact C.hlt, rfl⟩
  refine ⟨D, C.gu, cut_gs D, h.dp, by simp [cuS2, cuI, cuS, hl], fun i hi => ?_⟩
  have hi' : i < d.sl.length := by simpa [cuS2] using hi
  have e1 : (gb d.bs k).ns = (gb e.bs k').ns := by
    have := h.vw i0 C.hi0
    unfold vb at this
    rw [C.hk, hk'] at this
    exact congrArg Bk.ns this
  rw [C.vb i hi', cut_vb D i (by omega), e1]
  unfold vC
  rw [h.vw i hi']
end Go.Proofs.Ytfmgaenedkjmkaa.Hd
