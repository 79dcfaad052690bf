/- Directories by hash, of no program: names, buckets, and what a good directory is. -/
namespace Go.Proofs.Ytfmgaenedkjmkaa.Hd
set_option linter.unusedVariables false

/-- A name with its file. -/
structure Nm where
  nm : ByteArray
  fl : Int
/-- A bucket. -/
structure Bk where
  dp : Int
  ns : List Nm
def nm0 : Nm := ⟨⟨#[]⟩, 0⟩
def bk0 : Bk := ⟨0, []⟩
/-- The int, the name, the bucket at a place of a list. -/
def gi (l : List Int) (i : Nat) : Int := l.getD i 0
def gm (l : List Nm) (i : Nat) : Nm := l.getD i nm0
def gb (l : List Bk) (i : Nat) : Bk := l.getD i bk0
theorem gi_eq {l : List Int} {i : Nat} (h : i < l.length) : gi l i = l[i] := by simp [gi, h]
theorem gm_eq {l : List Nm} {i : Nat} (h : i < l.length) : gm l i = l[i] := by simp [gm, h]
theorem gb_eq {l : List Bk} {i : Nat} (h : i < l.length) : gb l i = l[i] := by simp [gb, h]

/-- A name's bytes. -/
abbrev bt (s : ByteArray) : List UInt8 := s.data.toList
/-- The hash of a name. -/
def hsh (l : List UInt8) : Nat := l.foldl (fun h b => (31 * h + b.toNat) % 65536) 7
def nh (s : ByteArray) : Nat := hsh (bt s) ^^^ (hsh (bt s) / 32)
theorem hsh_lt (l : List UInt8) : hsh l < 65536 := by
  have key : ∀ (l : List UInt8) h, h < 65536 → l.foldl (fun h b => (31 * h + b.toNat) % 65536) h < 65536 := by
    intro l
    induction l with
    | nil => intro h hh; exact hh
    | cons b l ih => intro h hh; exact ih _ (Nat.mod_lt _ (by omega))
  exact key l 7 (by omega)
theorem hsh_snoc (l : List UInt8) (b : UInt8) : hsh (l ++ [b]) = (31 * hsh l + b.toNat) % 65536 := by simp [hsh, List.foldl_append]
theorem nh_lt (s : ByteArray) : nh s < 65536 := by
  have h := hsh_lt (bt s)
  exact Nat.xor_lt_two_pow (n := 16) (by omega) (by omega)
/-- A byte that a name may have. -/
def okB (b : UInt8) : Bool := (decide (97 ≤ b.toNat) && decide (b.toNat ≤ 122)) || (decide (48 ≤ b.toNat) && decide (b.toNat ≤ 57)) || decide (b.toNat = 46) || decide (b.toNat = 45)
def isN (s : ByteArray) : Bool := (bt s).all okB && (decide (1 ≤ s.size) && decide (s.size ≤ 12))
def isF (x : Int) : Bool := decide (0 ≤ x) && decide (x ≤ 1000)
/-- One name is less than another. -/
def les (a b : ByteArray) : Bool := decide (bt a < bt b)
abbrev low (n d : Nat) : Nat := n % 2 ^ d

/-- How many buckets were met ahead of a slot. -/
def sn (S : List Int) : Nat → Nat
  | 0 => 0
  | i + 1 => if gi S i = (sn S i : Int) then sn S i + 1 else sn S i
theorem sn_step (S : List Int) (i : Nat) : sn S i ≤ sn S (i + 1) ∧ sn S (i + 1) ≤ sn S i + 1 := by
  rw [sn]; split <;> omega
theorem sn_mono (S : List Int) {i j : Nat} (h : i ≤ j) : sn S i ≤ sn S j := by
  induction h with
  | refl => exact Nat.le_refl _
  | step _ ih => exact Nat.le_trans ih (sn_step S _).1
theorem sn_le (S : List Int) (i : Nat) : sn S i ≤ i := by
  induction i with
  | zero => exact Nat.le_refl _
  | succ i ih => have := (sn_step S i).2; omega
/-- The first slot that means a bucket. -/
def Fst (S : List Int) (k f : Nat) : Prop := gi S f = (k : Int) ∧ sn S f = k
theorem fst_ex (S : List Int) (m : Nat) : ∀ k, k < sn S m → ∃ f, f < m ∧ Fst S k f := by
  induction m with
  | zero => intro k h; simp [sn] at h
  | succ m ih =>
    intro k h
    rw [sn] at h
    split at h
    · by_cases e : k = sn S m
      · exact ⟨m, by omega, by rw [e]; assumption, e.symm⟩
      · obtain ⟨f, h1, h2⟩ := ih k (by omega)
        exact ⟨f, by omega, h2⟩
    · obtain ⟨f, h1, h2⟩ := ih k h
      exact ⟨f, by omega, h2⟩
theorem fst_step {S : List Int} {k f : Nat} (h : Fst S k f) : sn S (f + 1) = k + 1 := by
  rw [sn, if_pos (by rw [h.1, h.2]), h.2]
theorem fst_uniq {S : List Int} {k f g : Nat} (h : Fst S k f) (h' : Fst S k g) : f = g := by
  have a := fst_step h
  have b := fst_step h'
  rcases Nat.lt_trichotomy f g with e | e | e
  · have := sn_mono S (i := f + 1) (j := g) e; have := h'.2; omega
  · exact e
  · have := sn_mono S (i := g + 1) (j := f) e; have := h.2; omega

/-- A directory. -/
structure Dr where
  dp : Int
  sl : List Int
  bs : List Bk
/-- The own depth of the bucket that a slot means. -/
def dq (d : Dr) (i : Nat) : Int := (gb d.bs (gi d.sl i).toNat).dp
/-- What is asked of a directory's size. -/
def szOk (d : Dr) : Prop := 0 ≤ d.dp ∧ d.dp ≤ 8 ∧ d.sl.length = 2 ^ d.dp.toNat
/-- A slot is as the specification asks. -/
def slS (d : Dr) (i : Nat) : Prop :=
  0 ≤ gi d.sl i ∧ gi d.sl i < d.bs.length ∧ gi d.sl i ≤ sn d.sl i ∧ 0 ≤ dq d i ∧ dq d i ≤ d.dp ∧
    ∀ j, j < i → (gi d.sl j = gi d.sl i ↔ low i (dq d i).toNat = low j (dq d i).toNat) ∧ (gi d.sl j = gi d.sl i ↔ low i (dq d j).toNat = low j (dq d j).toNat)
/-- A name of a bucket is as the specification asks. -/
def nmS (d : Dr) (k : Nat) (l : List Nm) (i : Nat) : Prop :=
  isN (gm l i).nm = true ∧ isF (gm l i).fl = true ∧ (0 < i → les (gm l (i - 1)).nm (gm l i).nm = true) ∧ gi d.sl (low (nh (gm l i).nm) d.dp.toNat) = (k : Int)
def bkS (d : Dr) (k : Nat) : Prop := (∀ i, i < (gb d.bs k).ns.length → nmS d k (gb d.bs k).ns i) ∧ (gb d.bs k).ns.length ≤ 4
def GS (d : Dr) : Prop := szOk d ∧ d.bs.length ≤ d.sl.length ∧ (∀ i, i < d.sl.length → slS d i) ∧ (∀ k, k < d.bs.length → bkS d k) ∧ sn d.sl d.sl.length = d.bs.length
/-- A slot is as the program asks. -/
def slI (d : Dr) (i : Nat) : Prop :=
  0 ≤ gi d.sl i ∧ (gi d.sl i = (sn d.sl i : Int) → gi d.sl i < d.bs.length ∧ 0 ≤ dq d i ∧ dq d i ≤ d.dp) ∧ gi d.sl i < sn d.sl (i + 1) ∧ ∀ f, f ≤ i → Fst d.sl (gi d.sl i).toNat f → low i (dq d i).toNat = f
def nmI (dp f : Nat) (l : List Nm) (i : Nat) : Prop :=
  isN (gm l i).nm = true ∧ isF (gm l i).fl = true ∧ low (nh (gm l i).nm) dp = f ∧ (0 < i → les (gm l (i - 1)).nm (gm l i).nm = true)
def bkI (d : Dr) (k f : Nat) : Prop :=
  (∀ m, f + m * 2 ^ (gb d.bs k).dp.toNat < d.sl.length → gi d.sl (f + m * 2 ^ (gb d.bs k).dp.toNat) = (k : Int)) ∧ (gb d.bs k).ns.length ≤ 4 ∧ ∀ i, i < (gb d.bs k).ns.length → nmI (gb d.bs k).dp.toNat f (gb d.bs k).ns i
def GI (d : Dr) : Prop := szOk d ∧ (∀ i, i < d.sl.length → slI d i) ∧ sn d.sl d.sl.length = d.bs.length ∧ ∀ k f, k < d.bs.length → f < d.sl.length → Fst d.sl k f → bkI d k f

theorem low_low {n a b : Nat} (h : a ≤ b) : low (low n b) a = low n a := Nat.mod_mod_of_dvd _ (Nat.pow_dvd_pow 2 h)
theorem low_lt (n d : Nat) : low n d < 2 ^ d := Nat.mod_lt _ (Nat.two_pow_pos d)
theorem low_le (n d : Nat) : low n d ≤ n := Nat.mod_le _ _
theorem low_of {n d f : Nat} (h : low n d = f) : ∃ m, n = f + m * 2 ^ d := ⟨n / 2 ^ d, by rw [← h, Nat.mul_comm]; exact (Nat.mod_add_div n (2 ^ d)).symm⟩
theorem dq_of {d : Dr} {i k : Nat} (h : gi d.sl i = (k : Int)) : dq d i = (gb d.bs k).dp := by unfold dq; rw [h]; rfl
theorem good_is {d : Dr} : GS d ↔ GI d := by
  constructor
  · rintro ⟨h1, h2, h3, h4, h5⟩
    have hlow : ∀ i, i < d.sl.length → ∀ f, f ≤ i → Fst d.sl (gi d.sl i).toNat f → low i (dq d i).toNat = f := by
      intro i hi f hf hF
      obtain ⟨k, hk⟩ : ∃ k : Nat, gi d.sl i = (k : Int) := ⟨_, (Int.toNat_of_nonneg (h3 i hi).1).symm⟩
      rw [hk] at hF
      simp only [Int.toNat_natCast] at hF
      have ff : low f (dq d f).toNat = f := by
        by_cases e : low f (dq d f).toNat = f
        · exact e
        · exfalso
          have hl := low_le f (dq d f).toNat
          have hj : low f (dq d f).toNat < f := by omega
          have := ((h3 f (by omega)).2.2.2.2.2 _ hj).1.2 (low_low (Nat.le_refl _)).symm
          have h6 := (h3 (low f (dq d f).toNat) (by omega)).2.2.1
          rw [this, hF.1] at h6
          have h7 := sn_mono d.sl (i := low f (dq d f).toNat + 1) (j := f) hj
          rw [sn] at h7
          rw [this, hF.1, hF.2] at h7
          split at h7 <;> omega
      have ed : dq d f = dq d i := by rw [dq_of hF.1, dq_of hk]
      by_cases e : f = i
      · rw [← e]; exact ff
      · have := ((h3 i hi).2.2.2.2.2 f (by omega)).1.1 (by rw [hF.1, hk])
        rw [this, ← ed]; exact ff
    refine ⟨h1, ?_, h5, ?_⟩
    · intro i hi
      obtain ⟨a, b, c, e, f, g⟩ := h3 i hi
      refine ⟨a, fun _ => ⟨b, e, f⟩, ?_, hlow i hi⟩
      rw [sn]
      split <;> omega
    · intro k f hk hf hF
      have hD : dq d f = (gb d.bs k).dp := dq_of hF.1
      have hff := hlow f hf f (Nat.le_refl _) (by rw [hF.1]; exact hF)
      rw [hD] at hff
      refine ⟨?_, (h4 k hk).2, ?_⟩
      · intro m hm
        by_cases e : m = 0
        · subst e; simpa using hF.1
        · have hpos : 0 < m * 2 ^ (gb d.bs k).dp.toNat := Nat.mul_pos (by omega) (Nat.two_pow_pos _)
          have := ((h3 _ hm).2.2.2.2.2 f (by omega)).2.2 (by rw [hD]; simp [low])
          rw [← this]; exact hF.1
      · intro i hi
        obtain ⟨a, b, c, e⟩ := (h4 k hk).1 i hi
        refine ⟨a, b, ?_, c⟩
        have hs : low (nh (gm (gb d.bs k).ns i).nm) d.dp.toNat < d.sl.length := by rw [h1.2.2]; exact low_lt _ _
        generalize hx : low (nh (gm (gb d.bs k).ns i).nm) d.dp.toNat = s at e hs
        have hdk : (gb d.bs k).dp.toNat ≤ d.dp.toNat := by have := (h3 f hf).2.2.2.2.1; rw [hD] at this; omega
        have hle : f ≤ s := by
          rcases Nat.lt_or_ge s f with h | h
          · exfalso
            have h7 := sn_mono d.sl (i := s + 1) (j := f) h
            have h6 := (h3 s hs).2.2.1
            rw [sn, e, hF.2] at h7
            rw [e] at h6
            split at h7 <;> omega
          · exact h
        have := hlow s hs f hle (by rw [e]; exact hF)
        rw [dq_of e, ← hx, low_low hdk] at this
        exact this
  · rintro ⟨h1, h2, h3, h4⟩
    have hlt : ∀ i, i < d.sl.length → gi d.sl i < d.bs.length := by
      intro i hi
      have := (h2 i hi).2.2.1
      have := sn_mono d.sl (i := i + 1) (j := d.sl.length) hi
      omega
    have hdq : ∀ k f, k < d.bs.length → f < d.sl.length → Fst d.sl k f → 0 ≤ (gb d.bs k).dp ∧ (gb d.bs k).dp ≤ d.dp := by
      intro k f hk hf hF
      have := (h2 f hf).2.1 (by rw [hF.1, hF.2])
      rw [dq_of hF.1] at this
      exact ⟨this.2.1, this.2.2⟩
    have hfst : ∀ i, i < d.sl.length → ∃ k f : Nat, gi d.sl i = (k : Int) ∧ k < d.bs.length ∧ f ≤ i ∧ Fst d.sl k f ∧ low i (dq d i).toNat = f := by
      intro i hi
      obtain ⟨k, hk⟩ : ∃ k : Nat, gi d.sl i = (k : Int) := ⟨_, (Int.toNat_of_nonneg (h2 i hi).1).symm⟩
      have h6 := (h2 i hi).2.2.1
      obtain ⟨f, hf, hF⟩ := fst_ex d.sl (i + 1) k (by omega)
      exact ⟨k, f, hk, by have := hlt i hi; omega, by omega, hF, (h2 i hi).2.2.2 f (by omega) (by rw [hk]; exact hF)⟩
    have hmeant : ∀ i j, i < d.sl.length → j < d.sl.length → low i (dq d i).toNat = low j (dq d i).toNat → gi d.sl j = gi d.sl i := by
      intro i j hi hj h
      obtain ⟨k, f, hk, hkl, hf, hF, hl⟩ := hfst i hi
      rw [hl] at h
      obtain ⟨m, hm⟩ := low_of h.symm
      rw [dq_of hk] at hm
      have := (h4 k f hkl (by omega) hF).1 m (by omega)
      rw [← hm] at this
      rw [this, hk]
    refine ⟨h1, by rw [← h3]; exact sn_le _ _, ?_, ?_, h3⟩
    · intro i hi
      obtain ⟨k, f, hk, hkl, hf, hF, hl⟩ := hfst i hi
      have hD := hdq k f hkl (by omega) hF
      rw [← dq_of hk] at hD
      have h6 := (h2 i hi).2.2.1
      have h7 := (sn_step d.sl i).2
      refine ⟨(h2 i hi).1, hlt i hi, by omega, hD.1, hD.2, fun j hj => ?_⟩
      obtain ⟨k', f', hk', hkl', hf', hF', hl'⟩ := hfst j (by omega)
      have same : gi d.sl j = gi d.sl i → dq d j = dq d i ∧ low i (dq d i).toNat = low j (dq d i).toNat := by
        intro e
        have ek : k' = k := by rw [hk, hk'] at e; omega
        subst ek
        have ef := fst_uniq hF hF'
        have ed : dq d j = dq d i := by rw [dq_of hk', dq_of hk]
        refine ⟨ed, ?_⟩
        rw [hl, ef, ← hl', ed]
      refine ⟨⟨fun e => (same e).2, fun e => hmeant i j hi (by omega) e⟩, ⟨fun e => by rw [(same e).1]; exact (same e).2, fun e => (hmeant j i (by omega) hi e.symm).symm⟩⟩
    · intro k hk
      obtain ⟨f, hf, hF⟩ := fst_ex d.sl d.sl.length k (by omega)
      have hB := h4 k f hk hf hF
      refine ⟨fun i hi => ?_, hB.2.1⟩
      obtain ⟨a, b, c, e⟩ := hB.2.2 i hi
      refine ⟨a, b, e, ?_⟩
      have hs : low (nh (gm (gb d.bs k).ns i).nm) d.dp.toNat < d.sl.length := by rw [h1.2.2]; exact low_lt _ _
      have hdk : (gb d.bs k).dp.toNat ≤ d.dp.toNat := by have := (hdq k f hk hf hF).2; omega
      have := low_low (n := nh (gm (gb d.bs k).ns i).nm) hdk
      rw [c] at this
      obtain ⟨m, hm⟩ := low_of this
      rw [hm]
      exact hB.1 m (by rw [← hm]; exact hs)
end Go.Proofs.Ytfmgaenedkjmkaa.Hd
