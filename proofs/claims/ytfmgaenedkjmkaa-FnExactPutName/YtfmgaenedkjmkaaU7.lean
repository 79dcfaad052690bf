import Derived.Test.YtfmgaenedkjmkaaU6
/- Buckets put in their order, of no program. -/
namespace Go.Proofs.Ytfmgaenedkjmkaa.Hd
set_option linter.unusedVariables false

theorem gi_set {S : List Int} {i j : Nat} {x : Int} (hi : i < S.length) : gi (S.set i x) j = if j = i then x else gi S j := by
  unfold gi
  by_cases h : j = i
  · subst h; simp [hi]
  · rw [if_neg h]; simp [Ne.symm h]
theorem sn_set {S : List Int} {i : Nat} {x : Int} (hi : i < S.length) : ∀ j, j ≤ i → sn (S.set i x) j = sn S j := by
  intro j
  induction j with
  | zero => intro _; rfl
  | succ j ih =>
    intro hj
    have e : gi (S.set i x) j = gi S j := by rw [gi_set hi, if_neg (by omega)]
    rw [sn, sn, ih (by omega), e]
theorem gb_snoc {l : List Bk} {x : Bk} {i : Nat} : gb (l ++ [x]) i = if i < l.length then gb l i else if i = l.length then x else bk0 := by
  unfold gb
  simp only [List.getD_eq_getElem?_getD]
  by_cases h : i < l.length
  · rw [if_pos h, List.getElem?_append_left h]
  · rw [if_neg h, List.getElem?_append_right (by omega)]
    by_cases e : i = l.length
    · subst e; simp
    · rw [if_neg e, List.getElem?_eq_none (by simp; omega)]; rfl
/-- What holds when the first slots are done. -/
structure SrI (d : Dr) (i : Nat) (S : List Int) (l : List Bk) (pl : Nat → Int) (dn : Nat → Bool) : Prop where
  ln : S.length = d.sl.length
  old : ∀ j, i ≤ j → j < d.sl.length → gi S j = gi d.sl j
  dn : ∀ k, dn k = true ↔ ∃ j, j < i ∧ gi d.sl j = (k : Int)
  pl : ∀ j, j < i → gi S j = pl (gi d.sl j).toNat
  cn : ∀ j, j < i → 0 ≤ gi S j ∧ gi S j < (sn S (j + 1) : Int)
  sn : sn S i = l.length
  inj : ∀ j j', j < i → j' < i → gi S j = gi S j' → gi d.sl j = gi d.sl j'
  bk : ∀ j, j < i → gb l (gi S j).toNat = gb d.bs (gi d.sl j).toNat
theorem SrI.nil (d : Dr) (pl : Nat → Int) : SrI d 0 d.sl [] pl (fun _ => false) :=
  ⟨rfl, fun _ _ _ => rfl, fun k => ⟨fun h => (by simp at h), fun ⟨j, hj, _⟩ => absurd hj (by omega)⟩, fun j hj => absurd hj (by omega), fun j hj => absurd hj (by omega), rfl, fun j _ hj => absurd hj (by omega), fun j hj => absurd hj (by omega)⟩
theorem SrI.lt {d : Dr} {i : Nat} {S : List Int} {l : List Bk} {pl : Nat → Int} {dn : Nat → Bool} (h : SrI d i S l pl dn) {j : Nat} (hj : j < i) : gi S j < (l.length : Int) := by
  have := (h.cn j hj).2
  have h2 := sn_mono S (i := j + 1) (j := i) hj
  rw [h.sn] at h2
  omega
theorem SrI.new {d : Dr} {i k : Nat} {S : List Int} {l : List Bk} {pl : Nat → Int} {dn : Nat → Bool} (hB : Bd d) (h : SrI d i S l pl dn) (hi : i < d.sl.length) (hk : gi d.sl i = (k : Int)) (hd : dn k = false) :
    SrI d (i + 1) (S.set i (l.length : Int)) (l ++ [gb d.bs k]) (fun x => if x = k then (l.length : Int) else pl x) (fun x => if x = k then true else dn x) := by
  have hiS : i < S.length := by rw [h.ln]; exact hi
  have hne : ∀ j, j < i → gi d.sl j ≠ (k : Int) := fun j hj e => by have := (h.dn k).2 ⟨j, hj, e⟩; rw [hd] at this; cases this
  have hs : Hd.sn (S.set i (l.length : Int)) (i + 1) = l.length + 1 := by rw [Hd.sn, sn_set hiS i (Nat.le_refl _), h.sn, gi_set hiS, if_pos rfl, if_pos rfl]
  refine ⟨by simpa using h.ln, fun j hj hl => ?_, fun x => ?_, fun j hj => ?_, fun j hj => ?_, by rw [hs]; simp, fun j j' hj hj' e => ?_, fun j hj => ?_⟩
  · rw [gi_set hiS, if_neg (by omega)]; exact h.old j (by omega) hl
  · by_cases e : x = k
    · subst e
      rw [if_pos rfl]
      exact ⟨fun _ => ⟨i, Nat.lt_succ_self _, hk⟩, fun _ => rfl⟩
    · rw [if_neg e, h.dn x]
      constructor
      · rintro ⟨j, hj, q⟩; exact ⟨j, by omega, q⟩
      · rintro ⟨j, hj, q⟩
        by_cases z : j = i
        · rw [z, hk] at q; omega
        · exact ⟨j, by omega, q⟩
  · rw [gi_set hiS]
    by_cases z : j = i
    · rw [if_pos z, z, hk]; simp
    · rw [if_neg z]
      have := hne j (by omega)
      have h0 := (hB j (by omega)).1
      by_cases y : (gi d.sl j).toNat = k
      · exact absurd (by omega : gi d.sl j = (k : Int)) this
      · rw [if_neg y]; exact h.pl j (by omega)
  · rw [gi_set hiS]
    by_cases z : j = i
    · subst z; rw [if_pos rfl, hs]; omega
    · rw [if_neg z, sn_set hiS (j + 1) (by omega)]; exact h.cn j (by omega)
  · rw [gi_set hiS, gi_set hiS] at e
    by_cases z : j = i <;> by_cases y : j' = i
    · rw [z, y]
    · rw [if_pos z, if_neg y] at e; have := h.lt (j := j') (by omega); omega
    · rw [if_neg z, if_pos y] at e; have := h.lt (j := j) (by omega); omega
    · rw [if_neg z, if_neg y] at e; exact h.inj j j' (by omega) (by omega) e
  · rw [gi_set hiS, gb_snoc]
    by_cases z : j = i
    · subst z
      rw [if_pos rfl, hk]
      simp
    · rw [if_neg z]
      have h1 := h.lt (j := j) (by omega)
      have h0 := (h.cn j (by omega)).1
      rw [if_pos (by omega)]
      exact h.bk j (by omega)
theorem SrI.met {d : Dr} {i k : Nat} {S : List Int} {l : List Bk} {pl : Nat → Int} {dn : Nat → Bool} (hB : Bd d) (h : SrI d i S l pl dn) (hi : i < d.sl.length) (hk : gi d.sl i = (k : Int)) (hd : dn k = true) :
    SrI d (i + 1) (S.set i (pl k)) l pl dn := by
  have hiS : i < S.length := by rw [h.ln]; exact hi
  obtain ⟨f, f1, f2⟩ := (h.dn k).1 hd
  have hf : gi S f = pl k := by rw [h.pl f f1, f2]; rfl
  have hlt := h.lt f1
  have h0 := (h.cn f f1).1
  rw [← hf]
  have hs : Hd.sn (S.set i (gi S f)) (i + 1) = l.length := by rw [Hd.sn, sn_set hiS i (Nat.le_refl _), h.sn, gi_set hiS, if_pos rfl, if_neg (by omega)]
  refine ⟨by simpa using h.ln, fun j hj hl => ?_, fun x => ?_, fun j hj => ?_, fun j hj => ?_, hs, fun j j' hj hj' e => ?_, fun j hj => ?_⟩
  · rw [gi_set hiS, if_neg (by omega)]; exact h.old j (by omega) hl
  · rw [h.dn x]
    constructor
    · rintro ⟨j, hj, q⟩; exact ⟨j, by omega, q⟩
    · rintro ⟨j, hj, q⟩
      by_cases z : j = i
      · rw [z, hk] at q; exact ⟨f, f1, by rw [f2, q]⟩
      · exact ⟨j, by omega, q⟩
  · rw [gi_set hiS]
    by_cases z : j = i
    · rw [if_pos z, z, hk, hf]; rfl
    · rw [if_neg z]; exact h.pl j (by omega)
  · rw [gi_set hiS]
    by_cases z : j = i
    · subst z; rw [if_pos rfl, hs]; omega
    · rw [if_neg z, sn_set hiS (j + 1) (by omega)]; exact h.cn j (by omega)
  · rw [gi_set hiS, gi_set hiS] at e
    by_cases z : j = i <;> by_cases y : j' = i
    · rw [z, y]
    · rw [if_pos z, if_neg y] at e; have := h.inj f j' f1 (by omega) e; rw [z, hk, ← f2]; exact this
    · rw [if_neg z, if_pos y] at e; have := h.inj j f (by omega) f1 e; rw [y, hk, ← f2]; exact this
    · rw [if_neg z, if_neg y] at e; exact h.inj j j' (by omega) (by omega) e
  · rw [gi_set hiS]
    by_cases z : j = i
    · subst z
      rw [if_pos rfl, h.bk f f1, f2, hk]
    · rw [if_neg z]; exact h.bk j (by omega)
/-- At the end it is the program's directory. -/
theorem SrI.done {d e : Dr} {S : List Int} {l : List Bk} {pl : Nat → Int} {dn : Nat → Bool} (h : SrI d d.sl.length S l pl dn) (hw : Way d e) : (⟨d.dp, S, l⟩ : Dr) = e := by
  have hl := h.ln
  have hsm : Sm ⟨d.dp, S, l⟩ d := ⟨rfl, hl, fun i j hi hj => ⟨fun x => h.inj i j (by simpa [hl] using hi) (by simpa [hl] using hj) x, fun x => by
    have h1 := h.pl i (by simpa [hl] using hi)
    have h2 := h.pl j (by simpa [hl] using hj)
    show gi S i = gi S j
    rw [h1, h2, x]⟩, fun i hi => h.bk i (by simpa [hl] using hi)⟩
  have hde : Sm d e := sm_of hw.dp hw.ln hw.u.r hw.s.rl hw.vw
  refine (hsm.trans hde).eq ⟨fun i hi => ?_, ?_⟩ hw.s.cn
  · have hi' : i < d.sl.length := by simpa [hl] using hi
    obtain ⟨a, b⟩ := h.cn i hi'
    refine ⟨a, ?_⟩
    show gi S i ≤ (Hd.sn S i : Int)
    have := (sn_step S i).2
    omega
  · show Hd.sn S S.length = l.length
    rw [hl]; exact h.sn
end Go.Proofs.Ytfmgaenedkjmkaa.Hd
