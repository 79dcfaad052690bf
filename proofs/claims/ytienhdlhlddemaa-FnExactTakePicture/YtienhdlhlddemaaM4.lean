import Derived.Test.YtienhdlhlddemaaG1
/- Both sides: what a root comes to. -/
namespace Go.Proofs.Ytienhdlhlddemaa.Hd
set_option linter.unusedVariables false
def gb' (l : List Bool) (i : Nat) : Bool := l.getD i false
theorem gb'_eq {l : List Bool} {i : Nat} (h : i < l.length) : gb' l i = l[i] := by simp [gb', h]
theorem gb'_set {s : List Bool} {i : Nat} {v : Bool} (h : i < s.length) : gb' (s.set i v) i = v := by simp [gb', h]
theorem gb'_set_ne {s : List Bool} {i j : Nat} {v : Bool} (h : ¬ i = j) : gb' (s.set i v) j = gb' s j := by simp [gb', h]
/-- Marking as the specification does it. -/
def mk (L : List Ce) : Nat → List Bool → Int → List Bool
  | 0, b, _ => b
  | l + 1, b, k => if k < 0 ∨ gb' b k.toNat = true then b else (gc L k.toNat).kd.foldl (mk L l) (b.set k.toNat true)
/-- What is marked was met. -/
def Mkd (b : List Bool) (s : List Int) : Prop := ∀ j, gb' b j = true ↔ 0 < gi s j
theorem mk_foldlen {L : List Ce} {l : Nat} (h : ∀ b k, (mk L l b k).length = b.length) : ∀ (K : List Int) (b : List Bool), (K.foldl (mk L l) b).length = b.length := by
  intro K
  induction K with
  | nil => intro b; rfl
  | cons k K ih => intro b; rw [List.foldl_cons, ih, h]
theorem mk_len (L : List Ce) : ∀ l b k, (mk L l b k).length = b.length := by
  intro l
  induction l with
  | zero => intro b k; rfl
  | succ l ih =>
    intro b k
    unfold mk
    split
    · rfl
    · rw [mk_foldlen ih]; simp
theorem mk_fold {L : List Ce} {l : Nat} (h : ∀ b s k, isO L l k = true → Mkd b s → Nn s → b.length = L.length → s.length = L.length → Mkd (mk L l b k) (mt L l s k)) :
    ∀ (K : List Int) (b : List Bool) (s : List Int), (∀ x, x ∈ K → isO L l x = true) → Mkd b s → Nn s → b.length = L.length → s.length = L.length → Mkd (K.foldl (mk L l) b) (K.foldl (mt L l) s) := by
  intro K
  induction K with
  | nil => intro b s _ h _ _ _; exact h
  | cons k K ih =>
    intro b s hK hm hs hb hl
    rw [List.foldl_cons, List.foldl_cons]
    exact ih _ _ (fun x hx => hK x (by simp [hx])) (h b s k (hK k (by simp)) hm hs hb hl) (mt_nn L l s k hs) (by rw [mk_len]; exact hb) (by rw [mt_len]; exact hl)
theorem mk_mt (L : List Ce) : ∀ l b s k, isO L l k = true → Mkd b s → Nn s → b.length = L.length → s.length = L.length → Mkd (mk L l b k) (mt L l s k) := by
  intro l
  induction l with
  | zero =>
    intro b s k h hm _ _ _
    simp [isO] at h
    rw [h, mt_m1]
    exact hm
  | succ l ih =>
    intro b s k h hm hs hb hl
    rcases isO_succ.1 h with e | ⟨hr, hct, hz, hK⟩
    · subst e
      rw [mt_m1]
      unfold mk
      rw [if_pos (.inl (by omega))]
      exact hm
    obtain ⟨q, rfl⟩ : ∃ q : Nat, k = q := ⟨k.toNat, by have := hr.1; omega⟩
    have hq : q < L.length := by have := hr.2; omega
    rw [Int.toNat_natCast] at hct hz hK
    rw [mt_nat (by omega)]
    unfold mk
    rw [Int.toNat_natCast]
    have h0 := hs q
    have hq1 := hm q
    have hnn2 : Nn (s.set q (gi s q + 1)) := by have := hs.inc (k := (q : Int)); exact this
    by_cases hv : gb' b q = true
    · have := hq1.1 hv
      rw [if_pos (.inr hv), if_neg (by omega)]
      intro j
      by_cases e : q = j
      · subst e
        rw [gi_set (by omega)]
        exact ⟨fun _ => by omega, fun _ => hv⟩
      · rw [gi_set_ne e]; exact hm j
    · have hn : ¬ 0 < gi s q := fun e => hv (hq1.2 e)
      rw [if_neg (by rintro (e | e); omega; exact hv e), if_pos (by omega)]
      refine mk_fold ih _ _ _ hK ?_ hnn2 (by simpa using hb) (by simpa using hl)
      intro j
      by_cases e : q = j
      · subst e
        rw [gb'_set (by omega), gi_set (by omega)]
        exact ⟨fun _ => by omega, fun _ => rfl⟩
      · rw [gb'_set_ne e, gi_set_ne e]; exact hm j
/-- How many of the first cells both come to. -/
def sh (x y : List Bool) : Nat → Nat
  | 0 => 0
  | k + 1 => sh x y k + (if (gb' x k && gb' y k) = true then 1 else 0)
theorem sh_le (x y : List Bool) : ∀ k, sh x y k ≤ k := by
  intro k
  induction k with
  | zero => exact Nat.le_refl _
  | succ k ih => rw [sh]; split <;> omega
def zeb (n : Nat) : List Bool := List.replicate n false
theorem zeb_len (n : Nat) : (zeb n).length = n := by simp [zeb]
theorem zeb_gb (n j : Nat) : gb' (zeb n) j = false := by
  unfold gb' zeb
  rw [List.getD_eq_getElem?_getD, List.getElem?_replicate]
  split <;> simp
/-- What SharedBy tells. -/
def shR (c : Co) (a b : Int) : Int :=
  if (gI c && (inB' c.rs.length a && inB' c.rs.length b)) = true then ((sh (mk c.cs c.lv.toNat (zeb c.cs.length) (gi c.rs a.toNat)) (mk c.cs c.lv.toNat (zeb c.cs.length) (gi c.rs b.toNat)) c.cs.length : Nat) : Int) else 0
  where inB' (m : Nat) (x : Int) : Bool := decide (0 ≤ x) && decide (x < m)
end Go.Proofs.Ytienhdlhlddemaa.Hd
