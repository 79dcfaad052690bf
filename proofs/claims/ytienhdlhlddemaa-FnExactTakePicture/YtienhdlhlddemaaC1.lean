/- Copies that share, of no program: cells, going down from the roots, and what a good cow is. -/
import Derived.Test.YtienhdlhlddemaaP1
namespace Go.Proofs.Ytienhdlhlddemaa.Hd
set_option linter.unusedVariables false

/-- A cell. -/
structure Ce where
  ct : Int
  lf : ByteArray
  kd : List Int
def ce0 : Ce := ⟨0, ⟨#[]⟩, []⟩
def gc (l : List Ce) (i : Nat) : Ce := l.getD i ce0
theorem gc_eq {l : List Ce} {i : Nat} (h : i < l.length) : gc l i = l[i] := by simp [gc, h]
/-- A cow. -/
structure Co where
  cs : List Ce
  rs : List Int
  lv : Int
/-- One more at a place. -/
def inc (s : List Int) (k : Int) : List Int := s.set k.toNat (gi s k.toNat + 1)
abbrev inR (n : Nat) (k : Int) : Prop := 0 ≤ k ∧ k < n
/-- Going down as the specification does it: what was met ahead, and how often each then; none where a cell is wrong. -/
def deep (L : List Ce) : Nat → List Int → Int → Option (List Int)
  | 0, _, _ => none
  | l + 1, s, k =>
    if k = -1 then some s
    else if ¬ inR L.length k then none
    else if 1 < gi (inc s k) k.toNat then some (inc s k)
    else if l = 0 then (if (gc L k.toNat).kd = [] ∧ 1 ≤ (gc L k.toNat).lf.size ∧ (gc L k.toNat).lf.size ≤ 8 then some (inc s k) else none)
    else match (gc L k.toNat).kd.foldlM (deep L l) (inc s k) with
      | none => none
      | some s2 => if (gc L k.toNat).kd.any (fun x => decide (0 ≤ x)) = true ∧ (gc L k.toNat).kd.length = 4 ∧ (gc L k.toNat).lf.size = 0 then some s2 else none
/-- Each cell at one level alone. -/
def lvs (L : List Ce) : Nat → List Int → Int → Option (List Int)
  | 0, a, k => if k = -1 then some a else if gi a k.toNat = 0 then some a else none
  | l + 1, a, k =>
    if k = -1 then some a
    else if gi a k.toNat ≠ 0 ∧ gi a k.toNat ≠ ((l + 1 : Nat) : Int) then none
    else if gi a k.toNat = ((l + 1 : Nat) : Int) then some a
    else (gc L k.toNat).kd.foldlM (lvs L l) (a.set k.toNat ((l + 1 : Nat) : Int))
/-- Going down as the program does it: what is met, how often. -/
def mt (L : List Ce) : Nat → List Int → Int → List Int
  | 0, s, k => if k = -1 then s else inc s k
  | l + 1, s, k => if k = -1 then s else if gi (inc s k) k.toNat = 1 then (gc L k.toNat).kd.foldl (mt L l) (inc s k) else inc s k
/-- A cell of a level, and all below. -/
def isO (L : List Ce) : Nat → Int → Bool
  | 0, k => decide (k = -1)
  | l + 1, k => decide (k = -1) || (decide (inR L.length k) && (decide ((gc L k.toNat).ct ≠ 0) && ((decide ((gc L k.toNat).kd = []) == decide (l = 0)) && (gc L k.toNat).kd.all (isO L l))))
/-- A cell by itself. -/
def okC (x : Ce) : Bool :=
  if x.ct = 0 then decide (x.lf.size = 0) && decide (x.kd = [])
  else if x.kd = [] then decide (1 ≤ x.lf.size) && decide (x.lf.size ≤ 8)
  else decide (x.kd.length = 4) && (decide (x.lf.size = 0) && !decide (x.kd = [-1, -1, -1, -1]))
def zer (n : Nat) : List Int := List.replicate n 0
def few (c : Co) : Bool := decide (1 ≤ c.lv) && (decide (c.lv ≤ 3) && (decide (c.cs.length ≤ 80) && (decide (1 ≤ c.rs.length) && decide (c.rs.length ≤ 8))))
/-- How often each cell is met from these. -/
def met (c : Co) (r : List Int) : List Int := r.foldl (mt c.cs c.lv.toNat) (zer c.cs.length)
/-- Good, as the specification asks. -/
def gS (c : Co) : Bool :=
  few c && match c.rs.foldlM (deep c.cs c.lv.toNat) (zer c.cs.length) with
    | none => false
    | some s => (c.rs.foldlM (lvs c.cs c.lv.toNat) (zer c.cs.length)).isSome && (List.range c.cs.length).all (fun k => decide ((gc c.cs k).ct = gi s k) && (!decide ((gc c.cs k).ct = 0) || (decide ((gc c.cs k).lf.size = 0) && decide ((gc c.cs k).kd = []))))
/-- Good, as the program asks. -/
def gI (c : Co) : Bool := few c && (c.cs.all okC && (c.rs.all (isO c.cs c.lv.toNat) && decide (met c c.rs = c.cs.map (·.ct))))

theorem gi_set {s : List Int} {i : Nat} {v : Int} (h : i < s.length) : gi (s.set i v) i = v := by simp [gi, h]
theorem gi_set_ne {s : List Int} {i j : Nat} {v : Int} (h : ¬ i = j) : gi (s.set i v) j = gi s j := by simp [gi, h]
theorem inc_len (s : List Int) (k : Int) : (inc s k).length = s.length := by simp [inc]
theorem gi_inc {s : List Int} {k : Int} (h : inR s.length k) : gi (inc s k) k.toNat = gi s k.toNat + 1 := gi_set (by omega)
theorem gi_inc_ne {s : List Int} {k : Int} {j : Nat} (h : ¬ k.toNat = j) : gi (inc s k) j = gi s j := gi_set_ne h
/-- No number is below 0. -/
def Nn (s : List Int) : Prop := ∀ j, 0 ≤ gi s j
theorem gi_ge {s : List Int} {j : Nat} (h : s.length ≤ j) : gi s j = 0 := by simp [gi, h]
theorem Nn.inc {s : List Int} {k : Int} (h : Nn s) : Nn (Hd.inc s k) := by
  intro j
  by_cases e : k.toNat = j
  · subst e
    by_cases hl : k.toNat < s.length
    · unfold Hd.inc; rw [gi_set hl]; have := h k.toNat; omega
    · rw [gi_ge (by rw [inc_len]; omega)]; exact Int.le_refl 0
  · rw [gi_inc_ne e]; exact h j
theorem zer_nn (n : Nat) : Nn (zer n) := by
  intro j
  unfold gi zer
  rw [List.getD_eq_getElem?_getD, List.getElem?_replicate]
  split <;> simp
theorem zer_gi (n j : Nat) : gi (zer n) j = 0 := by
  unfold gi zer
  rw [List.getD_eq_getElem?_getD, List.getElem?_replicate]
  split <;> simp
theorem zer_len (n : Nat) : (zer n).length = n := by simp [zer]

theorem foldl_len {L : List Ce} {l : Nat} (h : ∀ s k, (mt L l s k).length = s.length) : ∀ (K s : List Int), (K.foldl (mt L l) s).length = s.length := by
  intro K
  induction K with
  | nil => intro s; rfl
  | cons k K ih => intro s; rw [List.foldl_cons, ih, h]
theorem mt_len (L : List Ce) : ∀ l s k, (mt L l s k).length = s.length := by
  intro l
  induction l with
  | zero => intro s k; unfold mt; split <;> simp [inc]
  | succ l ih =>
    intro s k
    unfold mt
    split
    · rfl
    · split
      · rw [foldl_len ih, inc_len]
      · rw [inc_len]
theorem foldl_nn {L : List Ce} {l : Nat} (h : ∀ s k, Nn s → Nn (mt L l s k)) : ∀ (K s : List Int), Nn s → Nn (K.foldl (mt L l) s) := by
  intro K
  induction K with
  | nil => intro s hs; exact hs
  | cons k K ih => intro s hs; exact ih _ (h _ _ hs)
theorem mt_nn (L : List Ce) : ∀ l s k, Nn s → Nn (mt L l s k) := by
  intro l
  induction l with
  | zero => intro s k hs; unfold mt; split; exact hs; exact hs.inc
  | succ l ih =>
    intro s k hs
    unfold mt
    split
    · exact hs
    · split
      · exact foldl_nn ih _ _ hs.inc
      · exact hs.inc
theorem met_len (c : Co) (r : List Int) : (met c r).length = c.cs.length := by unfold met; rw [foldl_len (mt_len _ _), zer_len]
theorem met_nn (c : Co) (r : List Int) : Nn (met c r) := foldl_nn (mt_nn _ _) _ _ (zer_nn _)

/-- Where the specification goes on, it counts as the program. -/
theorem deep_foldM {L : List Ce} {l : Nat} (h : ∀ s k s', Nn s → s.length = L.length → deep L l s k = some s' → mt L l s k = s') :
    ∀ (K s s' : List Int), Nn s → s.length = L.length → K.foldlM (deep L l) s = some s' → K.foldl (mt L l) s = s' := by
  intro K
  induction K with
  | nil => intro s s' _ _ e; simpa using e
  | cons k K ih =>
    intro s s' hs hl e
    rw [List.foldlM_cons] at e
    cases e1 : deep L l s k with
    | none => rw [e1] at e; simp at e
    | some s1 =>
      rw [e1] at e
      have := h s k s1 hs hl e1
      rw [List.foldl_cons, this]
      exact ih s1 s' (this ▸ mt_nn L l s k hs) (by rw [← this, mt_len]; exact hl) e
theorem deep_mt (L : List Ce) : ∀ l s k s', Nn s → s.length = L.length → deep L l s k = some s' → mt L l s k = s' := by
  intro l
  induction l with
  | zero => intro s k s' _ _ h; simp [deep] at h
  | succ l ih =>
    intro s k s' hs hl h
    unfold deep at h
    unfold mt
    split at h
    · rename_i e; rw [if_pos e]; simpa using h
    · rename_i e
      rw [if_neg e]
      split at h
      · simp at h
      · rename_i hr
        have hr' : inR s.length k := by rw [hl]; exact Decidable.not_not.1 hr
        have hg := gi_inc hr'
        have h0 := hs k.toNat
        split at h
        · rename_i h1
          rw [if_neg (by omega)]; simpa using h
        · rename_i h1
          rw [if_pos (by omega)]
          split at h
          · rename_i hz
            split at h
            · rename_i hk
              rw [hk.1]
              simpa using h
            · simp at h
          · split at h
            · simp at h
            · rename_i s2 e2
              split at h
              · simp at h
                subst h
                exact deep_foldM ih _ _ _ hs.inc (by rw [inc_len]; exact hl) e2
              · simp at h
theorem deep_len {L : List Ce} {l : Nat} {s s' : List Int} {k : Int} (hs : Nn s) (hl : s.length = L.length) (h : deep L l s k = some s') : s'.length = L.length := by
  rw [← deep_mt L l s k s' hs hl h, mt_len]; exact hl
end Go.Proofs.Ytienhdlhlddemaa.Hd
