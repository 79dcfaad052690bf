/- Copies that share, of no program: what both sides call a good cow is one. -/
import Derived.Test.YtienhdlhlddemaaC1
namespace Go.Proofs.Ytienhdlhlddemaa.Hd
set_option linter.unusedVariables false

theorem isO_succ {L : List Ce} {l : Nat} {k : Int} : isO L (l + 1) k = true ↔ k = -1 ∨ (inR L.length k ∧ (gc L k.toNat).ct ≠ 0 ∧ ((gc L k.toNat).kd = [] ↔ l = 0) ∧ ∀ x, x ∈ (gc L k.toNat).kd → isO L l x = true) := by
  rw [isO]
  simp only [Bool.or_eq_true, Bool.and_eq_true, decide_eq_true_eq, beq_iff_eq, List.all_eq_true]
  constructor
  · rintro (h | ⟨h1, h2, h3, h4⟩)
    · exact .inl h
    · exact .inr ⟨h1, h2, by simpa using h3, h4⟩
  · rintro (h | ⟨h1, h2, h3, h4⟩)
    · exact .inl h
    · exact .inr ⟨h1, h2, by simpa using h3, h4⟩
/-- A cell stands at one level alone. -/
theorem isO_one {L : List Ce} (hok : ∀ i, i < L.length → okC (gc L i) = true) : ∀ (l m : Nat) (k : Int), k ≠ -1 → isO L l k = true → isO L m k = true → l = m := by
  intro l
  induction l with
  | zero => intro m k hk h _; simp [isO] at h; exact absurd h hk
  | succ l ih =>
    intro m k hk h h'
    match m with
    | 0 => simp [isO] at h'; exact absurd h' hk
    | m + 1 =>
      rcases isO_succ.1 h with e | ⟨hr, hc, hz, hK⟩
      · exact absurd e hk
      rcases isO_succ.1 h' with e | ⟨_, _, hz', hK'⟩
      · exact absurd e hk
      by_cases e : (gc L k.toNat).kd = []
      · rw [hz.1 e, hz'.1 e]
      · have ho := hok k.toNat (by omega)
        unfold okC at ho
        rw [if_neg hc, if_neg e] at ho
        simp at ho
        obtain ⟨h4, hlf, hne⟩ := ho
        have hx : ∃ x, x ∈ (gc L k.toNat).kd ∧ x ≠ -1 := by
          match hkd : (gc L k.toNat).kd, h4 with
          | [a, b, c, d], _ =>
            rw [hkd] at hne
            by_cases ha : a = -1
            · by_cases hb : b = -1
              · by_cases hc : c = -1
                · by_cases hd : d = -1
                  · subst ha hb hc hd; exact absurd rfl hne
                  · exact ⟨d, by simp, hd⟩
                · exact ⟨c, by simp, hc⟩
              · exact ⟨b, by simp, hb⟩
            · exact ⟨a, by simp, ha⟩
        obtain ⟨x, hx, hx1⟩ := hx
        rw [ih m x hx1 (hK x hx) (hK' x hx)]

theorem has_kid {K : List Int} (h4 : K.length = 4) (hne : K ≠ [-1, -1, -1, -1]) : ∃ x, x ∈ K ∧ x ≠ -1 := by
  match K, h4 with
  | [a, b, c, d], _ =>
    by_cases ha : a = -1
    · by_cases hb : b = -1
      · by_cases hc : c = -1
        · by_cases hd : d = -1
          · subst ha hb hc hd; exact absurd rfl hne
          · exact ⟨d, by simp, hd⟩
        · exact ⟨c, by simp, hc⟩
      · exact ⟨b, by simp, hb⟩
    · exact ⟨a, by simp, ha⟩
/-- A cell of a level, and all below, is gone through. -/
theorem foldM_isO {L : List Ce} {l : Nat} (h : ∀ s k, isO L l k = true → Nn s → s.length = L.length → deep L l s k = some (mt L l s k)) :
    ∀ (K s : List Int), (∀ x, x ∈ K → isO L l x = true) → Nn s → s.length = L.length → K.foldlM (deep L l) s = some (K.foldl (mt L l) s) := by
  intro K
  induction K with
  | nil => intro s _ _ _; rfl
  | cons k K ih =>
    intro s hK hs hl
    rw [List.foldlM_cons, h s k (hK k (by simp)) hs hl]
    exact ih _ (fun x hx => hK x (by simp [hx])) (mt_nn _ _ _ _ hs) (by rw [mt_len]; exact hl)
theorem deep_isO {L : List Ce} (hok : ∀ i, i < L.length → okC (gc L i) = true) : ∀ l s k, 1 ≤ l → isO L l k = true → Nn s → s.length = L.length → deep L l s k = some (mt L l s k) := by
  intro l
  induction l with
  | zero => intro s k h; omega
  | succ l ih =>
    intro s k _ h hs hl
    unfold deep mt
    rcases isO_succ.1 h with e | ⟨hr, hc, hz, hK⟩
    · rw [if_pos e, if_pos e]
    have e : ¬ k = -1 := by have := hr.1; omega
    rw [if_neg e, if_neg e, if_neg (Decidable.not_not.2 hr)]
    have hr' : inR s.length k := by rw [hl]; exact hr
    have hg := gi_inc hr'
    have h0 := hs k.toNat
    have ho := hok k.toNat (by have := hr.1; have := hr.2; omega)
    unfold okC at ho
    rw [if_neg hc] at ho
    by_cases h1 : 1 < gi (inc s k) k.toNat
    · rw [if_pos h1, if_neg (by omega)]
    · have hm1 : gi (inc s k) k.toNat = 1 := by omega
      rw [if_neg h1, if_pos hm1]
      by_cases hz0 : l = 0
      · rw [if_pos hz0]
        have hkd := hz.2 hz0
        rw [if_pos hkd] at ho
        simp at ho
        rw [if_pos ⟨hkd, ho.1, ho.2⟩, hkd]
        rfl
      · rw [if_neg hz0]
        have hkd : ¬ (gc L k.toNat).kd = [] := fun e => hz0 (hz.1 e)
        rw [if_neg hkd] at ho
        simp at ho
        obtain ⟨h4, hlf, hne⟩ := ho
        rw [foldM_isO (fun s k hi hs hl => ih s k (by omega) hi hs hl) _ _ hK hs.inc (by rw [inc_len]; exact hl)]
        obtain ⟨x, hx, hx1⟩ := has_kid h4 hne
        have hxr : 0 ≤ x := by
          obtain ⟨q, rfl⟩ : ∃ q, l = q + 1 := ⟨l - 1, by omega⟩
          rcases isO_succ.1 (hK x hx) with e | ⟨g, _⟩
          · exact absurd e hx1
          · exact g.1
        have hany : (gc L k.toNat).kd.any (fun x => decide (0 ≤ x)) = true := List.any_eq_true.2 ⟨x, hx, by simpa using hxr⟩
        simp only
        rw [if_pos ⟨hany, h4, by simp [hlf]⟩]
/-- Levels that were told are right. -/
def AtOk (L : List Ce) (a : List Int) : Prop := a.length = L.length ∧ ∀ j, gi a j = 0 ∨ ∃ l : Nat, 1 ≤ l ∧ gi a j = l ∧ isO L l j = true
theorem lvs_foldM {L : List Ce} {l : Nat} (h : ∀ a k, isO L l k = true → AtOk L a → ∃ a', lvs L l a k = some a' ∧ AtOk L a') :
    ∀ (K a : List Int), (∀ x, x ∈ K → isO L l x = true) → AtOk L a → ∃ a', K.foldlM (lvs L l) a = some a' ∧ AtOk L a' := by
  intro K
  induction K with
  | nil => intro a _ ha; exact ⟨a, rfl, ha⟩
  | cons k K ih =>
    intro a hK ha
    obtain ⟨a1, e1, h1⟩ := h a k (hK k (by simp)) ha
    obtain ⟨a2, e2, h2⟩ := ih a1 (fun x hx => hK x (by simp [hx])) h1
    exact ⟨a2, by rw [List.foldlM_cons, e1]; exact e2, h2⟩
theorem lvs_isO {L : List Ce} (hok : ∀ i, i < L.length → okC (gc L i) = true) : ∀ l a k, isO L l k = true → AtOk L a → ∃ a', lvs L l a k = some a' ∧ AtOk L a' := by
  intro l
  induction l with
  | zero => intro a k h ha; simp [isO] at h; exact ⟨a, by simp [lvs, h], ha⟩
  | succ l ih =>
    intro a k h ha
    unfold lvs
    by_cases e : k = -1
    · exact ⟨a, by rw [if_pos e], ha⟩
    rw [if_neg e]
    rcases isO_succ.1 h with e' | ⟨hr, hc, hz, hK⟩
    · exact absurd e' e
    have hkk : ((k.toNat : Nat) : Int) = k := by have := hr.1; omega
    rcases ha.2 k.toNat with h0 | ⟨m, hm, h1, h2⟩
    · rw [if_neg (by omega), if_neg (by omega)]
      refine lvs_foldM ih _ _ hK ⟨by simp [ha.1], fun j => ?_⟩
      by_cases ej : k.toNat = j
      · subst ej
        rw [gi_set (by rw [ha.1]; have := hr.1; have := hr.2; omega)]
        exact .inr ⟨l + 1, by omega, rfl, by rw [hkk]; exact h⟩
      · rw [gi_set_ne ej]; exact ha.2 j
    · rw [hkk] at h2
      have := isO_one hok _ _ k e h h2
      subst this
      rw [if_neg (by omega), if_pos h1]
      exact ⟨a, rfl, ha⟩
/-- What a cell is at a level. -/
def Form (L : List Ce) (a : List Int) (j : Nat) (m : Int) : Prop :=
  1 ≤ m ∧ j < L.length ∧ (m = 1 → (gc L j).kd = [] ∧ 1 ≤ (gc L j).lf.size ∧ (gc L j).lf.size ≤ 8) ∧ (m ≠ 1 → (gc L j).kd.length = 4 ∧ (gc L j).lf.size = 0 ∧ (gc L j).kd.any (fun x => decide (0 ≤ x)) = true ∧ ∀ x, x ∈ (gc L j).kd → x = -1 ∨ (inR L.length x ∧ gi a x.toNat = m - 1))
theorem Form.ext {L : List Ce} {a b : List Int} {j : Nat} {m : Int} (h : Form L a j m) (he : ∀ j, gi a j ≠ 0 → gi b j = gi a j) : Form L b j m := by
  obtain ⟨h1, h2, h3, h4⟩ := h
  refine ⟨h1, h2, h3, fun hm => ?_⟩
  obtain ⟨g1, g2, g3, g4⟩ := h4 hm
  refine ⟨g1, g2, g3, fun x hx => ?_⟩
  rcases g4 x hx with e | ⟨e1, e2⟩
  · exact .inl e
  · exact .inr ⟨e1, by rw [he _ (by omega)]; exact e2⟩
/-- The two goings down met the same cells. -/
def Same (L : List Ce) (s a : List Int) : Prop := Nn s ∧ s.length = L.length ∧ a.length = L.length ∧ ∀ j, gi s j = 0 ↔ gi a j = 0
/-- What a going down leaves. -/
def Left (L : List Ce) (a a' : List Int) : Prop := (∀ j, gi a j ≠ 0 → gi a' j = gi a j) ∧ ∀ j, gi a j = 0 → gi a' j ≠ 0 → Form L a' j (gi a' j)
theorem Left.refl (L : List Ce) (a : List Int) : Left L a a := ⟨fun _ _ => rfl, fun j h h' => absurd h h'⟩
theorem Left.trans {L : List Ce} {a b c : List Int} (h : Left L a b) (k : Left L b c) : Left L a c := by
  refine ⟨fun j hj => ?_, fun j hj hj' => ?_⟩
  · rw [k.1 j (by rw [h.1 j hj]; exact hj), h.1 j hj]
  · by_cases e : gi b j = 0
    · exact k.2 j e hj'
    · have e2 := k.1 j e
      rw [e2]
      exact (h.2 j hj e).ext k.1
theorem both_foldM {L : List Ce} {l : Nat} (h : ∀ s a k s' a', Same L s a → deep L l s k = some s' → lvs L l a k = some a' → Same L s' a' ∧ Left L a a' ∧ (k = -1 ∨ (inR L.length k ∧ gi a' k.toNat = l))) :
    ∀ (K s a s' a' : List Int), Same L s a → K.foldlM (deep L l) s = some s' → K.foldlM (lvs L l) a = some a' → Same L s' a' ∧ Left L a a' ∧ ∀ x, x ∈ K → x = -1 ∨ (inR L.length x ∧ gi a' x.toNat = l) := by
  intro K
  induction K with
  | nil => intro s a s' a' hs e1 e2; simp at e1 e2; subst e1 e2; exact ⟨hs, Left.refl _ _, by simp⟩
  | cons k K ih =>
    intro s a s' a' hs e1 e2
    rw [List.foldlM_cons] at e1 e2
    cases d1 : deep L l s k with
    | none => rw [d1] at e1; simp at e1
    | some s1 =>
      cases d2 : lvs L l a k with
      | none => rw [d2] at e2; simp at e2
      | some a1 =>
        rw [d1] at e1
        rw [d2] at e2
        obtain ⟨g1, g2, g3⟩ := h s a k s1 a1 hs d1 d2
        obtain ⟨k1, k2, k3⟩ := ih s1 a1 s' a' g1 e1 e2
        refine ⟨k1, g2.trans k2, fun x hx => ?_⟩
        rcases List.mem_cons.1 hx with e | e
        · subst e
          rcases g3 with e | ⟨r, e⟩
          · exact .inl e
          · refine .inr ⟨r, ?_⟩
            by_cases h0 : gi a1 x.toNat = 0
            · rw [h0] at e
              match l, e with
              | 0, _ =>
                exfalso
                simp [deep] at d1
            · rw [k2.1 _ h0]; exact e
        · exact k3 x e
theorem both {L : List Ce} : ∀ l s a k s' a', Same L s a → deep L l s k = some s' → lvs L l a k = some a' → Same L s' a' ∧ Left L a a' ∧ (k = -1 ∨ (inR L.length k ∧ gi a' k.toNat = l)) := by
  intro l
  induction l with
  | zero => intro s a k s' a' _ h; simp [deep] at h
  | succ l ih =>
    intro s a k s' a' hS h h'
    unfold deep at h
    unfold lvs at h'
    by_cases e : k = -1
    · rw [if_pos e] at h h'
      simp at h h'
      subst h h'
      exact ⟨hS, Left.refl _ _, .inl e⟩
    rw [if_neg e] at h h'
    by_cases hr : inR L.length k
    · rw [if_neg (Decidable.not_not.2 hr)] at h
      obtain ⟨hs, hsl, hal, hj⟩ := hS
      have hrs : inR s.length k := by rw [hsl]; exact hr
      have hg := gi_inc hrs
      have h0 := hs k.toNat
      have hjk := hj k.toNat
      by_cases h1 : 1 < gi (inc s k) k.toNat
      · rw [if_pos h1] at h
        have ha : ¬ gi a k.toNat = 0 := fun e => by have := hjk.2 e; omega
        by_cases hlv : gi a k.toNat = ((l + 1 : Nat) : Int)
        · rw [if_neg (by omega), if_pos hlv] at h'
          simp at h h'
          subst h h'
          refine ⟨⟨hs.inc, by rw [inc_len]; exact hsl, hal, fun j => ?_⟩, Left.refl _ _, .inr ⟨hr, hlv⟩⟩
          by_cases ej : k.toNat = j
          · subst ej
            constructor
            · intro h; omega
            · intro h; omega
          · rw [gi_inc_ne ej]; exact hj j
        · rw [if_pos ⟨ha, hlv⟩] at h'
          simp at h'
      · rw [if_neg h1] at h
        have ha : gi a k.toNat = 0 := hjk.1 (by omega)
        rw [if_neg (by omega), if_neg (by omega)] at h'
        have hk : k.toNat < L.length := by have := hr.1; have := hr.2; omega
        have hS1 : Same L (inc s k) (a.set k.toNat ((l + 1 : Nat) : Int)) := by
          refine ⟨hs.inc, by rw [inc_len]; exact hsl, by simp [hal], fun j => ?_⟩
          by_cases ej : k.toNat = j
          · subst ej
            rw [gi_set (by omega)]
            constructor
            · intro h; omega
            · intro h; omega
          · rw [gi_inc_ne ej, gi_set_ne ej]; exact hj j
        by_cases hz : l = 0
        · subst hz
          rw [if_pos rfl] at h
          by_cases hf : (gc L k.toNat).kd = [] ∧ 1 ≤ (gc L k.toNat).lf.size ∧ (gc L k.toNat).lf.size ≤ 8
          · rw [if_pos hf] at h
            rw [hf.1] at h'
            simp at h h'
            subst h h'
            have hg1 : gi (a.set k.toNat 1) k.toNat = 1 := gi_set (by omega)
            refine ⟨hS1, ⟨fun j h0 => ?_, fun j h0 h1 => ?_⟩, .inr ⟨hr, by rw [hg1]; rfl⟩⟩
            · rw [gi_set_ne (fun e => by subst e; exact h0 ha)]
            · by_cases ej : k.toNat = j
              · subst ej
                rw [hg1]
                exact ⟨by omega, hk, fun _ => hf, fun h => absurd rfl h⟩
              · rw [gi_set_ne ej] at h1; exact absurd h0 h1
          · rw [if_neg hf] at h
            simp at h
        · rw [if_neg hz] at h
          cases e2 : (gc L k.toNat).kd.foldlM (deep L l) (inc s k) with
          | none => rw [e2] at h; simp at h
          | some s2 =>
            rw [e2] at h
            simp only at h
            split at h
            · rename_i hf
              simp at h
              subst h
              obtain ⟨g1, g2, g3⟩ := both_foldM ih _ _ _ _ _ hS1 e2 h'
              have hg1 : gi (a.set k.toNat ((l + 1 : Nat) : Int)) k.toNat = ((l + 1 : Nat) : Int) := gi_set (by omega)
              have hg2 : gi a' k.toNat = ((l + 1 : Nat) : Int) := by rw [g2.1 _ (by omega)]; exact hg1
              refine ⟨g1, ⟨fun j h0 => ?_, fun j h0 h1 => ?_⟩, .inr ⟨hr, hg2⟩⟩
              · have ej : ¬ k.toNat = j := fun e => by subst e; exact h0 ha
                rw [g2.1 j (by rw [gi_set_ne ej]; exact h0), gi_set_ne ej]
              · by_cases ej : k.toNat = j
                · subst ej
                  rw [hg2]
                  refine ⟨by omega, hk, fun h => by omega, fun _ => ⟨hf.2.1, hf.2.2, hf.1, fun x hx => ?_⟩⟩
                  rcases g3 x hx with e | ⟨r, e⟩
                  · exact .inl e
                  · exact .inr ⟨r, by omega⟩
                · exact g2.2 j (by rw [gi_set_ne ej]; exact h0) h1
            · simp at h
    · rw [if_pos hr] at h
      simp at h
theorem form_isO {L : List Ce} {a : List Int} (hct : ∀ j, gi a j ≠ 0 → (gc L j).ct ≠ 0) (hf : ∀ j, gi a j ≠ 0 → Form L a j (gi a j)) : ∀ (l : Nat) (k : Int), 1 ≤ l → k = -1 ∨ (inR L.length k ∧ gi a k.toNat = l) → isO L l k = true := by
  intro l
  induction l with
  | zero => intro k h; omega
  | succ l ih =>
    intro k _ h
    rcases h with e | ⟨hr, e⟩
    · exact isO_succ.2 (.inl e)
    have hne : gi a k.toNat ≠ 0 := by omega
    obtain ⟨f1, f2, f3, f4⟩ := hf _ hne
    refine isO_succ.2 (.inr ⟨hr, hct _ hne, ?_, ?_⟩)
    · constructor
      · intro h0
        by_cases h1 : gi a k.toNat = 1
        · omega
        · have := (f4 h1).1; rw [h0] at this; simp at this
      · intro h0
        exact (f3 (by omega)).1
    · intro x hx
      by_cases h1 : gi a k.toNat = 1
      · rw [(f3 h1).1] at hx; simp at hx
      · rcases (f4 h1).2.2.2 x hx with e' | ⟨r, e'⟩
        · exact ih x (by omega) (.inl e')
        · exact ih x (by omega) (.inr ⟨r, by omega⟩)
theorem map_ct {L : List Ce} {s : List Int} (hl : s.length = L.length) : s = L.map (·.ct) ↔ ∀ k, k < L.length → (gc L k).ct = gi s k := by
  constructor
  · intro h k hk
    rw [h, gc_eq hk]
    simp [gi, hk]
  · intro h
    apply List.ext_getElem
    · simpa using hl
    · intro k h1 h2
      have := h k (by omega)
      rw [gc_eq (by omega)] at this
      rw [List.getElem_map, this]
      simp [gi, h1]
/-- What both sides call good is one. -/
theorem cow_is (c : Co) : gS c = gI c := by
  unfold gS gI
  by_cases hf : few c = true
  · rw [hf]
    simp only [Bool.true_and]
    have hlv : 1 ≤ c.lv.toNat := by unfold few at hf; simp at hf; omega
    rw [Bool.eq_iff_iff]
    constructor
    · intro h
      cases e : c.rs.foldlM (deep c.cs c.lv.toNat) (zer c.cs.length) with
      | none => rw [e] at h; simp at h
      | some s =>
        rw [e] at h
        simp only [Bool.and_eq_true, List.all_eq_true, List.mem_range, decide_eq_true_eq, Bool.or_eq_true, Bool.not_eq_true'] at h
        obtain ⟨hsome, hk⟩ := h
        obtain ⟨a, ha⟩ := Option.isSome_iff_exists.1 hsome
        have hmet : met c c.rs = s := deep_foldM (deep_mt _ _) _ _ _ (zer_nn _) (zer_len _) e
        obtain ⟨hS, hL, hR⟩ := both_foldM (both c.lv.toNat) _ _ _ _ _ ⟨zer_nn _, zer_len _, zer_len _, fun j => by rw [zer_gi]⟩ e ha
        have hform : ∀ j, gi a j ≠ 0 → Form c.cs a j (gi a j) := fun j h => hL.2 j (zer_gi _ _) h
        have hct : ∀ j, gi a j ≠ 0 → (gc c.cs j).ct ≠ 0 := fun j h => by
          have hj := (hform j h).2.1
          rw [(hk j hj).1]
          exact fun e => h ((hS.2.2.2 j).1 e)
        simp only [Bool.and_eq_true, List.all_eq_true, decide_eq_true_eq]
        refine ⟨fun x hx => ?_, fun x hx => form_isO hct hform _ x hlv (hR x hx), ?_⟩
        · obtain ⟨i, hi, rfl⟩ := List.getElem_of_mem hx
          rw [← gc_eq hi]
          obtain ⟨k1, k2⟩ := hk i hi
          unfold okC
          by_cases h0 : (gc c.cs i).ct = 0
          · rw [if_pos h0]
            rcases k2 with k2 | k2
            · simp [h0] at k2
            · simp [k2.1, k2.2]
          · rw [if_neg h0]
            have ha0 : gi a i ≠ 0 := fun e => h0 (by rw [k1]; exact (hS.2.2.2 i).2 e)
            obtain ⟨f1, f2, f3, f4⟩ := hform i ha0
            by_cases h1 : gi a i = 1
            · rw [if_pos (f3 h1).1]
              simp [(f3 h1).2]
            · obtain ⟨g1, g2, g3, g4⟩ := f4 h1
              rw [if_neg (fun e => by rw [e] at g1; simp at g1)]
              simp only [Bool.and_eq_true, decide_eq_true_eq, Bool.not_eq_true', decide_eq_false_iff_not]
              refine ⟨g1, g2, fun e => ?_⟩
              rw [e] at g3
              simp at g3
        · rw [hmet]
          exact (map_ct hS.2.1).2 (fun k hk' => (hk k hk').1)
    · intro h
      simp only [Bool.and_eq_true, List.all_eq_true, decide_eq_true_eq] at h
      obtain ⟨hok, hro, hme⟩ := h
      have hok' : ∀ i, i < c.cs.length → okC (gc c.cs i) = true := fun i hi => hok _ (by rw [gc_eq hi]; exact List.getElem_mem hi)
      rw [foldM_isO (fun s k hi hs hl => deep_isO hok' _ s k hlv hi hs hl) _ _ hro (zer_nn _) (zer_len _)]
      obtain ⟨a, ha, _⟩ := lvs_foldM (lvs_isO hok' c.lv.toNat) c.rs (zer c.cs.length) hro ⟨zer_len _, fun j => .inl (zer_gi _ _)⟩
      simp only [ha, Option.isSome_some, Bool.true_and, List.all_eq_true, List.mem_range, Bool.and_eq_true, decide_eq_true_eq, Bool.or_eq_true, Bool.not_eq_true', decide_eq_false_iff_not]
      intro k hk
      have hm : met c c.rs = (c.cs).map (·.ct) := hme
      refine ⟨(map_ct (by rw [met_len])).1 hm k hk, ?_⟩
      have ho := hok' k hk
      unfold okC at ho
      by_cases h0 : (gc c.cs k).ct = 0
      · rw [if_pos h0] at ho
        simp at ho
        exact .inr (by simp [ho.1, ho.2])
      · exact .inl h0
  · simp [hf]
end Go.Proofs.Ytienhdlhlddemaa.Hd
