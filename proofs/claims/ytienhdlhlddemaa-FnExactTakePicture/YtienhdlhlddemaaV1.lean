import Derived.Test.YtienhdlhlddemaaM8
/- Both sides: the leaves below a cell. -/
namespace Go.Proofs.Ytienhdlhlddemaa.Hd
set_option linter.unusedVariables false
/-- The text at a place of a list. -/
def gs (l : List ByteArray) (i : Nat) : ByteArray := l.getD i ⟨#[]⟩
theorem gs_eq {l : List ByteArray} {i : Nat} (h : i < l.length) : gs l i = l[i] := by simp [gs, h]
/-- The leaves below a cell, in the order of their places. -/
def lvf (L : List Ce) : Nat → Int → List ByteArray
  | 0, _ => []
  | l + 1, k => if k = -1 then List.replicate (4 ^ l) ⟨#[]⟩ else if (gc L k.toNat).kd = [] then [(gc L k.toNat).lf] else (gc L k.toNat).kd.flatMap (lvf L l)
/-- The leaf at a place below a cell. -/
def la (L : List Ce) : Nat → Int → Nat → ByteArray
  | 0, k, _ => if k < 0 then ⟨#[]⟩ else (gc L k.toNat).lf
  | l + 1, k, t => if k < 0 then ⟨#[]⟩ else la L l (gi (gc L k.toNat).kd (t / 4 ^ l)) (t % 4 ^ l)
theorem flat_len {f : Int → List ByteArray} {N : Nat} : ∀ (K : List Int), (∀ x, x ∈ K → (f x).length = N) → (K.flatMap f).length = K.length * N := by
  intro K
  induction K with
  | nil => intro _; simp
  | cons k K ih =>
    intro h
    rw [List.flatMap_cons, List.length_append, h k (by simp), ih (fun x hx => h x (by simp [hx])), List.length_cons, Nat.add_mul, Nat.one_mul]
    omega
theorem flat_at {f : Int → List ByteArray} {N : Nat} (hN : 0 < N) : ∀ (K : List Int) (t : Nat), (∀ x, x ∈ K → (f x).length = N) → t < K.length * N → gs (K.flatMap f) t = gs (f (gi K (t / N))) (t % N) := by
  intro K
  induction K with
  | nil => intro t _ h; simp at h
  | cons k K ih =>
    intro t h ht
    rw [List.flatMap_cons]
    have hk := h k (by simp)
    by_cases h1 : t < N
    · rw [Nat.div_eq_of_lt h1, Nat.mod_eq_of_lt h1]
      unfold gs gi
      simp [List.getElem?_append_left (show t < (f k).length by omega)]
    · have e1 : t / N = (t - N) / N + 1 := by rw [Nat.div_eq_sub_div hN (by omega)]
      have e2 : t % N = (t - N) % N := by rw [Nat.mod_eq_sub_mod (by omega)]
      have e3 := ih (t - N) (fun x hx => h x (by simp [hx])) (by rw [List.length_cons, Nat.add_mul, Nat.one_mul] at ht; omega)
      rw [e1, e2]
      have e4 : gi (k :: K) ((t - N) / N + 1) = gi K ((t - N) / N) := by simp [gi]
      rw [e4, ← e3]
      unfold gs
      simp [List.getElem?_append_right (show (f k).length ≤ t by omega), hk]
theorem lvf_len {L : List Ce} (hok : ∀ i, i < L.length → okC (gc L i) = true) : ∀ l k, isO L (l + 1) k = true → (lvf L (l + 1) k).length = 4 ^ l := by
  intro l
  induction l with
  | zero =>
    intro k h
    rw [lvf]
    rcases isO_succ.1 h with e | ⟨_, _, hz, _⟩
    · rw [if_pos e]; simp
    · split
      · simp
      · rw [if_pos (hz.2 rfl)]; rfl
  | succ l ih =>
    intro k h
    rw [lvf]
    rcases isO_succ.1 h with e | ⟨hr, hct, hz, hK⟩
    · rw [if_pos e]; simp
    · have e : ¬ k = -1 := by have := hr.1; omega
      have hkd : ¬ (gc L k.toNat).kd = [] := fun e => by have := hz.1 e; omega
      rw [if_neg e, if_neg hkd, flat_len _ (fun x hx => ih x (hK x hx))]
      have ho := hok k.toNat (by have := hr.1; have := hr.2; omega)
      unfold okC at ho
      rw [if_neg hct, if_neg hkd] at ho
      simp at ho
      rw [ho.1, Nat.pow_succ, Nat.mul_comm]
theorem la_lvf {L : List Ce} (hok : ∀ i, i < L.length → okC (gc L i) = true) : ∀ l k t, isO L (l + 1) k = true → t < 4 ^ l → gs (lvf L (l + 1) k) t = la L l k t := by
  intro l
  induction l with
  | zero =>
    intro k t h ht
    have : t = 0 := by simp at ht; exact ht
    subst this
    rw [lvf]
    rcases isO_succ.1 h with e | ⟨hr, _, hz, _⟩
    · subst e
      simp [la, gs]
    · have e : ¬ k = -1 := by have := hr.1; omega
      rw [if_neg e, if_pos (hz.2 rfl)]
      unfold la
      rw [if_neg (by have := hr.1; omega)]
      rfl
  | succ l ih =>
    intro k t h ht
    rw [lvf]
    rcases isO_succ.1 h with e | ⟨hr, hct, hz, hK⟩
    · subst e
      unfold la
      rw [if_pos rfl, if_pos (by omega)]
      unfold gs
      simp [ht]
    · have e : ¬ k = -1 := by have := hr.1; omega
      have hkd : ¬ (gc L k.toNat).kd = [] := fun e => by have := hz.1 e; omega
      have ho := hok k.toNat (by have := hr.1; have := hr.2; omega)
      unfold okC at ho
      rw [if_neg hct, if_neg hkd] at ho
      simp at ho
      have hp : 0 < 4 ^ l := Nat.pow_pos (by omega)
      have ht' : t < (gc L k.toNat).kd.length * 4 ^ l := by rw [ho.1, Nat.mul_comm, ← Nat.pow_succ]; exact ht
      rw [if_neg e, if_neg hkd, flat_at hp _ _ (fun x hx => lvf_len hok l x (hK x hx)) ht']
      have hd : t / 4 ^ l < (gc L k.toNat).kd.length := by
        rw [Nat.div_lt_iff_lt_mul hp]
        exact ht'
      rw [ih _ _ (hK _ (by rw [gi_eq hd]; exact List.getElem_mem _)) (Nat.mod_lt _ hp)]
      conv => rhs; unfold la
      rw [if_neg (by have := hr.1; omega)]
end Go.Proofs.Ytienhdlhlddemaa.Hd
namespace Go.Proofs.Ytienhdlhlddemaa
open Go.ChangeShapes Go.WideShapes Go.ChangeAt Go.RowKit
set_option linter.unusedVariables false
open Hd

attribute [local go_sem] Oper.semAt_some

/-- A row of texts that can be read. -/
abbrev Strs (w : World) (a : Option Addr) (l : List ByteArray) : Prop := At w a l.length (fun i => .string (gs l i))
theorem Strs.nil {w : World} {a : Option Addr} : Strs w a [] := fun h => absurd rfl h
theorem info9 : (Try.prog.info? 9).map (fun i => (i.zero, i.size, i.bytes)) = some (some (.string ⟨#[]⟩), 1, 16) := by kernel_rfl
def css (l : List ByteArray) : List Value := l.map .string
theorem css_len (l : List ByteArray) : (css l).length = l.length := by simp [css]
theorem css_app (l m : List ByteArray) : css (l ++ m) = css l ++ css m := by simp [css]
theorem css_one (l : List ByteArray) : ∀ u ∈ css l, u.oneCell' = true := by
  intro u hu
  simp only [css, List.mem_map] at hu
  obtain ⟨x, _, rfl⟩ := hu
  rfl
theorem css_at {l : List ByteArray} {i : Nat} (h : i < l.length) : (css l)[i]? = some (.string (gs l i)) := by simp [css, gs, h]
/-- A row of texts that may be appended to. -/
abbrev OwnS (w : World) (B : Nat) (v : Value) (l : List ByteArray) : Prop := w.ownsRow B 9 1 v l.length (css l)
theorem OwnS.nil (w : World) (B : Nat) : OwnS w B (.slice none 0 0) [] := ⟨rfl, .inl ⟨rfl, rfl⟩⟩
theorem OwnS.strs {w : World} {B : Nat} {v : Value} {l : List ByteArray} (h : OwnS w B v l) : ∃ a c, v = .slice a l.length c ∧ l.length ≤ c ∧ Strs w a l := by
  rcases h.2 with ⟨rfl, h2⟩ | ⟨g, cap, cur, rfl, hb, hg, hc, hm, hcs, ht⟩
  · have : l = [] := List.eq_nil_of_length_eq_zero h2
    subst this
    exact ⟨none, 0, rfl, Nat.le_refl _, Strs.nil⟩
  · refine ⟨_, cap, rfl, hc, fun _ => ⟨g, 0, rfl, fun i hi => ?_⟩⟩
    have k := css_at hi
    rw [← ht, List.getElem?_take, if_pos (by omega)] at k
    rw [Nat.zero_add]
    exact cell_of_block hg (by simpa using k)
theorem ownS_made (w : World) (n : Nat) (hn : n ≤ 1000) : OwnS (w.alloc (.cells (made (.string ⟨#[]⟩) n) 9)) w.heap.size (.slice (some ⟨w.heap.size, 0, none⟩) n n) (List.replicate n ⟨#[]⟩) := by
  have := toList_madeCells_one (Value.string ⟨#[]⟩) n
  refine ⟨by simp [css], .inr ⟨w.heap.size, n, made (.string ⟨#[]⟩) n, by simp, Nat.le_refl _, al1 _ _, by simp, by unfold maxLen; omega, by rw [size_made, Nat.mul_one], ?_⟩⟩
  unfold made
  rw [show (Value.string ⟨#[]⟩).cells = #[.string ⟨#[]⟩] from rfl, this]
  simp [css]
theorem OwnS.one (w : World) (s : ByteArray) : OwnS (w.alloc (.cells #[.string s] 9)) w.heap.size (.slice (some ⟨w.heap.size, 0, none⟩) 1 1) [s] :=
  ⟨rfl, .inr ⟨w.heap.size, 1, #[.string s], rfl, Nat.le_refl _, al1 _ _, Nat.le_refl _, by unfold maxLen; decide, rfl, rfl⟩⟩
theorem OwnS.below {w w' : World} {B : Nat} {v : Value} {l : List ByteArray} (h : OwnS w B v l) (hb : Below w.heap.size w w') : OwnS w' B v l := owns_below h hb
end Go.Proofs.Ytienhdlhlddemaa
