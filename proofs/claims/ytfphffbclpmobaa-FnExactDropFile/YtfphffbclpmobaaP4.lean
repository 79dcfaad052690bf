import Derived.Test.YtfphffbclpmobaaM2
/- Entries in strict order by place, and the maps that they stand for. -/
namespace Go.Proofs.Ytfphffbclpmobaa
open Go.ChangeShapes Go.WideShapes Go.ChangeAt Go.RowKit Go.Maps Go.WideMaps
set_option linter.unusedVariables false
open Hd

/-- An entry: text, place, uses. -/
structure En where
  tx : ByteArray
  pl : Int
  us : Int
theorem En.ext' {x y : En} (h1 : x.tx = y.tx) (h2 : x.pl = y.pl) (h3 : x.us = y.us) : x = y := by cases x; cases y; simp_all
def toNm (e : En) : Nm := ⟨e.tx, e.us⟩
/-- Places rise. -/
def Ris (E : List En) : Prop := E.Pairwise fun x y => x.pl < y.pl
theorem Ris.cons {x : En} {l : List En} : Ris (x :: l) ↔ (∀ y, y ∈ l → x.pl < y.pl) ∧ Ris l := List.pairwise_cons
theorem Ris.app {l m : List En} : Ris (l ++ m) ↔ Ris l ∧ Ris m ∧ ∀ x, x ∈ l → ∀ y, y ∈ m → x.pl < y.pl := List.pairwise_append
/-- Two lists in strict order with the same members are one. -/
theorem Ris.uniq : ∀ {l m : List En}, Ris l → Ris m → (∀ x, x ∈ l ↔ x ∈ m) → l = m
  | [], [], _, _, _ => rfl
  | [], y :: m, _, _, h => absurd ((h y).2 (by simp)) (by simp)
  | x :: l, [], _, _, h => absurd ((h x).1 (by simp)) (by simp)
  | x :: l, y :: m, hl, hm, h => by
    rw [Ris.cons] at hl hm
    have e : x = y := by
      by_cases e : x = y
      · exact e
      · have h1 : x ∈ m := by have := (h x).1 (by simp); simpa [e] using this
        have h2 : y ∈ l := by have := (h y).2 (by simp); simpa [Ne.symm e] using this
        have := hl.1 y h2
        have := hm.1 x h1
        omega
    subst e
    congr 1
    refine Ris.uniq hl.2 hm.2 fun z => ?_
    have hz := h z
    have n1 : z ∈ l → z ≠ x := fun hz' e => by subst e; have := hl.1 z hz'; omega
    have n2 : z ∈ m → z ≠ x := fun hz' e => by subst e; have := hm.1 z hz'; omega
    simp only [List.mem_cons] at hz
    exact ⟨fun a => (hz.1 (.inr a)).resolve_left (n1 a), fun a => (hz.2 (.inr a)).resolve_left (n2 a)⟩
/-- What a map of stocks tells, as a list in order of place. -/
def Ens (g : SG) (E : List En) : Prop := Ris E ∧ ∀ x p q, g x = some (p, q) ↔ ⟨x, p, q⟩ ∈ E
theorem Ens.at_ {g : SG} {E : List En} (h : Ens g E) {e : En} (he : e ∈ E) : g e.tx = some (e.pl, e.us) := (h.2 _ _ _).2 he
theorem Ens.one {g : SG} {E : List En} (h : Ens g E) {e f : En} (he : e ∈ E) (hf : f ∈ E) (ht : e.tx = f.tx) : e = f := by
  have h1 := h.at_ he
  have h2 := h.at_ hf
  rw [ht, h2] at h1
  simp at h1
  exact En.ext' ht h1.1.symm h1.2.symm
theorem Ens.some_ {g : SG} {E : List En} (h : Ens g E) {x : ByteArray} (hx : (g x).isSome = true) : ∃ e, e ∈ E ∧ e.tx = x := by
  obtain ⟨⟨p, q⟩, hp⟩ := Option.isSome_iff_exists.1 hx
  exact ⟨⟨x, p, q⟩, (h.2 _ _ _).1 hp, rfl⟩
theorem Ens.nodup {g : SG} {E : List En} (h : Ens g E) : E.Nodup := h.1.imp fun h e => by subst e; omega
theorem Ens.nodupN {g : SG} {E : List En} (h : Ens g E) : (E.map toNm).Nodup := by
  rw [List.Nodup, List.pairwise_map]
  refine (List.Pairwise.and_mem.1 h.1).imp ?_
  rintro x y ⟨hx, hy, hl⟩ e
  have := h.one hx hy (congrArg Nm.nm e)
  subst this
  omega
/-- Names that stand for entries. -/
theorem subs_ex {E : List En} : ∀ B : List Nm, (∀ x, x ∈ B → x ∈ E.map toNm) → ∃ D : List {e // e ∈ E}, D.map (fun e => toNm e.1) = B
  | [], _ => ⟨[], rfl⟩
  | x :: B, h => by
    obtain ⟨D, hD⟩ := subs_ex B fun y hy => h y (by simp [hy])
    obtain ⟨e, he, hx⟩ := List.mem_map.1 (h x (by simp))
    exact ⟨⟨e, he⟩ :: D, by simp [hD, hx]⟩
end Go.Proofs.Ytfphffbclpmobaa
