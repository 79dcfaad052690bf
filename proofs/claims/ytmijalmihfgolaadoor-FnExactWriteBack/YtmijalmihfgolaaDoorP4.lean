import Derived.Test.YtmijalmihfgolaaDoorP3
/- Stores in plain: no program in it. -/
namespace Tx
set_option linter.unusedVariables false
def gt (L : List ByteArray) (i : Nat) : ByteArray := L.getD i ⟨#[]⟩
theorem gt_lt {L : List ByteArray} {i : Nat} (h : i < L.length) : gt L i = L[i] := by simp [gt, h]
theorem gt_take {L : List ByteArray} {k i : Nat} (h : i < k) : gt (L.take k) i = gt L i := by simp [gt, h]
theorem gt_drop {L : List ByteArray} {k i : Nat} : gt (L.drop k) i = gt L (k + i) := by simp [gt]
theorem gt_app {L M : List ByteArray} {i : Nat} (h : i < L.length) : gt (L ++ M) i = gt L i := by simp [gt, h, List.getElem?_append_left]
theorem gt_snoc (L : List ByteArray) (x : ByteArray) : gt (L ++ [x]) L.length = x := by simp [gt]
theorem take_snocT {L : List ByteArray} {k : Nat} (h : k < L.length) : L.take (k + 1) = L.take k ++ [gt L k] := by rw [gt_lt h, List.take_succ_eq_append_getElem h]
/-- A text of a log over n sectors. -/
def okG (n : Nat) (g : ByteArray) : Bool := rdB g && txB n (rdL g)
theorem okG_iff {n : Nat} {g : ByteArray} : okG n g = true ↔ rdB g = true ∧ txB n (rdL g) = true := by simp [okG]
/-- The writes of texts. -/
def wrs (G : List ByteArray) : List Wr := G.flatMap rdL
theorem wrs_app (G H : List ByteArray) : wrs (G ++ H) = wrs G ++ wrs H := by simp [wrs]
theorem wrs_succ {G : List ByteArray} {k : Nat} (h : k < G.length) : wrs (G.take (k + 1)) = wrs (G.take k) ++ rdL (gt G k) := by
  rw [take_snocT h, wrs_app]
  simp [wrs]
theorem wrs_le {n : Nat} {G : List ByteArray} : ∀ k, k ≤ G.length → (∀ i, i < k → okG n (gt G i) = true) → (wrs (G.take k)).length ≤ 8 * k
  | 0, _, _ => by simp [wrs]
  | k + 1, hk, h => by
    have ih := wrs_le k (by omega) (fun i hi => h i (by omega))
    have h8 := (txB_iff.1 (okG_iff.1 (h k (by omega))).2).2.1
    rw [wrs_succ (by omega), List.length_append]
    omega
theorem txB_mem {n : Nat} {l : List Wr} (h : txB n l = true) {x : Wr} (hx : x ∈ l) : fit n x = true := by
  obtain ⟨i, hi, rfl⟩ := List.mem_iff_getElem.1 hx
  have := ((txB_iff.1 h).2.2 i hi).1
  rwa [gw_lt hi] at this
theorem wrs_fit {n : Nat} {G : List ByteArray} (h : ∀ g ∈ G, okG n g = true) {x : Wr} (hx : x ∈ wrs G) : fit n x = true := by
  simp only [wrs, List.mem_flatMap] at hx
  obtain ⟨g, hg, hx⟩ := hx
  exact txB_mem (okG_iff.1 (h g hg)).2 hx
def eqW (a b : Wr) : Bool := decide (a.s = b.s) && sameT a.d b.d
theorem eqW_iff {a b : Wr} : eqW a b = true ↔ a = b := by
  simp only [eqW, Bool.and_eq_true, decide_eq_true_eq, sameT_iff]
  constructor
  · rintro ⟨h1, h2⟩; cases a; cases b; simp_all
  · rintro rfl; exact ⟨rfl, rfl⟩
def memW (x : Wr) (l : List Wr) : Bool := l.any fun o => eqW o x
theorem memW_iff {x : Wr} {l : List Wr} : memW x l = true ↔ x ∈ l := by
  simp only [memW, List.any_eq_true]
  constructor
  · rintro ⟨o, ho, h⟩; rw [← eqW_iff.1 h]; exact ho
  · intro h; exact ⟨x, h, eqW_iff.2 rfl⟩
theorem memW_snoc (x : Wr) (l : List Wr) (o : Wr) : memW x (l ++ [o]) = (memW x l || eqW o x) := by simp [memW]
end Tx
