import Derived.Test.YtmijalmihfgolaaDoorP1
/- Transactions and their texts in plain: no program in it. -/
namespace Tx
set_option linter.unusedVariables false
def gw (l : List Wr) (i : Nat) : Wr := l.getD i zero
def Tl (l : List Wr) : Nat → Int := fun i => (gw l i).s
def Ul (l : List Wr) : Nat → ByteArray := fun i => (gw l i).d
theorem gw_lt {l : List Wr} {i : Nat} (h : i < l.length) : gw l i = l[i] := by simp [gw, h]
theorem gw_app {l m : List Wr} {i : Nat} (h : i < l.length) : gw (l ++ m) i = gw l i := by simp [gw, h, List.getElem?_append_left]
theorem gw_snoc (l : List Wr) (x : Wr) : gw (l ++ [x]) l.length = x := by simp [gw]
theorem gw_take {l : List Wr} {k i : Nat} (h : i < k) : gw (l.take k) i = gw l i := by simp [gw, h]
theorem take_snoc {l : List Wr} {k : Nat} (h : k < l.length) : l.take (k + 1) = l.take k ++ [gw l k] := by rw [gw_lt h, List.take_succ_eq_append_getElem h]
/-- A write of a sector below n, with its eight bytes. -/
def fit (n : Nat) (x : Wr) : Bool := decide (0 ≤ x.s ∧ x.s < n ∧ x.d.size = 8)
theorem fit_iff {n : Nat} {x : Wr} : fit n x = true ↔ 0 ≤ x.s ∧ x.s < n ∧ x.d.size = 8 := by simp [fit]
/-- A transaction of sectors below n. -/
def txB (n : Nat) (l : List Wr) : Bool := decide (1 ≤ l.length ∧ l.length ≤ 8 ∧ ∀ i, i < l.length → (fit n (gw l i) = true ∧ ∀ j, j < i → (gw l j).s ≠ (gw l i).s))
theorem txB_iff {n : Nat} {l : List Wr} : txB n l = true ↔ 1 ≤ l.length ∧ l.length ≤ 8 ∧ ∀ i, i < l.length → (fit n (gw l i) = true ∧ ∀ j, j < i → (gw l j).s ≠ (gw l i).s) := by simp [txB]
theorem txB_no {n : Nat} {l : List Wr} (h : ¬ (1 ≤ l.length ∧ l.length ≤ 8 ∧ ∀ i, i < l.length → (fit n (gw l i) = true ∧ ∀ j, j < i → (gw l j).s ≠ (gw l i).s))) : txB n l = false := decide_eq_false h
theorem fit_mono {n m : Nat} {x : Wr} (h : fit n x = true) (hn : n ≤ m) : fit m x = true := by rw [fit_iff] at h ⊢; exact ⟨h.1, by omega, h.2.2⟩
theorem txB_mono {n m : Nat} {l : List Wr} (h : txB n l = true) (hn : n ≤ m) : txB m l = true := by
  rw [txB_iff] at h ⊢
  exact ⟨h.1, h.2.1, fun i hi => ⟨fit_mono (h.2.2 i hi).1 hn, (h.2.2 i hi).2⟩⟩
def one (x : Wr) : List UInt8 := UInt8.ofNat x.s.toNat :: x.d.data.toList
def bts (k : Nat) (l : List Wr) : List UInt8 := UInt8.ofNat k :: l.flatMap one
def xr (l : List UInt8) : Nat := l.foldl (fun a b => a ^^^ b.toNat) 0
theorem xr_snoc (l : List UInt8) (b : UInt8) : xr (l ++ [b]) = xr l ^^^ b.toNat := by simp [xr]
theorem xr_lt : ∀ (l : List UInt8) (a : Nat), a < 256 → l.foldl (fun a b => a ^^^ b.toNat) a < 256
  | [], a, h => h
  | b :: r, a, h => xr_lt r _ (Nat.xor_lt_two_pow (n := 8) h (UInt8.toNat_lt b))
theorem xr_256 (l : List UInt8) : xr l < 256 := xr_lt l 0 (by decide)
/-- The text of a transaction. -/
def tx (l : List Wr) : ByteArray := ⟨(bts l.length l ++ [UInt8.ofNat (xr (bts l.length l))]).toArray⟩
theorem bts_snoc {k : Nat} {l : List Wr} (x : Wr) : bts k (l ++ [x]) = bts k l ++ one x := by simp [bts]
theorem bts_succ {n k : Nat} {l : List Wr} (h : k < l.length) : bts n (l.take (k + 1)) = bts n (l.take k) ++ one (gw l k) := by rw [take_snoc h, bts_snoc]
theorem one_len {n : Nat} {x : Wr} (h : fit n x = true) : (one x).length = 9 := by
  have h8 : x.d.data.size = 8 := (fit_iff.1 h).2.2
  simp only [one, List.length_cons, Array.length_toList, h8]
theorem bts_len {m n : Nat} {l : List Wr} (h : ∀ i, i < l.length → fit m (gw l i) = true) : ∀ k, k ≤ l.length → (bts n (l.take k)).length = 1 + k * 9
  | 0, _ => by simp [bts]
  | k + 1, hk => by
    rw [bts_succ (by omega), List.length_append, bts_len h k (by omega), one_len (h k (by omega))]
    omega
/-- What a text is read as. -/
def bt (s : ByteArray) (i : Nat) : UInt8 := s.data.getD i 0
def rdW (s : ByteArray) (k : Nat) : Wr := ⟨((bt s (1 + k * 9)).toNat : Int), s.extract (2 + k * 9) (10 + k * 9)⟩
def rdL (s : ByteArray) : List Wr := (List.range (bt s 0).toNat).map (rdW s)
theorem rdL_len (s : ByteArray) : (rdL s).length = (bt s 0).toNat := by simp [rdL]
theorem rdL_take (s : ByteArray) {k : Nat} (h : k < (bt s 0).toNat) : (rdL s).take (k + 1) = (rdL s).take k ++ [rdW s k] := by
  rw [take_snoc (by rw [rdL_len]; exact h), gw_lt (by rw [rdL_len]; exact h)]
  simp [rdL]
theorem rdL_all (s : ByteArray) : (rdL s).take (bt s 0).toNat = rdL s := List.take_of_length_le (by rw [rdL_len]; exact Nat.le_refl _)
def lenB (s : ByteArray) : Bool := decide (s.size ≠ 0 ∧ s.size = 2 + (bt s 0).toNat * 9)
def sameT (a b : ByteArray) : Bool := decide (a.data.toList = b.data.toList)
theorem sameT_iff {a b : ByteArray} : sameT a b = true ↔ a = b := by
  simp only [sameT, decide_eq_true_eq]
  constructor
  · intro h; exact ByteArray.ext (Array.ext' h)
  · rintro rfl; rfl
def rdB (s : ByteArray) : Bool := lenB s && (txB 32 (rdL s) && sameT (tx (rdL s)) s)
theorem rdB_tx {s : ByteArray} (h : rdB s = true) : tx (rdL s) = s := by
  simp only [rdB, Bool.and_eq_true] at h
  exact sameT_iff.1 h.2.2
theorem rdB_ok {s : ByteArray} (h : rdB s = true) : txB 32 (rdL s) = true := by
  simp only [rdB, Bool.and_eq_true] at h
  exact h.2.1
/-- A list of writes out of its places. -/
def lw (n : Nat) (T : Nat → Int) (U : Nat → ByteArray) : List Wr := (List.range n).map fun i => ⟨T i, U i⟩
theorem lw_len (n : Nat) (T : Nat → Int) (U : Nat → ByteArray) : (lw n T U).length = n := by simp [lw]
theorem lw_at {n : Nat} {T : Nat → Int} {U : Nat → ByteArray} {i : Nat} (h : i < n) : gw (lw n T U) i = ⟨T i, U i⟩ := by
  rw [gw_lt (by rw [lw_len]; exact h)]
  simp [lw]
end Tx
