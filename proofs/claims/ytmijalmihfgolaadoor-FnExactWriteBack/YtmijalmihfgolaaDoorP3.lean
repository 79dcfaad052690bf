import Derived.Test.YtmijalmihfgolaaDoorP2
import Derived.Laws.Closers25b
/- Parts of texts in plain: no program in it. -/
namespace Tx
set_option linter.unusedVariables false
theorem ext_ext (s : ByteArray) (a b c d : Nat) (h : a + d ≤ b) : (s.extract a b).extract c d = s.extract (a + c) (a + d) := by
  apply ByteArray.ext
  simp only [ByteArray.data_extract, Array.extract_extract]
  rw [Nat.min_eq_left h]
theorem ext_size {s : ByteArray} {a b : Nat} (h : b ≤ s.size) : (s.extract a b).size = b - a := by
  rw [ByteArray.size_extract, Nat.min_eq_left h]
theorem bt_at {s : ByteArray} {i : Nat} (h : i < s.size) : bt s i = s[i] := by
  have h' : i < s.data.size := h
  simp only [bt, Array.getD_eq_getD_getElem?, Array.getElem?_eq_getElem h', Option.getD_some]
  rfl
theorem ext_bt {s : ByteArray} {a b i : Nat} (h : a + i < b) (hb : b ≤ s.size) : bt (s.extract a b) i = bt s (a + i) := by
  simp only [bt, ByteArray.data_extract, Array.getD_eq_getD_getElem?]
  rw [Array.getElem?_extract, if_pos (by simp only [ByteArray.size] at hb; omega)]
theorem isEmp (s : ByteArray) : s.toList.isEmpty = decide (s.size = 0) := by
  have e : s.toList = [] ↔ s.size = 0 := by
    rw [Go.toList_nil_iff_emptyBytes]
    constructor
    · rintro rfl; rfl
    · intro h
      exact ByteArray.ext (Array.eq_empty_of_size_eq_zero h)
  by_cases h : s.size = 0
  · rw [e.2 h, decide_eq_true h]; rfl
  · rw [decide_eq_false h]
    cases q : s.toList with
    | nil => exact absurd (e.1 q) h
    | cons x r => rfl
theorem same_no {a b : ByteArray} (h : ¬ a = b) : (a.toList == b.toList) = false := by
  have : ¬ a.toList = b.toList := fun e => h (by rw [Go.ByteArray.toList_eq, Go.ByteArray.toList_eq] at e; exact ByteArray.ext (Array.ext' e))
  simpa using this
/-- What is left to be read of a text behind k writes. -/
def rst (s : ByteArray) (k : Nat) : ByteArray := s.extract (1 + k * 9) (s.size - 1)
theorem rst_size {s : ByteArray} (h : lenB s = true) {k : Nat} (hk : k ≤ (bt s 0).toNat) : (rst s k).size = ((bt s 0).toNat - k) * 9 := by
  have := of_decide_eq_true h
  rw [rst, ext_size (by omega), Nat.sub_mul]
  omega
theorem rst_W {s : ByteArray} (h : lenB s = true) {k : Nat} (hk : k < (bt s 0).toNat) : (⟨((bt (rst s k) 0).toNat : Int), (rst s k).extract 1 9⟩ : Wr) = rdW s k := by
  have := of_decide_eq_true h
  have h9 : k * 9 + 9 ≤ (bt s 0).toNat * 9 := by omega
  rw [rst, rdW, ext_ext _ _ _ _ _ (by omega), ext_bt (by omega) (by omega)]
  rw [show 1 + k * 9 + 0 = 1 + k * 9 by omega, show 1 + k * 9 + 1 = 2 + k * 9 by omega, show 1 + k * 9 + 9 = 10 + k * 9 by omega]
theorem rst_next {s : ByteArray} (h : lenB s = true) {k : Nat} (hk : k < (bt s 0).toNat) : (rst s k).extract 9 (rst s k).size = rst s (k + 1) := by
  have := of_decide_eq_true h
  rw [rst_size h (by omega)]
  unfold rst
  have h9 : k * 9 + 9 ≤ (bt s 0).toNat * 9 := by omega
  rw [ext_ext _ _ _ _ _ (by rw [Nat.sub_mul]; omega)]
  rw [show 1 + k * 9 + 9 = 1 + (k + 1) * 9 by omega, show 1 + k * 9 + ((bt s 0).toNat - k) * 9 = s.size - 1 by rw [Nat.sub_mul]; omega]
theorem lenB_iff {s : ByteArray} : lenB s = true ↔ s.size ≠ 0 ∧ s.size = 2 + (bt s 0).toNat * 9 := by simp [lenB]
end Tx
