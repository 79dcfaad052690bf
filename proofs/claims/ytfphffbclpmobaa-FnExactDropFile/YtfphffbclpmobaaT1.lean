import Derived.Test.YtfphffbclpmobaaB2
/- Rows of texts; parts of a text. -/
namespace Go.Proofs.Ytfphffbclpmobaa
open Go.ChangeShapes Go.WideShapes Go.ChangeAt Go.RowKit
set_option linter.unusedVariables false
open Hd

attribute [local go_sem] Oper.semAt_some

/-- A row of texts that can be read. -/
abbrev Strs (w : World) (a : Option Addr) (l : List ByteArray) : Prop := At w a l.length (fun i => .string (gs l i))
theorem Strs.nil {w : World} {a : Option Addr} : Strs w a [] := fun h => absurd rfl h
theorem info9 : (Try.prog.info? 9).map (fun i => (i.zero, i.size, i.bytes)) = some (some (.string ⟨#[]⟩), 1, 16) := by kernel_rfl
def css (l : List ByteArray) : List Value := l.map .string
theorem css_len (l : List ByteArray) : (css l).length = l.length := by simp [css]
theorem css_app (l m : List ByteArray) : css (l ++ m) = css l ++ css m := by simp [css]
theorem css_one (l : List ByteArray) : ∀ u ∈ css l, u.oneCell' = true := by
  intro u hu
  simp only [css, List.mem_map] at hu
  obtain ⟨x, _, rfl⟩ := hu
  rfl
theorem css_at {l : List ByteArray} {i : Nat} (h : i < l.length) : (css l)[i]? = some (.string (gs l i)) := by simp [css, gs, h]
/-- A row of texts that may be appended to. -/
abbrev OwnS (w : World) (B : Nat) (v : Value) (l : List ByteArray) : Prop := w.ownsRow B 9 1 v l.length (css l)
theorem OwnS.nil (w : World) (B : Nat) : OwnS w B (.slice none 0 0) [] := ⟨rfl, .inl ⟨rfl, rfl⟩⟩
theorem OwnS.strs {w : World} {B : Nat} {v : Value} {l : List ByteArray} (h : OwnS w B v l) : ∃ a c, v = .slice a l.length c ∧ l.length ≤ c ∧ Strs w a l := by
  rcases h.2 with ⟨rfl, h2⟩ | ⟨g, cap, cur, rfl, hb, hg, hc, hm, hcs, ht⟩
  · have : l = [] := List.eq_nil_of_length_eq_zero h2
    subst this
    exact ⟨none, 0, rfl, Nat.le_refl _, Strs.nil⟩
  · refine ⟨_, cap, rfl, hc, fun _ => ⟨g, 0, rfl, fun i hi => ?_⟩⟩
    have k := css_at hi
    rw [← ht, List.getElem?_take, if_pos (by omega)] at k
    rw [Nat.zero_add]
    exact cell_of_block hg (by simpa using k)
theorem ext_ext (s : ByteArray) (a b c d : Nat) (h : a + d ≤ b) : (s.extract a b).extract c d = s.extract (a + c) (a + d) := by
  apply ByteArray.ext
  simp only [ByteArray.data_extract, Array.extract_extract]
  rw [Nat.min_eq_left h]
theorem ext_size {s : ByteArray} {a b : Nat} (h : b ≤ s.size) : (s.extract a b).size = b - a := by
  rw [ByteArray.size_extract, Nat.min_eq_left h]
theorem ext_bt (p : ByteArray) (i : Nat) : bt (p.extract i p.size) = (bt p).drop i := by
  unfold bt
  rw [ByteArray.data_extract, Array.toList_extract]
  simp [List.extract]
  rw [List.take_of_length_le (by simp)]
theorem ext_all (p : ByteArray) : p.extract 0 p.size = p := by
  apply ByteArray.ext
  rw [ByteArray.data_extract]
  show p.data.extract 0 p.data.size = p.data
  exact Array.extract_size
theorem ext_get {p : ByteArray} {i k : Nat} (h : i + k < p.size) (hk : k < (p.extract i p.size).size) : (p.extract i p.size)[k] = p[i + k] := by
  show (p.extract i p.size).data[k]'(by exact hk) = p.data[i + k]'(by exact h)
  simp only [ByteArray.data_extract]
  rw [Array.getElem_extract]
theorem slice_mid (s : ByteArray) (a b : Nat) (h1 : a ≤ b) (h2 : b ≤ s.size) (w : World) : (Instr.slice 9 (.string s) (some (.int .i64 (a : Int))) (some (.int .i64 (b : Int))) none).run Try.prog w = .ok (.string (s.extract a b)) w := by
  rw [run_slice_string w 9 s .i64 .i64 (a : Int) (b : Int) Try.underlying9 (by omega) (by omega) (by omega)]
  simp
theorem slice_end (s : ByteArray) (a : Nat) (h1 : a ≤ s.size) (w : World) : (Instr.slice 9 (.string s) (some (.int .i64 (a : Int))) none none).run Try.prog w = .ok (.string (s.extract a s.size)) w := by
  rw [run_slice_string_from_if w 9 s .i64 (a : Int) Try.underlying9, if_pos (by omega)]
  simp
theorem slice_to (s : ByteArray) (b : Nat) (h2 : b ≤ s.size) (w : World) : (Instr.slice 9 (.string s) none (some (.int .i64 (b : Int))) none).run Try.prog w = .ok (.string (s.extract 0 b)) w := by
  rw [run_slice_string_h w 9 s Try.underlying9 .i64 (b : Int) (by omega) (by omega)]
  simp
theorem sliceS_to (b off n c k : Nat) (h : k ≤ c) (w : World) : (Instr.slice 72 (.slice (some ⟨b, off, none⟩) n c) none (some (.int .i64 (k : Int))) none).run Try.prog w = .ok (.slice (some ⟨b, off, none⟩) k c) w := by
  rw [run_slice_h w 72 (some ⟨b, off, none⟩) n c (by kernel_rfl) .i64 k (by omega) (by omega), show Try.prog.elem 72 = 9 from by kernel_rfl, Try.sizeOf9]
  simp only [Result.andThen, sliced]
  split
  · simp
  · simp [addN]
theorem made9 {n i : Nat} (h : i < n) : (made (.string ⟨#[]⟩) n)[i]? = some (.string ⟨#[]⟩) := by
  have := toList_madeCells_one (.string ⟨#[]⟩) n
  unfold made
  rw [show (Value.string ⟨#[]⟩).cells = #[.string ⟨#[]⟩] from rfl, ← Array.getElem?_toList, this]
  simp [h]
end Go.Proofs.Ytfphffbclpmobaa
