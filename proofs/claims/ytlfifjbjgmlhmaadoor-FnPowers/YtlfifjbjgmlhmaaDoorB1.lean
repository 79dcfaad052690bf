import Derived.Test.YtlfifjbjgmlhmaaDoorA4
import Derived.WalkSmall
namespace Go.Proofs.YtlfifjbjgmlhmaaDoor
open Go.ChangeShapes Go.WideShapes Go.ChangeAt Go.RowKit
set_option linter.unusedVariables false
open GF

/-- A slice value that can be read: its length, and where its cells lie. -/
def At (w : World) (a : Option Addr) (n : Nat) (f : Nat → Value) : Prop :=
  n ≠ 0 → ∃ b off, a = some ⟨b, off, none⟩ ∧ ∀ i, i < n → w.cell? ⟨b, off + i, none⟩ = some (f i)
/-- Bytes. -/
def by' (S : Nat → Nat) : Nat → Value := fun i => .int .u8 (S i : Int)
theorem lt_of_cell {w : World} {b o : Nat} {v : Value} (h : w.cell? ⟨b, o, none⟩ = some v) : b < w.heap.size := World.block_lt_of_cell? w ⟨b, o, none⟩ h
theorem At.below {w w' : World} {a : Option Addr} {n : Nat} {f : Nat → Value} (h : At w a n f) (hb : Below w.heap.size w w') : At w' a n f := by
  intro hn
  obtain ⟨b, off, rfl, hc⟩ := h hn
  refine ⟨b, off, rfl, fun i hi => ?_⟩
  have h1 := hc i hi
  rw [hb.cell (p := ⟨b, off + i, none⟩) (lt_of_cell h1)]; exact h1

/-- All blocks that were there, but those from B up to C, are as they were. -/
structure Out (B C : Nat) (w w' : World) : Prop where
  os : w'.os = w.os
  tape : w'.tape = w.tape
  output : w'.output = w.output
  size : w.heap.size ≤ w'.heap.size
  block : ∀ k, k < w.heap.size → (k < B ∨ C ≤ k) → w'.heap[k]? = w.heap[k]?
theorem Out.refl (B C : Nat) (w : World) : Out B C w w := ⟨rfl, rfl, rfl, Nat.le_refl _, fun _ _ _ => rfl⟩
theorem Out.trans {B C : Nat} {a b c : World} (h : Out B C a b) (k : Out B C b c) : Out B C a c :=
  ⟨k.os.trans h.os, k.tape.trans h.tape, k.output.trans h.output, Nat.le_trans h.size k.size, fun i hi hs => (k.block i (Nat.lt_of_lt_of_le hi h.size) hs).trans (h.block i hi hs)⟩
theorem Out.mono {B C B' C' : Nat} {a b : World} (h : Out B C a b) (h1 : B' ≤ B) (h2 : C ≤ C') : Out B' C' a b :=
  ⟨h.os, h.tape, h.output, h.size, fun i hi hs => h.block i hi (by omega)⟩
theorem Out.of_below {B C : Nat} {a b : World} (h : Below a.heap.size a b) : Out B C a b :=
  ⟨h.os, h.tape, h.output, h.size, fun i hi _ => h.block i hi⟩
theorem Out.below {B C : Nat} {a b : World} (h : Out B C a b) (hB : B ≤ a.heap.size) : Below B a b :=
  ⟨h.os, h.tape, h.output, h.size, fun i hi => h.block i (by omega) (by omega)⟩
theorem Out.setCell {B C : Nat} {a b : World} {k : Nat} (h : Out B C a b) (h1 : B ≤ k) (h2 : k < C) (o : Nat) (v : Value) : Out B C a (b.setCell ⟨k, o, none⟩ v) := by
  refine h.trans ⟨rfl, rfl, rfl, by simp [World.setCell], fun i hi hs => ?_⟩
  simp only [World.setCell, Array.getElem?_modify]
  rw [if_neg (by omega)]
theorem Below.comp {a b c : World} (h : Below a.heap.size a b) (k : Below b.heap.size b c) : Below a.heap.size a c := h.trans (k.mono h.size)
theorem below_alloc (w : World) (o : Obj) : Below w.heap.size w (w.alloc o) := (Below.refl _ _).alloc (Nat.le_refl _) _

/-- A slice of n elements in a row of its own, a block from B up to C. -/
def Mine (w : World) (B C : Nat) (n : Nat) (a : Option Addr) (p : Array Value → Prop) : Prop :=
  n = 0 ∨ ∃ b c, B ≤ b ∧ b < C ∧ a = some ⟨b, 0, none⟩ ∧ w.heap[b]? = some (.cells c 5 (0, 0)) ∧ p c
def bys (n : Nat) (S : Nat → Nat) (c : Array Value) : Prop := ∀ i, i < n → c[i]? = some (.int .u8 (S i : Int))
theorem Mine.out {w w' : World} {B C B' C' : Nat} {n : Nat} {a : Option Addr} {p : Array Value → Prop} (h : Mine w B C n a p) (ho : Out B' C' w w') (hd : C ≤ B' ∨ C' ≤ B) : Mine w' B C n a p := by
  rcases h with h | ⟨b, c, h1, h2, h3, h4, h5⟩
  · exact .inl h
  · exact .inr ⟨b, c, h1, h2, h3, by rw [ho.block b (Array.getElem?_eq_some_iff.1 h4).1 (by omega)]; exact h4, h5⟩
theorem Mine.below {w w' : World} {B C : Nat} {n : Nat} {a : Option Addr} {p : Array Value → Prop} (h : Mine w B C n a p) (ho : Below w.heap.size w w') : Mine w' B C n a p :=
  h.out (Out.of_below (B := C) (C := C) ho) (.inl (Nat.le_refl _))
theorem Mine.mono {w : World} {B C B' C' : Nat} {n : Nat} {a : Option Addr} {p : Array Value → Prop} (h : Mine w B C n a p) (h1 : B' ≤ B) (h2 : C ≤ C') : Mine w B' C' n a p := by
  rcases h with h | ⟨b, c, g1, g2, h3, h4, h5⟩
  · exact .inl h
  · exact .inr ⟨b, c, by omega, by omega, h3, h4, h5⟩
theorem Mine.bys {w : World} {B C : Nat} {n : Nat} {a : Option Addr} {S : Nat → Nat} (h : Mine w B C n a (bys n S)) : At w a n (by' S) := by
  intro hn
  rcases h with h | ⟨b, c, g1, g2, h3, h4, h5⟩
  · exact absurd h hn
  · exact ⟨b, 0, h3, fun i hi => by simp [World.cell?, h4, h5 i hi, by']⟩

/-- What make lays. -/
def made (z : Value) (n : Nat) : Array Value := madeCells z.cells n
theorem size_made (z : Value) (n : Nat) : (made z n).size = n := size_madeCells _ _
theorem make_any {P : Program} (t e : TypeId) (z : Value) (size bytes : Nat) (ht : P.underlying t = some (.slice e)) (hinfo : (P.info? e).map (fun i => (i.zero, i.size, i.bytes)) = some (some z, size, bytes))
    (kl kc : IntKind) (n : Nat) (hbytes : bytes * n ≤ 281474976710656) (h63 : n ≤ 9223372036854775807) (w : World) :
    (Instr.makeSlice t (.int kl (n : Int)) (.int kc (n : Int))).run P w = .ok (.slice (some ⟨w.heap.size, 0, none⟩) n n) (w.alloc (.cells (made z (n * size)) e)) := by
  obtain ⟨i, hi, hzz⟩ := Option.map_eq_some_iff.1 hinfo
  simp only [Prod.mk.injEq] at hzz
  obtain ⟨hz, hs, hb⟩ := hzz
  have := run_make (P := P) w t e i z ht hi hz kl kc n n (by omega) (by omega) (by rw [hb]; omega) (by omega)
  rw [this, hs]; rfl
theorem cell_of_block {w : World} {b i : Nat} {c : Array Value} {e : TypeId} {v : Value} (h : w.heap[b]? = some (.cells c e (0, 0))) (hv : c[i]? = some v) : w.cell? ⟨b, i, none⟩ = some v := by simp [World.cell?, h, hv]
theorem free_of_block {w : World} {b i : Nat} {c : Array Value} {e : TypeId} (h : w.heap[b]? = some (.cells c e (0, 0))) : w.frozen? ⟨b, i, none⟩ = false := by simp [World.frozen?, h]
theorem block_set {w : World} {b i : Nat} {c : Array Value} {e : TypeId} {v : Value} (h : w.heap[b]? = some (.cells c e (0, 0))) : (w.setCell ⟨b, i, none⟩ v).heap[b]? = some (.cells (c.setIfInBounds i v) e (0, 0)) := by
  simp [World.setCell, Array.getElem?_modify, h]
theorem set_at {c : Array Value} {i : Nat} (h : i < c.size) (v : Value) : (c.setIfInBounds i v)[i]? = some v := by simp [h]
theorem set_ne {c : Array Value} {i j : Nat} (h : ¬ j = i) {v : Value} : (c.setIfInBounds i v)[j]? = c[j]? := by
  rw [Array.getElem?_setIfInBounds, if_neg (by omega)]
theorem info5 : (Tryd.prog.info? 5).map (fun i => (i.zero, i.size, i.bytes)) = some (some (.int .u8 0), 1, 1) := by kernel_rfl
theorem bys_size {n : Nat} {S : Nat → Nat} {c : Array Value} (h : bys n S c) : n ≤ c.size := by
  by_cases h0 : n = 0
  · omega
  · have := (Array.getElem?_eq_some_iff.1 (h (n - 1) (by omega))).1
    omega
theorem heap_new (w : World) (o : Obj) : (w.alloc o).heap[w.heap.size]? = some o := heap_alloc_new w o

/-- The marks from k on. -/
def mks (k : Nat) : Nat → Nat := fun i => (k + i) % 256
end Go.Proofs.YtlfifjbjgmlhmaaDoor
