import Derived.Test.YtapkaeamiplhgaaDoorRows
import Derived.Test.YtapkaeamiplhgaaDoorP1
import Derived.WalkKit
import Derived.WalkSmall
import Derived.ProofKit
import Derived.OpenShut
import Derived.Below
import Derived.WalkMore
import Derived.ScopeJumps
import Derived.Laws.CopyOwn
import Derived.Laws.IdiomStrings
import Derived.Deep.QuietTactic
import Derived.BigQuiet
import Derived.Lib.QuietBelow
import Derived.Deep.RegionWith
import Derived.Deep.RegionHeld3
import Derived.Deep.AppendLies
namespace Go.Proofs.YtapkaeamiplhgaaDoor
open Go.ChangeShapes Go.WideShapes Go.ChangeAt Go.RowKit
set_option linter.unusedVariables false
open Ham

attribute [local go_sem] Oper.semAt_some

/-- A slice value that can be read: its length, and where its cells lie. -/
def At (w : World) (a : Option Addr) (n : Nat) (f : Nat → Value) : Prop :=
  n ≠ 0 → ∃ b off, a = some ⟨b, off, none⟩ ∧ ∀ i, i < n → w.cell? ⟨b, off + i, none⟩ = some (f i)
theorem lt_of_cell {w : World} {b o : Nat} {v : Value} (h : w.cell? ⟨b, o, none⟩ = some v) : b < w.heap.size := World.block_lt_of_cell? w ⟨b, o, none⟩ h
theorem At.below {w w' : World} {a : Option Addr} {n : Nat} {f : Nat → Value} (h : At w a n f) (hb : Below w.heap.size w w') : At w' a n f := by
  intro hn
  obtain ⟨b, off, rfl, hc⟩ := h hn
  refine ⟨b, off, rfl, fun i hi => ?_⟩
  have h1 := hc i hi
  rw [hb.cell (p := ⟨b, off + i, none⟩) (lt_of_cell h1)]; exact h1
structure Out (B C : Nat) (w w' : World) : Prop where
  os : w'.os = w.os
  tape : w'.tape = w.tape
  output : w'.output = w.output
  size : w.heap.size ≤ w'.heap.size
  block : ∀ k, k < w.heap.size → (k < B ∨ C ≤ k) → w'.heap[k]? = w.heap[k]?
theorem Out.refl (B C : Nat) (w : World) : Out B C w w := ⟨rfl, rfl, rfl, Nat.le_refl _, fun _ _ _ => rfl⟩
theorem Out.trans {B C : Nat} {a b c : World} (h : Out B C a b) (k : Out B C b c) : Out B C a c :=
  ⟨k.os.trans h.os, k.tape.trans h.tape, k.output.trans h.output, Nat.le_trans h.size k.size, fun i hi hs => (k.block i (Nat.lt_of_lt_of_le hi h.size) hs).trans (h.block i hi hs)⟩
theorem Out.mono {B C B' C' : Nat} {a b : World} (h : Out B C a b) (h1 : B' ≤ B) (h2 : C ≤ C') : Out B' C' a b :=
  ⟨h.os, h.tape, h.output, h.size, fun i hi hs => h.block i hi (by omega)⟩
theorem Out.of_below {B C : Nat} {a b : World} (h : Below a.heap.size a b) : Out B C a b :=
  ⟨h.os, h.tape, h.output, h.size, fun i hi _ => h.block i hi⟩
theorem Out.below {B C : Nat} {a b : World} (h : Out B C a b) (hB : B ≤ a.heap.size) : Below B a b :=
  ⟨h.os, h.tape, h.output, h.size, fun i hi => h.block i (by omega) (by omega)⟩
theorem Below.comp {a b c : World} (h : Below a.heap.size a b) (k : Below b.heap.size b c) : Below a.heap.size a c := h.trans (k.mono h.size)
def Mine (w : World) (B C : Nat) (e : TypeId) (n : Nat) (a : Option Addr) (p : Array Value → Prop) : Prop :=
  n = 0 ∨ ∃ b c, B ≤ b ∧ b < C ∧ a = some ⟨b, 0, none⟩ ∧ w.heap[b]? = some (.cells c e (0, 0)) ∧ p c
theorem Mine.out {w w' : World} {B C B' C' : Nat} {e : TypeId} {n : Nat} {a : Option Addr} {p : Array Value → Prop} (h : Mine w B C e n a p) (ho : Out B' C' w w') (hd : C ≤ B' ∨ C' ≤ B) : Mine w' B C e n a p := by
  rcases h with h | ⟨b, c, h1, h2, h3, h4, h5⟩
  · exact .inl h
  · exact .inr ⟨b, c, h1, h2, h3, by rw [ho.block b (Array.getElem?_eq_some_iff.1 h4).1 (by omega)]; exact h4, h5⟩
theorem Mine.below {w w' : World} {B C : Nat} {e : TypeId} {n : Nat} {a : Option Addr} {p : Array Value → Prop} (h : Mine w B C e n a p) (ho : Below w.heap.size w w') : Mine w' B C e n a p :=
  h.out (Out.of_below (B := C) (C := C) ho) (.inl (Nat.le_refl _))
theorem Mine.mono {w : World} {B C B' C' : Nat} {e : TypeId} {n : Nat} {a : Option Addr} {p : Array Value → Prop} (h : Mine w B C e n a p) (h1 : B' ≤ B) (h2 : C ≤ C') : Mine w B' C' e n a p := by
  rcases h with h | ⟨b, c, g1, g2, h3, h4, h5⟩
  · exact .inl h
  · exact .inr ⟨b, c, by omega, by omega, h3, h4, h5⟩
def made (z : Value) (n : Nat) : Array Value := madeCells z.cells n
theorem size_made (z : Value) (n : Nat) : (made z n).size = n := size_madeCells _ _
theorem make_any {P : Program} (t e : TypeId) (z : Value) (size bytes : Nat) (ht : P.underlying t = some (.slice e)) (hinfo : (P.info? e).map (fun i => (i.zero, i.size, i.bytes)) = some (some z, size, bytes))
    (kl kc : IntKind) (n : Nat) (hbytes : bytes * n ≤ 281474976710656) (h63 : n ≤ 9223372036854775807) (w : World) :
    (Instr.makeSlice t (.int kl (n : Int)) (.int kc (n : Int))).run P w = .ok (.slice (some ⟨w.heap.size, 0, none⟩) n n) (w.alloc (.cells (made z (n * size)) e)) := by
  obtain ⟨i, hi, hzz⟩ := Option.map_eq_some_iff.1 hinfo
  simp only [Prod.mk.injEq] at hzz
  obtain ⟨hz, hs, hb⟩ := hzz
  have := run_make (P := P) w t e i z ht hi hz kl kc n n (by omega) (by omega) (by rw [hb]; omega) (by omega)
  rw [this, hs]; rfl
theorem cell_of_block {w : World} {b i : Nat} {c : Array Value} {e : TypeId} {v : Value} (h : w.heap[b]? = some (.cells c e (0, 0))) (hv : c[i]? = some v) : w.cell? ⟨b, i, none⟩ = some v := by simp [World.cell?, h, hv]
theorem free_of_block {w : World} {b i : Nat} {c : Array Value} {e : TypeId} (h : w.heap[b]? = some (.cells c e (0, 0))) : w.frozen? ⟨b, i, none⟩ = false := by simp [World.frozen?, h]
theorem block_set {w : World} {b i : Nat} {c : Array Value} {e : TypeId} {v : Value} (h : w.heap[b]? = some (.cells c e (0, 0))) : (w.setCell ⟨b, i, none⟩ v).heap[b]? = some (.cells (c.setIfInBounds i v) e (0, 0)) := by
  simp [World.setCell, Array.getElem?_modify, h]
theorem set_at {c : Array Value} {i : Nat} (h : i < c.size) (v : Value) : (c.setIfInBounds i v)[i]? = some v := by simp [h]
theorem set_ne {c : Array Value} {i j : Nat} (h : ¬ j = i) {v : Value} : (c.setIfInBounds i v)[j]? = c[j]? := by
  rw [Array.getElem?_setIfInBounds, if_neg (by omega)]
theorem below_alloc (w : World) (o : Obj) : Below w.heap.size w (w.alloc o) := (Below.refl _ _).alloc (Nat.le_refl _) _
theorem bcell {W w1 : World} (hb : Below W.heap.size W w1) : (∀ b o, b < W.heap.size → w1.cell? ⟨b, o, none⟩ = W.cell? ⟨b, o, none⟩) ∧ (∀ b o, b < W.heap.size → w1.frozen? ⟨b, o, none⟩ = W.frozen? ⟨b, o, none⟩) :=
  ⟨fun b o h => hb.cell (p := ⟨b, o, none⟩) h, fun b o h => hb.frozen (p := ⟨b, o, none⟩) h⟩
theorem out_setCell (w : World) (b o : Nat) (v : Value) : Out b (b + 1) w (w.setCell ⟨b, o, none⟩ v) :=
  ⟨rfl, rfl, rfl, by simp [World.setCell], fun k _ hk => Below.heap_setCell _ _ _ _ (by simp; omega)⟩
theorem Out.setCell {B C : Nat} {w w' : World} (h : Out B C w w') {b : Nat} (h1 : B ≤ b) (h2 : b < C) (o : Nat) (v : Value) : Out B C w (w'.setCell ⟨b, o, none⟩ v) :=
  h.trans ((out_setCell w' b o v).mono h1 h2)
theorem Out.alloc {B C : Nat} {w w' : World} (h : Out B C w w') (o : Obj) : Out B C w (w'.alloc o) :=
  h.trans (Out.of_below (below_alloc w' o))
theorem Out.lt {B C : Nat} {w w' : World} (h : Out B C w w') {b : Nat} (hb : b < w.heap.size) : b < w'.heap.size := Nat.lt_of_lt_of_le hb h.size
theorem cell_on {w w' : World} {b o : Nat} {v : Value} (h : w.cell? ⟨b, o, none⟩ = some v) (hb : Below w.heap.size w w') : w'.cell? ⟨b, o, none⟩ = some v := (hb.cell (p := ⟨b, o, none⟩) (lt_of_cell h)).trans h

/-- A byte of a text. -/
def bb (u : ByteArray) (k : Nat) : Nat := (u.data[k]?.getD 0).toNat
theorem bb_lt (u : ByteArray) (k : Nat) : bb u k < 256 := UInt8.toNat_lt _
theorem run_idx (u : ByteArray) (k : Nat) (h : k < u.size) (w : World) : (Instr.index 9 (.string u) (.int .i64 (k : Int))).run Tryd.prog w = .ok (.int .u8 (bb u k : Nat)) w := by
  rw [run_index_string w 9 u .i64 (k : Int) Tryd.underlying9, dif_pos ⟨by omega, by omega⟩]
  have e : u[(k : Int).toNat]'(by omega) = u.data[k]?.getD 0 := by
    have h' : k < u.data.size := h
    rw [Array.getElem?_eq_getElem h']
    rfl
  rw [e]; rfl
/-- What is behind the first k of a row that is turned place by place. -/
def mx2 (f g : Nat → Nat) (k : Nat) : Nat → Nat := fun j => if j < k then g j else f j
theorem mx2_at (f g : Nat → Nat) (k : Nat) : mx2 f g k k = f k := if_neg (by omega)
theorem mx2_all {f g : Nat → Nat} {L j : Nat} (h : j < L) : mx2 f g L j = g j := if_pos h

/-- A text of L bytes. -/
def tx (L : Nat) (f : Nat → Nat) : ByteArray := ⟨((List.range L).map fun k => UInt8.ofNat (f k)).toArray⟩
theorem tx_size (L : Nat) (f : Nat → Nat) : (tx L f).size = L := by simp [tx, ByteArray.size]
theorem bb_tx {L : Nat} {f : Nat → Nat} {k : Nat} (hk : k < L) (hf : f k < 256) : bb (tx L f) k = f k := by
  simp [bb, tx, hk, Nat.mod_eq_of_lt hf]
theorem tx_congr {L : Nat} {f g : Nat → Nat} (h : ∀ k, k < L → f k = g k) : tx L f = tx L g := by
  unfold tx
  congr 2
  exact List.map_congr_left fun k hk => by rw [h k (List.mem_range.1 hk)]
theorem tx_bb (u : ByteArray) : tx u.size (bb u) = u := by
  apply ByteArray.ext
  apply Array.ext
  · simp [tx]
  · intro i h1 h2
    simp [tx, bb]
    rw [Array.getElem?_eq_getElem h2]
    rfl
theorem tx_bb' {u : ByteArray} {L : Nat} (h : u.size = L) : tx L (bb u) = u := by rw [← h]; exact tx_bb u
theorem tx_inj {L : Nat} {f g : Nat → Nat} (hf : ∀ k, f k < 256) (hg : ∀ k, g k < 256) (h : tx L f = tx L g) (k : Nat) (hk : k < L) : f k = g k := by
  rw [← bb_tx hk (hf k), ← bb_tx hk (hg k), h]
/-- Bytes in a row. -/
def bys (n : Nat) (S : Nat → Nat) (c : Array Value) : Prop := ∀ i, i < n → c[i]? = some (.int .u8 (S i : Int))
def by' (S : Nat → Nat) : Nat → Value := fun i => .int .u8 (S i : Int)
theorem Mine.bys {w : World} {B C : Nat} {e : TypeId} {n : Nat} {a : Option Addr} {S : Nat → Nat} (h : Mine w B C e n a (bys n S)) : At w a n (by' S) := by
  intro hn
  rcases h with h | ⟨b, c, g1, g2, h3, h4, h5⟩
  · exact absurd h hn
  · exact ⟨b, 0, h3, fun i hi => by simp [World.cell?, h4, h5 i hi, by']⟩
theorem bys_congr {n : Nat} {S T : Nat → Nat} {c : Array Value} (h : bys n S c) (e : ∀ i, i < n → S i = T i) : bys n T c := fun i hi => by rw [← e i hi]; exact h i hi
theorem bys_step {L k : Nat} {f g : Nat → Nat} {c : Array Value} (h : bys L (mx2 f g k) c) (hc : c.size = L) (hk : k < L) : bys L (mx2 f g (k + 1)) (c.setIfInBounds k (.int .u8 (g k : Int))) := by
  intro i hi
  by_cases e : i = k
  · subst e
    rw [set_at (by omega)]; simp [mx2]
  · rw [set_ne e, h i hi]
    simp only [mx2]
    congr 3
    by_cases q : i < k
    · rw [if_pos q, if_pos (by omega)]
    · rw [if_neg q, if_neg (by omega)]
theorem bys_made (L : Nat) : bys L (fun _ => 0) (made (.int .u8 0) L) := by
  intro i hi
  have e : i % 1 = 0 := by omega
  simp [made, madeCells, Value.cells, hi, e]
theorem info5 : (Tryd.prog.info? 5).map (fun i => (i.zero, i.size, i.bytes)) = some (some (.int .u8 0), 1, 1) := by kernel_rfl
theorem conv_any {w : World} {a : Option Addr} {L : Nat} {f : Nat → Nat} (cap : Nat) (hf : ∀ k, f k < 256) (h : At w a L (by' f)) : (convert 22 9 (.slice a L cap)).run Tryd.prog w = .ok (.string (tx L f)) w := by
  by_cases h0 : L = 0
  · subst h0
    cases a with
    | none => kernel_rfl
    | some a => exact run_convert_bytes_back (P := Tryd.prog) w 22 9 5 a cap [] Tryd.underlying22 Tryd.underlying5 Tryd.underlying9 (fun j hj => absurd hj (by simp))
  · obtain ⟨b, off, rfl, hc⟩ := h h0
    have := run_convert_bytes_back (P := Tryd.prog) w 22 9 5 ⟨b, off, none⟩ cap ((List.range L).map fun k => UInt8.ofNat (f k)) Tryd.underlying22 Tryd.underlying5 Tryd.underlying9 (fun j hj => by
      have e : (⟨b, off, none⟩ : Addr).add j = ⟨b, off + j, none⟩ := by unfold Addr.add; split <;> simp_all
      have hj' : j < L := by simpa using hj
      rw [e, hc j hj', by']
      simp [Nat.mod_eq_of_lt (hf j)])
    rw [List.length_map, List.length_range] at this
    exact this

theorem bytesRow_bys (u : ByteArray) (cap : Nat) : bys u.size (bb u) (bytesRow u cap) := by
  intro i hi
  have hi' : i < u.data.size := hi
  unfold bytesRow
  rw [Array.getElem?_append_left (by simpa using hi')]
  simp only [Array.getElem?_map, Array.getElem?_eq_getElem hi', bb]
  rfl
theorem bytesRow_size (u : ByteArray) (cap : Nat) : u.size ≤ (bytesRow u cap).size := by
  unfold bytesRow
  simp
theorem block_setz {w : World} {b i : Nat} {c : Array Value} {e : TypeId} {v : Value} {z : Nat × Nat} (h : w.heap[b]? = some (.cells c e z)) : (w.setCell ⟨b, i, none⟩ v).heap[b]? = some (.cells (c.setIfInBounds i v) e z) := by
  simp [World.setCell, Array.getElem?_modify, h]
theorem cell_of_blockz {w : World} {b i : Nat} {c : Array Value} {e : TypeId} {v : Value} {z : Nat × Nat} (h : w.heap[b]? = some (.cells c e z)) (hv : c[i]? = some v) : w.cell? ⟨b, i, none⟩ = some v := by simp [World.cell?, h, hv]
theorem free_of_blockz {w : World} {b i : Nat} {c : Array Value} {e : TypeId} {z : Nat × Nat} (h : w.heap[b]? = some (.cells c e z)) (hz : i < z.1) : w.frozen? ⟨b, i, none⟩ = false := by
  obtain ⟨lo, hi⟩ := z
  simp only [World.frozen?, h]
  simp at hz ⊢
  omega
theorem bys_stepz {L k : Nat} {f g : Nat → Nat} {c : Array Value} (h : bys L (mx2 f g k) c) (hk : k < L) : bys L (mx2 f g (k + 1)) (c.setIfInBounds k (.int .u8 (g k : Int))) := by
  intro i hi
  have hc := (Array.getElem?_eq_some_iff.1 (h k hk)).1
  by_cases e : i = k
  · subst e
    rw [set_at hc]; simp [mx2]
  · rw [set_ne e, h i hi]
    simp only [mx2]
    congr 3
    by_cases q : i < k
    · rw [if_pos q, if_pos (by omega)]
    · rw [if_neg q, if_neg (by omega)]
/-- The bytes of a text laid in a row of their own. -/
theorem bytes_of (u : ByteArray) (w : World) : ∃ (cp z : Nat) (W : World), (convert 9 22 (.string u)).run Tryd.prog w = .ok (.slice (some ⟨w.heap.size, 0, none⟩) u.size cp) W ∧ u.size ≤ z ∧ Below w.heap.size w W ∧ ∃ c, W.heap[w.heap.size]? = some (.cells c 5 (z, z + 1)) ∧ bys u.size (bb u) c :=
  ⟨_, _, _, run_bytes_of_string (P := Tryd.prog) w 9 22 5 u Tryd.underlying9 Tryd.underlying22 Tryd.underlying5, bytesRow_size u _, (Below.refl _ _).drew.alloc (Nat.le_refl _) _, _, heap_alloc_new w.drew _, bytesRow_bys u _⟩
theorem box_out {B C : Nat} {w w' : World} {b : Nat} {o : Obj} (h : w.heap[b]? = some o) (ho : Out B C w w') (hd : b < B ∨ C ≤ b) : w'.heap[b]? = some o := by
  rw [ho.block b (Array.getElem?_eq_some_iff.1 h).1 hd]; exact h
theorem box_on {w w' : World} {b : Nat} {o : Obj} (h : w.heap[b]? = some o) (hb : Below w.heap.size w w') : w'.heap[b]? = some o := (hb.block b (Array.getElem?_eq_some_iff.1 h).1).trans h

theorem wrap_i64 {n : Nat} (h : n < 9223372036854775808) : IntKind.i64.wrap (n : Int) = (n : Int) := by
  simp only [IntKind.wrap, IntKind.bits, IntKind.signed]
  simp
  omega
theorem bits_i64_xor {a b : Nat} (ha : a < 9223372036854775808) (hb : b < 9223372036854775808) : bits .xor .i64 (a : Int) (b : Int) = ((a ^^^ b : Nat) : Int) := by
  simp only [bits, BitVec.toNat_xor, BitVec.toNat_ofInt]
  have e1 : ((a : Int) % ((2 ^ IntKind.i64.bits : Nat) : Int)).toNat = a := by simp only [IntKind.bits]; omega
  have e2 : ((b : Int) % ((2 ^ IntKind.i64.bits : Nat) : Int)).toNat = b := by simp only [IntKind.bits]; omega
  rw [e1, e2]
  exact wrap_i64 (Nat.xor_lt_two_pow (n := 63) ha hb)
theorem bit_i64 {y : Nat} (hy : y < 9223372036854775808) : (bits .and .i64 (y : Int) 1 == 1) = y.testBit 0 := by
  have e : bits .and .i64 (y : Int) 1 = ((y % 2 : Nat) : Int) := by
    simp only [bits, BitVec.toNat_and, BitVec.toNat_ofInt]
    have e1 : ((y : Int) % ((2 ^ IntKind.i64.bits : Nat) : Int)).toNat = y := by simp only [IntKind.bits]; omega
    have e2 : ((1 : Int) % ((2 ^ IntKind.i64.bits : Nat) : Int)).toNat = 1 := by simp only [IntKind.bits]; omega
    rw [e1, e2, nat_mask1]
    exact wrap_i64 (by omega)
  rw [e, Nat.testBit_zero]
  rcases Nat.mod_two_eq_zero_or_one y with h2 | h2 <;> simp [h2]
theorem At.drewN {w : World} {a : Option Addr} {n : Nat} {f : Nat → Value} (h : At w a n f) (m : Nat) : At (w.drewN m) a n f := by
  intro hn
  obtain ⟨b, off, e, hc⟩ := h hn
  exact ⟨b, off, e, fun i hi => by simpa [go_sem] using hc i hi⟩
end Go.Proofs.YtapkaeamiplhgaaDoor
