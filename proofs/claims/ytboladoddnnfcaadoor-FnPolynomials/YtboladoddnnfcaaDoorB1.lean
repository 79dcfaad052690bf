import Derived.Test.YtboladoddnnfcaaDoorA4
import Derived.WalkSmall
namespace Go.Proofs.YtboladoddnnfcaaDoor
open Go.ChangeShapes Go.WideShapes Go.ChangeAt Go.RowKit
set_option linter.unusedVariables false
open GF

/-- A slice value that can be read: its length, and where its cells lie. -/
def At (w : World) (a : Option Addr) (n : Nat) (f : Nat → Value) : Prop :=
  n ≠ 0 → ∃ b off, a = some ⟨b, off, none⟩ ∧ ∀ i, i < n → w.cell? ⟨b, off + i, none⟩ = some (f i)
/-- Bytes. -/
def by' (S : Nat → Nat) : Nat → Value := fun i => .int .u8 (S i : Int)
theorem lt_of_cell {w : World} {b o : Nat} {v : Value} (h : w.cell? ⟨b, o, none⟩ = some v) : b < w.heap.size := World.block_lt_of_cell? w ⟨b, o, none⟩ h
theorem At.below {w w' : World} {a : Option Addr} {n : Nat} {f : Nat → Value} (h : At w a n f) (hb : Below w.heap.size w w') : At w' a n f := by
  intro hn
  obtain ⟨b, off, rfl, hc⟩ := h hn
  refine ⟨b, off, rfl, fun i hi => ?_⟩
  have h1 := hc i hi
  rw [hb.cell (p := ⟨b, off + i, none⟩) (lt_of_cell h1)]; exact h1

/-- All blocks that were there, but those from B up to C, are as they were. -/
structure Out (B C : Nat) (w w' : World) : Prop where
  os : w'.os = w.os
  tape : w'.tape = w.tape
  output : w'.output = w.output
  size : w.heap.size ≤ w'.heap.size
  block : ∀ k, k < w.heap.size → (k < B ∨ C ≤ k) → w'.heap[k]? = w.heap[k]?
theorem Out.refl (B C : Nat) (w : World) : Out B C w w := ⟨rfl, rfl, rfl, Nat.le_refl _, fun _ _ _ => rfl⟩
theorem Out.trans {B C : Nat} {a b c : World} (h : Out B C a b) (k : Out B C b c) : Out B C a c :=
  ⟨k.os.trans h.os, k.tape.trans h.tape, k.output.trans h.output, Nat.le_trans h.size k.size, fun i hi hs => (k.block i (Nat.lt_of_lt_of_le hi h.size) hs).trans (h.block i hi hs)⟩
theorem Out.mono {B C B' C' : Nat} {a b : World} (h : Out B C a b) (h1 : B' ≤ B) (h2 : C ≤ C') : Out B' C' a b :=
  ⟨h.os, h.tape, h.output, h.size, fun i hi hs => h.block i hi (by omega)⟩
theorem Out.of_below {B C : Nat} {a b : World} (h : Below a.heap.size a b) : Out B C a b :=
  ⟨h.os, h.tape, h.output, h.size, fun i hi _ => h.block i hi⟩
theorem Out.below {B C : Nat} {a b : World} (h : Out B C a b) (hB : B ≤ a.heap.size) : Below B a b :=
  ⟨h.os, h.tape, h.output, h.size, fun i hi => h.block i (by omega) (by omega)⟩
theorem Out.setCell {B C : Nat} {a b : World} {k : Nat} (h : Out B C a b) (h1 : B ≤ k) (h2 : k < C) (o : Nat) (v : Value) : Out B C a (b.setCell ⟨k, o, none⟩ v) := by
  refine h.trans ⟨rfl, rfl, rfl, by simp [World.setCell], fun i hi hs => ?_⟩
  simp only [World.setCell, Array.getElem?_modify]
  rw [if_neg (by omega)]
theorem Below.comp {a b c : World} (h : Below a.heap.size a b) (k : Below b.heap.size b c) : Below a.heap.size a c := h.trans (k.mono h.size)
theorem below_alloc (w : World) (o : Obj) : Below w.heap.size w (w.alloc o) := (Below.refl _ _).alloc (Nat.le_refl _) _

/-- A slice of n elements in a row of its own, a block from B up to C. -/
def Mine (w : World) (B C : Nat) (n : Nat) (a : Option Addr) (p : Array Value → Prop) : Prop :=
  n = 0 ∨ ∃ b c, B ≤ b ∧ b < C ∧ a = some ⟨b, 0, none⟩ ∧ w.heap[b]? = some (.cells c 5 (0, 0)) ∧ p c
def bys (n : Nat) (S : Nat → Nat) (c : Array Value) : Prop := ∀ i, i < n → c[i]? = some (.int .u8 (S i : Int))
theorem Mine.out {w w' : World} {B C B' C' : Nat} {n : Nat} {a : Option Addr} {p : Array Value → Prop} (h : Mine w B C n a p) (ho : Out B' C' w w') (hd : C ≤ B' ∨ C' ≤ B) : Mine w' B C n a p := by
  rcases h with h | ⟨b, c, h1, h2, h3, h4, h5⟩
  · exact .inl h
  · exact .inr ⟨b, c, h1, h2, h3, by rw [ho.block b (Array.getElem?_eq_some_iff.1 h4).1 (by omega)]; exact h4, h5⟩
theorem Mine.below {w w' : World} {B C : Nat} {n : Nat} {a : Option Addr} {p : Array Value → Prop} (h : Mine w B C n a p) (ho : Below w.heap.size w w') : Mine w' B C n a p :=
  h.out (Out.of_below (B := C) (C := C) ho) (.inl (Nat.le_refl _))
theorem Mine.mono {w : World} {B C B' C' : Nat} {n : Nat} {a : Option Addr} {p : Array Value → Prop} (h : Mine w B C n a p) (h1 : B' ≤ B) (h2 : C ≤ C') : Mine w B' C' n a p := by
  rcases h with h | ⟨b, c, g1, g2, h3, h4, h5⟩
  · exact .inl h
  · exact .inr ⟨b, c, by omega, by omega, h3, h4, h5⟩
theorem Mine.bys {w : World} {B C : Nat} {n : Nat} {a : Option Addr} {S : Nat → Nat} (h : Mine w B C n a (bys n S)) : At w a n (by' S) := by
  intro hn
  rcases h with h | ⟨b, c, g1, g2, h3, h4, h5⟩
  · exact absurd h hn
  · exact ⟨b, 0, h3, fun i hi => by simp [World.cell?, h4, h5 i hi, by']⟩

/-- What make lays. -/
def made (z : Value) (n : Nat) : Array Value := madeCells z.cells n
theorem size_made (z : Value) (n : Nat) : (made z n).size = n := size_madeCells _ _
theorem make_any {P : Program} (t e : TypeId) (z : Value) (size bytes : Nat) (ht : P.underlying t = some (.slice e)) (hinfo : (P.info? e).map (fun i => (i.zero, i.size, i.bytes)) = some (some z, size, bytes))
    (kl kc : IntKind) (n : Nat) (hbytes : bytes * n ≤ 281474976710656) (h63 : n ≤ 9223372036854775807) (w : World) :
    (Instr.makeSlice t (.int kl (n : Int)) (.int kc (n : Int))).run P w = .ok (.slice (some ⟨w.heap.size, 0, none⟩) n n) (w.alloc (.cells (made z (n * size)) e)) := by
  obtain ⟨i, hi, hzz⟩ := Option.map_eq_some_iff.1 hinfo
  simp only [Prod.mk.injEq] at hzz
  obtain ⟨hz, hs, hb⟩ := hzz
  have := run_make (P := P) w t e i z ht hi hz kl kc n n (by omega) (by omega) (by rw [hb]; omega) (by omega)
  rw [this, hs]; rfl
theorem cell_of_block {w : World} {b i : Nat} {c : Array Value} {e : TypeId} {v : Value} (h : w.heap[b]? = some (.cells c e (0, 0))) (hv : c[i]? = some v) : w.cell? ⟨b, i, none⟩ = some v := by simp [World.cell?, h, hv]
theorem free_of_block {w : World} {b i : Nat} {c : Array Value} {e : TypeId} (h : w.heap[b]? = some (.cells c e (0, 0))) : w.frozen? ⟨b, i, none⟩ = false := by simp [World.frozen?, h]
theorem block_set {w : World} {b i : Nat} {c : Array Value} {e : TypeId} {v : Value} (h : w.heap[b]? = some (.cells c e (0, 0))) : (w.setCell ⟨b, i, none⟩ v).heap[b]? = some (.cells (c.setIfInBounds i v) e (0, 0)) := by
  simp [World.setCell, Array.getElem?_modify, h]
theorem set_at {c : Array Value} {i : Nat} (h : i < c.size) (v : Value) : (c.setIfInBounds i v)[i]? = some v := by simp [h]
theorem set_ne {c : Array Value} {i j : Nat} (h : ¬ j = i) {v : Value} : (c.setIfInBounds i v)[j]? = c[j]? := by
  rw [Array.getElem?_setIfInBounds, if_neg (by omega)]
theorem info5 : (Tryd.prog.info? 5).map (fun i => (i.zero, i.size, i.bytes)) = some (some (.int .u8 0), 1, 1) := by kernel_rfl
theorem bys_size {n : Nat} {S : Nat → Nat} {c : Array Value} (h : bys n S c) : n ≤ c.size := by
  by_cases h0 : n = 0
  · omega
  · have := (Array.getElem?_eq_some_iff.1 (h (n - 1) (by omega))).1
    omega
theorem heap_new (w : World) (o : Obj) : (w.alloc o).heap[w.heap.size]? = some o := heap_alloc_new w o

set_option maxHeartbeats 400000 in
theorem toByteS_any (a : Option Addr) (n cap : Nat) (S : Nat → Nat) (w : World) (hn : n ≤ 1048576) (hc : At w a n (by' S)) :
    Calls Tryd.prog 38 #[.slice a n cap] w fun e w' => Below w.heap.size w w' ∧ ∃ a' c', e = .returned (.slice a' n c') ∧ Mine w' w.heap.size w'.heap.size n a' (bys n S) := by
  have hmk := make_any (P := Tryd.prog) 22 5 _ 1 1 Tryd.underlying22 info5 .i64 .i64 n (by omega) (by omega)
  go_enter Tryd.func38, Tryd.ntmps38
  go_wp2
  go_loopw [4] (fun i wr => ∃ (k : Nat) (c : Array Value), k ≤ n ∧ i = .int .i64 k ∧ wr.heap[w.heap.size]? = some (.cells c 5 (0, 0)) ∧ c.size = n ∧ bys k S c ∧ Below w.heap.size w wr) (fun i _ => n - (intOf i).toNat)
  case atStart => exact ⟨0, _, Nat.zero_le _, rfl, heap_new w _, by simp [size_made], fun i hi => absurd hi (by omega), below_alloc _ _⟩
  case round =>
    obtain ⟨k, c, hk, rfl, hB, hcs, hst, hb⟩ := hrel
    by_cases hlt : k < n
    · obtain ⟨b, off, rfl, hcell⟩ := (hc.below hb) (by omega)
      have hck := hcell k hlt
      unfold by' at hck
      have hold : wr.cell? ⟨w.heap.size, k, none⟩ = some c[k] := cell_of_block hB (by simp)
      have hfree := free_of_block (i := k) hB
      clear hcell hc
      have HB : Hid (wr.heap[w.heap.size]? = some (.cells c 5 (0, 0))) := hB
      clear hB
      go_wp2
      go_roundw
      case rel =>
        refine ⟨k + 1, _, by omega, by go_num, block_set HB.out, by simpa using hcs, ?_, hb.setCell (Nat.le_refl _) _⟩
        intro i hi
        by_cases e : i = k
        · rw [e]; exact set_at (by omega) _
        · rw [set_ne e]; exact hst i (by omega)
      case measure => simp [intOf]; omega
    · go_wp2
      go_ret
      have hkn : k = n := by omega
      subst hkn
      exact ⟨hb, _, _, rfl, .inr ⟨_, c, Nat.le_refl _, (Array.getElem?_eq_some_iff.1 hB).1, rfl, hB, hst⟩⟩

set_option maxHeartbeats 400000 in
theorem eqByteS_any (a a' : Option Addr) (n cap cap' : Nat) (S : Nat → Nat) (w : World) (hn : n ≤ 9223372036854775807) (hc : At w a n (by' S)) (hc' : At w a' n (by' S)) :
    Calls Tryd.prog 34 #[.slice a n cap, .slice a' n cap'] w fun e w' => e = .returned (.bool true) ∧ Below w.heap.size w w' := by
  go_enter Tryd.func34, Tryd.ntmps34
  go_wp2
  go_loopw [5] (fun i wr => ∃ (k : Nat), k ≤ n ∧ i = .int .i64 k ∧ Below w.heap.size w wr) (fun i _ => n - (intOf i).toNat)
  case atStart => exact ⟨0, Nat.zero_le _, rfl, Below.refl _ _⟩
  case round =>
    obtain ⟨k, hk, rfl, hb⟩ := hrel
    by_cases hlt : k < n
    · obtain ⟨b, off, rfl, hcell⟩ := (hc.below hb) (by omega)
      obtain ⟨b', off', rfl, hcell'⟩ := (hc'.below hb) (by omega)
      have hck := hcell k hlt
      have hck' := hcell' k hlt
      unfold by' at hck hck'
      have hlt' : (k : Int) < (n : Int) := by omega
      clear hcell hc hcell' hc'
      go_wp2
      go_quiet (fail)
      go_wp2
      go_roundw
      case rel => exact ⟨k + 1, by omega, by go_num, below_drewN hb _⟩
      case measure => simp [intOf]; omega
    · go_wp2
      go_ret
      exact ⟨rfl, hb⟩

/-- The marks from k on. -/
def mks (k : Nat) : Nat → Nat := fun i => (k + i) % 256
set_option maxHeartbeats 800000 in
theorem markByteS_any (B C : Nat) (a : Option Addr) (n cap : Nat) (S : Nat → Nat) (k : Nat) (w : World) (hkn : k + n ≤ 100000000) (hm : Mine w B C n a (bys n S)) :
    Calls Tryd.prog 35 #[.slice a n cap, .int .i64 k] w fun e w' => e = .returned (.int .i64 ((k + n : Nat) : Int)) ∧ Out B C w w' ∧ Mine w' B C n a (bys n (mks k)) := by
  rcases hm with h0 | ⟨b, c0, hb1, hb2, rfl, hB0, hS0⟩
  · subst h0
    go_enter Tryd.func35, Tryd.ntmps35
    go_wp2
    refine wp_loop_rounds 1 ?_
    rw [rounds_succ]
    go_wp2
    go_ret
    exact ⟨rfl, Out.refl _ _ _, .inl rfl⟩
  · have hsz : n ≤ c0.size := bys_size hS0
    have HB0 : Hid _ := hB0
    clear hB0
    go_enter Tryd.func35, Tryd.ntmps35
    go_wp2
    go_loopw [1, 5] (fun kk i wr => ∃ (q : Nat) (c : Array Value), q ≤ n ∧ kk = .int .i64 ((k + q : Nat) : Int) ∧ i = .int .i64 q ∧ wr.heap[b]? = some (.cells c 5 (0, 0)) ∧ n ≤ c.size ∧ bys q (mks k) c ∧ Out B C w wr) (fun _ i _ => n - (intOf i).toNat)
    case atStart => exact ⟨0, c0, Nat.zero_le _, rfl, rfl, HB0.out, hsz, fun i hi => absurd hi (by omega), Out.refl _ _ _⟩
    case round =>
      obtain ⟨q, c, hq, rfl, rfl, hB, hcs, hst, ho⟩ := hrel
      by_cases hlt : q < n
      · obtain ⟨x0, hx0⟩ : ∃ v, c[q]? = some v := ⟨c[q]'(by omega), by simp⟩
        have g0 := cell_of_block hB hx0
        have f0 := free_of_block (i := q) hB
        have HB : Hid _ := hB
        clear hB hx0
        go_wp2
        go_roundw
        case rel =>
          refine ⟨q + 1, _, by omega, by go_num, by go_num, block_set HB.out, by simpa using hcs, ?_, ho.setCell hb1 hb2 _ _⟩
          intro i hi
          by_cases e : i = q
          · rw [e, set_at (by omega)]; simp [mks]
          · rw [set_ne e]; exact hst i (by omega)
        case measure => simp [intOf]; omega
      · have hqn : q = n := by omega
        subst hqn
        go_wp2
        go_ret
        exact ⟨rfl, ho, .inr ⟨b, c, hb1, hb2, rfl, hB, hst⟩⟩

set_option maxHeartbeats 800000 in
theorem heldByteS_any (a : Option Addr) (n cap : Nat) (k : Nat) (w : World) (hkn : k + n ≤ 100000000) (hm : At w a n (by' (mks k))) :
    Calls Tryd.prog 36 #[.slice a n cap, .int .i64 k] w fun e w' => e = .returned (.int .i64 ((k + n : Nat) : Int)) ∧ Below w.heap.size w w' := by
  go_enter Tryd.func36, Tryd.ntmps36
  go_wp2
  go_loopw [1, 5] (fun kk i wr => ∃ (q : Nat), q ≤ n ∧ kk = .int .i64 ((k + q : Nat) : Int) ∧ i = .int .i64 q ∧ Below w.heap.size w wr) (fun _ i _ => n - (intOf i).toNat)
  case atStart => exact ⟨0, Nat.zero_le _, rfl, rfl, Below.refl _ _⟩
  case round =>
    obtain ⟨q, hq, rfl, rfl, hb⟩ := hrel
    by_cases hlt : q < n
    · obtain ⟨b, off, rfl, hcell⟩ := (hm.below hb) (by omega)
      have hck := hcell q hlt
      have e0 : ((mks k q : Nat) : Int) = ((k : Int) + (q : Int)) % 256 := by simp [mks]
      unfold by' at hck
      rw [e0] at hck
      clear hcell hm e0
      go_wp2
      go_roundw
      case rel => exact ⟨q + 1, by omega, by go_num, by go_num, hb⟩
      case measure => simp [intOf]; omega
    · have hqn : q = n := by omega
      subst hqn
      go_wp2
      go_ret
      exact ⟨rfl, hb⟩
end Go.Proofs.YtboladoddnnfcaaDoor
