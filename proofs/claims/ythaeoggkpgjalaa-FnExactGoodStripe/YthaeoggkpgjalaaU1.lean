import Derived.Test.YthaeoggkpgjalaaT1
import Derived.Laws.CopyOwn
import Derived.Laws.IdiomStrings
import Derived.Deep.QuietTactic
import Derived.BigQuiet
import Derived.Lib.QuietBelow
import Derived.Deep.RegionWith
namespace Go.Proofs.Ythaeoggkpgjalaa
open Go.ChangeShapes Go.WideShapes Go.ChangeAt Go.RowKit
set_option linter.unusedVariables false

structure Out (B C : Nat) (w w' : World) : Prop where
  os : w'.os = w.os
  tape : w'.tape = w.tape
  output : w'.output = w.output
  size : w.heap.size ≤ w'.heap.size
  block : ∀ k, k < w.heap.size → (k < B ∨ C ≤ k) → w'.heap[k]? = w.heap[k]?
theorem Out.refl (B C : Nat) (w : World) : Out B C w w := ⟨rfl, rfl, rfl, Nat.le_refl _, fun _ _ _ => rfl⟩
theorem Out.trans {B C : Nat} {a b c : World} (h : Out B C a b) (k : Out B C b c) : Out B C a c :=
  ⟨k.os.trans h.os, k.tape.trans h.tape, k.output.trans h.output, Nat.le_trans h.size k.size, fun i hi hs => (k.block i (Nat.lt_of_lt_of_le hi h.size) hs).trans (h.block i hi hs)⟩
theorem Out.mono {B C B' C' : Nat} {a b : World} (h : Out B C a b) (h1 : B' ≤ B) (h2 : C ≤ C') : Out B' C' a b :=
  ⟨h.os, h.tape, h.output, h.size, fun i hi hs => h.block i hi (by omega)⟩
theorem Out.of_below {B C : Nat} {a b : World} (h : Below a.heap.size a b) : Out B C a b :=
  ⟨h.os, h.tape, h.output, h.size, fun i hi _ => h.block i hi⟩
theorem Out.below {B C : Nat} {a b : World} (h : Out B C a b) (hB : B ≤ a.heap.size) : Below B a b :=
  ⟨h.os, h.tape, h.output, h.size, fun i hi => h.block i (by omega) (by omega)⟩
theorem Below.comp {a b c : World} (h : Below a.heap.size a b) (k : Below b.heap.size b c) : Below a.heap.size a c := h.trans (k.mono h.size)
def Mine (w : World) (B C : Nat) (e : TypeId) (n : Nat) (a : Option Addr) (p : Array Value → Prop) : Prop :=
  n = 0 ∨ ∃ b c, B ≤ b ∧ b < C ∧ a = some ⟨b, 0, none⟩ ∧ w.heap[b]? = some (.cells c e (0, 0)) ∧ p c
def strs (n : Nat) (S : Nat → ByteArray) (c : Array Value) : Prop := ∀ i, i < n → c[i]? = some (.string (S i))
theorem Mine.out {w w' : World} {B C B' C' : Nat} {e : TypeId} {n : Nat} {a : Option Addr} {p : Array Value → Prop} (h : Mine w B C e n a p) (ho : Out B' C' w w') (hd : C ≤ B' ∨ C' ≤ B) : Mine w' B C e n a p := by
  rcases h with h | ⟨b, c, h1, h2, h3, h4, h5⟩
  · exact .inl h
  · exact .inr ⟨b, c, h1, h2, h3, by rw [ho.block b (Array.getElem?_eq_some_iff.1 h4).1 (by omega)]; exact h4, h5⟩
theorem Mine.below {w w' : World} {B C : Nat} {e : TypeId} {n : Nat} {a : Option Addr} {p : Array Value → Prop} (h : Mine w B C e n a p) (ho : Below w.heap.size w w') : Mine w' B C e n a p :=
  h.out (Out.of_below (B := C) (C := C) ho) (.inl (Nat.le_refl _))
theorem Mine.mono {w : World} {B C B' C' : Nat} {e : TypeId} {n : Nat} {a : Option Addr} {p : Array Value → Prop} (h : Mine w B C e n a p) (h1 : B' ≤ B) (h2 : C ≤ C') : Mine w B' C' e n a p := by
  rcases h with h | ⟨b, c, g1, g2, h3, h4, h5⟩
  · exact .inl h
  · exact .inr ⟨b, c, by omega, by omega, h3, h4, h5⟩
theorem Mine.strs {w : World} {B C : Nat} {e : TypeId} {n : Nat} {a : Option Addr} {S : Nat → ByteArray} (h : Mine w B C e n a (strs n S)) : At w a n fun i => .string (S i) := by
  intro hn
  rcases h with h | ⟨b, c, g1, g2, h3, h4, h5⟩
  · exact absurd h hn
  · exact ⟨b, 0, h3, fun i hi => by simp [World.cell?, h4, h5 i hi]⟩
def made (z : Value) (n : Nat) : Array Value := madeCells z.cells n
theorem size_made (z : Value) (n : Nat) : (made z n).size = n := size_madeCells _ _
theorem make_any {P : Program} (t e : TypeId) (z : Value) (size bytes : Nat) (ht : P.underlying t = some (.slice e)) (hinfo : (P.info? e).map (fun i => (i.zero, i.size, i.bytes)) = some (some z, size, bytes))
    (kl kc : IntKind) (n : Nat) (hbytes : bytes * n ≤ 281474976710656) (h63 : n ≤ 9223372036854775807) (w : World) :
    (Instr.makeSlice t (.int kl (n : Int)) (.int kc (n : Int))).run P w = .ok (.slice (some ⟨w.heap.size, 0, none⟩) n n) (w.alloc (.cells (made z (n * size)) e)) := by
  obtain ⟨i, hi, hzz⟩ := Option.map_eq_some_iff.1 hinfo
  simp only [Prod.mk.injEq] at hzz
  obtain ⟨hz, hs, hb⟩ := hzz
  have := run_make (P := P) w t e i z ht hi hz kl kc n n (by omega) (by omega) (by rw [hb]; omega) (by omega)
  rw [this, hs]; rfl
theorem cell_of_block {w : World} {b i : Nat} {c : Array Value} {e : TypeId} {v : Value} (h : w.heap[b]? = some (.cells c e (0, 0))) (hv : c[i]? = some v) : w.cell? ⟨b, i, none⟩ = some v := by simp [World.cell?, h, hv]
theorem free_of_block {w : World} {b i : Nat} {c : Array Value} {e : TypeId} (h : w.heap[b]? = some (.cells c e (0, 0))) : w.frozen? ⟨b, i, none⟩ = false := by simp [World.frozen?, h]
theorem block_set {w : World} {b i : Nat} {c : Array Value} {e : TypeId} {v : Value} (h : w.heap[b]? = some (.cells c e (0, 0))) : (w.setCell ⟨b, i, none⟩ v).heap[b]? = some (.cells (c.setIfInBounds i v) e (0, 0)) := by
  simp [World.setCell, Array.getElem?_modify, h]
theorem set_at {c : Array Value} {i : Nat} (h : i < c.size) (v : Value) : (c.setIfInBounds i v)[i]? = some v := by simp [h]
theorem set_ne {c : Array Value} {i j : Nat} (h : ¬ j = i) {v : Value} : (c.setIfInBounds i v)[j]? = c[j]? := by
  rw [Array.getElem?_setIfInBounds, if_neg (by omega)]
theorem info9 : (Try.prog.info? 9).map (fun i => (i.zero, i.size, i.bytes)) = some (some (.string ⟨#[]⟩), 1, 16) := by kernel_rfl
theorem below_alloc (w : World) (o : Obj) : Below w.heap.size w (w.alloc o) := (Below.refl _ _).alloc (Nat.le_refl _) _
theorem bcell {W w1 : World} (hb : Below W.heap.size W w1) : (∀ b o, b < W.heap.size → w1.cell? ⟨b, o, none⟩ = W.cell? ⟨b, o, none⟩) ∧ (∀ b o, b < W.heap.size → w1.frozen? ⟨b, o, none⟩ = W.frozen? ⟨b, o, none⟩) :=
  ⟨fun b o h => hb.cell (p := ⟨b, o, none⟩) h, fun b o h => hb.frozen (p := ⟨b, o, none⟩) h⟩
theorem out_setCell (w : World) (b o : Nat) (v : Value) : Out b (b + 1) w (w.setCell ⟨b, o, none⟩ v) :=
  ⟨rfl, rfl, rfl, by simp [World.setCell], fun k _ hk => Below.heap_setCell _ _ _ _ (by simp; omega)⟩
theorem Out.setCell {B C : Nat} {w w' : World} (h : Out B C w w') {b : Nat} (h1 : B ≤ b) (h2 : b < C) (o : Nat) (v : Value) : Out B C w (w'.setCell ⟨b, o, none⟩ v) :=
  h.trans ((out_setCell w' b o v).mono h1 h2)
theorem Out.alloc {B C : Nat} {w w' : World} (h : Out B C w w') (o : Obj) : Out B C w (w'.alloc o) :=
  h.trans (Out.of_below (below_alloc w' o))
theorem szStringS_any (a : Option Addr) (n cap : Nat) (S : Nat → ByteArray) (left : Int) (w : World) (h0 : 0 ≤ left) (h1 : left ≤ 1048576)
    (hn : n ≤ 9223372036854775807) (hc : At w a n fun i => .string (S i)) (hs : ∀ i, i < n → (S i).size ≤ 9223372036854775807) :
    Calls Try.prog 9 #[.slice a n cap, .int .i64 left] w fun e w' => w' = w ∧ ∃ r : Int, e = .returned (.int .i64 r) ∧ -1 ≤ r ∧ r ≤ left ∧ (0 ≤ r → (n : Int) ≤ left) := by
  by_cases hl : left - n < 0
  · go_enter Try.func9, Try.ntmps9
    go_wp2
    go_ret
    exact ⟨rfl, -1, rfl, by omega, by omega, by omega⟩
  · have hl' : 0 ≤ left - n := by omega
    go_enter Try.func9, Try.ntmps9
    go_wp2
    go_loop [1, 5] (fun l i => ∃ (k : Nat) (q : Int), k ≤ n ∧ i = .int .i64 k ∧ l = .int .i64 q ∧ 0 ≤ q ∧ q ≤ left - n) (fun _ i => n - (intOf i).toNat)
    case atStart => exact ⟨0, _, Nat.zero_le _, rfl, rfl, hl', by omega⟩
    case round =>
      obtain ⟨k, q, hk, rfl, rfl, hq, hq'⟩ := hrel
      by_cases hlt : k < n
      · obtain ⟨b, off, rfl, hcell⟩ := hc (by omega)
        have hck := hcell k hlt
        have hsk := hs k hlt
        clear hcell hs hc
        by_cases hx : q - (S k).size < 0
        · go_wp2
          go_ret
          exact ⟨rfl, -1, rfl, by omega, by omega, by omega⟩
        · have hx' : 0 ≤ q - (S k).size := by omega
          go_wp2
          go_round
          case rel => exact ⟨k + 1, _, by omega, by go_num, rfl, hx', by omega⟩
          case measure => simp [intOf]; omega
      · go_wp2
        go_ret
        exact ⟨rfl, q, rfl, by omega, by omega, by omega⟩
theorem toStringS_any (a : Option Addr) (n cap : Nat) (S : Nat → ByteArray) (w : World) (hn : n ≤ 1048576) (hc : At w a n fun i => .string (S i)) :
    Calls Try.prog 11 #[.slice a n cap] w fun e w' => Below w.heap.size w w' ∧ ∃ a' c', e = .returned (.slice a' n c') ∧ Mine w' w.heap.size w'.heap.size 9 n a' (strs n S) := by
  have hmk := make_any (P := Try.prog) 22 9 _ 1 16 Try.underlying22 info9 .i64 .i64 n (by omega) (by omega)
  go_enter Try.func11, Try.ntmps11
  go_wp2
  go_loopw [4] (fun i wr => ∃ (k : Nat) (c : Array Value), k ≤ n ∧ i = .int .i64 k ∧ wr.heap[w.heap.size]? = some (.cells c 9 (0, 0)) ∧ c.size = n ∧ strs k S c ∧ Below w.heap.size w wr) (fun i _ => n - (intOf i).toNat)
  case atStart => exact ⟨0, _, Nat.zero_le _, rfl, heap_alloc_new w _, by simp [size_made], fun i hi => absurd hi (by omega), (Below.refl _ _).alloc (Nat.le_refl _) _⟩
  case round =>
    obtain ⟨k, c, hk, rfl, hB, hcs, hst, hb⟩ := hrel
    by_cases hlt : k < n
    · obtain ⟨b, off, rfl, hcell⟩ := (hc.below hb) (by omega)
      have hck := hcell k hlt
      have hold : wr.cell? ⟨w.heap.size, k, none⟩ = some c[k] := cell_of_block hB (by simp)
      have hfree := free_of_block (i := k) hB
      clear hcell hc
      have HB : Hid (wr.heap[w.heap.size]? = some (.cells c 9 (0, 0))) := hB
      clear hB
      go_wp2
      go_roundw
      case rel =>
        refine ⟨k + 1, _, by omega, by go_num, block_set HB.out, by simpa using hcs, ?_, hb.setCell (Nat.le_refl _) _⟩
        intro i hi
        by_cases e : i = k
        · rw [e]; exact set_at (by omega) _
        · rw [set_ne e]; exact hst i (by omega)
      case measure => simp [intOf]; omega
    · go_wp2
      go_ret
      have hkn : k = n := by omega
      subst hkn
      exact ⟨hb, _, _, rfl, .inr ⟨_, c, Nat.le_refl _, (Array.getElem?_eq_some_iff.1 hB).1, rfl, hB, hst⟩⟩
theorem eqStringS_any (a a' : Option Addr) (n cap cap' : Nat) (S : Nat → ByteArray) (w : World) (hn : n ≤ 9223372036854775807) (hc : At w a n fun i => .string (S i)) (hc' : At w a' n fun i => .string (S i)) :
    Calls Try.prog 13 #[.slice a n cap, .slice a' n cap'] w fun e w' => e = .returned (.bool true) ∧ Below w.heap.size w w' := by
  go_enter Try.func13, Try.ntmps13
  go_wp2
  go_loopw [5] (fun i wr => ∃ (k : Nat), k ≤ n ∧ i = .int .i64 k ∧ Below w.heap.size w wr) (fun i _ => n - (intOf i).toNat)
  case atStart => exact ⟨0, Nat.zero_le _, rfl, Below.refl _ _⟩
  case round =>
    obtain ⟨k, hk, rfl, hb⟩ := hrel
    by_cases hlt : k < n
    · obtain ⟨b, off, rfl, hcell⟩ := (hc.below hb) (by omega)
      obtain ⟨b', off', rfl, hcell'⟩ := (hc'.below hb) (by omega)
      have hck := hcell k hlt
      have hck' := hcell' k hlt
      have hlt' : (k : Int) < (n : Int) := by omega
      clear hcell hc hcell' hc'
      go_wp2
      go_quiet (fail)
      go_wp2
      go_roundw
      case rel => exact ⟨k + 1, by omega, by go_num, below_drewN hb _⟩
      case measure => simp [intOf]; omega
    · go_wp2
      go_ret
      exact ⟨rfl, hb⟩
theorem Out.lt {B C : Nat} {w w' : World} (h : Out B C w w') {b : Nat} (hb : b < w.heap.size) : b < w'.heap.size := Nat.lt_of_lt_of_le hb h.size
end Go.Proofs.Ythaeoggkpgjalaa
