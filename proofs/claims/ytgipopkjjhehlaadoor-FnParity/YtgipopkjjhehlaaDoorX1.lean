import Derived.Test.YtgipopkjjhehlaaDoorW3
namespace Go.Proofs.YtgipopkjjhehlaaDoor
open Go.ChangeShapes Go.WideShapes Go.ChangeAt Go.RowKit
set_option linter.unusedVariables false
open GF

theorem bytesRow_bys (u : ByteArray) (cap : Nat) : bys u.size (bb u) (bytesRow u cap) := by
  intro i hi
  have hi' : i < u.data.size := hi
  unfold bytesRow
  rw [Array.getElem?_append_left (by simpa using hi')]
  simp only [Array.getElem?_map, Array.getElem?_eq_getElem hi', bb]
  rfl
theorem bytesRow_size (u : ByteArray) (cap : Nat) : u.size ≤ (bytesRow u cap).size := by
  unfold bytesRow
  simp
theorem block_setz {w : World} {b i : Nat} {c : Array Value} {e : TypeId} {v : Value} {z : Nat × Nat} (h : w.heap[b]? = some (.cells c e z)) : (w.setCell ⟨b, i, none⟩ v).heap[b]? = some (.cells (c.setIfInBounds i v) e z) := by
  simp [World.setCell, Array.getElem?_modify, h]
theorem cell_of_blockz {w : World} {b i : Nat} {c : Array Value} {e : TypeId} {v : Value} {z : Nat × Nat} (h : w.heap[b]? = some (.cells c e z)) (hv : c[i]? = some v) : w.cell? ⟨b, i, none⟩ = some v := by simp [World.cell?, h, hv]
theorem free_of_blockz {w : World} {b i : Nat} {c : Array Value} {e : TypeId} {z : Nat × Nat} (h : w.heap[b]? = some (.cells c e z)) (hz : i < z.1) : w.frozen? ⟨b, i, none⟩ = false := by
  obtain ⟨lo, hi⟩ := z
  simp only [World.frozen?, h]
  simp at hz ⊢
  omega
theorem bys_stepz {L k : Nat} {f g : Nat → Nat} {c : Array Value} (h : bys L (mx2 f g k) c) (hk : k < L) : bys L (mx2 f g (k + 1)) (c.setIfInBounds k (.int .u8 (g k : Int))) := by
  intro i hi
  have hc := (Array.getElem?_eq_some_iff.1 (h k hk)).1
  by_cases e : i = k
  · subst e
    rw [set_at hc]; simp [mx2]
  · rw [set_ne e, h i hi]
    simp only [mx2]
    congr 3
    by_cases q : i < k
    · rw [if_pos q, if_pos (by omega)]
    · rw [if_neg q, if_neg (by omega)]

/-- The bytes of a text laid in a row of their own. -/
theorem bytes_of (u : ByteArray) (w : World) : ∃ (cp z : Nat) (W : World), (convert 9 22 (.string u)).run Tryd.prog w = .ok (.slice (some ⟨w.heap.size, 0, none⟩) u.size cp) W ∧ u.size ≤ z ∧ Below w.heap.size w W ∧ ∃ c, W.heap[w.heap.size]? = some (.cells c 5 (z, z + 1)) ∧ bys u.size (bb u) c :=
  ⟨_, _, _, run_bytes_of_string (P := Tryd.prog) w 9 22 5 u Tryd.underlying9 Tryd.underlying22 Tryd.underlying5, bytesRow_size u _, (Below.refl _ _).drew.alloc (Nat.le_refl _) _, _, heap_alloc_new w.drew _, bytesRow_bys u _⟩

set_option maxHeartbeats 2000000 in
theorem l3Xor_any (u v : ByteArray) (w : World) (hL : u.size ≤ 40) (hv : v.size = u.size) :
    Calls Tryd.prog 43 #[.string u, .string v] w fun e w' => e = .returned (.string (tx u.size fun k => bb u k ^^^ bb v k)) ∧ Below w.heap.size w w' := by
  obtain ⟨cp, z, W, hcv, hz, bW, c0, hR0, hb0⟩ := bytes_of u w
  have hrl : ∀ k, bb u k ^^^ bb v k < 256 := fun k => xor_lt (bb_lt _ _) (bb_lt _ _)
  have HR0 : Hid _ := hR0
  have HB0 : Hid _ := hb0
  have HBW : Hid _ := bW
  have HZ : Hid (u.size ≤ z) := hz
  clear hR0 hb0 bW hz
  go_enter Tryd.func43, Tryd.ntmps43
  go_wp2
  generalize hLL : u.size = L at *
  go_loopw [11] (fun i wr => ∃ (k : Nat) (c : Array Value), k ≤ L ∧ i = .int .i64 k ∧ wr.heap[w.heap.size]? = some (.cells c 5 (z, z + 1)) ∧ bys L (mx2 (bb u) (fun k => bb u k ^^^ bb v k) k) c ∧ Below w.heap.size w wr) (fun i _ => L - (intOf i).toNat)
  case atStart => exact ⟨0, c0, Nat.zero_le _, rfl, HR0.out, HB0.out, HBW.out⟩
  case round =>
    obtain ⟨k, c, hk, rfl, hR, hst, hb⟩ := hrel
    by_cases hlt : k < L
    · have hlt' : (k : Int) < (L : Int) := by omega
      have hp := hst k hlt
      rw [mx2_at] at hp
      have g0 := cell_of_blockz hR hp
      have f0 := free_of_blockz (i := k) hR (by have := HZ.out; omega)
      have hbu := bb_lt u k
      have hidx := run_idx v k (by omega)
      have hx := bits_u8_xor hbu (bb_lt v k)
      have HR : Hid _ := hR
      clear hR hp
      go_wp2
      go_region
      all_goals go_wp2
      all_goals
        go_roundw
        case rel => exact ⟨k + 1, _, by omega, by go_num, block_setz HR.out, bys_stepz hst hlt, (hb.setCell (Nat.le_refl _) _).drew⟩
        case measure => simp [intOf]; omega
    · obtain rfl : k = L := by omega
      have hlt' : ¬ (k : Int) < (k : Int) := by omega
      have m1 : At wr (some ⟨w.heap.size, 0, none⟩) k (by' fun k => bb u k ^^^ bb v k) := fun _ => ⟨_, 0, rfl, fun i hi => by rw [Nat.zero_add, cell_of_blockz hR (hst i hi), mx2_all hi]; rfl⟩
      have v1 : (convert 22 9 (.slice (some ⟨w.heap.size, 0, none⟩) k cp)).run Tryd.prog wr = .ok (.string (tx k fun k => bb u k ^^^ bb v k)) wr := conv_any cp hrl m1
      clear hR m1
      go_wp2
      go_ret
      exact ⟨rfl, hb⟩

set_option maxHeartbeats 2000000 in
theorem l3Times_any (b : Nat) (u : ByteArray) (w : World) (hL : u.size ≤ 40) (hbb : b < 256) :
    Calls Tryd.prog 44 #[.int .u8 (b : Int), .string u] w fun e w' => e = .returned (.string (tx u.size fun k => gm b (bb u k))) ∧ Below w.heap.size w w' := by
  obtain ⟨cp, z, W, hcv, hz, bW, c0, hR0, hb0⟩ := bytes_of u w
  have hrl : ∀ k, gm b (bb u k) < 256 := fun k => gm_lt _ hbb
  have HR0 : Hid _ := hR0
  have HB0 : Hid _ := hb0
  have HBW : Hid _ := bW
  have HZ : Hid (u.size ≤ z) := hz
  clear hR0 hb0 bW hz
  go_enter Tryd.func44, Tryd.ntmps44
  go_wp2
  generalize hLL : u.size = L at *
  go_loopw [11] (fun i wr => ∃ (k : Nat) (c : Array Value), k ≤ L ∧ i = .int .i64 k ∧ wr.heap[w.heap.size]? = some (.cells c 5 (z, z + 1)) ∧ bys L (mx2 (bb u) (fun k => gm b (bb u k)) k) c ∧ Below w.heap.size w wr) (fun i _ => L - (intOf i).toNat)
  case atStart => exact ⟨0, c0, Nat.zero_le _, rfl, HR0.out, HB0.out, HBW.out⟩
  case round =>
    obtain ⟨k, c, hk, rfl, hR, hst, hb⟩ := hrel
    by_cases hlt : k < L
    · have hlt' : (k : Int) < (L : Int) := by omega
      have hp := hst k hlt
      rw [mx2_at] at hp
      have g0 := cell_of_blockz hR hp
      have f0 := free_of_blockz (i := k) hR (by have := HZ.out; omega)
      have hbu := bb_lt u k
      have HR : Hid _ := hR
      clear hR hp
      go_wp2_with fail
      refine (l2Mul_any b (bb u k) _ hbb hbu).mono ?_
      rintro e w1 ⟨rfl, rfl⟩
      go_wp2
      all_goals
        go_roundw
        case rel => exact ⟨k + 1, _, by omega, by go_num, block_setz HR.out, bys_stepz hst hlt, hb.setCell (Nat.le_refl _) _⟩
        case measure => simp [intOf]; omega
    · obtain rfl : k = L := by omega
      have hlt' : ¬ (k : Int) < (k : Int) := by omega
      have m1 : At wr (some ⟨w.heap.size, 0, none⟩) k (by' fun k => gm b (bb u k)) := fun _ => ⟨_, 0, rfl, fun i hi => by rw [Nat.zero_add, cell_of_blockz hR (hst i hi), mx2_all hi]; rfl⟩
      have v1 : (convert 22 9 (.slice (some ⟨w.heap.size, 0, none⟩) k cp)).run Tryd.prog wr = .ok (.string (tx k fun k => gm b (bb u k))) wr := conv_any cp hrl m1
      clear hR m1
      go_wp2
      go_ret
      exact ⟨rfl, hb⟩

set_option maxHeartbeats 2000000 in
theorem addText_any (u : ByteArray) (x : Option Addr) (cx : Nat) (f : Nat → Nat) (w : World) (hL : u.size ≤ 40) (hf : ∀ k, f k < 256) (hx : At w x u.size (by' f)) :
    Calls Tryd.prog 57 #[.string u, .slice x u.size cx] w fun e w' => e = .returned (.string (tx u.size fun k => bb u k ^^^ f k)) ∧ Below w.heap.size w w' := by
  obtain ⟨cp, z, W, hcv, hz, bW, c0, hR0, hb0⟩ := bytes_of u w
  have hrl : ∀ k, bb u k ^^^ f k < 256 := fun k => xor_lt (bb_lt _ _) (hf k)
  have HR0 : Hid _ := hR0
  have HB0 : Hid _ := hb0
  have HBW : Hid _ := bW
  have HZ : Hid (u.size ≤ z) := hz
  clear hR0 hb0 bW hz
  go_enter Tryd.func57, Tryd.ntmps57
  go_wp2
  generalize hLL : u.size = L at *
  go_loopw [12] (fun i wr => ∃ (k : Nat) (c : Array Value), k ≤ L ∧ i = .int .i64 k ∧ wr.heap[w.heap.size]? = some (.cells c 5 (z, z + 1)) ∧ bys L (mx2 (bb u) (fun k => bb u k ^^^ f k) k) c ∧ Below w.heap.size w wr) (fun i _ => L - (intOf i).toNat)
  case atStart => exact ⟨0, c0, Nat.zero_le _, rfl, HR0.out, HB0.out, HBW.out⟩
  case round =>
    obtain ⟨k, c, hk, rfl, hR, hst, hb⟩ := hrel
    by_cases hlt : k < L
    · have hlt' : (k : Int) < (L : Int) := by omega
      have hp := hst k hlt
      rw [mx2_at] at hp
      have g0 := cell_of_blockz hR hp
      have f0 := free_of_blockz (i := k) hR (by have := HZ.out; omega)
      have hbu := bb_lt u k
      obtain ⟨bx, ox, rfl, hcx⟩ := (hx.below hb) (by omega)
      have hck := hcx k hlt
      unfold by' at hck
      have hxx := bits_u8_xor hbu (hf k)
      clear hcx
      have HR : Hid _ := hR
      clear hR hp
      go_wp2
      all_goals
        go_roundw
        case rel => exact ⟨k + 1, _, by omega, by go_num, block_setz HR.out, bys_stepz hst hlt, hb.setCell (Nat.le_refl _) _⟩
        case measure => simp [intOf]; omega
    · obtain rfl : k = L := by omega
      have hlt' : ¬ (k : Int) < (k : Int) := by omega
      have m1 : At wr (some ⟨w.heap.size, 0, none⟩) k (by' fun k => bb u k ^^^ f k) := fun _ => ⟨_, 0, rfl, fun i hi => by rw [Nat.zero_add, cell_of_blockz hR (hst i hi), mx2_all hi]; rfl⟩
      have v1 : (convert 22 9 (.slice (some ⟨w.heap.size, 0, none⟩) k cp)).run Tryd.prog wr = .ok (.string (tx k fun k => bb u k ^^^ f k)) wr := conv_any cp hrl m1
      clear hR m1
      go_wp2
      go_ret
      exact ⟨rfl, hb⟩
end Go.Proofs.YtgipopkjjhehlaaDoor
