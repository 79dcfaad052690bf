import Derived.Test.YtkpcbaapohdmfaaDoorA7
import Derived.OwnWalk
namespace Go.Proofs.YtkpcbaapohdmfaaDoor
open Go.ChangeShapes Go.WideShapes Go.ChangeAt Go.RowKit
set_option linter.unusedVariables false
open Ham

/-- The bytes f 0 .. f (n - 1). -/
def byl (f : Nat → Nat) (n : Nat) : List Value := (List.range n).map fun j => .int .u8 (f j : Int)
theorem byl_len (f : Nat → Nat) (n : Nat) : (byl f n).length = n := by simp [byl]
theorem byl_one (f : Nat → Nat) (n : Nat) : byl f n ++ [.int .u8 (f n : Int)] = byl f (n + 1) := by simp [byl, List.range_succ]
theorem byl_two (f : Nat → Nat) (n : Nat) : byl f n ++ [.int .u8 (f n : Int), .int .u8 (f (n + 1) : Int)] = byl f (n + 2) := by
  rw [← byl_one, ← byl_one]; simp
theorem byl_congr {f g : Nat → Nat} {n : Nat} (h : ∀ k, k < n → f k = g k) : byl f n = byl g n := by
  unfold byl; exact List.map_congr_left fun k hk => by rw [h k (List.mem_range.1 hk)]
/-- A row of bytes that the call made (or nil). -/
def Own (B : Nat) (w : World) (v : Value) (n : Nat) (f : Nat → Nat) : Prop := w.ownsRow B 5 1 v n (byl f n)
theorem Own.nil (B : Nat) (w : World) (f : Nat → Nat) : Own B w (.slice none 0 0) 0 f := World.ownsRow_nil w B 5 1
theorem Own.below {B : Nat} {w w' : World} {v : Value} {n : Nat} {f : Nat → Nat} (h : Own B w v n f) (hb : Below w.heap.size w w') : Own B w' v n f := by
  refine ⟨h.1, ?_⟩
  rcases h.2 with q | ⟨g, cap, cur, q1, q2, q3, q4⟩
  · exact .inl q
  · exact .inr ⟨g, cap, cur, q1, q2, (hb.block g (Array.getElem?_eq_some_iff.1 q3).1).trans q3, q4⟩
theorem Own.block {B : Nat} {w : World} {v : Value} {n : Nat} {f : Nat → Nat} (h : Own B w v n f) : ∀ k, v.ownBlock = some k → B ≤ k := by
  intro k hk
  rcases h.2 with ⟨rfl, _⟩ | ⟨g, cap, cur, rfl, q2, q3, q4⟩
  · cases hk
  · simp [Value.ownBlock] at hk; omega
theorem Own.slice {B : Nat} {w : World} {v : Value} {n : Nat} {f : Nat → Nat} (h : Own B w v n f) : ∃ a cap, v = .slice a n cap ∧ At w a n (by' f) := by
  rcases h.2 with ⟨rfl, rfl⟩ | ⟨g, cap, cur, rfl, q2, q3, q4, q5, q6, q7⟩
  · exact ⟨none, 0, rfl, fun h => absurd rfl h⟩
  · refine ⟨_, _, rfl, fun _ => ⟨g, 0, rfl, fun i hi => ?_⟩⟩
    rw [Nat.zero_add]
    refine cell_of_block q3 ?_
    have : (cur.toList.take (n * 1))[i]? = some (by' f i) := by rw [q7]; simp [byl, hi, by']
    rw [List.getElem?_take_of_lt (by omega)] at this
    simpa using this
theorem news1 (w : World) (a : Value) (t : TypeId) : ∀ j u, ([a] : List Value)[j]? = some u → (w.alloc (.cells #[a] t)).cell? ((⟨w.heap.size, 0, none⟩ : Addr).add j) = some u := by
  intro j u h
  have hj : j < 1 := by rcases Nat.lt_or_ge j 1 with q | q; exact q; simp [List.getElem?_eq_none (l := [a]) (i := j) (by simpa using q)] at h
  obtain rfl : j = 0 := by omega
  simp at h; subst h
  exact cell_of_block (heap_alloc_new w _) rfl
theorem news2 (w : World) (a b : Value) (t : TypeId) : ∀ j u, ([a, b] : List Value)[j]? = some u → (w.alloc (.cells #[a, b] t)).cell? ((⟨w.heap.size, 0, none⟩ : Addr).add j) = some u := by
  intro j u h
  have hj : j < 2 := by rcases Nat.lt_or_ge j 2 with q | q; exact q; simp [List.getElem?_eq_none (l := [a, b]) (i := j) (by simpa using q)] at h
  rcases (by omega : j = 0 ∨ j = 1) with rfl | rfl
  · simp at h; subst h
    exact cell_of_block (heap_alloc_new w _) rfl
  · simp at h; subst h
    exact cell_of_block (heap_alloc_new w _) rfl
theorem one1 (k : IntKind) (a : Int) : ∀ u ∈ ([.int k a] : List Value), u.oneCell' = true := by intro u hu; simp at hu; subst hu; rfl
theorem one2 (k : IntKind) (a b : Int) : ∀ u ∈ ([.int k a, .int k b] : List Value), u.oneCell' = true := by intro u hu; simp at hu; rcases hu with rfl | rfl <;> rfl

/-- The two bytes of a word, and of a text's words. -/
def loB (n : Nat) : Nat := enc n % 256
def hiB (n : Nat) : Nat := enc n / 256
def gb (s : ByteArray) (j : Nat) : Nat := if j % 2 = 0 then loB (bb s (j / 2)) else hiB (bb s (j / 2))
theorem gb_lo (s : ByteArray) (k : Nat) : gb s (2 * k) = loB (bb s k) := by
  unfold gb; rw [if_pos (by omega), show 2 * k / 2 = k by omega]
theorem gb_hi (s : ByteArray) (k : Nat) : gb s (2 * k + 1) = hiB (bb s k) := by
  unfold gb; rw [if_neg (by omega), show (2 * k + 1) / 2 = k by omega]
theorem gb_lt (s : ByteArray) (j : Nat) : gb s j < 256 := by
  unfold gb loB hiB; have := enc_lt (bb s (j / 2)); split <;> omega
def gText (s : ByteArray) : ByteArray := tx (2 * s.size) (gb s)
def guV (s : ByteArray) : ByteArray := if s.size ≤ 60 then gText s else ⟨#[]⟩

set_option maxHeartbeats 1000000 in
theorem implGuard_t (s : ByteArray) (w : World) (hs : s.size ≤ 60) (ht : Tab w) :
    Calls Tryd.prog 9 #[.string s] w fun e w' => e = .returned (.tuple #[.string (gText s), .bool true]) ∧ Below w.heap.size w w' := by
  obtain ⟨i0, hi, hz0, hz1, hz2⟩ := info_parts info5
  have hs' : ¬ (60 : Int) < (s.size : Int) := by omega
  have hpos := ht.pos
  go_enter Tryd.func9, Tryd.ntmps9
  go_wp2_with (at_make; refine wpList_make_own _ rfl _ _ 22 rfl w.heap.size 5 i0 (.int .u8 0) 1 Tryd.underlying22 hi hz0 hz1 _ _ _ (2 * s.size) rfl rfl (by omega) ?b2 ?b3 (Nat.le_refl _) ?_)
  case b2 => omega
  case b3 => unfold maxLen; omega
  intro w0 hown0 hgrow0
  have o0 : Own w.heap.size w0 (.slice (some ⟨w.heap.size, 0, none⟩) 0 (2 * s.size)) 0 (gb s) := hown0
  have b0 : Below w.heap.size w w0 := (Below.refl _ _).grown hgrow0 (Nat.le_refl _) (fun k h => by cases h)
  clear hown0 hgrow0
  go_wp2
  go_loopw [4, 17] (fun v i wr => ∃ (k : Nat), k ≤ s.size ∧ i = .int .i64 k ∧ Own w.heap.size wr v (2 * k) (gb s) ∧ Below w.heap.size w wr) (fun _ i _ => s.size - (intOf i).toNat)
  case atStart => exact ⟨0, Nat.zero_le _, rfl, o0, b0⟩
  case round =>
    obtain ⟨k, hk, rfl, hO, hB⟩ := hrel
    clear o0 b0
    by_cases hlt : k < s.size
    · have hlt' : (k : Int) < (s.size : Int) := by omega
      have hidx := run_idx s k hlt
      have hbl := bb_lt s k
      have tw := ht.below hB hpos
      go_wp2_with fail
      refine (implEnc_any (bb s k) _ hbl tw).mono ?_
      rintro e w1 ⟨rfl, g1⟩
      have hO1 := hO.below g1
      have hB1 := hB.trans (g1.mono hB.size)
      have hz1' := hB1.size
      have hel := enc_lt (bb s k)
      clear hO hB g1 tw
      have hlo : (gb s (2 * k) : Int) = (enc (bb s k) : Int) % 256 := by rw [gb_lo]; simp [loB]
      have hhi : (gb s (2 * k + 1) : Int) = (enc (bb s k) : Int) / 256 := by rw [gb_hi]; simp [hiB]
      have hnx := byl_two (gb s) (2 * k)
      rw [hlo, hhi] at hnx
      have HN : Hid _ := hnx
      clear hlo hhi hnx
      generalize hee : enc (bb s k) = x at *
      go_wp2_with (at_builtin; refine wpList_append_own _ rfl _ _ 22 rfl w.heap.size 5 i0 (.int .u8 0) 1 1 Tryd.underlying22 hi hz0 hz1 hz2 rfl (by decide) u4 (2 * k) (byl (gb s) (2 * k)) rfl (hO1.below (below_alloc _ _)) ⟨w1.heap.size, 0, none⟩ 2 2 [.int .u8 ((x : Int) % 256), .int .u8 ((x : Int) / 256)] rfl rfl (news2 _ _ _ _) (one2 _ _ _) (by unfold maxLen; omega) (by omega) (by simp; omega) ?_; intro v' w2 hown2 hgrow _)
      rw [HN.out] at hown2
      have b2 : Below w.heap.size w w2 := (hB1.alloc hB1.size _).grown hgrow (by simp; omega) hO1.block
      go_roundw
      case rel => exact ⟨k + 1, by omega, by go_num, hown2, b2⟩
      case measure => simp [intOf]; omega
    · obtain rfl : k = s.size := by omega
      have hlt' : ¬ (s.size : Int) < (s.size : Int) := by omega
      obtain ⟨a, cap, rfl, hat⟩ := hO.slice
      have hcv := conv_any cap (gb_lt s) hat
      clear hO hat
      go_wp2
      go_ret2
      exact ⟨rfl, hB⟩
end Go.Proofs.YtkpcbaapohdmfaaDoor
