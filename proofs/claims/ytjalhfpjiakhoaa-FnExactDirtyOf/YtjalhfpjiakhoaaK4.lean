import Derived.Test.YtjalhfpjiakhoaaK3
namespace Go.Proofs.Ytjalhfpjiakhoaa
open Go.ChangeShapes Go.WideShapes Go.ChangeAt Go.RowKit
set_option linter.unusedVariables false

theorem size5 : (Try.prog.info? 5).map (·.size) = some 1 := by kernel_rfl
theorem size9 : (Try.prog.info? 9).map (·.size) = some 1 := by kernel_rfl
theorem size42 : (Try.prog.info? 42).map (·.size) = some 2 := by kernel_rfl
theorem setRow_alloc (w : World) (c c' : Array Value) (t : TypeId) : (w.alloc (.cells c t)).setRow w.heap.size c' = w.alloc (.cells c' t) := by
  have key : ∀ f : Obj → Obj, f (.cells c t) = .cells c' t → (w.heap.push (.cells c t)).modify w.heap.size f = w.heap.push (.cells c' t) := by
    intro f hf
    apply Array.ext
    · simp
    · intro i h1 h2
      simp only [Array.getElem_modify, Array.getElem_push]
      by_cases h3 : w.heap.size = i
      · subst h3; simp [hf]
      · have h4 : i < w.heap.size := by simp at h2; omega
        simp [h3, h4]
  have h1 : (w.alloc (.cells c t)).heap = w.heap.push (.cells c t) := rfl
  unfold World.setRow
  rw [h1, key _ rfl]
  rfl

theorem bytes8 {u : ByteArray} (h : u.size = 8) : ∃ b0 b1 b2 b3 b4 b5 b6 b7 : UInt8, u = ⟨#[b0, b1, b2, b3, b4, b5, b6, b7]⟩ := by
  obtain ⟨⟨l⟩⟩ := u
  have h : l.length = 8 := h
  match l, h with
  | [b0, b1, b2, b3, b4, b5, b6, b7], _ => exact ⟨b0, b1, b2, b3, b4, b5, b6, b7, rfl⟩

set_option maxHeartbeats 400000 in
theorem bos_any (b0 b1 b2 b3 b4 b5 b6 b7 : UInt8) (w : World)  :
    Calls Try.prog 66 #[.string ⟨#[b0, b1, b2, b3, b4, b5, b6, b7]⟩] w fun e w' => e = .returned (.agg #[.int .u8 b0.toNat, .int .u8 b1.toNat, .int .u8 b2.toNat, .int .u8 b3.toNat, .int .u8 b4.toNat, .int .u8 b5.toNat, .int .u8 b6.toNat, .int .u8 b7.toNat]) ∧ Below w.heap.size w w' := by
  have hcp : ∀ (w : World) (z : Array Value), z.size = 8 → (Builtin.copy_ #[70, 9] 3 #[.slice (some ⟨w.heap.size + 1, 0, none⟩) 8 8, .string ⟨#[b0, b1, b2, b3, b4, b5, b6, b7]⟩]).run Try.prog ((w.alloc (.cells z 69)).alloc (.cells z 69)) =
      .ok (goInt 8) ((w.alloc (.cells z 69)).alloc (.cells #[.int .u8 b0.toNat, .int .u8 b1.toNat, .int .u8 b2.toNat, .int .u8 b3.toNat, .int .u8 b4.toNat, .int .u8 b5.toNat, .int .u8 b6.toNat, .int .u8 b7.toNat] 69)) := by
    intro w z hz
    have hsz : (w.alloc (.cells z 69)).heap.size = w.heap.size + 1 := by simp
    have := run_copy_str (P := Try.prog) ((w.alloc (.cells z 69)).alloc (.cells z 69)) 70 9 3 5 (w.heap.size + 1) 8 8 ⟨#[b0, b1, b2, b3, b4, b5, b6, b7]⟩ z 69 Try.underlying70 size5 (by rw [← hsz]; exact heap_alloc_new _ _) rfl hz.symm
    have e : ((⟨#[b0, b1, b2, b3, b4, b5, b6, b7]⟩ : ByteArray).data.map fun b => Value.int .u8 b.toNat) = #[.int .u8 b0.toNat, .int .u8 b1.toNat, .int .u8 b2.toNat, .int .u8 b3.toNat, .int .u8 b4.toNat, .int .u8 b5.toNat, .int .u8 b6.toNat, .int .u8 b7.toNat] := by simp
    rw [this, ← hsz, setRow_alloc, e]
    rfl
  have hcp' := fun w => hcp w #[.int .u8 0, .int .u8 0, .int .u8 0, .int .u8 0, .int .u8 0, .int .u8 0, .int .u8 0, .int .u8 0] rfl
  clear hcp
  go_enter Try.func66, Try.ntmps66
  go_wp2
  refine bodyPost_ret (v := .agg #[.int .u8 b0.toNat, .int .u8 b1.toNat, .int .u8 b2.toNat, .int .u8 b3.toNat, .int .u8 b4.toNat, .int .u8 b5.toNat, .int .u8 b6.toNat, .int .u8 b7.toNat]) (by simp [results, Try.results66, go_sem]) rfl ⟨rfl, ?_⟩
  exact (below_alloc _ _).alloc (by simp) _

set_option maxHeartbeats 400000 in
theorem copyList_any (a : Option Addr) (n cap : Nat) (S : Nat → ByteArray) (w : World) (hn : n ≤ 1048576) (hc : At w a n fun i => .string (S i)) :
    Calls Try.prog 58 #[.slice a n cap] w fun e w' => Below w.heap.size w w' ∧ ∃ a' c', e = .returned (.slice a' n c') ∧ Mine w' w.heap.size w'.heap.size 9 n a' (strs n S) := by
  have hmk := make_any (P := Try.prog) 22 9 _ 1 16 Try.underlying22 info9 .i64 .i64 n (by omega) (by omega)
  have hsrc : n = 0 ∨ ∃ ad, a = some ad ∧ ∀ j v, (strCells n S)[j]? = some v → (w.alloc (.cells (made (.string ⟨#[]⟩) n) 9)).cell? (ad.add j) = some v := by
    by_cases h0 : n = 0
    · exact .inl h0
    · obtain ⟨b, off, rfl, hcell⟩ := (hc.below (below_alloc w (.cells (made (.string ⟨#[]⟩) n) 9))) h0
      exact .inr ⟨_, rfl, strCells_src hcell⟩
  go_enter Try.func58, Try.ntmps58
  go_wp2_with (refine wpList_copy_mine rfl _ _ 22 22 rfl 9 1 Try.underlying22 size9 w.heap.size n n a n cap rfl rfl (made (.string ⟨#[]⟩) n) 9 (strCells n S) (heap_alloc_new w _) (by rw [strCells_len]; omega) (Nat.le_refl _) hsrc (by rw [strCells_len, size_made]; omega) (strCells_one _ _) ?_; intro w1 hB1 ho1)
  go_ret
  refine ⟨(below_alloc w _).trans (ho1.below (by simp)), _, _, rfl, .inr ⟨_, _, Nat.le_refl _, (Array.getElem?_eq_some_iff.1 hB1.out).1, rfl, hB1.out, fun i hi => ?_⟩⟩
  rw [List.getElem?_toArray, List.getElem?_append_left (by rw [strCells_len]; omega)]
  exact strCells_at n S hi
end Go.Proofs.Ytjalhfpjiakhoaa
