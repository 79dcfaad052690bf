import Derived.Test.YtgapplfnlndckaaM1
import Derived.Test.YtgapplfnlndckaaL2
/- impl.kindsOf. -/
namespace Go.Proofs.Ytgapplfnlndckaa
open Go.ChangeShapes Go.WideShapes Go.ChangeAt Go.RowKit
set_option linter.unusedVariables false
open Room

attribute [local go_sem] Oper.semAt_some

/-- The kinds of the blocks of two lists. -/
def kg (F U : List Ex) : Ex → Int := fun x => if x ∈ U then 2 else if x ∈ F then 1 else 0
theorem mem_take_succ {l : List Ex} {k : Nat} (hk : k < l.length) (x : Ex) : x ∈ l.take (k + 1) ↔ x ∈ l.take k ∨ x = gx l k := by
  rw [List.take_succ_eq_append_getElem hk, List.mem_append, List.mem_singleton, gx_eq hk]
theorem kg_free {F : List Ex} {k : Nat} (hk : k < F.length) : kg (F.take (k + 1)) [] = upd (kg (F.take k) []) (gx F k) 1 := by
  funext x
  unfold kg upd
  simp only [List.not_mem_nil, if_false, mem_take_succ hk]
  by_cases h1 : x = gx F k
  · simp [h1]
  · simp [h1]
theorem kg_used {F U : List Ex} {k : Nat} (hk : k < U.length) : kg F (U.take (k + 1)) = upd (kg F (U.take k)) (gx U k) 2 := by
  funext x
  unfold kg upd
  simp only [mem_take_succ hk]
  by_cases h1 : x = gx U k
  · simp [h1]
  · simp [h1]
theorem at_grown {w w' : World} {b : Nat} {o : Obj} {row : Option Nat} (h : w.heap[b]? = some o) (hg : w.grownBy w' row) (hr : some b ≠ row) : w'.heap[b]? = some o := (hg.block b (box_lt h) (fun e => hr e)).trans h

set_option maxHeartbeats 2000000 in
theorem kindsOf_any (b : Int) (a : Option Addr) (ca : Nat) (a' : Option Addr) (ca' : Nat) (F U : List Ex) (w : World) (hn : F.length ≤ 400) (hn' : U.length ≤ 400) (hF : ∀ x, x ∈ F → FitX x) (hU : ∀ x, x ∈ U → FitX x) (ha : Exs w a F) (ha' : Exs w a' U) :
    Calls Try.prog 45 #[fv b a F.length ca a' U.length ca'] w fun e w' => ∃ M, e = .returned (.map (some M)) ∧ w.heap.size ≤ M ∧ KM w' M 800 (kg F U) ∧ Below w.heap.size w w' := by
  obtain ⟨D, hD⟩ : ∃ D, w.heap.size = D := ⟨_, rfl⟩
  obtain ⟨W0, hW0⟩ : ∃ W0, w.alloc (.cells #[.int .i64 b, .slice a F.length ca, .slice a' U.length ca'] 24) = W0 := ⟨_, rfl⟩
  have g0 : Below w.heap.size w W0 := by subst hW0; exact below_alloc _ _
  have HB : Hid (W0.heap[D]? = some (.cells #[.int .i64 b, .slice a F.length ca, .slice a' U.length ca'] 24 (0, 0))) := by subst hW0 hD; exact al1 _ _
  have z0 : W0.heap.size = D + 1 := by subst hW0 hD; simp
  obtain ⟨W1, hW1⟩ : ∃ W1, W0.alloc (.map #[] 0) = W1 := ⟨_, rfl⟩
  have g1 : Below W0.heap.size W0 W1 := by subst hW1; exact below_alloc _ _
  have km0 : KM W1 (D + 1) 0 (fun _ => 0) := by have := KM.made W0; rw [z0, hW1] at this; exact this
  have HB1 : Hid (W1.heap[D]? = _) := box_on HB.out g1
  obtain ⟨i0, i1, i2, -, -, -⟩ := box3_cells HB1.out
  have hmm := @run_makeMap Try.prog
  have hg1 := Below.comp g0 g1
  have z1 : D + 1 < W1.heap.size := km0.lt
  go_enter Try.func45, Try.ntmps45
  go_wp2
  clear hW0 hW1 i0 i1 i2 hmm
  have hW1D : Below D w W1 := hD ▸ hg1
  go_loopw [12] (fun i wr => ∃ (k : Nat), k ≤ F.length ∧ i = .int .i64 k ∧ KM wr (D + 1) (0 + k) (kg (F.take k) []) ∧ Below D w wr ∧ wr.heap[D]? = some (.cells #[.int .i64 b, .slice a F.length ca, .slice a' U.length ca'] 24 (0, 0))) (fun i _ => F.length - (intOf i).toNat)
  case atStart => exact ⟨0, Nat.zero_le _, rfl, km0, hW1D, HB1.out⟩
  case round =>
    obtain ⟨k, hk, rfl, km, hb, hBr⟩ := hrel
    by_cases hlt : k < F.length
    · obtain ⟨bb, off, rfl, hcell⟩ := (ha.below (hD ▸ hb)) (by omega)
      obtain ⟨k0, k1⟩ := hcell k hlt
      have hlt' : (k : Int) < (F.length : Int) := by omega
      have hfit : FitX (gx F k) := hF _ (by rw [gx_eq hlt]; exact List.getElem_mem hlt)
      have hnx : kg (F.take (k + 1)) [] = upd (kg (F.take k) []) (gx F k) 1 := kg_free hlt
      generalize gx F k = x at *
      obtain ⟨p, q⟩ := x
      simp only at k0 k1
      have HBr : Hid _ := hBr
      have HNX : Hid _ := hnx
      obtain ⟨W2, hW2⟩ : ∃ W2, wr.alloc (.cells #[.int .i64 p, .int .i64 q] 43) = W2 := ⟨_, rfl⟩
      have b2 : Below wr.heap.size wr W2 := by subst hW2; exact below_alloc _ _
      have hE : W2.heap[wr.heap.size]? = some (.cells #[.int .i64 p, .int .i64 q] 43 (0, 0)) := by subst hW2; exact al1 _ _
      obtain ⟨e0, e1, -, -⟩ := box2_cells hE
      have km2 := km.below b2
      have hb2 : Below D w W2 := hb.trans (b2.mono (by have := hb.size; omega))
      clear hcell hBr hnx hE
      go_wp2_with (at_mapUpdate; refine wpList_put _ rfl _ _ _ rfl (D + 1) (0 + k) _ (p, q) 1 rfl km2 (by omega) hfit (by decide) (by decide) rfl rfl ?_; intro w3 km3 gr3)
      have hb3 : Below D w w3 := hb2.grown gr3 (by have := hb2.size; omega) (fun j hj => by cases hj; omega)
      have hB3 := at_grown (box_on HBr.out b2) gr3 (by simp)
      go_roundw
      case rel => exact ⟨k + 1, by omega, by go_num, by rw [HNX.out]; exact km3, hb3, hB3⟩
      case measure => simp [intOf]; omega
    · have hkn : k = F.length := by omega
      subst hkn
      rw [List.take_length] at km
      have HB3 : Hid _ := hBr
      obtain ⟨i0, i1, i2, -, -, -⟩ := box3_cells hBr
      clear hBr
      go_wp2
      clear i0 i1 i2
      go_loopw [22] (fun i wi => ∃ (k : Nat), k ≤ U.length ∧ i = .int .i64 k ∧ KM wi (D + 1) (400 + k) (kg F (U.take k)) ∧ Below D w wi ∧ wi.heap[D]? = some (.cells #[.int .i64 b, .slice a F.length ca, .slice a' U.length ca'] 24 (0, 0))) (fun i _ => U.length - (intOf i).toNat)
      case atStart => exact ⟨0, Nat.zero_le _, rfl, km.mono (by omega), hb, HB3.out⟩
      case round =>
        obtain ⟨k, hk, rfl, km, hb, hBr⟩ := hrel
        by_cases hlt : k < U.length
        · obtain ⟨bb, off, rfl, hcell⟩ := (ha'.below (hD ▸ hb)) (by omega)
          obtain ⟨k0, k1⟩ := hcell k hlt
          have hlt' : (k : Int) < (U.length : Int) := by omega
          have hfit : FitX (gx U k) := hU _ (by rw [gx_eq hlt]; exact List.getElem_mem hlt)
          have hnx : kg F (U.take (k + 1)) = upd (kg F (U.take k)) (gx U k) 2 := kg_used hlt
          generalize gx U k = x at *
          obtain ⟨p, q⟩ := x
          simp only at k0 k1
          have HBr : Hid _ := hBr
          have HNX : Hid _ := hnx
          obtain ⟨W2, hW2⟩ : ∃ W2, wr.alloc (.cells #[.int .i64 p, .int .i64 q] 43) = W2 := ⟨_, rfl⟩
          have b2 : Below wr.heap.size wr W2 := by subst hW2; exact below_alloc _ _
          have hE : W2.heap[wr.heap.size]? = some (.cells #[.int .i64 p, .int .i64 q] 43 (0, 0)) := by subst hW2; exact al1 _ _
          obtain ⟨e0, e1, -, -⟩ := box2_cells hE
          have km2 := km.below b2
          have hb2 : Below D w W2 := hb.trans (b2.mono (by have := hb.size; omega))
          clear hcell hBr hnx hE
          go_wp2_with (at_mapUpdate; refine wpList_put _ rfl _ _ _ rfl (D + 1) (400 + k) _ (p, q) 2 rfl km2 (by omega) hfit (by decide) (by decide) rfl rfl ?_; intro w3 km3 gr3)
          have hb3 : Below D w w3 := hb2.grown gr3 (by have := hb2.size; omega) (fun j hj => by cases hj; omega)
          have hB3 := at_grown (box_on HBr.out b2) gr3 (by simp)
          go_roundw
          case rel => exact ⟨k + 1, by omega, by go_num, by rw [HNX.out]; exact km3, hb3, hB3⟩
          case measure => simp [intOf]; omega
        · have hkn : k = U.length := by omega
          subst hkn
          rw [List.take_length] at km
          go_wp2
          go_ret
          exact ⟨D + 1, rfl, by first | omega | (rw [hD]; omega), km.mono (by omega), by first | exact hb | exact hD ▸ hb⟩
end Go.Proofs.Ytgapplfnlndckaa
