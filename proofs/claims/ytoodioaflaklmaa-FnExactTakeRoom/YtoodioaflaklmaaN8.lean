/- l5Pick. -/
import Derived.Test.YtoodioaflaklmaaN2
namespace Go.Proofs.Ytoodioaflaklmaa
open Go.ChangeShapes Go.WideShapes Go.ChangeAt Go.RowKit
set_option linter.unusedVariables false
open Room
attribute [local go_sem] Oper.semAt_some
set_option maxHeartbeats 2000000 in
theorem pick4 (b : Int) (a : Option Addr) (ca : Nat) (a' : Option Addr) (ca' : Nat) (l s : List Ex) (long near : Int) (w : World) (hn : l.length ≤ 60) (hn' : s.length ≤ 60) (hl : 1 ≤ long ∧ long ≤ 400) (hne : 0 ≤ near ∧ near ≤ 400) (hx : ∀ x, x ∈ l → 0 ≤ x.1 ∧ 1 ≤ x.2 ∧ fin x ≤ 400) (ha : Exs w a l) (ha' : Exs w a' s) :
    Calls Try.prog 43 #[fv b a l.length ca a' s.length ca', .int .i64 long, .int .i64 4, .int .i64 near] w fun e w' => e = .returned (.int .i64 (nrL long near l)) ∧ Below w.heap.size w w' := by
  obtain ⟨D, hD⟩ : ∃ D, w.heap.size = D := ⟨_, rfl⟩
  obtain ⟨W0, hW0⟩ : ∃ W0, w.alloc (.cells #[.int .i64 b, .slice a l.length ca, .slice a' s.length ca'] 29) = W0 := ⟨_, rfl⟩
  have g0 : Below w.heap.size w W0 := by subst hW0; exact below_alloc _ _
  have HB : Hid (W0.heap[D]? = some (.cells #[.int .i64 b, .slice a l.length ca, .slice a' s.length ca'] 29 (0, 0))) := by subst hW0 hD; exact al1 _ _
  obtain ⟨i0, i1, i2, -, -, -⟩ := box3_cells HB.out
  obtain ⟨R, hR⟩ : ∃ R, nrL long near l = R := ⟨_, rfl⟩
  rw [hR]
  have HR : Hid (l.foldl (nrS long near) (-1) = R) := hR
  have Ha : Hid (Exs w a l) := ha
  have HX : Hid (∀ x, x ∈ l → 0 ≤ x.1 ∧ 1 ≤ x.2 ∧ fin x ≤ 400) := hx
  clear hR ha ha' hx
  go_enter Try.func43, Try.ntmps43
  go_wp2
  clear hW0 i0 i1 i2
  go_loopw [9, 22] (fun be i wr => ∃ (k : Nat) (B : Int), k ≤ l.length ∧ be = .int .i64 B ∧ i = .int .i64 k ∧ Hid ((l.drop k).foldl (nrS long near) B = R) ∧ -1 ≤ B ∧ B ≤ 400 ∧ Below W0.heap.size W0 wr) (fun _ i _ => l.length - (intOf i).toNat)
  case atStart => exact ⟨0, -1, Nat.zero_le _, rfl, rfl, HR, by omega, by omega, Below.refl _ _⟩
  case round =>
    obtain ⟨k, B, hk, rfl, rfl, HQ, hB0, hB4, hb⟩ := hrel
    by_cases hlt : k < l.length
    · obtain ⟨bb, off, rfl, hcell⟩ := (Ha.out.below (Below.comp g0 hb)) (by omega)
      obtain ⟨k0, k1⟩ := hcell k hlt
      have hxk := HX.out (gx l k) (by rw [gx_eq hlt]; exact List.getElem_mem hlt)
      have hdr : l.drop k = gx l k :: l.drop (k + 1) := by rw [gx_eq hlt]; exact List.drop_eq_getElem_cons hlt
      have hq := HQ.out
      rw [hdr, List.foldl_cons] at hq
      have hlt' : (k : Int) < (l.length : Int) := by omega
      obtain ⟨z, hz⟩ : ∃ z, gx l k = z := ⟨_, rfl⟩
      rw [hz] at k0 k1 hxk hq
      clear hz hdr HQ hcell HR
      obtain ⟨y1, y2⟩ := z
      unfold fin at hxk
      simp only at k0 k1 hxk
      have HQ1 : Hid ((l.drop (k + 1)).foldl (nrS long near) (nrS long near B (y1, y2)) = R) := hq
      clear hq
      obtain ⟨E, hE⟩ : ∃ E, wr.heap.size = E := ⟨_, rfl⟩
      obtain ⟨W2, hW2⟩ : ∃ W2, wr.alloc (.cells #[.int .i64 y1, .int .i64 y2] 41) = W2 := ⟨_, rfl⟩
      have b2 : Below wr.heap.size wr W2 := by subst hW2; exact below_alloc _ _
      have HE : Hid (W2.heap[E]? = some (.cells #[.int .i64 y1, .int .i64 y2] 41 (0, 0))) := by subst hW2 hE; exact al1 _ _
      obtain ⟨e0, e1, -, -⟩ := box2_cells HE.out
      go_wp2
      clear e0 e1 k0 k1
      go_loopw [9, 17] (fun be t wi => ∃ (C u : Int), be = .int .i64 C ∧ t = .int .i64 u ∧ Hid (u = y1 ∧ C = B ∨ y1 < u ∧ u - 1 ≤ y1 + y2 - long ∧ C = nrU near B (clampN near y1 (u - 1))) ∧ y1 ≤ u ∧ u ≤ 401 ∧ -1 ≤ C ∧ C ≤ 400 ∧ Below W2.heap.size W2 wi) (fun _ t _ => (y1 + y2 - long + 1 - intOf t).toNat)
      case atStart => exact ⟨B, y1, rfl, rfl, (show Hid _ from .inl ⟨rfl, rfl⟩), by omega, by omega, hB0, hB4, Below.refl _ _⟩
      case round =>
        obtain ⟨C, u, rfl, rfl, HC, hu0, hu4, hC0, hC4, hbi⟩ := hrel
        obtain ⟨e0, e1, -, -⟩ := box2_cells (box_on HE.out hbi)
        have hw1 : IntKind.i64.wrap (u + long) = u + long := wrapI (by omega) (by omega)
        have hw2 : IntKind.i64.wrap (y1 + y2) = y1 + y2 := wrapI (by omega) (by omega)
        have hw3 : IntKind.i64.wrap (u + 1) = u + 1 := wrapI (by omega) (by omega)
        by_cases hin : u + long ≤ y1 + y2
        · have HN : Hid (nrU near C u = nrU near B (clampN near y1 u)) := by
            show _ = _
            rcases HC.out with ⟨rfl, rfl⟩ | ⟨h1, h2, rfl⟩
            · exact nr_one (by omega)
            · exact nr_step (by omega) h1
          by_cases hC : C < 0
          · have hU : nrU near C u = u := if_pos (.inl hC)
            rw [hU] at HN
            clear hU
            go_wp2
            go_roundw
            case rel => exact ⟨u, u + 1, rfl, rfl, (show Hid _ from .inr ⟨by omega, by omega, by rw [show u + 1 - 1 = u by omega]; exact HN.out⟩), by omega, by omega, by omega, by omega, hbi⟩
            case measure => simp [intOf]; omega
          · have cP := fun W => l5Gap_any u near W (by omega) (by omega)
            have cB := fun W => l5Gap_any C near W (by omega) (by omega)
            have hU : nrU near C u = if gap u near < gap C near then u else C := by unfold nrU; simp only [hC, false_or]
            rw [hU] at HN
            clear hU
            generalize gap u near = gP at *
            generalize gap C near = gB at *
            have HC0 : Hid (¬ C < 0) := hC
            go_wp2_with fail
            refine (cP _).mono ?_
            rintro e w5 ⟨rfl, hw5⟩
            rw [hw5]
            clear hw5
            go_wp2_with fail
            refine (cB _).mono ?_
            rintro e w5 ⟨rfl, hw5⟩
            rw [hw5]
            clear hw5
            by_cases hg : gP < gB
            · rw [if_pos hg] at HN
              go_wp2
              go_roundw
              case rel => exact ⟨u, u + 1, rfl, rfl, (show Hid _ from .inr ⟨by omega, by omega, by rw [show u + 1 - 1 = u by omega]; exact HN.out⟩), by omega, by omega, by omega, by omega, hbi⟩
              case measure => simp [intOf]; omega
            · rw [if_neg hg] at HN
              go_wp2
              go_roundw
              case rel => exact ⟨C, u + 1, rfl, rfl, (show Hid _ from .inr ⟨by omega, by omega, by rw [show u + 1 - 1 = u by omega]; exact HN.out⟩), by omega, by omega, by omega, by omega, hbi⟩
              case measure => simp [intOf]; omega
        · have hs : nrS long near B (y1, y2) = C := by
            unfold nrS
            simp only
            rcases HC.out with ⟨h1, h2⟩ | ⟨h1, h2, h3⟩
            · rw [if_pos (by omega)]; exact h2.symm
            · rw [if_neg (by omega), h3, show u - 1 = y1 + y2 - long by omega]
          rw [hs] at HQ1
          clear hs
          go_wp2
          go_roundw
          case rel => exact ⟨k + 1, C, by omega, rfl, by go_num, HQ1, hC0, hC4, Below.comp hb (Below.comp b2 hbi)⟩
          case measure => simp [intOf]; omega
    · have hkn : k = l.length := by omega
      have hq := HQ.out
      rw [hkn, List.drop_length, List.foldl_nil] at hq
      subst hq
      have hlt' : ¬ (k : Int) < (l.length : Int) := by omega
      go_wp2
      go_ret
      exact ⟨rfl, by first | exact Below.comp g0 hb | exact (hD ▸ Below.comp g0 hb)⟩
end Go.Proofs.Ytoodioaflaklmaa
