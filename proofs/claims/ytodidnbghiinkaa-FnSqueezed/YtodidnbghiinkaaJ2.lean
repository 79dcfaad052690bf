import Derived.Test.YtodidnbghiinkaaJ1
import Derived.Test.YtodidnbghiinkaaU1
/- Texts that come again, drawn. -/
namespace Go.Proofs.Ytodidnbghiinkaa
open Go.ChangeShapes Go.WideShapes Go.ChangeAt Go.RowKit
set_option linter.unusedVariables false
open Tz

attribute [local go_sem] Oper.semAt_some

theorem slice_to (s : ByteArray) (b : Nat) (h2 : b ≤ s.size) (w : World) : (Instr.slice 9 (.string s) none (some (.int .i64 (b : Int))) none).run Try.prog w = .ok (.string (s.extract 0 b)) w := by
  rw [run_slice_string_h w 9 s Try.underlying9 .i64 (b : Int) (by omega) (by omega)]
  simp
/-- One of so many texts. -/
theorem of_any (D : Nat) (a : Option Addr) (n cap T : Nat) (b : Nat) (m : Nat) (S : Nat → ByteArray) (w : World) (h0 : 1 ≤ m) (h1 : m ≤ 100) (hn : n ≤ 9223372036854775807) (hT : T ≤ 999000) (hc : ∀ i, i < m → w.cell? ⟨b, i, none⟩ = some (.string (S i))) (hb : b ≠ D) (h : Cur w D a n cap T) :
    Calls Try.prog 61 #[.pointer (some ⟨D, 0, none⟩), .slice (some ⟨b, 0, none⟩) m m] w fun e w' => (∃ r : Nat, r < m ∧ e = .returned (.string (S r))) ∧ Out D (D + 1) w w' ∧ Cur w' D a n cap (T + 2) := by
  have HC : Hid (∀ i, i < m → w.cell? ⟨b, i, none⟩ = some (.string (S i))) := hc
  clear hc
  go_enter Try.func61, Try.ntmps61
  go_wp2_with fail
  refine (pick_any m D a n cap T _ h0 (by omega) hn (by omega) h).mono ?_
  rintro e w1 ⟨r, rfl, hr, o1, c1⟩
  have k0 : w1.cell? ⟨b, r, none⟩ = some (.string (S r)) := cell_out o1 (HC.out r hr) (by omega)
  have hr' : (r : Int) < (m : Int) := by omega
  generalize hg : S r = x at *
  have HX : Hid _ := hg
  clear hg
  go_wp2
  go_ret
  exact ⟨⟨r, hr, by rw [HX.out]; rfl⟩, o1, c1⟩
def wds : Nat → ByteArray
  | 0 => ⟨#[97, 98, 99]⟩
  | 1 => ⟨#[97, 97, 97, 97, 97, 97, 97]⟩
  | 2 => ⟨#[97, 98, 99, 97, 98, 99]⟩
  | 3 => ⟨#[120]⟩
  | _ => ⟨#[116, 104, 101, 32, 102, 105, 108, 101, 32]⟩
theorem wds_size : ∀ r, (wds r).size ≤ 9
  | 0 => by decide
  | 1 => by decide
  | 2 => by decide
  | 3 => by decide
  | _ + 4 => by show (⟨#[116, 104, 101, 32, 102, 105, 108, 101, 32]⟩ : ByteArray).size ≤ 9; decide
set_option maxRecDepth 20000 in
set_option maxHeartbeats 4000000 in
theorem repeats_any (D : Nat) (a : Option Addr) (n cap : Nat) (w : World) (hn : n ≤ 9223372036854775807) (h : Cur w D a n cap 0) :
    Calls Try.prog 55 #[.pointer (some ⟨D, 0, none⟩)] w fun e w' => (∃ u : ByteArray, e = .returned (.string u) ∧ u.size ≤ 700) ∧ Out D (D + 1) w w' ∧ Cur w' D a n cap 1000 := by
  go_enter Try.func55, Try.ntmps55
  go_wp2_with fail
  refine (pick_any 12 D a n cap 0 _ (by omega) (by omega) hn (by omega) h).mono ?_
  rintro e w1 ⟨r0, rfl, hr0, o1, c1⟩
  clear h
  go_wp2_with fail
  go_loopw [3, 4] (fun ss ii wr => ∃ (u : ByteArray) (k : Nat), ss = .string u ∧ ii = .int .i64 (k : Int) ∧ u.size ≤ 300 ∧ k ≤ 11 ∧ Out D (D + 1) w wr ∧ Cur wr D a n cap (2 + 20 * (11 - k))) (fun _ ii _ => (intOf ii).toNat)
  case atStart => exact ⟨⟨#[]⟩, r0, rfl, rfl, by decide, by omega, o1, c1.mono (by omega)⟩
  case round =>
    obtain ⟨u, k, rfl, rfl, hu, hk, ho, hc⟩ := hrel
    by_cases hk0 : 0 < k
    · have hk0' : (0 : Int) < (k : Int) := by omega
      go_wp2_with fail
      refine (pick_any 4 D a n cap _ _ (by omega) (by omega) hn (by omega) hc).mono ?_
      rintro e w2 ⟨r1, rfl, hr1, o2, c2⟩
      clear hc
      have hm1 : IntKind.i64.wrap ((k : Int) - 1) = (k : Int) - 1 := wrapI (by omega) (by omega)
      have o12 := ho.trans o2
      rcases (show r1 = 0 ∨ r1 = 1 ∨ (¬ (r1 : Int) = 0 ∧ ¬ (r1 : Int) = 1) by omega) with rfl | rfl | ⟨hne0, hne1⟩
      · go_wp2_with fail
        refine (pick_any 5 D a n cap _ _ (by omega) (by omega) hn (by omega) c2).mono ?_
        rintro e w3 ⟨r2, rfl, hr2, o3, c3⟩
        clear c2
        go_wp2_with fail
        refine (text_any r2 D a n cap _ _ (by omega) hn (by omega) c3).mono ?_
        rintro e w4 ⟨t, rfl, ht, o4, c4⟩
        clear c3
        have o14 := (o12.trans o3).trans o4
        have hcat : ¬ (9223372036854775807 < u.size + t.size) := by omega
        obtain ⟨v, hv⟩ : ∃ v, u ++ t = v := ⟨_, rfl⟩
        have hvz : v.size ≤ 600 := by rw [← hv, ByteArray.size_append]; omega
        by_cases hv3 : 300 < v.size
        · have hv3' : (300 : Int) < (v.size : Int) := by omega
          have cut := fun W => slice_to v 300 (by omega) W
          rw [show (((300 : Nat)) : Int) = 300 from rfl] at cut
          have hvs : (v.extract 0 300).size ≤ 300 := by rw [ByteArray.size_extract]; omega
          generalize v.extract 0 300 = v' at *
          go_wp2_with fail
          go_roundw
          case rel => exact ⟨v', k - 1, rfl, by congr 1; omega, hvs, by omega, o14, c4.mono (by omega)⟩
          case measure => simp [intOf]; omega
        · have hv3' : ¬ (300 : Int) < (v.size : Int) := by omega
          go_wp2_with fail
          go_roundw
          case rel => exact ⟨v, k - 1, rfl, by congr 1; omega, by omega, by omega, o14, c4.mono (by omega)⟩
          case measure => simp [intOf]; omega
      · have hcat : ¬ (9223372036854775807 < u.size + u.size) := by omega
        obtain ⟨v, hv⟩ : ∃ v, u ++ u = v := ⟨_, rfl⟩
        have hvz : v.size ≤ 600 := by rw [← hv, ByteArray.size_append]; omega
        by_cases hv3 : 300 < v.size
        · have hv3' : (300 : Int) < (v.size : Int) := by omega
          have cut := fun W => slice_to v 300 (by omega) W
          rw [show (((300 : Nat)) : Int) = 300 from rfl] at cut
          have hvs : (v.extract 0 300).size ≤ 300 := by rw [ByteArray.size_extract]; omega
          generalize v.extract 0 300 = v' at *
          go_wp2_with fail
          go_roundw
          case rel => exact ⟨v', k - 1, rfl, by congr 1; omega, hvs, by omega, o12, c2.mono (by omega)⟩
          case measure => simp [intOf]; omega
        · have hv3' : ¬ (300 : Int) < (v.size : Int) := by omega
          go_wp2_with fail
          go_roundw
          case rel => exact ⟨v, k - 1, rfl, by congr 1; omega, by omega, by omega, o12, c2.mono (by omega)⟩
          case measure => simp [intOf]; omega
      · obtain ⟨W3, hW3⟩ : ∃ W3, w2.alloc (.cells #[.string (wds 0), .string (wds 1), .string (wds 2), .string (wds 3), .string (wds 4)] 9) = W3 := ⟨_, rfl⟩
        have b3 : Below w2.heap.size w2 W3 := by subst hW3; exact below_alloc _ _
        have HK : W3.heap[w2.heap.size]? = some (.cells #[.string (wds 0), .string (wds 1), .string (wds 2), .string (wds 3), .string (wds 4)] 9 (0, 0)) := by subst hW3; exact al1 _ _
        have hck : ∀ i, i < 5 → W3.cell? ⟨w2.heap.size, i, none⟩ = some (.string (wds i)) := fun i hi => by
          rcases (show i = 0 ∨ i = 1 ∨ i = 2 ∨ i = 3 ∨ i = 4 by omega) with rfl | rfl | rfl | rfl | rfl <;> exact cell_of_block HK rfl
        have hDl := c2.lt
        have cO := of_any D a n cap _ w2.heap.size 5 wds W3 (by omega) (by omega) hn (by omega) hck (by omega) (c2.below b3)
        have o13 := o12.trans (Out.of_below b3)
        clear c2 HK hck hDl
        unfold wds at hW3
        go_wp2_with fail
        refine cO.mono ?_
        rintro e w4 ⟨⟨r, hr, rfl⟩, o4, c4⟩
        have hrs := wds_size r
        generalize wds r = t at *
        have o14 := o13.trans o4
        have hcat : ¬ (9223372036854775807 < u.size + t.size) := by omega
        obtain ⟨v, hv⟩ : ∃ v, u ++ t = v := ⟨_, rfl⟩
        have hvz : v.size ≤ 600 := by rw [← hv, ByteArray.size_append]; omega
        clear cO hW3
        by_cases hv3 : 300 < v.size
        · have hv3' : (300 : Int) < (v.size : Int) := by omega
          have cut := fun W => slice_to v 300 (by omega) W
          rw [show (((300 : Nat)) : Int) = 300 from rfl] at cut
          have hvs : (v.extract 0 300).size ≤ 300 := by rw [ByteArray.size_extract]; omega
          generalize v.extract 0 300 = v' at *
          go_wp2_with fail
          go_roundw
          case rel => exact ⟨v', k - 1, rfl, by congr 1; omega, hvs, by omega, o14, c4.mono (by omega)⟩
          case measure => simp [intOf]; omega
        · have hv3' : ¬ (300 : Int) < (v.size : Int) := by omega
          go_wp2_with fail
          go_roundw
          case rel => exact ⟨v, k - 1, rfl, by congr 1; omega, by omega, by omega, o14, c4.mono (by omega)⟩
          case measure => simp [intOf]; omega
    · have hk0' : ¬ (0 : Int) < (k : Int) := by omega
      go_wp2_with fail
      refine (pick_any 30 D a n cap _ _ (by omega) (by omega) hn (by omega) hc).mono ?_
      rintro e w2 ⟨r1, rfl, hr1, o2, c2⟩
      clear hc
      have o12 := ho.trans o2
      rcases (show r1 = 0 ∨ r1 = 1 ∨ r1 = 2 ∨ (¬ (r1 : Int) = 0 ∧ ¬ (r1 : Int) = 1 ∧ ¬ (r1 : Int) = 2) by omega) with rfl | rfl | rfl | ⟨hne0, hne1, hne2⟩
      · have cZ := fun W => zeros_any 300 W (by omega)
        rw [show (((300 : Nat)) : Int) = 300 from rfl] at cZ
        go_wp2_with fail
        refine (cZ _).mono ?_
        rintro e w3 ⟨t, rfl, ht, b3⟩
        have hcat : ¬ (9223372036854775807 < u.size + t.size) := by omega
        go_wp2_with fail
        go_ret
        exact ⟨⟨_, rfl, by rw [ByteArray.size_append]; omega⟩, o12.trans (Out.of_below b3), (c2.below b3).mono (by omega)⟩
      · go_wp2_with fail
        refine (pick_any 2 D a n cap _ _ (by omega) (by omega) hn (by omega) c2).mono ?_
        rintro e w3 ⟨r2, rfl, hr2, o3, c3⟩
        clear c2
        have ew : IntKind.i64.wrap (600 + (r2 : Int)) = ((600 + r2 : Nat) : Int) := by rw [wrapI (by omega) (by omega)]; omega
        have cZ := fun W => zeros_any (600 + r2) W (by omega)
        generalize ((600 + r2 : Nat) : Int) = Q at *
        go_wp2_with fail
        refine (cZ _).mono ?_
        rintro e w4 ⟨t, rfl, ht, b4⟩
        go_wp2_with fail
        go_ret
        exact ⟨⟨_, rfl, by omega⟩, (o12.trans o3).trans (Out.of_below b4), (c3.below b4).mono (by omega)⟩
      · have cT := text_any 140 D a n cap _ _ (by omega) hn (by omega) c2
        rw [show (((140 : Nat)) : Int) = 140 from rfl] at cT
        go_wp2_with fail
        refine cT.mono ?_
        rintro e w3 ⟨t, rfl, ht, o3, c3⟩
        have hcat : ¬ (9223372036854775807 < u.size + t.size) := by omega
        go_wp2_with fail
        go_ret
        exact ⟨⟨_, rfl, by rw [ByteArray.size_append]; omega⟩, o12.trans o3, c3.mono (by omega)⟩
      · go_wp2_with fail
        go_ret
        exact ⟨⟨_, rfl, by omega⟩, o12, c2.mono (by omega)⟩
end Go.Proofs.Ytodidnbghiinkaa
