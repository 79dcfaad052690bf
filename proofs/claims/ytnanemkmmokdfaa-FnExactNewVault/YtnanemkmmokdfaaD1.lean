import Derived.Test.YtnanemkmmokdfaaK1
/- Both sides: the pieces of a text. -/
namespace Go.Proofs.Ytnanemkmmokdfaa
open Go.ChangeShapes Go.WideShapes Go.ChangeAt Go.RowKit
set_option linter.unusedVariables false
open Hd

attribute [local go_sem] Oper.semAt_some

theorem cuR_mid (s : ByteArray) (i : Nat) (h : i < (cuR s).length) : ∃ n : Nat, gi (cuR s) i = (n : Int) ∧ bg (cuR s) i ≤ n ∧ n ≤ s.size := by
  unfold cuR at *
  split at h
  · rename_i hs
    simp only [if_pos hs]
    exact cut_mid s i h
  · simp at h
/-- What PiecesOf tells. -/
def paR (s : ByteArray) : List ByteArray := pcs s (cuR s) (cuR s).length
theorem paR_len (s : ByteArray) : (paR s).length ≤ 400 := by
  unfold paR
  rw [pcs_len]
  exact cuR_len s
set_option maxHeartbeats 2000000 in
theorem implPieces_any (s : ByteArray) (w : World) (hl : s.size ≤ 9223372036854775807) :
    Calls Try.prog 24 #[.string s] w fun e w' => Below w.heap.size w w' ∧ ∃ u, e = .returned (.tuple #[u, .bool (decide (s.size ≤ 400))]) ∧ OwnS w' w.heap.size u (paR s) := by
  have c := implCuts_any s w hl
  generalize decide (s.size ≤ 400) = X at *
  have hM := cuR_mid s
  have hL := cuR_len s
  unfold paR
  generalize cuR s = L at *
  have HM : Hid (∀ i, i < L.length → ∃ n : Nat, gi L i = (n : Int) ∧ bg L i ≤ n ∧ n ≤ s.size) := hM
  have Hn4 : Hid (L.length ≤ 400) := hL
  clear hM hL
  obtain ⟨n, hn⟩ : ∃ n, L.length = n := ⟨_, rfl⟩
  have Hn : Hid (L.length = n) := hn
  rw [hn] at Hn4 ⊢
  go_enter Try.func24, Try.ntmps24
  go_wp2_with fail
  refine c.mono ?_
  rintro e w1 ⟨b1, u, rfl, he0⟩
  obtain ⟨ea, ec, rfl, hec, he⟩ := OwnI.ints he0
  have HE : Hid (Ints w1 ea L) := he
  have HB1 : Hid (Below w.heap.size w w1) := b1
  rw [hn]
  clear he he0 hn hec b1
  go_wp2_with fail
  go_loopw [6, 7, 17] (fun cc ff ii wr => ∃ (k : Nat) (x : Option Addr) (c : Nat), k ≤ n ∧ ii = .int .i64 k ∧ ff = .int .i64 (bg L k : Nat) ∧ cc = .slice x (pcs s L k).length c ∧ Hid (OwnS wr w1.heap.size (.slice x (pcs s L k).length c) (pcs s L k)) ∧ Below w1.heap.size w1 wr) (fun _ _ ii _ => n - (intOf ii).toNat)
  case atStart => exact ⟨0, none, 0, Nat.zero_le _, rfl, rfl, rfl, OwnS.nil _ _, Below.refl _ _⟩
  case round =>
    obtain ⟨k, x, c, hk, rfl, rfl, rfl, HO, hb⟩ := hrel
    by_cases hlt : k < n
    · obtain ⟨b, off, rfl, hcell⟩ := (HE.out.below hb) (by have := Hn.out; omega)
      have k0 : wr.cell? ⟨b, off + k, none⟩ = some (iv (gi L k)) := hcell k (by have := Hn.out; omega)
      obtain ⟨j, hj, hj1, hj2⟩ := HM.out k (by have := Hn.out; omega)
      have hlt' : (k : Int) < (n : Int) := by omega
      have hk4 : k < 400 := by have := Hn4.out; omega
      have hpl := pcs_len s L k
      have hS : Hid (bg L (k + 1) = j) := by show (gi L k).toNat = j; rw [hj]; rfl
      have hP : Hid (pcs s L (k + 1) = pcs s L k ++ [s.extract (bg L k) j]) := by show pcs s L k ++ [s.extract (bg L k) (gi L k).toNat] = _; rw [hj]; rfl
      have cS := fun W => slice_mid s (bg L k) j hj1 hj2 W
      rw [hj] at k0
      obtain ⟨F, hFe⟩ : ∃ F, bg L k = F := ⟨_, rfl⟩
      obtain ⟨P, hPe⟩ : ∃ P, pcs s L k = P := ⟨_, rfl⟩
      rw [hFe] at cS hj1 hP ⊢
      rw [hPe] at HO hP hpl ⊢
      obtain ⟨q, hq⟩ : ∃ q, s.extract F j = q := ⟨_, rfl⟩
      rw [hq] at cS hP
      have hE2 : Hid (∀ W y cy, W.ownsRow w1.heap.size 9 1 (.slice y (P.length + 1) cy) (P.length + 1) (css P ++ [.string q]) → Hid (OwnS W w1.heap.size (.slice y (P ++ [q]).length cy) (P ++ [q]))) := fun W y cy h => by
        show W.ownsRow w1.heap.size 9 1 _ _ _
        rw [List.length_append, List.length_singleton, css_app]
        exact h
      have hPl : P.length ≤ 1000000 := by have := Hn4.out; omega
      clear hFe hPe hcell hq hj hj1 hj2 hpl
      obtain ⟨W1, hW1⟩ : ∃ W1, wr.alloc (.cells #[.string q] 9) = W1 := ⟨_, rfl⟩
      have q1 : Below wr.heap.size wr W1 := by subst hW1; exact below_alloc _ _
      have own2 : W1.ownsRow w1.heap.size 9 1 (.slice x P.length c) P.length (css P) := owns_below HO.out q1
      have sr := src_new wr (.string q) 9
      rw [hW1] at sr
      have hb2 : Below w1.heap.size w1 W1 := Below.comp hb q1
      go_wp2_with (at_builtin; refine wpList_append_src rfl _ _ 32 rfl w1.heap.size 9 _ 1 16 Try.underlying32 info9 rfl (by decide) (.slice x P.length c) P.length (css P) rfl own2 (some ⟨wr.heap.size, 0, none⟩) 1 1 [.string q] rfl rfl sr (by simp [Value.oneCell']) (by omega) (by decide) hb2.size ?_; intro v3 w3 own3 gr3; have b3 : Below w1.heap.size w1 w3 := grown_on hb2 hb2.size own2 gr3; have OW3 : Hid (w3.ownsRow w1.heap.size 9 1 v3 (P.length + 1) (css P ++ [.string q])) := own3; clear own3 gr3; obtain ⟨y3, c3, hy3⟩ := owns_form OW3.out; subst hy3)
      go_roundw
      case rel => exact ⟨k + 1, y3, c3, by omega, by go_num, by rw [hS.out], by rw [hP.out]; simp, by rw [hP.out]; exact hE2.out _ _ _ OW3.out, b3⟩
      case measure => simp [intOf]; omega
    · have hkn : k = n := by omega
      have HO' : Hid (OwnS wr w1.heap.size (.slice x (pcs s L n).length c) (pcs s L n)) := hkn ▸ HO
      subst hkn
      clear HO
      go_wp2_with fail
      go_ret2
      exact ⟨Below.comp HB1.out hb, _, rfl, owns_mono HO'.out HB1.out.size⟩
set_option maxHeartbeats 2000000 in
theorem l15Pieces_any (s : ByteArray) (w : World) (h4 : s.size ≤ 400) :
    Calls Try.prog 55 #[.string s] w fun e w' => Below w.heap.size w w' ∧ ∃ u, e = .returned u ∧ OwnS w' w.heap.size u (paR s) := by
  have c := l15Cuts_any s w h4
  rw [show cuts s = cuR s by unfold cuR; rw [if_pos h4]] at c
  have hM := cuR_mid s
  have hL := cuR_len s
  unfold paR
  generalize cuR s = L at *
  have HM : Hid (∀ i, i < L.length → ∃ n : Nat, gi L i = (n : Int) ∧ bg L i ≤ n ∧ n ≤ s.size) := hM
  have Hn4 : Hid (L.length ≤ 400) := hL
  clear hM hL
  obtain ⟨n, hn⟩ : ∃ n, L.length = n := ⟨_, rfl⟩
  have Hn : Hid (L.length = n) := hn
  rw [hn] at Hn4 ⊢
  go_enter Try.func55, Try.ntmps55
  go_wp2_with fail
  refine c.mono ?_
  rintro e w1 ⟨b1, u, rfl, he0⟩
  obtain ⟨ea, ec, rfl, hec, he⟩ := OwnI.ints he0
  have HE : Hid (Ints w1 ea L) := he
  have HB1 : Hid (Below w.heap.size w w1) := b1
  rw [hn]
  clear he he0 hn hec b1
  go_wp2_with fail
  go_loopw [3, 4, 10] (fun cc ff ii wr => ∃ (k : Nat) (x : Option Addr) (c : Nat), k ≤ n ∧ ii = .int .i64 k ∧ ff = .int .i64 (bg L k : Nat) ∧ cc = .slice x (pcs s L k).length c ∧ Hid (OwnS wr w1.heap.size (.slice x (pcs s L k).length c) (pcs s L k)) ∧ Below w1.heap.size w1 wr) (fun _ _ ii _ => n - (intOf ii).toNat)
  case atStart => exact ⟨0, none, 0, Nat.zero_le _, rfl, rfl, rfl, OwnS.nil _ _, Below.refl _ _⟩
  case round =>
    obtain ⟨k, x, c, hk, rfl, rfl, rfl, HO, hb⟩ := hrel
    by_cases hlt : k < n
    · obtain ⟨b, off, rfl, hcell⟩ := (HE.out.below hb) (by have := Hn.out; omega)
      have k0 : wr.cell? ⟨b, off + k, none⟩ = some (iv (gi L k)) := hcell k (by have := Hn.out; omega)
      obtain ⟨j, hj, hj1, hj2⟩ := HM.out k (by have := Hn.out; omega)
      have hlt' : (k : Int) < (n : Int) := by omega
      have hk4 : k < 400 := by have := Hn4.out; omega
      have hpl := pcs_len s L k
      have hS : Hid (bg L (k + 1) = j) := by show (gi L k).toNat = j; rw [hj]; rfl
      have hP : Hid (pcs s L (k + 1) = pcs s L k ++ [s.extract (bg L k) j]) := by show pcs s L k ++ [s.extract (bg L k) (gi L k).toNat] = _; rw [hj]; rfl
      have cS := fun W => slice_mid s (bg L k) j hj1 hj2 W
      rw [hj] at k0
      obtain ⟨F, hFe⟩ : ∃ F, bg L k = F := ⟨_, rfl⟩
      obtain ⟨P, hPe⟩ : ∃ P, pcs s L k = P := ⟨_, rfl⟩
      rw [hFe] at cS hj1 hP ⊢
      rw [hPe] at HO hP hpl ⊢
      obtain ⟨q, hq⟩ : ∃ q, s.extract F j = q := ⟨_, rfl⟩
      rw [hq] at cS hP
      have hE2 : Hid (∀ W y cy, W.ownsRow w1.heap.size 9 1 (.slice y (P.length + 1) cy) (P.length + 1) (css P ++ [.string q]) → Hid (OwnS W w1.heap.size (.slice y (P ++ [q]).length cy) (P ++ [q]))) := fun W y cy h => by
        show W.ownsRow w1.heap.size 9 1 _ _ _
        rw [List.length_append, List.length_singleton, css_app]
        exact h
      have hPl : P.length ≤ 1000000 := by have := Hn4.out; omega
      clear hFe hPe hcell hq hj hj1 hj2 hpl
      obtain ⟨W1, hW1⟩ : ∃ W1, wr.alloc (.cells #[.string q] 9) = W1 := ⟨_, rfl⟩
      have q1 : Below wr.heap.size wr W1 := by subst hW1; exact below_alloc _ _
      have own2 : W1.ownsRow w1.heap.size 9 1 (.slice x P.length c) P.length (css P) := owns_below HO.out q1
      have sr := src_new wr (.string q) 9
      rw [hW1] at sr
      have hb2 : Below w1.heap.size w1 W1 := Below.comp hb q1
      go_wp2_with (at_builtin; refine wpList_append_src rfl _ _ 32 rfl w1.heap.size 9 _ 1 16 Try.underlying32 info9 rfl (by decide) (.slice x P.length c) P.length (css P) rfl own2 (some ⟨wr.heap.size, 0, none⟩) 1 1 [.string q] rfl rfl sr (by simp [Value.oneCell']) (by omega) (by decide) hb2.size ?_; intro v3 w3 own3 gr3; have b3 : Below w1.heap.size w1 w3 := grown_on hb2 hb2.size own2 gr3; have OW3 : Hid (w3.ownsRow w1.heap.size 9 1 v3 (P.length + 1) (css P ++ [.string q])) := own3; clear own3 gr3; obtain ⟨y3, c3, hy3⟩ := owns_form OW3.out; subst hy3)
      go_roundw
      case rel => exact ⟨k + 1, y3, c3, by omega, by go_num, by rw [hS.out], by rw [hP.out]; simp, by rw [hP.out]; exact hE2.out _ _ _ OW3.out, b3⟩
      case measure => simp [intOf]; omega
    · have hkn : k = n := by omega
      have HO' : Hid (OwnS wr w1.heap.size (.slice x (pcs s L n).length c) (pcs s L n)) := hkn ▸ HO
      subst hkn
      clear HO
      go_wp2_with fail
      go_ret
      exact ⟨Below.comp HB1.out hb, _, rfl, owns_mono HO'.out HB1.out.size⟩
theorem specPieces_any (s : ByteArray) (w : World) (hl : s.size ≤ 9223372036854775807) :
    Calls Try.prog 23 #[.string s] w fun e w' => Below w.heap.size w w' ∧ ∃ u, e = .returned (.tuple #[u, .bool (decide (s.size ≤ 400))]) ∧ OwnS w' w.heap.size u (paR s) := by
  by_cases h : s.size ≤ 400
  · rw [decide_eq_true h]
    have c := l15Pieces_any s w h
    have h1 : ¬ (400 : Int) < (s.size : Int) := by omega
    generalize paR s = L at *
    go_enter Try.func23, Try.ntmps23
    go_wp2_with fail
    refine c.mono ?_
    rintro e w1 ⟨b1, u, rfl, ho⟩
    have HO : Hid (OwnS w1 w.heap.size u L) := ho
    clear ho
    go_wp2_with fail
    go_ret2
    exact ⟨b1, _, rfl, HO.out⟩
  · have e : paR s = [] := by unfold paR cuR; rw [if_neg h]; rfl
    rw [decide_eq_false h, e]
    have h1 : (400 : Int) < (s.size : Int) := by omega
    go_enter Try.func23, Try.ntmps23
    go_wp2
    go_ret2
    exact ⟨Below.refl _ _, _, rfl, OwnS.nil _ _⟩
end Go.Proofs.Ytnanemkmmokdfaa
