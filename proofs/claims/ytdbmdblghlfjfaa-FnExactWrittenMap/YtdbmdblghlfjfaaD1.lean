import Derived.Test.YtdbmdblghlfjfaaA2
import Derived.Test.YtdbmdblghlfjfaaA3
/- Both MapSizes. -/
namespace Go.Proofs.Ytdbmdblghlfjfaa
open Go.ChangeShapes Go.WideShapes Go.ChangeAt Go.RowKit
set_option linter.unusedVariables false
open Mp

attribute [local go_sem] Oper.semAt_some

theorem gm_ok {l : List Pc} (h : GM l) : ∀ i, i < l.length → pok (gp l i) := fun i hi => (h.2 i hi).1
theorem gm_mem {l : List Pc} (h : GM l) {p : Pc} (hp : p ∈ l) : pok p := by
  obtain ⟨i, hi, rfl⟩ := List.getElem_of_mem hp
  have := gm_ok h i hi
  rwa [gp_eq hi] at this
theorem sz_small {l : List Pc} (hl : l.length ≤ 40) (h : ∀ p, p ∈ l → pok p) (k : Nat) : 0 ≤ szN (l.take k) ∧ szN (l.take k) ≤ 8000 ∧ 0 ≤ szF (l.take k) ∧ szF (l.take k) ≤ 8000 := by
  have h1 := sz_bound (l := l.take k) (M := 200) (by omega) (fun p hp => by
    have := h p (List.mem_of_mem_take hp)
    unfold pok at this
    omega)
  have h2 : ((l.take k).length : Int) ≤ 40 := by simp; omega
  omega
theorem szN_take {l : List Pc} {k : Nat} (h : k < l.length) : szN (l.take (k + 1)) = szN (l.take k) + (gp l k).n := by
  rw [take_gp h, szN_app]; simp [szN]
theorem szF_take {l : List Pc} {k : Nat} (h : k < l.length) : szF (l.take (k + 1)) = szF (l.take k) + (if (gp l k).z then (gp l k).n else 0) := by
  rw [take_gp h, szF_app]; simp [szF]

set_option maxHeartbeats 1000000 in
theorem sizeOf_any (a : Option Addr) (c : Nat) (l : List Pc) (w : World) (hl : l.length ≤ 40) (hp : ∀ p, p ∈ l → pok p) (ha : Pcs w a l) :
    Calls Try.prog 66 #[.slice a l.length c] w fun e w' => e = .returned (.tuple #[.int .i64 (szN l), .int .i64 (szF l)]) ∧ Below w.heap.size w w' := by
  have HS : Hid _ := sz_small hl hp
  have HN : Hid (∀ k, k < l.length → szN (l.take (k + 1)) = szN (l.take k) + (gp l k).n) := fun k h => szN_take h
  have HF : Hid (∀ k, k < l.length → szF (l.take (k + 1)) = szF (l.take k) + (if (gp l k).z then (gp l k).n else 0)) := fun k h => szF_take h
  have HE : Hid (szN (l.take l.length) = szN l ∧ szF (l.take l.length) = szF l) := by simp [Hid]
  have HP : Hid (∀ k, k < l.length → pok (gp l k)) := fun k h => hp _ (gp_mem h)
  have H0 : Hid (szN (l.take 0) = 0 ∧ szF (l.take 0) = 0) := ⟨rfl, rfl⟩
  have hl2 : l.length ≤ 40 := hl
  clear hp hl
  generalize szN l = rN at *
  generalize szF l = rF at *
  unfold Pcs at ha
  generalize gp l = g at *
  generalize hA : (fun k => szN (l.take k)) = A at *
  generalize hB : (fun k => szF (l.take k)) = B at *
  have HA : Hid (∀ k, szN (l.take k) = A k) := fun k => by rw [← hA]
  have HB : Hid (∀ k, szF (l.take k) = B k) := fun k => by rw [← hB]
  clear hA hB
  simp only [HA.out, HB.out] at HS HN HF HE H0
  generalize l.length = n at *
  clear HA HB
  go_enter Try.func66, Try.ntmps66
  go_wp2
  go_loopw [10, 4, 5] (fun i x y wr => ∃ (k : Nat), k ≤ n ∧ i = .int .i64 k ∧ x = .int .i64 (A k) ∧ y = .int .i64 (B k) ∧ Below w.heap.size w wr) (fun i _ _ _ => n - (intOf i).toNat)
  case atStart => exact ⟨0, Nat.zero_le _, rfl, by rw [H0.out.1], by rw [H0.out.2], Below.refl _ _⟩
  case round =>
    obtain ⟨k, hk, rfl, rfl, rfl, hb⟩ := hrel
    by_cases hlt : k < n
    · obtain ⟨b, off, rfl, hcell⟩ := (ha.below hb) (by omega)
      obtain ⟨k0, k1, k2, k3⟩ := hcell k hlt
      clear hcell
      have hpk := HP.out k hlt
      have hs1 := HS.out k
      have hs2 := HS.out (k + 1)
      have eN := HN.out k hlt
      have eF := HF.out k hlt
      unfold pok at hpk
      generalize g k = x at *
      obtain ⟨pf, pn, pa, pz⟩ := x
      simp only at *
      have HeN : Hid _ := eN
      have HeF : Hid _ := eF
      clear eN eF hs2
      generalize hA : A k = AN at *
      generalize hB : B k = BN at *
      clear hA hB
      cases pz with
      | false =>
        go_wp2
        go_roundw
        case rel => exact ⟨k + 1, by omega, by go_num, by rw [HeN.out], by rw [HeF.out]; simp, Below.comp hb (below_alloc _ _)⟩
        case measure => simp [intOf]; omega
      | true =>
        go_wp2
        go_roundw
        case rel => exact ⟨k + 1, by omega, by go_num, by rw [HeN.out], by rw [HeF.out]; simp, Below.comp hb (below_alloc _ _)⟩
        case measure => simp [intOf]; omega
    · obtain rfl : k = n := by omega
      have e1 := HE.out.1
      have e2 := HE.out.2
      go_wp2
      go_ret2
      exact ⟨by rw [← e1, ← e2]; rfl, hb⟩
/-- What MapSize answers. -/
def szA (G : Bool) (l : List Pc) : Int := bif G then szN l else 0
def szB (G : Bool) (l : List Pc) : Int := bif G then szF l else 0
set_option maxHeartbeats 1000000 in
theorem implSize_any (a : Option Addr) (c : Nat) (l : List Pc) (G : Bool) (hG : G = true ↔ GM l) (w : World) (hn : l.length ≤ 1048576) (hc : l.length ≤ c) (hf : ∀ p, p ∈ l → Few p) (ha : Pcs w a l) :
    Calls Try.prog 38 #[mv a l.length c] w fun e w' => e = .returned (.tuple #[.int .i64 (szA G l), .int .i64 (szB G l), .bool G]) ∧ Below w.heap.size w w' := by
  obtain ⟨W0, hW0⟩ : ∃ W0, w.alloc (.cells #[.slice a l.length c] 29) = W0 := ⟨_, rfl⟩
  have q0 : Below w.heap.size w W0 := by subst hW0; exact below_alloc _ _
  have HA : Hid (W0.heap[w.heap.size]? = some (.cells #[.slice a l.length c] 29 (0, 0))) := by subst hW0; exact al1 _ _
  have i0 := (box1_cells HA.out).1
  have c1 := implGood_any a c l G hG W0 hn hc hf (ha.below q0)
  have HC : Hid (GM l → ∀ W, Below w.heap.size w W → Calls Try.prog 66 #[.slice a l.length c] W fun e w' => e = .returned (.tuple #[.int .i64 (szN l), .int .i64 (szF l)]) ∧ Below W.heap.size W w') := fun h W hb => sizeOf_any a c l W h.1 (fun p hp => gm_mem h hp) (ha.below hb)
  cases G with
  | false =>
    rw [show szA false l = 0 from rfl, show szB false l = 0 from rfl]
    clear HC hG ha hf
    generalize l.length = n at *
    go_enter Try.func38, Try.ntmps38
    go_wp2_with (go_at_call 15; refine c1.mono ?_; rintro e w1 ⟨rfl, b1⟩)
    exact bodyPost_ret (v := .tuple #[.int .i64 0, .int .i64 0, .bool false]) (by simp [results, Try.results38, go_sem]) rfl ⟨rfl, Below.comp q0 b1⟩
  | true =>
    have c2 := HC.out (hG.1 rfl)
    rw [show szA true l = szN l from rfl, show szB true l = szF l from rfl]
    clear HC hG ha hf
    generalize szN l = rN at *
    generalize szF l = rF at *
    generalize l.length = n at *
    go_enter Try.func38, Try.ntmps38
    go_wp2_with fail
    refine c1.mono ?_
    rintro e w1 ⟨rfl, b1⟩
    clear hW0 i0
    have i0 := (box1_cells (box_on HA.out b1)).1
    go_wp2_with fail
    refine (c2 _ (Below.comp q0 b1)).mono ?_
    rintro e w2 ⟨rfl, b2⟩
    go_wp2_with fail
    exact bodyPost_ret (v := .tuple #[.int .i64 rN, .int .i64 rF, .bool true]) (by simp [results, Try.results38, go_sem]) rfl ⟨rfl, Below.comp (Below.comp q0 b1) b2⟩
set_option maxHeartbeats 1000000 in
theorem specSize_any (a : Option Addr) (c : Nat) (l : List Pc) (G : Bool) (hG : G = true ↔ GM l) (w : World) (hn : l.length ≤ 1048576) (hc : l.length ≤ c) (ha : Pcs w a l) :
    Calls Try.prog 37 #[mv a l.length c] w fun e w' => e = .returned (.tuple #[.int .i64 (szA G l), .int .i64 (szB G l), .bool G]) ∧ Below w.heap.size w w' := by
  obtain ⟨W0, hW0⟩ : ∃ W0, w.alloc (.cells #[.slice a l.length c] 29) = W0 := ⟨_, rfl⟩
  have q0 : Below w.heap.size w W0 := by subst hW0; exact below_alloc _ _
  have HA : Hid (W0.heap[w.heap.size]? = some (.cells #[.slice a l.length c] 29 (0, 0))) := by subst hW0; exact al1 _ _
  have i0 := (box1_cells HA.out).1
  have c1 := specGood_any a c l G hG W0 hn hc (ha.below q0)
  cases G with
  | false =>
    rw [show szA false l = 0 from rfl, show szB false l = 0 from rfl]
    clear hG ha
    generalize l.length = n at *
    go_enter Try.func37, Try.ntmps37
    go_wp2_with (go_at_call 13; refine c1.mono ?_; rintro e w1 ⟨rfl, b1⟩)
    exact bodyPost_ret (v := .tuple #[.int .i64 0, .int .i64 0, .bool false]) (by simp [results, Try.results37, go_sem]) rfl ⟨rfl, Below.comp q0 b1⟩
  | true =>
    have hgm := hG.1 rfl
    have hp : ∀ p, p ∈ l → pok p := fun p hp => gm_mem hgm hp
    have hl2 : l.length ≤ 40 := hgm.1
    rw [show szA true l = szN l from rfl, show szB true l = szF l from rfl]
    have HS : Hid _ := sz_small hl2 hp
    have HN : Hid (∀ k, k < l.length → szN (l.take (k + 1)) = szN (l.take k) + (gp l k).n) := fun k h => szN_take h
    have HF : Hid (∀ k, k < l.length → szF (l.take (k + 1)) = szF (l.take k) + (if (gp l k).z then (gp l k).n else 0)) := fun k h => szF_take h
    have HE : Hid (szN (l.take l.length) = szN l ∧ szF (l.take l.length) = szF l) := by simp [Hid]
    have HP : Hid (∀ k, k < l.length → pok (gp l k)) := fun k h => hp _ (gp_mem h)
    have H0 : Hid (szN (l.take 0) = 0 ∧ szF (l.take 0) = 0) := ⟨rfl, rfl⟩
    clear hp hG hgm
    generalize szN l = rN at *
    generalize szF l = rF at *
    unfold Pcs at ha
    generalize gp l = g at *
    generalize hA : (fun k => szN (l.take k)) = A at *
    generalize hB : (fun k => szF (l.take k)) = B at *
    have HA' : Hid (∀ k, szN (l.take k) = A k) := fun k => by rw [← hA]
    have HB' : Hid (∀ k, szF (l.take k) = B k) := fun k => by rw [← hB]
    clear hA hB
    simp only [HA'.out, HB'.out] at HS HN HF HE H0
    generalize l.length = n at *
    clear HA' HB'
    go_enter Try.func37, Try.ntmps37
    go_wp2_with fail
    refine c1.mono ?_
    rintro e w1 ⟨rfl, b1⟩
    clear hW0 i0
    have i0 := (box1_cells (box_on HA.out b1)).1
    have g1 := Below.comp q0 b1
    go_wp2_with fail
    clear i0
    go_loopw [15, 5, 6] (fun i x y wr => ∃ (k : Nat), k ≤ n ∧ i = .int .i64 k ∧ x = .int .i64 (A k) ∧ y = .int .i64 (B k) ∧ Below w1.heap.size w1 wr) (fun i _ _ _ => n - (intOf i).toNat)
    case atStart => exact ⟨0, Nat.zero_le _, rfl, by rw [H0.out.1], by rw [H0.out.2], Below.refl _ _⟩
    case round =>
      obtain ⟨k, hk, rfl, rfl, rfl, hb⟩ := hrel
      by_cases hlt : k < n
      · obtain ⟨b, off, rfl, hcell⟩ := (ha.below (Below.comp g1 hb)) (by omega)
        obtain ⟨k0, k1, k2, k3⟩ := hcell k hlt
        clear hcell
        have hpk := HP.out k hlt
        have hs1 := HS.out k
        have eN := HN.out k hlt
        have eF := HF.out k hlt
        unfold pok at hpk
        generalize g k = x at *
        obtain ⟨pf, pn, pa, pz⟩ := x
        simp only at *
        have HeN : Hid _ := eN
        have HeF : Hid _ := eF
        clear eN eF
        generalize hA : A k = AN at *
        generalize hB : B k = BN at *
        clear hA hB
        cases pz with
        | false =>
          go_wp2
          go_roundw
          case rel => exact ⟨k + 1, by omega, by go_num, by rw [HeN.out], by rw [HeF.out]; simp, Below.comp hb (below_alloc _ _)⟩
          case measure => simp [intOf]; omega
        | true =>
          go_wp2
          go_roundw
          case rel => exact ⟨k + 1, by omega, by go_num, by rw [HeN.out], by rw [HeF.out]; simp, Below.comp hb (below_alloc _ _)⟩
          case measure => simp [intOf]; omega
      · obtain rfl : k = n := by omega
        have e1 := HE.out.1
        have e2 := HE.out.2
        go_wp2
        exact bodyPost_ret (v := .tuple #[.int .i64 rN, .int .i64 rF, .bool true]) (by simp [results, Try.results37, go_sem, e1, e2]) rfl ⟨rfl, Below.comp g1 hb⟩
end Go.Proofs.Ytdbmdblghlfjfaa
