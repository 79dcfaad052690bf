import Derived.Test.YtboladoddnnfcaaDoorB2
import Derived.Test.YtboladoddnnfcaaDoorA5
namespace Go.Proofs.YtboladoddnnfcaaDoor
open Go.ChangeShapes Go.WideShapes Go.ChangeAt Go.RowKit
set_option linter.unusedVariables false
open GF

/-- A list as a function. -/
def lf (l : List Nat) : Nat → Nat := fun i => l.getD i 0
theorem lf_lt {l : List Nat} (h : bt l) (i : Nat) : lf l i < 256 := bt_getD h i
theorem drop_step {l : List Nat} {k : Nat} (h : k < l.length) : l.drop k = lf l k :: l.drop (k + 1) := by
  rw [List.drop_eq_getElem_cons h]
  simp [lf, h]
theorem bt_drop {l : List Nat} (h : bt l) (k : Nat) : bt (l.drop k) := fun c hc => h c (List.mem_of_mem_drop hc)
theorem pv_step {l : List Nat} {k x : Nat} (h : k < l.length) : gm (pv (l.drop (k + 1)) x) x ^^^ lf l k = pv (l.drop k) x := by
  rw [drop_step h, pv]

set_option maxHeartbeats 400000 in
theorem l2At_any (a : Option Addr) (cap : Nat) (l : List Nat) (x : Nat) (w : World) (hl : bt l) (hx : x < 256) (hn : l.length ≤ 1048576) (hc : At w a l.length (by' (lf l))) :
    Calls Tryd.prog 51 #[.slice a l.length cap, .int .u8 (x : Int)] w fun e w' => e = .returned (.int .u8 (pv l x : Nat)) ∧ Below w.heap.size w w' := by
  generalize hN : l.length = n at *
  go_enter Tryd.func51, Tryd.ntmps51
  go_wp2
  go_loopw [5, 6] (fun y i wr => ∃ (k : Nat), k ≤ n ∧ i = .int .i64 ((k : Int) - 1) ∧ y = .int .u8 (pv (l.drop k) x : Nat) ∧ Below w.heap.size w wr) (fun _ i _ => (intOf i + 1).toNat)
  case atStart => exact ⟨n, Nat.le_refl _, rfl, by rw [List.drop_eq_nil_of_le (by omega)]; rfl, Below.refl _ _⟩
  case round =>
    obtain ⟨k, hk, rfl, rfl, hb⟩ := hrel
    by_cases h0 : k = 0
    · subst h0
      go_wp2
      go_ret
      exact ⟨by simp, hb⟩
    · obtain ⟨j, rfl⟩ : ∃ j, k = j + 1 := ⟨k - 1, by omega⟩
      have ej : ((j + 1 : Nat) : Int) - 1 = (j : Int) := by omega
      rw [ej]
      obtain ⟨b, off, rfl, hcell⟩ := (hc.below hb) (by omega)
      have hck := hcell j (by omega)
      unfold by' at hck
      have hj : (j : Int) < (n : Int) := by omega
      have hv := pv_lt x (bt_drop hl (j + 1))
      have hg := gm_lt x hv
      have hxo := bits_u8_xor hg (lf_lt hl j)
      rw [pv_step (by omega)] at hxo
      clear hcell hc ej
      generalize hpj : pv (l.drop (j + 1)) x = pj at *
      go_wp2
      go_quiet (first | (go_at_call 41; refine Calls.quiet_of_same (l2Mul_any pj x _ hv hx)))
      go_wp2
      go_roundw
      case rel => exact ⟨j, by omega, by go_num, rfl, below_drewN hb _⟩
      case measure => simp [intOf]

/-- A value and whether it is told. -/
def atV (l : List Nat) (x : Nat) : Value := .tuple #[.int .u8 ((if l.length ≤ 60 then pv l x else 0 : Nat) : Int), .bool (decide (l.length ≤ 60))]
theorem atV_in {l : List Nat} {x : Nat} (h : l.length ≤ 60) : atV l x = .tuple #[.int .u8 (pv l x : Nat), .bool true] := by simp [atV, h]
theorem atV_out {l : List Nat} {x : Nat} (h : ¬ l.length ≤ 60) : atV l x = .tuple #[.int .u8 0, .bool false] := by simp [atV, h]

set_option maxHeartbeats 400000 in
theorem specAt_any (a : Option Addr) (cap : Nat) (l : List Nat) (x : Nat) (w : World) (hl : bt l) (hx : x < 256) (hn : l.length ≤ 1048576) (hc : At w a l.length (by' (lf l))) :
    Calls Tryd.prog 30 #[.slice a l.length cap, .int .u8 (x : Int)] w fun e w' => e = .returned (atV l x) ∧ Below w.heap.size w w' := by
  by_cases h : l.length ≤ 60
  · have h' : ¬ (60 : Int) < (l.length : Int) := by omega
    go_enter Tryd.func30, Tryd.ntmps30
    go_wp2_with fail
    refine (l2At_any a cap l x _ hl hx hn hc).mono ?_
    rintro e w1 ⟨rfl, b1⟩
    go_wp2
    refine bodyPost_ret (v := atV l x) (by rw [atV_in h]; simp [results, Tryd.results30, go_sem]) rfl ⟨rfl, b1⟩
  · have h' : (60 : Int) < (l.length : Int) := by omega
    go_enter Tryd.func30, Tryd.ntmps30
    go_wp2
    refine bodyPost_ret (v := atV l x) (by rw [atV_out h]; simp [results, Tryd.results30, go_sem]) rfl ⟨rfl, Below.refl _ _⟩

set_option maxHeartbeats 400000 in
theorem implAt_any (a : Option Addr) (cap : Nat) (l : List Nat) (x : Nat) (w : World) (hl : bt l) (hx : x < 256) (hn : l.length ≤ 1048576) (hc : At w a l.length (by' (lf l))) (ht : Tab w) :
    Calls Tryd.prog 28 #[.slice a l.length cap, .int .u8 (x : Int)] w fun e w' => e = .returned (atV l x) ∧ Below w.heap.size w w' := by
  have hw0 : 0 < w.heap.size := World.block_lt_of_cell? w _ ht.1
  by_cases h : l.length ≤ 60
  · have e0 := atV_in (x := x) h
    have E0 : Hid _ := e0
    clear e0
    generalize hN : l.length = n at *
    have h' : ¬ (60 : Int) < (n : Int) := by omega
    go_enter Tryd.func28, Tryd.ntmps28
    go_wp2
    go_loopw [6, 7] (fun y i wr => ∃ (k : Nat), k ≤ n ∧ i = .int .i64 ((k : Int) - 1) ∧ y = .int .u8 (pv (l.drop k) x : Nat) ∧ Below w.heap.size w wr) (fun _ i _ => (intOf i + 1).toNat)
    case atStart => exact ⟨n, Nat.le_refl _, rfl, by rw [List.drop_eq_nil_of_le (by omega)]; rfl, Below.refl _ _⟩
    case round =>
      obtain ⟨k, hk, rfl, rfl, hb⟩ := hrel
      by_cases h0 : k = 0
      · subst h0
        go_wp2
        refine bodyPost_ret (v := atV l x) (by rw [E0.out]; simp [results, Tryd.results28, go_sem]) rfl ⟨rfl, hb⟩
      · obtain ⟨j, rfl⟩ : ∃ j, k = j + 1 := ⟨k - 1, by omega⟩
        have ej : ((j + 1 : Nat) : Int) - 1 = (j : Int) := by omega
        rw [ej]
        obtain ⟨b, off, rfl, hcell⟩ := (hc.below hb) (by omega)
        have hck := hcell j (by omega)
        unfold by' at hck
        have hj : (j : Int) < (n : Int) := by omega
        have hv := pv_lt x (bt_drop hl (j + 1))
        have hg := gm_lt x hv
        have hxo := bits_u8_xor hg (lf_lt hl j)
        rw [pv_step (by omega)] at hxo
        have TW : Hid (∀ q, Tab (wr.drewN q)) := fun q => ht.below (below_drewN hb q) hw0
        clear hcell hc ej
        generalize hpj : pv (l.drop (j + 1)) x = pj at *
        go_wp2
        go_quiet (first | (go_at_call 16; refine Calls.quiet_of_same (fieldMul_any pj x _ hv hx (TW.out _))))
        go_wp2
        go_roundw
        case rel => exact ⟨j, by omega, by go_num, rfl, below_drewN hb _⟩
        case measure => simp [intOf]
  · have h' : (60 : Int) < (l.length : Int) := by omega
    go_enter Tryd.func28, Tryd.ntmps28
    go_wp2
    refine bodyPost_ret (v := atV l x) (by rw [atV_out h]; simp [results, Tryd.results28, go_sem]) rfl ⟨rfl, Below.refl _ _⟩

set_option maxHeartbeats 800000 in
theorem lawAt (a : Option Addr) (cap : Nat) (l : List Nat) (x : Nat) (w : World) (hl : bt l) (hx : x < 256) (hn : l.length ≤ 9223372036854775807) (hc : At w a l.length (by' (lf l))) (ht : Tab w) :
    Calls Tryd.prog 12 #[.slice a l.length cap, .int .u8 (x : Int)] w fun e w' => e = .returned (.bool true) ∧ Below w.heap.size w w' := by
  have hw0 : 0 < w.heap.size := World.block_lt_of_cell? w _ ht.1
  by_cases h : l.length ≤ 1048576
  · have h' : ¬ (1048576 : Int) < (l.length : Int) := by omega
    obtain ⟨q, ok, hv⟩ : ∃ q ok, atV l x = .tuple #[.int .u8 q, .bool ok] := ⟨_, _, rfl⟩
    have HV : Hid _ := hv
    clear hv
    go_enter Tryd.func12, Tryd.ntmps12
    go_wp2_with fail
    refine (toByteS_any a l.length cap (lf l) _ h hc).mono ?_
    rintro e w1 ⟨b1, y, cy, rfl, my⟩
    go_wp2_with fail
    refine (specAt_any y cy l x _ hl hx h my.bys).mono ?_
    rintro e w2 ⟨rfl, b2⟩
    rw [HV.out]
    have g2 := Below.comp b1 b2
    go_wp2_with fail
    refine (toByteS_any a l.length cap (lf l) _ h (hc.below g2)).mono ?_
    rintro e w3 ⟨b3, z, cz, rfl, mz⟩
    have g3 := Below.comp g2 b3
    go_wp2_with fail
    refine (implAt_any z cz l x _ hl hx h mz.bys (ht.below g3 hw0)).mono ?_
    rintro e w4 ⟨rfl, b4⟩
    rw [HV.out]
    have g4 := Below.comp g3 b4
    replace mz := mz.below b4
    go_wp2_with fail
    refine (toByteS_any a l.length cap (lf l) _ h (hc.below g4)).mono ?_
    rintro e w5 ⟨b5, u, cu, rfl, mu⟩
    have g5 := Below.comp g4 b5
    replace mz := mz.below b5
    go_wp2_with fail
    refine (eqByteS_any z u l.length cz cu (lf l) _ hn mz.bys mu.bys).mono ?_
    rintro e w6 ⟨rfl, b6⟩
    have g6 := Below.comp g5 b6
    go_wp2
    go_ret
    exact ⟨rfl, g6⟩
  · have h' : (1048576 : Int) < (l.length : Int) := by omega
    go_enter Tryd.func12, Tryd.ntmps12
    go_wp2
    go_ret
    exact ⟨rfl, Below.refl _ _⟩
end Go.Proofs.YtboladoddnnfcaaDoor
