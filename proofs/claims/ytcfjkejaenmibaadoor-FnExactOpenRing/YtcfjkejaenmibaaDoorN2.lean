import Derived.Test.YtcfjkejaenmibaaDoorN1
import Derived.Test.YtcfjkejaenmibaaDoorP2
/- Sums of slots, on both sides. -/
namespace Go.Proofs.YtcfjkejaenmibaaDoor
open Go.ChangeShapes Go.WideShapes Go.ChangeAt Go.RowKit
set_option linter.unusedVariables false
open Lg

attribute [local go_sem] Oper.semAt_some

/-- The library's table of powers lies as its initialiser lays it. -/
abbrev Tb (w : World) : Prop := Lib.TabIs Tryd.prog w "internal/strconv.uint64pow10" .u64 Lib.pow10Tab
theorem Tb.on {w w' : World} (h : Tb w) (hb : Below w.heap.size w w') : Tb w' := Lib.tabBelow_of_tabIs h w' hb
theorem itoa_any (u : Nat) (w : World) (hu : u ≤ 9223372036854775000) (hT : Tb w) : Calls Tryd.prog 55 #[.int .i64 (u : Int)] w fun e w' => e = .returned (.string (dgs u)) ∧ Below w.heap.size w w' := by
  refine (Tryd.strconv_Itoa (u : Int) (by omega) (by omega) w hT).mono ?_
  rintro e w' ⟨rfl, k, os, rfl⟩
  exact ⟨by rw [Lib.itoa_nonneg]; rfl, Lib.below_grow _ _ (Nat.le_refl _) _ _⟩
/-- What is summed of a slot. -/
def txt (c t : Nat) (d : ByteArray) : ByteArray := dgs c ++ ⟨#[46]⟩ ++ dgs t ++ ⟨#[46]⟩ ++ d
/-- The sum of a slot. -/
def smS (x : Sl) : Int := bif okB 1000000 x then ((smV (txt x.c.toNat x.t.toNat x.d) : Nat) : Int) else 0
theorem smS_no {x : Sl} (h : okB 1000000 x = false) : smS x = 0 := by unfold smS; rw [h]; rfl
theorem smS_yes {x : Sl} (h : okB 1000000 x = true) : smS x = ((smV (txt x.c.toNat x.t.toNat x.d) : Nat) : Int) := by unfold smS; rw [h]; rfl
theorem okB_nums {M : Int} {x : Sl} (h : okB M x = true) : 0 ≤ x.c ∧ x.c ≤ M ∧ 0 ≤ x.t ∧ x.t ≤ 10000000 ∧ x.d.size ≤ 12 := by
  unfold okB at h
  simp at h
  omega
theorem smS_few (x : Sl) : 0 ≤ smS x ∧ smS x < 65536 := by
  cases h : okB 1000000 x with
  | false => rw [smS_no h]; omega
  | true => rw [smS_yes h]; have := smV_lt (txt x.c.toNat x.t.toNat x.d); omega

set_option maxHeartbeats 4000000 in
theorem specSum_any (x : Sl) (w : World) (hx : Few x) : Calls Tryd.prog 21 #[sv x] w fun e w' => e = .returned (.int .i64 (smS x)) ∧ Below w.heap.size w w' := by
  have c1 := fun W => l10Slot_any x W hx
  have HN : Hid (okB 1000000 x = false → smS x = 0) := smS_no
  have HY : Hid (okB 1000000 x = true → smS x = ((smV (txt x.c.toNat x.t.toNat x.d) : Nat) : Int) ∧ 0 ≤ x.c ∧ x.c ≤ 1000000 ∧ 0 ≤ x.t ∧ x.t ≤ 10000000 ∧ x.d.size ≤ 12) := fun h => ⟨smS_yes h, okB_nums h⟩
  obtain ⟨y, hy⟩ : ∃ y, smS x = y := ⟨_, rfl⟩
  obtain ⟨u, hu⟩ : ∃ u, okB 1000000 x = u := ⟨_, rfl⟩
  rw [hy, hu] at HN HY
  rw [hy]
  rw [hu] at c1
  obtain ⟨c, t, d, s⟩ := x
  simp only at HY
  have hd : d.size ≤ 9223372036854775807 := hx.2.2.1
  clear hu hx hy
  obtain ⟨D, hD⟩ : ∃ D, w.heap.size = D := ⟨_, rfl⟩
  obtain ⟨W0, hW0⟩ : ∃ W0, w.alloc (.cells #[.int .i64 c, .int .i64 t, .string d, .int .i64 s] 41) = W0 := ⟨_, rfl⟩
  have q0 : Below w.heap.size w W0 := by subst hW0; exact below_alloc _ _
  have HA : Hid (W0.heap[D]? = some (.cells #[.int .i64 c, .int .i64 t, .string d, .int .i64 s] 41 (0, 0))) := by subst hW0 hD; exact al1 _ _
  obtain ⟨x0, x1, x2, x3⟩ := box4_cells HA.out
  go_enter Tryd.func21, Tryd.ntmps21
  go_wp2_with fail
  refine (c1 _).mono ?_
  rintro e w1 ⟨rfl, b1⟩
  have g1 := Below.comp q0 b1
  clear x0 x1 x2 x3 hW0 c1
  cases u with
  | false =>
    obtain rfl := HN.out rfl
    go_wp2_with fail
    go_ret
    exact ⟨rfl, by first | exact g1 | exact (hD ▸ g1)⟩
  | true =>
    obtain ⟨hyv, hc0, hc1, ht0, ht1, hds⟩ := HY.out rfl
    obtain ⟨cn, rfl⟩ : ∃ n : Nat, c = n := ⟨c.toNat, by omega⟩
    obtain ⟨tn, rfl⟩ : ∃ n : Nat, t = n := ⟨t.toNat, by omega⟩
    have Hv : Hid (y = ((smV (dgs cn ++ ⟨#[46]⟩ ++ dgs tn ++ ⟨#[46]⟩ ++ d) : Nat) : Int)) := hyv
    have k1 := fun W => l1Num_any cn W (by omega)
    have k2 := fun W => l1Num_any tn W (by omega)
    have s1 := dgs_size cn (by omega)
    have s2 := dgs_size tn (by omega)
    clear hyv HN HY
    generalize dgs cn = p at *
    generalize dgs tn = z at *
    have l1 : ¬ (9223372036854775807 < p.size + 1) := by omega
    have l2 : ¬ (9223372036854775807 < p.size + 1 + z.size) := by omega
    have l3 : ¬ (9223372036854775807 < p.size + 1 + z.size + 1) := by omega
    have l4 : ¬ (9223372036854775807 < p.size + 1 + z.size + 1 + d.size) := by omega
    have HA1 : Hid _ := box_on HA.out b1
    obtain ⟨x0, x1, x2, x3⟩ := box4_cells HA1.out
    have SB : Hid (∀ W, Below w1.heap.size w1 W → W.cell? ⟨D, 0, none⟩ = some (.int .i64 (cn : Int)) ∧ W.cell? ⟨D, 1, none⟩ = some (.int .i64 (tn : Int)) ∧ W.cell? ⟨D, 2, none⟩ = some (.string d) ∧ Below w1.heap.size w1 W) := fun W g => ⟨cell_on x0 g, cell_on x1 g, cell_on x2 g, g⟩
    go_wp2_with fail
    clear x0 x1 x2 x3
    go_region_held3 (fun W => W.cell? ⟨D, 0, none⟩ = some (.int .i64 (cn : Int)) ∧ W.cell? ⟨D, 1, none⟩ = some (.int .i64 (tn : Int)) ∧ W.cell? ⟨D, 2, none⟩ = some (.string d) ∧ Below w1.heap.size w1 W)
      ((refine SB.out _ ?_; first | assumption | exact Below.drew (Below.refl _ _)))
      (first
      | (go_at_call 53; obtain ⟨-, -, -, hw0⟩ := ‹_ ∧ _ ∧ _ ∧ Below w1.heap.size w1 _›; refine (k1 _).mono ?_; rintro e w2 ⟨rfl, b2⟩; have hb2 := Below.comp hw0 b2; clear k1)
      | (go_at_call 53; obtain ⟨-, -, -, hw0⟩ := ‹_ ∧ _ ∧ _ ∧ Below w1.heap.size w1 _›; refine (k2 _).mono ?_; rintro e w3 ⟨rfl, b3⟩; have hb3 := Below.comp hw0 b3))
    obtain ⟨T, hT⟩ : ∃ T, p ++ ⟨#[46]⟩ ++ z ++ ⟨#[46]⟩ ++ d = T := ⟨_, rfl⟩
    have hTs : T.size ≤ 100 := by rw [← hT]; simp only [ByteArray.size_append, show (⟨#[46]⟩ : ByteArray).size = 1 from rfl]; omega
    have gw := Below.comp g1 hb3
    rw [hT] at Hv
    simp only [hT]
    clear hT l1 l2 l3 l4 s1 s2 k2 SB hds hd
    go_wp2
    go_loop [4, 5, 6] (fun a b i => ∃ k : Nat, k ≤ T.size ∧ i = .int .i64 k ∧ a = .int .i64 ((sm (T.data.toList.take k)).1 : Nat) ∧ b = .int .i64 ((sm (T.data.toList.take k)).2 : Nat)) (fun _ _ i => T.size - (intOf i).toNat)
    case atStart => exact ⟨0, Nat.zero_le _, rfl, rfl, rfl⟩
    case round =>
      obtain ⟨k, hk, rfl, rfl, rfl⟩ := hrel
      have hm := sm_lt (T.data.toList.take k)
      by_cases hlt : k < T.size
      · have HS : Hid (sm (T.data.toList.take (k + 1)) = (((sm (T.data.toList.take k)).1 + T[k].toNat) % 251, ((sm (T.data.toList.take k)).2 + ((sm (T.data.toList.take k)).1 + T[k].toNat) % 251) % 251)) := by show _ = _; rw [take_snoc T k hlt, sm_snoc]
        have hb : T[k].toNat < 256 := T[k].toNat_lt
        generalize sm (T.data.toList.take k) = ab at *
        obtain ⟨a, b⟩ := ab
        simp only at hm HS ⊢
        go_wp2
        go_round
        case rel => exact ⟨k + 1, by omega, by go_num, by rw [HS.out]; go_num, by rw [HS.out]; go_num⟩
        case measure => simp [intOf]; omega
      · have e : T.data.toList.take k = T.data.toList := List.take_of_length_le (by simp; omega)
        rw [e] at hm ⊢
        have hv : y = 256 * (((sm T.data.toList).2 : Nat) : Int) + (((sm T.data.toList).1 : Nat) : Int) := by rw [Hv.out]; unfold smV; omega
        have HV : Hid _ := hv
        clear hv
        generalize sm T.data.toList = ab at *
        obtain ⟨a, b⟩ := ab
        simp only at hm HV ⊢
        go_wp2
        go_ret
        exact ⟨by rw [HV.out]; rfl, by first | exact gw | exact (hD ▸ gw)⟩
set_option maxHeartbeats 4000000 in
theorem implSum_any (x : Sl) (w : World) (hx : Few x) (hTb : Tb w) : Calls Tryd.prog 23 #[sv x] w fun e w' => e = .returned (.int .i64 (smS x)) ∧ Below w.heap.size w w' := by
  have c1 := fun W => isSlot_any x W hx
  have HN : Hid (okB 1000000 x = false → smS x = 0) := smS_no
  have HY : Hid (okB 1000000 x = true → smS x = ((smV (txt x.c.toNat x.t.toNat x.d) : Nat) : Int) ∧ 0 ≤ x.c ∧ x.c ≤ 1000000 ∧ 0 ≤ x.t ∧ x.t ≤ 10000000 ∧ x.d.size ≤ 12) := fun h => ⟨smS_yes h, okB_nums h⟩
  obtain ⟨y, hy⟩ : ∃ y, smS x = y := ⟨_, rfl⟩
  obtain ⟨u, hu⟩ : ∃ u, okB 1000000 x = u := ⟨_, rfl⟩
  rw [hy, hu] at HN HY
  rw [hy]
  rw [hu] at c1
  obtain ⟨c, t, d, s⟩ := x
  simp only at HY
  have hd : d.size ≤ 9223372036854775807 := hx.2.2.1
  clear hu hx hy
  obtain ⟨D, hD⟩ : ∃ D, w.heap.size = D := ⟨_, rfl⟩
  obtain ⟨W0, hW0⟩ : ∃ W0, w.alloc (.cells #[.int .i64 c, .int .i64 t, .string d, .int .i64 s] 41) = W0 := ⟨_, rfl⟩
  have q0 : Below w.heap.size w W0 := by subst hW0; exact below_alloc _ _
  have HA : Hid (W0.heap[D]? = some (.cells #[.int .i64 c, .int .i64 t, .string d, .int .i64 s] 41 (0, 0))) := by subst hW0 hD; exact al1 _ _
  obtain ⟨x0, x1, x2, x3⟩ := box4_cells HA.out
  go_enter Tryd.func23, Tryd.ntmps23
  go_wp2_with fail
  refine (c1 _).mono ?_
  rintro e w1 ⟨rfl, b1⟩
  have g1 := Below.comp q0 b1
  have hTw : Hid (Tb w1) := hTb.on g1
  clear hTb
  clear x0 x1 x2 x3 hW0 c1
  cases u with
  | false =>
    obtain rfl := HN.out rfl
    go_wp2_with fail
    go_ret
    exact ⟨rfl, by first | exact g1 | exact (hD ▸ g1)⟩
  | true =>
    obtain ⟨hyv, hc0, hc1, ht0, ht1, hds⟩ := HY.out rfl
    obtain ⟨cn, rfl⟩ : ∃ n : Nat, c = n := ⟨c.toNat, by omega⟩
    obtain ⟨tn, rfl⟩ : ∃ n : Nat, t = n := ⟨t.toNat, by omega⟩
    have Hv : Hid (y = ((smV (dgs cn ++ ⟨#[46]⟩ ++ dgs tn ++ ⟨#[46]⟩ ++ d) : Nat) : Int)) := hyv
    have k1 := fun W h => itoa_any cn W (by omega) h
    have k2 := fun W h => itoa_any tn W (by omega) h
    have s1 := dgs_size cn (by omega)
    have s2 := dgs_size tn (by omega)
    clear hyv HN HY
    generalize dgs cn = p at *
    generalize dgs tn = z at *
    have l1 : ¬ (9223372036854775807 < p.size + 1) := by omega
    have l2 : ¬ (9223372036854775807 < p.size + 1 + z.size) := by omega
    have l3 : ¬ (9223372036854775807 < p.size + 1 + z.size + 1) := by omega
    have l4 : ¬ (9223372036854775807 < p.size + 1 + z.size + 1 + d.size) := by omega
    have HA1 : Hid _ := box_on HA.out b1
    obtain ⟨x0, x1, x2, x3⟩ := box4_cells HA1.out
    have SB : Hid (∀ W, Below w1.heap.size w1 W → W.cell? ⟨D, 0, none⟩ = some (.int .i64 (cn : Int)) ∧ W.cell? ⟨D, 1, none⟩ = some (.int .i64 (tn : Int)) ∧ W.cell? ⟨D, 2, none⟩ = some (.string d) ∧ Below w1.heap.size w1 W) := fun W g => ⟨cell_on x0 g, cell_on x1 g, cell_on x2 g, g⟩
    go_wp2_with fail
    clear x0 x1 x2 x3
    go_region_held3 (fun W => W.cell? ⟨D, 0, none⟩ = some (.int .i64 (cn : Int)) ∧ W.cell? ⟨D, 1, none⟩ = some (.int .i64 (tn : Int)) ∧ W.cell? ⟨D, 2, none⟩ = some (.string d) ∧ Below w1.heap.size w1 W)
      ((refine SB.out _ ?_; first | assumption | exact Below.drew (Below.refl _ _)))
      (first
      | (go_at_call 55; obtain ⟨-, -, -, hw0⟩ := ‹_ ∧ _ ∧ _ ∧ Below w1.heap.size w1 _›; refine (k1 _ (hTw.out.on hw0)).mono ?_; rintro e w2 ⟨rfl, b2⟩; have hb2 := Below.comp hw0 b2; clear k1)
      | (go_at_call 55; obtain ⟨-, -, -, hw0⟩ := ‹_ ∧ _ ∧ _ ∧ Below w1.heap.size w1 _›; refine (k2 _ (hTw.out.on hw0)).mono ?_; rintro e w3 ⟨rfl, b3⟩; have hb3 := Below.comp hw0 b3))
    obtain ⟨T, hT⟩ : ∃ T, p ++ ⟨#[46]⟩ ++ z ++ ⟨#[46]⟩ ++ d = T := ⟨_, rfl⟩
    have hTs : T.size ≤ 100 := by rw [← hT]; simp only [ByteArray.size_append, show (⟨#[46]⟩ : ByteArray).size = 1 from rfl]; omega
    have gw := Below.comp g1 hb3
    rw [hT] at Hv
    simp only [hT]
    clear hT l1 l2 l3 l4 s1 s2 k2 SB hds hd
    go_wp2
    go_loop [4, 5, 24] (fun a b i => ∃ k : Nat, k ≤ T.size ∧ i = .int .i64 k ∧ a = .int .i64 ((sm (T.data.toList.take k)).1 : Nat) ∧ b = .int .i64 ((sm (T.data.toList.take k)).2 : Nat)) (fun _ _ i => T.size - (intOf i).toNat)
    case atStart => exact ⟨0, Nat.zero_le _, rfl, rfl, rfl⟩
    case round =>
      obtain ⟨k, hk, rfl, rfl, rfl⟩ := hrel
      have hm := sm_lt (T.data.toList.take k)
      by_cases hlt : k < T.size
      · have HS : Hid (sm (T.data.toList.take (k + 1)) = (((sm (T.data.toList.take k)).1 + T[k].toNat) % 251, ((sm (T.data.toList.take k)).2 + ((sm (T.data.toList.take k)).1 + T[k].toNat) % 251) % 251)) := by show _ = _; rw [take_snoc T k hlt, sm_snoc]
        have hb : T[k].toNat < 256 := T[k].toNat_lt
        generalize sm (T.data.toList.take k) = ab at *
        obtain ⟨a, b⟩ := ab
        simp only at hm HS ⊢
        go_wp2
        go_round
        case rel => exact ⟨k + 1, by omega, by go_num, by rw [HS.out]; go_num, by rw [HS.out]; go_num⟩
        case measure => simp [intOf]; omega
      · have e : T.data.toList.take k = T.data.toList := List.take_of_length_le (by simp; omega)
        rw [e] at hm ⊢
        have hv : y = 256 * (((sm T.data.toList).2 : Nat) : Int) + (((sm T.data.toList).1 : Nat) : Int) := by rw [Hv.out]; unfold smV; omega
        have HV : Hid _ := hv
        clear hv
        generalize sm T.data.toList = ab at *
        obtain ⟨a, b⟩ := ab
        simp only at hm HV ⊢
        go_wp2
        go_ret
        exact ⟨by rw [HV.out]; rfl, by first | exact gw | exact (hD ▸ gw)⟩
end Go.Proofs.YtcfjkejaenmibaaDoor
