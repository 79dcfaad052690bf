import Derived.Test.YtcfjkejaenmibaaDoorI5
import Derived.Test.YtcfjkejaenmibaaDoorH5
import Derived.Test.YtcfjkejaenmibaaDoorH1
/- The program: room, records. -/
namespace Go.Proofs.YtcfjkejaenmibaaDoor
open Go.ChangeShapes Go.WideShapes Go.ChangeAt Go.RowKit
set_option linter.unusedVariables false
open Lg

attribute [local go_sem] Oper.semAt_some

theorem fieldS1 (c t : Int) (d : ByteArray) (s : Int) (w : World) : (Instr.field 41 (.agg #[.int .i64 c, .int .i64 t, .string d, .int .i64 s]) 1).run Tryd.prog w = .ok (.int .i64 t) w := by kernel_rfl
theorem fieldS2 (c t : Int) (d : ByteArray) (s : Int) (w : World) : (Instr.field 41 (.agg #[.int .i64 c, .int .i64 t, .string d, .int .i64 s]) 2).run Tryd.prog w = .ok (.string d) w := by kernel_rfl
set_option maxHeartbeats 2000000 in
theorem implRoom_any (a : Option Addr) (c : Nat) (l : List Sl) (h cy t : Int) (w : World) (hn : l.length ≤ 1048576) (hf : ∀ i, i < l.length → Few (gs l i)) (hh : i64 h) (hcy : i64 cy) (ht : i64 t) (ha : Sls w a l) (a0 a1 : Addr) (hT : Tb w) (hS : Sn w a0 a1) :
    Calls Tryd.prog 34 #[rv a l.length c h cy t] w fun e w' => e = .returned (.tuple #[.int .i64 (rmI l h cy t), .bool (gdB l h cy t)]) ∧ Below w.heap.size w w' := by
  obtain ⟨D, hD⟩ : ∃ D, w.heap.size = D := ⟨_, rfl⟩
  obtain ⟨W0, hW0⟩ : ∃ W0, w.alloc (.cells #[.slice a l.length c, .int .i64 h, .int .i64 cy, .int .i64 t] 24) = W0 := ⟨_, rfl⟩
  have q0 : Below w.heap.size w W0 := by subst hW0; exact below_alloc _ _
  have HA : Hid (W0.heap[D]? = some (.cells #[.slice a l.length c, .int .i64 h, .int .i64 cy, .int .i64 t] 24 (0, 0))) := by subst hW0 hD; exact al1 _ _
  have cG := implGood_any a c l h cy t W0 a0 a1 hn hf hh hcy ht (ha.below q0) (hT.on q0) (hS.on q0)
  have HB : Hid (gdB l h cy t = true → 2 ≤ l.length ∧ l.length ≤ 24 ∧ 0 ≤ h ∧ h ≤ 10000000 ∧ 0 ≤ t ∧ t ≤ h ∧ h - t ≤ l.length) := fun q => by have := gd_bd q; exact ⟨this.1, this.2.1, this.2.2.1, this.2.2.2.1, this.2.2.2.2.1, this.2.2.2.2.2.1, this.2.2.2.2.2.2.1⟩
  have HR : Hid (rmI l h cy t = bif gdB l h cy t then (l.length : Int) - (h - t) else 0) := rfl
  obtain ⟨G, hG⟩ : ∃ G, gdB l h cy t = G := ⟨_, rfl⟩
  obtain ⟨R, hR⟩ : ∃ R, rmI l h cy t = R := ⟨_, rfl⟩
  rw [hG] at cG HB HR ⊢
  rw [hR] at HR ⊢
  clear hG hR ha hf hh hcy ht hn hT hS
  generalize l.length = n at *
  obtain ⟨x0, x1, x2, x3⟩ := box4_cells HA.out
  go_enter Tryd.func34, Tryd.ntmps34
  go_wp2_with fail
  refine cG.mono ?_
  rintro e w1 ⟨rfl, b1⟩
  clear x0 x1 x2 x3 hW0 cG
  have g1 := Below.comp q0 b1
  cases G with
  | false =>
    obtain rfl : R = 0 := HR.out
    go_wp2_with fail
    go_ret2
    exact ⟨rfl, by first | exact g1 | exact (hD ▸ g1)⟩
  | true =>
    obtain ⟨x0, x1, x2, x3⟩ := box4_cells (box_on HA.out b1)
    have hb := HB.out rfl
    have h1 : IntKind.i64.wrap (h - t) = h - t := wrapI (by omega) (by omega)
    have h2 : IntKind.i64.wrap ((n : Int) - (h - t)) = R := by rw [HR.out]; exact wrapI (by omega) (by omega)
    have Hb : Hid _ := hb
    clear hb HR HB
    go_wp2_with fail
    go_ret2
    exact ⟨rfl, by first | exact g1 | exact (hD ▸ g1)⟩
set_option maxRecDepth 20000 in
set_option maxHeartbeats 4000000 in
theorem implRecs_any (a : Option Addr) (c : Nat) (l : List Sl) (h cy t : Int) (w : World) (hn : l.length ≤ 1048576) (hf : ∀ i, i < l.length → Few (gs l i)) (hh : i64 h) (hcy : i64 cy) (ht : i64 t) (ha : Sls w a l) (a0 a1 : Addr) (hT : Tb w) (hS : Sn w a0 a1) :
    Calls Tryd.prog 29 #[rv a l.length c h cy t] w fun e w' => Below w.heap.size w w' ∧ ∃ v, e = .returned (.tuple #[v, .bool (gdB l h cy t)]) ∧ OwnT w' w.heap.size v (bifT (gdB l h cy t) (rcs l h t)) := by
  obtain ⟨D, hD⟩ : ∃ D, w.heap.size = D := ⟨_, rfl⟩
  obtain ⟨W0, hW0⟩ : ∃ W0, w.alloc (.cells #[.slice a l.length c, .int .i64 h, .int .i64 cy, .int .i64 t] 24) = W0 := ⟨_, rfl⟩
  have q0 : Below w.heap.size w W0 := by subst hW0; exact below_alloc _ _
  have HA : Hid (W0.heap[D]? = some (.cells #[.slice a l.length c, .int .i64 h, .int .i64 cy, .int .i64 t] 24 (0, 0))) := by subst hW0 hD; exact al1 _ _
  have cG := implGood_any a c l h cy t W0 a0 a1 hn hf hh hcy ht (ha.below q0) (hT.on q0) (hS.on q0)
  have HBd : Hid (gdB l h cy t = true → 2 ≤ l.length ∧ l.length ≤ 24 ∧ 0 ≤ h ∧ h ≤ 10000000 ∧ 0 ≤ t ∧ t ≤ h ∧ h - t ≤ l.length) := fun q => by have := gd_bd q; exact ⟨this.1, this.2.1, this.2.2.1, this.2.2.2.1, this.2.2.2.2.1, this.2.2.2.2.2.1, this.2.2.2.2.2.2.1⟩
  have HT : Hid (∀ i, i < (h - t).toNat → (rcs l h t).take (i + 1) = (rcs l h t).take i ++ [(gs l (((t + (i : Int)) % (l.length : Int)).toNat)).d]) := fun i hi => rcs_take hi
  have HTl : Hid (∀ i, i ≤ (h - t).toNat → ((rcs l h t).take i).length = i) := fun i hi => by simp [rcs]; omega
  have HTe : Hid ((rcs l h t).take (h - t).toNat = rcs l h t) := List.take_of_length_le (by simp [rcs])
  have HS : Hid (RowS w a l.length (gs l)) := ha
  have HC : Hid (∀ k : Int, 0 ≤ k → k ≤ 10000000 → 0 < l.length → l.length ≤ 24 → ∀ W, RowS W a l.length (gs l) → Calls Tryd.prog 59 #[.int .i64 k, .slice a l.length c] W fun e w' => e = .returned (sv (gs l (k % (l.length : Int)).toNat)) ∧ Below W.heap.size W w') := fun k h0 h1 h2 h3 W q => by
    have := slotFor_any k a c l W h2 (by omega) (by omega) (by omega) q
    rwa [show idx l.length k = (k % (l.length : Int)).toNat by unfold idx; rw [if_neg (by omega)]] at this
  obtain ⟨G, hG⟩ : ∃ G, gdB l h cy t = G := ⟨_, rfl⟩
  rw [hG] at cG HBd ⊢
  clear hG ha hf hh hcy ht hn hT hS
  generalize rcs l h t = RL at *
  generalize gs l = g at *
  generalize l.length = n at *
  obtain ⟨x0, x1, x2, x3⟩ := box4_cells HA.out
  go_enter Tryd.func29, Tryd.ntmps29
  go_wp2_with fail
  refine cG.mono ?_
  rintro e w1 ⟨rfl, b1⟩
  clear x0 x1 x2 x3 hW0 cG
  have g1 := Below.comp q0 b1
  cases G with
  | false =>
    go_wp2_with fail
    go_ret2
    exact ⟨by first | exact g1 | exact (hD ▸ g1), _, rfl, OwnT.nil _ _⟩
  | true =>
    have HA1 : Hid _ := box_on HA.out b1
    have HD1 : Hid (w.heap.size = D ∧ D < w1.heap.size) := ⟨hD, box_lt HA1.out⟩
    have HS1 : Hid _ := RowS.below HS.out g1
    have Hbd : Hid _ := HBd.out rfl
    obtain ⟨x0, x1, x2, x3⟩ := box4_cells HA1.out
    obtain ⟨m, hm⟩ : ∃ m, (h - t).toNat = m := ⟨_, rfl⟩
    rw [hm] at HT HTl HTe
    have Hm : Hid _ := hm
    obtain ⟨Z, hZ⟩ : ∃ Z, w1.heap.size = Z := ⟨_, rfl⟩
    have HZ : Hid (w1.heap.size = Z) := hZ
    clear hm hZ HBd HS HA
    go_wp2_with fail
    go_loopw [4, 5] (fun o k wr => ∃ (i : Nat), i ≤ m ∧ k = .int .i64 (t + (i : Int)) ∧ Hid (OwnT wr Z o (RL.take i)) ∧ Hid (Below Z w1 wr)) (fun _ k _ => (h - intOf k).toNat)
    case atStart => exact ⟨0, Nat.zero_le _, by simp, by rw [List.take_zero]; exact OwnT.nil _ _, Below.refl _ _⟩
    case round =>
      obtain ⟨i, hi, rfl, hO, hb⟩ := hrel
      have hbD := Hbd.out
      obtain ⟨k, hk⟩ : ∃ k, t + (i : Int) = k := ⟨_, rfl⟩
      have hOw := hO.out
      unfold OwnT at hOw
      rw [HTl.out i hi] at hOw
      obtain ⟨y, yc, hy⟩ := owns_form hOw
      subst hy
      have hbx : wr.heap[D]? = some (.cells #[.slice a n c, .int .i64 h, .int .i64 cy, .int .i64 t] 24 (0, 0)) := (hb.out.block D (by have := HD1.out; have := HZ.out; omega)).trans HA1.out
      obtain ⟨x0, x1, x2, x3⟩ := box4_cells hbx
      rw [hk]
      by_cases hlt : i < m
      · have hT := HT.out i hlt
        rw [hk] at hT
        obtain ⟨j, hj⟩ : ∃ j, (k % (n : Int)).toNat = j := ⟨_, rfl⟩
        rw [hj] at hT
        have hk0 : 0 ≤ k ∧ k < h := by have := Hm.out; omega
        have hk1 : IntKind.i64.wrap (k + 1) = k + 1 := wrapI (by omega) (by omega)
        have hzw : Z ≤ wr.heap.size := by have := hb.out.size; have := HZ.out; omega
        have hSw : RowS wr a n g := fun hne => by
          obtain ⟨bb, off, rfl, hcell⟩ := HS1.out hne
          have on : ∀ o v, w1.cell? ⟨bb, o, none⟩ = some v → wr.cell? ⟨bb, o, none⟩ = some v := fun o v q => by
            rw [hb.out.cell (p := ⟨bb, o, none⟩) (by have := lt_of_cell q; have := HZ.out; simp; omega)]; exact q
          exact ⟨bb, off, rfl, fun i hi => ⟨on _ _ (hcell i hi).1, on _ _ (hcell i hi).2.1, on _ _ (hcell i hi).2.2.1, on _ _ (hcell i hi).2.2.2⟩⟩
        have cC := HC.out k (by omega) (by omega) (by omega) (by omega) wr hSw
        rw [hj] at cC
        generalize g j = x at *
        obtain ⟨xc, xt, xd, xs⟩ := x
        simp only at hT
        have cC : Calls Tryd.prog 59 #[.int .i64 k, .slice a n c] wr fun e w' => e = .returned (.agg #[.int .i64 xc, .int .i64 xt, .string xd, .int .i64 xs]) ∧ Below wr.heap.size wr w' := cC
        have HO : Hid _ := hOw
        have HTi : Hid _ := hT
        have Hk : Hid _ := hk
        have hm24 : i + 1 ≤ 24 := by have := Hm.out; omega
        have O2 : Hid (∀ W, Below wr.heap.size wr W → W.ownsRow Z 9 1 (.slice y i yc) i (cts (RL.take i))) := fun W hW => owns_below HO.out hW
        clear hOw hT hk hj hO hbD hSw
        have hfd := fieldS2
        go_wp2_with fail
        refine cC.mono ?_
        rintro e w2 ⟨rfl, b2⟩
        clear cC
        have hz2 : Z ≤ w2.heap.size := Nat.le_trans hzw b2.size
        have qa := below_alloc w2 (.cells #[.string xd] 9)
        have O3 := O2.out _ (Below.comp b2 qa)
        have HQ : Hid _ := Below.comp b2 qa
        clear qa
        clear x0 x1 x2 x3
        have hbx2 := box_on hbx HQ.out
        have SRC := new_one w2 (.string xd) 9
        go_wp2_with (refine wpList_append_src rfl _ _ 48 rfl Z 9 _ 1 16 Tryd.underlying48 infoT rfl (by decide) (.slice y i yc) i _ rfl O3 (some ⟨w2.heap.size, 0, none⟩) 1 1 (cts [xd]) rfl rfl (.inr ⟨_, rfl, SRC⟩) (cts_one _) (by omega) (by decide) (Nat.le_trans hz2 (below_alloc w2 _).size) ?_; intro v3 w3 own3 gr3; have b3 : Below Z wr w3 := grown_on (HQ.out.mono hzw) (Nat.le_trans hz2 (below_alloc w2 _).size) O3 gr3; obtain ⟨y3, cy3, rfl⟩ := owns_form own3)
        go_roundw
        case rel =>
          refine ⟨i + 1, by omega, by have := Hk.out; rw [← this]; congr 1; omega, ?_, hb.out.trans b3⟩
          show OwnT _ _ _ _
          unfold OwnT
          rw [HTl.out (i + 1) (by omega), HTi.out, cts_app]
          exact own3
        case measure => have := Hk.out; simp [intOf]; omega
      · obtain rfl : i = m := by omega
        have hkh : ¬ (k < h) := by have := Hm.out; omega
        have HO : Hid (OwnT wr Z (.slice y i yc) (RL.take i)) := hO.out
        have HbD : Hid _ := hbD
        clear hOw hO hk hbD
        go_wp2
        go_ret2
        have gE : Below w.heap.size w wr := g1.trans (hb.out.mono (by have := HZ.out; have := g1.size; omega))
        refine ⟨by first | exact gE | exact (hD ▸ gE), _, rfl, ?_⟩
        have q : OwnT wr Z (.slice y i yc) (RL.take i) := HO.out
        rw [HTe.out] at q
        exact owns_mono q (by have := HD1.out; have := HZ.out; omega)
end Go.Proofs.YtcfjkejaenmibaaDoor
