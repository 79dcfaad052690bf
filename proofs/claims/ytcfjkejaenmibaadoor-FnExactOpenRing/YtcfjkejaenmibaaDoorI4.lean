import Derived.Test.YtcfjkejaenmibaaDoorI3
/- The program: good records. -/
namespace Go.Proofs.YtcfjkejaenmibaaDoor
open Go.ChangeShapes Go.WideShapes Go.ChangeAt Go.RowKit
set_option linter.unusedVariables false
open Lg

attribute [local go_sem] Oper.semAt_some

/-- Of a record: it lies in its slot, or it counts no more and its slot is blank. -/
def rcK (l : List Sl) (t k : Int) : Bool := decide (frN l k = 0) || (decide (k < t) && decide (frN l k = 1))
def rcN (l : List Sl) (h t : Int) : Nat → Bool
  | 0 => true
  | i + 1 => rcN l h t i && rcK l t (h - l.length + i)
theorem rcN_no {l : List Sl} {h t : Int} {i : Nat} (hi : rcN l h t i = false) : ∀ j, i ≤ j → rcN l h t j = false := by
  intro j hj
  induction j with
  | zero => obtain rfl : i = 0 := by omega
            exact hi
  | succ j ih =>
    by_cases e : i = j + 1
    · rw [← e]; exact hi
    · unfold rcN
      rw [ih (by omega)]
      rfl
theorem frN_le (l : List Sl) (k : Int) : frN l k ≤ 2 := by unfold frN; split <;> (try split) <;> omega
theorem fr0 (k : Int) (a0 a1 : Addr) : frV 0 k a0 a1 = .nilIface := rfl
theorem fr1 (k : Int) (a0 a1 : Addr) : frV 1 k a0 a1 = .iface 82 (fv k 136 a0) := rfl
theorem fr2 (k : Int) (a0 a1 : Addr) : frV 2 k a0 a1 = .iface 82 (fv k 136 a1) := rfl
set_option maxRecDepth 20000 in
set_option maxHeartbeats 4000000 in
theorem records_any (a : Option Addr) (c : Nat) (l : List Sl) (h cy t : Int) (w : World) (a0 a1 : Addr) (hf : ∀ i, i < l.length → Few (gs l i)) (hbd : bdB l.length h cy t = true) (ha : Sls w a l) (hT : Tb w) (hS : Sn w a0 a1) :
    Calls Tryd.prog 50 #[rv a l.length c h cy t] w fun e w' => e = .returned (.bool (rcN l h t l.length)) ∧ Below w.heap.size w w' := by
  have hp : Hid _ := bd_is.1 hbd
  have HN : Hid (∀ i, i ≤ l.length → rcN l h t i = false → false = rcN l h t l.length) := fun i h1 h2 => (rcN_no h2 _ h1).symm
  have HY : Hid (∀ i, l.length ≤ i → i ≤ l.length → rcN l h t i = true → true = rcN l h t l.length) := fun i h1 h2 h3 => by rw [Nat.le_antisymm h1 h2]; exact h3.symm
  have Hst : Hid (∀ i, rcN l h t i = true → rcN l h t (i + 1) = rcK l t (h - l.length + i)) := fun i q => by show (rcN l h t i && _) = _; rw [q]; rfl
  have H00 : Hid (rcN l h t 0 = true) := rfl
  obtain ⟨G, hG⟩ : ∃ G, rcN l h t l.length = G := ⟨_, rfl⟩
  rw [hG] at HN HY ⊢
  clear hG hbd
  have CF : Hid (∀ k, -(l.length : Int) ≤ k → k ≤ 10000000 → ∀ W, Below w.heap.size w W → Calls Tryd.prog 66 #[.slice a l.length c, .int .i64 k] W fun e w' => e = .returned (frV (frN l k) k a0 a1) ∧ Below W.heap.size W w') := fun k h1 h2 W q => findRecord_any k a c l W a0 a1 (by have := hp.out; omega) h1 (by have := hp.out; omega) (by omega) hf (RowS.below ha q) (hT.on q) (hS.on q)
  clear ha hf hT
  obtain ⟨n, hnl⟩ : ∃ n, l.length = n := ⟨_, rfl⟩
  rw [hnl] at hp HN HY Hst CF ⊢
  clear hnl
  obtain ⟨D, hD⟩ : ∃ D, w.heap.size = D := ⟨_, rfl⟩
  obtain ⟨W0, hW0⟩ : ∃ W0, w.alloc (.cells #[.slice a n c, .int .i64 h, .int .i64 cy, .int .i64 t] 24) = W0 := ⟨_, rfl⟩
  have q0 : Below w.heap.size w W0 := by subst hW0; exact below_alloc _ _
  have HA : Hid (W0.heap[D]? = some (.cells #[.slice a n c, .int .i64 h, .int .i64 cy, .int .i64 t] 24 (0, 0))) := by subst hW0 hD; exact al1 _ _
  obtain ⟨x0, x1, x2, x3⟩ := box4_cells HA.out
  obtain ⟨kz, hkz⟩ : ∃ kz, h - (n : Int) = kz := ⟨_, rfl⟩
  have hwk : IntKind.i64.wrap (h - (n : Int)) = kz := by have := hp.out; rw [← hkz]; exact wrapI (by omega) (by omega)
  have Hkz : Hid _ := hkz
  rw [hkz] at Hst
  clear hkz
  go_enter Tryd.func50, Tryd.ntmps50
  go_wp2
  clear hW0 x0 x1 x2 x3 hwk
  go_loopw [3] (fun k wr => ∃ (i : Nat), i ≤ n ∧ k = .int .i64 (kz + i) ∧ Hid (rcN l h t i = true) ∧ Below W0.heap.size W0 wr) (fun k _ => (h - intOf k).toNat)
  case atStart => exact ⟨0, Nat.zero_le _, by simp, H00, Below.refl _ _⟩
  case round =>
    obtain ⟨i, hi, rfl, hR, hb⟩ := hrel
    obtain ⟨x0, x1, x2, x3⟩ := box4_cells (box_on HA.out hb)
    obtain ⟨k, hk⟩ : ∃ k, kz + (i : Int) = k := ⟨_, rfl⟩
    rw [hk]
    have Hk : Hid (kz + (i : Int) = k) := hk
    clear hk
    by_cases hlt : i < n
    · have hkh : k < h := by have := Hk.out; have := Hkz.out; omega
      have hstp := Hst.out i hR.out
      rw [Hk.out] at hstp
      have hk1 : IntKind.i64.wrap (k + 1) = k + 1 := wrapI (by have := Hk.out; have := Hkz.out; have := hp.out; omega) (by have := Hk.out; have := Hkz.out; have := hp.out; omega)
      have cF := CF.out k (by have := Hk.out; have := Hkz.out; have := hp.out; omega) (by have := hp.out; omega)
      have hb2 := Below.comp q0 hb
      have hle := frN_le l k
      unfold rcK at hstp
      obtain ⟨r, hr⟩ : ∃ r, frN l k = r := ⟨_, rfl⟩
      rw [hr] at cF hle hstp
      clear hr
      have hr : r = 0 ∨ r = 1 ∨ r = 2 := by omega
      clear hle
      by_cases hkt : k < t
      · rcases hr with rfl | rfl | rfl
        · have Hs : Hid (rcN l h t (i + 1) = true) := by rw [hstp]; rfl
          rw [fr0] at cF
          clear hstp
          go_wp2_with fail
          refine (cF _ hb2).mono ?_
          rintro e w1 ⟨rfl, b1⟩
          have bb := Below.comp hb b1
          have gW := Below.comp q0 bb
          obtain ⟨x0, x1, x2, x3⟩ := box4_cells (box_on HA.out bb)
          have hSn := hS.on gW
          have hg0 := hSn.g0
          go_wp2_with fail
          refine (is_nil a0 _).mono ?_
          rintro e w2 ⟨rfl, hww⟩
          have hww := hww.symm
          subst hww
          have bb2 := bb
          go_wp2_with fail
          go_roundw
          case rel => exact ⟨i + 1, by omega, by have := Hk.out; rw [← this]; congr 1; omega, Hs, bb2⟩
          case measure => have := Hk.out; simp [intOf]; omega
        · have Hs : Hid (rcN l h t (i + 1) = true) := hstp.trans (by simp [hkt])
          rw [fr1] at cF
          clear hstp
          go_wp2_with fail
          refine (cF _ hb2).mono ?_
          rintro e w1 ⟨rfl, b1⟩
          have bb := Below.comp hb b1
          have gW := Below.comp q0 bb
          obtain ⟨x0, x1, x2, x3⟩ := box4_cells (box_on HA.out bb)
          have hSn := hS.on gW
          have hg0 := hSn.g0
          go_wp2_with fail
          refine (is_same k a0 _).mono ?_
          rintro e w2 ⟨rfl, b2⟩
          have bb2 := Below.comp bb b2
          clear x0 x1 x2 x3
          obtain ⟨x0, x1, x2, x3⟩ := box4_cells (box_on HA.out bb2)
          go_wp2_with fail
          go_roundw
          case rel => exact ⟨i + 1, by omega, by have := Hk.out; rw [← this]; congr 1; omega, Hs, bb2⟩
          case measure => have := Hk.out; simp [intOf]; omega
        · obtain rfl := HN.out (i + 1) (by omega) (by rw [hstp]; simp)
          rw [fr2] at cF
          clear hstp
          go_wp2_with fail
          refine (cF _ hb2).mono ?_
          rintro e w1 ⟨rfl, b1⟩
          have bb := Below.comp hb b1
          have gW := Below.comp q0 bb
          obtain ⟨x0, x1, x2, x3⟩ := box4_cells (box_on HA.out bb)
          have hSn := hS.on gW
          have hg0 := hSn.g0
          obtain ⟨cc0, ct0, hcb0⟩ := hSn.b0
          obtain ⟨cc1, ct1, hcb1⟩ := hSn.b1
          have hnn := hSn.ne
          go_wp2_with fail
          refine (is_other k a1 a0 cc1 cc0 ct1 ct0 _ (fun q => hnn q.symm) hcb1 hcb0).mono ?_
          rintro e w2 ⟨rfl, b2⟩
          have bb2 := Below.comp bb b2
          clear x0 x1 x2 x3
          obtain ⟨x0, x1, x2, x3⟩ := box4_cells (box_on HA.out bb2)
          go_wp2_with fail
          go_ret
          have gE := Below.comp q0 bb2
          exact ⟨rfl, by first | exact gE | exact (hD ▸ gE)⟩
      · rcases hr with rfl | rfl | rfl
        · have Hs : Hid (rcN l h t (i + 1) = true) := by rw [hstp]; rfl
          rw [fr0] at cF
          clear hstp
          go_wp2_with fail
          refine (cF _ hb2).mono ?_
          rintro e w1 ⟨rfl, b1⟩
          have bb := Below.comp hb b1
          have gW := Below.comp q0 bb
          obtain ⟨x0, x1, x2, x3⟩ := box4_cells (box_on HA.out bb)
          have hSn := hS.on gW
          have hg0 := hSn.g0
          have bb2 := bb
          go_wp2_with fail
          go_roundw
          case rel => exact ⟨i + 1, by omega, by have := Hk.out; rw [← this]; congr 1; omega, Hs, bb2⟩
          case measure => have := Hk.out; simp [intOf]; omega
        · obtain rfl := HN.out (i + 1) (by omega) (by rw [hstp]; simp [hkt])
          rw [fr1] at cF
          clear hstp
          go_wp2_with fail
          refine (cF _ hb2).mono ?_
          rintro e w1 ⟨rfl, b1⟩
          have bb := Below.comp hb b1
          have gW := Below.comp q0 bb
          obtain ⟨x0, x1, x2, x3⟩ := box4_cells (box_on HA.out bb)
          have hSn := hS.on gW
          have hg0 := hSn.g0
          have bb2 := bb
          go_wp2_with fail
          go_ret
          have gE := Below.comp q0 bb2
          exact ⟨rfl, by first | exact gE | exact (hD ▸ gE)⟩
        · obtain rfl := HN.out (i + 1) (by omega) (by rw [hstp]; simp [hkt])
          rw [fr2] at cF
          clear hstp
          go_wp2_with fail
          refine (cF _ hb2).mono ?_
          rintro e w1 ⟨rfl, b1⟩
          have bb := Below.comp hb b1
          have gW := Below.comp q0 bb
          obtain ⟨x0, x1, x2, x3⟩ := box4_cells (box_on HA.out bb)
          have hSn := hS.on gW
          have hg0 := hSn.g0
          have bb2 := bb
          go_wp2_with fail
          go_ret
          have gE := Below.comp q0 bb2
          exact ⟨rfl, by first | exact gE | exact (hD ▸ gE)⟩
    · have hkh : ¬ k < h := by have := Hk.out; have := Hkz.out; omega
      obtain rfl := HY.out i (by omega) hi hR.out
      go_wp2
      go_ret
      have gE := Below.comp q0 hb
      exact ⟨rfl, by first | exact gE | exact (hD ▸ gE)⟩
end Go.Proofs.YtcfjkejaenmibaaDoor
