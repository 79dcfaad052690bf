import Derived.Test.YtcfjkejaenmibaaDoorI9
/- The program: the first of a run of records. -/
namespace Go.Proofs.YtcfjkejaenmibaaDoor
open Go.ChangeShapes Go.WideShapes Go.ChangeAt Go.RowKit
set_option linter.unusedVariables false
open Lg

attribute [local go_sem] Oper.semAt_some

set_option maxRecDepth 20000 in
set_option maxHeartbeats 4000000 in
theorem firstOfRun_any (k : Int) (a : Option Addr) (c : Nat) (l : List Sl) (w : World) (a0 a1 : Addr) (hn : 2 ≤ l.length ∧ l.length ≤ 24) (hk : 0 ≤ k) (hk2 : k ≤ 24000024) (h0 : frN l k = 0) (hf : ∀ i, i < l.length → Few (gs l i)) (ha : Sls w a l) (hT : Tb w) (hS : Sn w a0 a1) (hE : Et w) :
    Calls Tryd.prog 62 #[.slice a l.length c, .int .i64 k] w fun e w' => e = .returned (.int .i64 (k - rn l k l.length + 1)) ∧ Below w.heap.size w w' := by
  have HF : Hid (∀ j : Nat, j ≤ rn l k l.length → -1 ≤ k - j) := fun j hj => by
    by_cases e : j = 0
    · omega
    · have := rn_all l l.length k (j - 1) (by omega)
      by_cases q : k - ((j - 1 : Nat) : Int) < 0
      · exact absurd this (fr_neg q)
      · omega
  have HA : Hid (∀ j : Nat, j < rn l k l.length → frN l (k - j) = 0) := rn_all l _ k
  have HZ : Hid (frN l (k - rn l k l.length) ≠ 0) := rn_end (by omega) h0
  have Hle : Hid (rn l k l.length ≤ l.length) := rn_le l _ k
  have CF : Hid (∀ q, -(l.length : Int) ≤ q → q ≤ 24000024 → ∀ W, Below w.heap.size w W → Calls Tryd.prog 66 #[.slice a l.length c, .int .i64 q] W fun e w' => e = .returned (frV (frN l q) q a0 a1) ∧ Below W.heap.size W w') := fun q h1 h2 W b => findRecord_any q a c l W a0 a1 (by omega) h1 (by omega) (by omega) hf (RowS.below ha b) (hT.on b) (hS.on b)
  generalize rn l k l.length = m at *
  have Hn : Hid _ := hn
  clear ha hf hT h0 hn
  generalize l.length = n at *
  obtain ⟨D, hD⟩ : ∃ D, w.heap.size = D := ⟨_, rfl⟩
  obtain ⟨W0, hW0⟩ : ∃ W0, w.alloc (.cells #[.int .i64 0, .nilIface] 82) = W0 := ⟨_, rfl⟩
  have q0 : Below w.heap.size w W0 := by subst hW0; exact below_alloc _ _
  have HB : Hid (W0.heap[D]? = some (.cells #[.int .i64 0, .nilIface] 82 (0, 0))) := by subst hW0 hD; exact al1 _ _
  go_enter Tryd.func62, Tryd.ntmps62
  go_wp2
  clear hW0
  go_loopw [6] (fun q wr => ∃ (j : Nat), j ≤ m ∧ q = .int .i64 (k - j) ∧ Below W0.heap.size W0 wr) (fun q _ => (intOf q + 1).toNat)
  case atStart => exact ⟨0, Nat.zero_le _, by simp, Below.refl _ _⟩
  case round =>
    obtain ⟨j, hj, rfl, hb⟩ := hrel
    have hlow := HF.out j hj
    have cF := CF.out (k - j) (by have := Hn.out; omega) (by omega) wr (Below.comp q0 hb)
    have hle := frN_le l (k - j)
    obtain ⟨q, hq⟩ : ∃ q, k - (j : Int) = q := ⟨_, rfl⟩
    rw [hq] at cF hle hlow ⊢
    have Hq : Hid _ := hq
    clear hq
    have hw1 : IntKind.i64.wrap (q - 1) = q - 1 := by have := Hq.out; exact wrapI (by omega) (by omega)
    have hw2 : IntKind.i64.wrap (q + 1) = q + 1 := by have := Hq.out; exact wrapI (by omega) (by omega)
    have hE0 := Et.on (Et.on hE q0) hb
    by_cases hjm : j < m
    · have h0 := HA.out j hjm
      rw [Hq.out] at h0
      rw [h0, fr0] at cF
      have hq0 : 0 ≤ q := by
        have := HF.out (j + 1) (by omega)
        have := Hq.out
        omega
      go_wp2_with fail
      refine cF.mono ?_
      rintro e w1 ⟨rfl, b1⟩
      go_wp2_with fail
      refine (as_none _ _).mono ?_
      rintro e w2 ⟨rfl, hww⟩
      have hww := hww.symm
      subst hww
      go_wp2_with fail
      go_roundw
      case rel => exact ⟨j + 1, by omega, by have := Hq.out; congr 1; omega, Below.comp hb b1⟩
      case measure => simp [intOf]; omega
    · obtain rfl : j = m := by omega
      have h0 := HZ.out
      rw [Hq.out] at h0
      obtain ⟨f, hf⟩ : ∃ f, frN l q = f := ⟨_, rfl⟩
      rw [hf] at cF hle h0
      have hx : ∃ ax, frV f q a0 a1 = .iface 82 (fv q 136 ax) := by
        have : f = 1 ∨ f = 2 := by omega
        rcases this with rfl | rfl
        · exact ⟨a0, rfl⟩
        · exact ⟨a1, rfl⟩
      obtain ⟨ax, hx⟩ := hx
      rw [hx] at cF
      have HBr : Hid _ := box_on HB.out hb
      clear hf hx h0 hle
      go_wp2_with fail
      refine cF.mono ?_
      rintro e w1 ⟨rfl, b1⟩
      go_wp2_with fail
      refine (as_fault q ax D _ _ _ (box_on HBr.out b1) (Et.on hE0 b1)).mono ?_
      rintro e w2 ⟨rfl, hD2, o2⟩
      obtain ⟨c0, c1, -, -⟩ := box2_cells hD2
      have gE : Below w.heap.size w w2 := (Below.comp q0 (Below.comp hb b1)).trans ((o2.below (by have := box_lt (box_on HBr.out b1); omega)).mono (by omega))
      go_wp2_with fail
      go_ret
      exact ⟨by rw [Hq.out]; rfl, by first | exact gE | exact (hD ▸ gE)⟩
end Go.Proofs.YtcfjkejaenmibaaDoor
