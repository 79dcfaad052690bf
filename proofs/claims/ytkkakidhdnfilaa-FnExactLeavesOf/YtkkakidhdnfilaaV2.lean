import Derived.Test.YtkkakidhdnfilaaV1
/- The specification: a leaf at a place below a cell. -/
namespace Go.Proofs.Ytkkakidhdnfilaa
open Go.ChangeShapes Go.WideShapes Go.ChangeAt Go.RowKit
set_option linter.unusedVariables false
open Hd

attribute [local go_sem] Oper.semAt_some

set_option maxHeartbeats 4000000 in
theorem specLeaf_any {c : Co} (hok : ∀ i, i < c.cs.length → okC (gc c.cs i) = true) (v : Value) (w : World) (hc : CowAt w v c) (hn : c.cs.length ≤ 80) (l : Nat) (hl : l ≤ 2) (hlv0 : c.lv = (l : Int) + 1) (k : Int) (hk : isO c.cs (l + 1) k = true) (t : Nat) (ht : t < 4 ^ l) :
    Calls Try.prog 50 #[v, .int .i64 k, .int .i64 (t : Int)] w fun e w' => e = .returned (.string (la c.cs l k t)) ∧ Below w.heap.size w w' := by
  obtain ⟨a, ca, a', ca', rfl, -, -, hI, -⟩ := hc
  obtain ⟨l0, hl0⟩ : ∃ l0, l = l0 := ⟨_, rfl⟩
  have hlv : c.lv = (l0 : Int) + 1 := by rw [← hl0]; exact hlv0
  clear hlv0
  obtain ⟨W0, hW0⟩ : ∃ W0, w.alloc (.cells #[.slice a c.cs.length ca, .slice a' c.rs.length ca', .int .i64 c.lv] 25) = W0 := ⟨_, rfl⟩
  have q0 : Below w.heap.size w W0 := by subst hW0; exact below_alloc _ _
  have H1 : Hid (W0.heap[w.heap.size]? = some (.cells #[.slice a c.cs.length ca, .slice a' c.rs.length ca', .int .i64 c.lv] 25 (0, 0))) := by subst hW0; exact al1 _ _
  obtain ⟨i0, i1, i2⟩ := box3_one H1.out
  have HI : Hid (∀ W, Below w.heap.size w W → Ces W a c.cs) := fun W h => hI.below h
  obtain ⟨R, hR⟩ : ∃ R, la c.cs l k t = R := ⟨_, rfl⟩
  have HR : Hid _ := hR
  have Hok : Hid _ := hok
  have Hk : Hid _ := hk
  rw [hR]
  clear hR hI hok hk
  unfold kv at *
  rw [hlv] at *
  have s1 := size_any 1 (by omega)
  have s2 := size_any 2 (by omega)
  go_enter Try.func50, Try.ntmps50
  go_wp2
  go_loopw [1, 2, 7] (fun s1 s2 s7 wr => ∃ (x : Int) (t l : Nat), l ≤ 2 ∧ s1 = .int .i64 x ∧ s2 = .int .i64 (t : Int) ∧ s7 = .int .i64 ((l : Int) + 1) ∧ Hid (isO c.cs (l + 1) x = true) ∧ t < 4 ^ l ∧ Hid (la c.cs l x t = R) ∧ Below W0.heap.size W0 wr) (fun _ _ s7 _ => (intOf s7).toNat)
  case atStart => exact ⟨k, t, l, hl, rfl, rfl, by rw [hl0], Hk, ht, HR, Below.refl _ _⟩
  case round =>
    obtain ⟨x, t, l, hl2, rfl, rfl, rfl, hx, htl, hla, hb⟩ := hrel
    clear ht hl hlv
    have hbw := q0.trans (hb.mono q0.size)
    have H2 : Hid (wr.heap[w.heap.size]? = some (.cells #[.slice a c.cs.length ca, .slice a' c.rs.length ca', .int .i64 ((l0 : Int) + 1)] 25 (0, 0))) := box_on H1.out hb
    clear i0 i1 i2
    obtain ⟨i0, i1, i2⟩ := box3_one H2.out
    by_cases hx0 : x < 0
    · have e0 : R = ⟨#[]⟩ := by
        rw [← hla.out]
        match l with
        | 0 => unfold la; rw [if_pos hx0]
        | l + 1 => unfold la; rw [if_pos hx0]
      subst e0
      have hx1 : ¬ 0 ≤ x := by omega
      go_wp2
      go_ret
      exact ⟨rfl, hbw⟩
    · obtain ⟨q, rfl⟩ : ∃ q : Nat, x = q := ⟨x.toNat, by omega⟩
      have hin : inR c.cs.length (q : Int) ∧ (gc c.cs q).ct ≠ 0 ∧ ((gc c.cs q).kd = [] ↔ l = 0) ∧ ∀ x, x ∈ (gc c.cs q).kd → isO c.cs l x = true := by
        rcases isO_succ.1 hx.out with e | h
        · omega
        · rwa [Int.toNat_natCast] at h
      obtain ⟨hr, hct, hz, hK⟩ := hin
      have hq : q < c.cs.length := by have := hr.2; omega
      have hkn : (q : Int) < (c.cs.length : Int) := by omega
      obtain ⟨b, off, rfl, hcell⟩ := (HI.out wr hbw) (by omega)
      obtain ⟨ka, kc, k0, k1, k2, k3, -⟩ := hcell q hq
      clear hcell
      have ho := Hok.out q hq
      unfold okC at ho
      rw [if_neg hct] at ho
      by_cases hl0 : l = 0
      · subst hl0
        have e0 : R = (gc c.cs q).lf := by
          rw [← hla.out]
          unfold la
          rw [if_neg hx0]
          rfl
        clear hz hK k3 ho hct htl hx
        have HE : Hid (R = (gc c.cs q).lf) := e0
        clear e0 hla
        have hx1 : (0 : Int) ≤ (q : Int) := by omega
        go_wp2
        go_ret
        exact ⟨by rw [HE.out]; rfl, hbw⟩
      · have hkd : ¬ (gc c.cs q).kd = [] := fun e => hl0 (hz.1 e)
        rw [if_neg hkd] at ho
        simp at ho
        have h4 := ho.1
        obtain ⟨l, rfl⟩ : ∃ l', l = l' + 1 := ⟨l - 1, by omega⟩
        have hdt : t / 4 ^ l < 4 := by
          rw [Nat.div_lt_iff_lt_mul (Nat.pow_pos (by omega)), Nat.mul_comm, ← Nat.pow_succ]
          exact htl
        have hx2 : Hid (isO c.cs (l + 1) (gi (gc c.cs q).kd (t / 4 ^ l)) = true) := hK _ (by rw [gi_eq (by omega)]; exact List.getElem_mem _)
        have hla2 : Hid (la c.cs l (gi (gc c.cs q).kd (t / 4 ^ l)) (t % 4 ^ l) = R) := by
          rw [← hla.out]
          show _ = _
          conv => rhs; unfold la
          rw [if_neg hx0]
          rfl
        have htl2 : t % 4 ^ l < 4 ^ l := Nat.mod_lt _ (Nat.pow_pos (by omega))
        obtain ⟨kb, ko, rfl, hkc⟩ := k3 (by omega)
        have k4 := hkc (t / 4 ^ l) (by omega)
        clear hkc hz hK ho hct hx hla hkd hl0
        rw [h4] at k2
        clear h4
        generalize gc c.cs q = C at *
        match l, hl2 with
        | 0, _ =>
          simp only [Nat.pow_zero, Nat.div_one, Nat.mod_one] at *
          have htn : (t : Int) < 4 := by omega
          have e4 : IntKind.i64.wrap ((t : Int).tdiv 1) = (t : Int) := by rw [Int.tdiv_one]; exact wrapI (by omega) (by omega)
          go_wp2_with fail
          refine (s1 _).mono ?_
          rintro e w1' ⟨rfl, hw⟩
          have hw' := hw.symm
          subst hw'
          clear hw
          go_wp2_with fail
          go_quiet (fail)
          go_wp2
          go_roundw
          case rel => exact ⟨_, 0, 0, by omega, rfl, rfl, rfl, hx2, by simp, hla2, below_drewN hb _⟩
          case measure => simp [intOf]
        | 1, _ =>
          simp only [Nat.pow_one] at *
          have htn : (t : Int) < 16 := by omega
          have e4 : IntKind.i64.wrap ((t : Int).tdiv 4) = ((t / 4 : Nat) : Int) := by
            rw [show (t : Int).tdiv 4 = ((t / 4 : Nat) : Int) by rw [Int.tdiv_eq_ediv_of_nonneg (by omega)]; rfl]; exact wrapI (by omega) (by omega)
          have e5 : IntKind.i64.wrap ((t : Int).tmod 4) = ((t % 4 : Nat) : Int) := by
            rw [show (t : Int).tmod 4 = ((t % 4 : Nat) : Int) by rw [Int.tmod_eq_emod_of_nonneg (by omega)]; rfl]; exact wrapI (by omega) (by omega)
          have hd4 : ((t / 4 : Nat) : Int) < 4 := by omega
          go_wp2_with fail
          refine (s2 _).mono ?_
          rintro e w1' ⟨rfl, hw⟩
          have hw' := hw.symm
          subst hw'
          clear hw
          go_wp2_with fail
          go_quiet (fail)
          go_wp2
          go_roundw
          case rel => exact ⟨_, t % 4, 1, by omega, rfl, by simp, rfl, hx2, by simp; omega, hla2, below_drewN hb _⟩
          case measure => simp [intOf]
set_option maxHeartbeats 2000000 in
theorem places14_any (a : Option Addr) (n ca : Nat) (a' : Option Addr) (n' ca' : Nat) (l : Nat) (hl : l ≤ 2) (w : World) :
    Calls Try.prog 49 #[kv a n ca a' n' ca' ((l : Int) + 1)] w fun e w' => e = .returned (.int .i64 ((4 ^ l : Nat) : Int)) ∧ Below w.heap.size w w' := by
  obtain ⟨W0, hW0⟩ : ∃ W0, w.alloc (.cells #[.slice a n ca, .slice a' n' ca', .int .i64 ((l : Int) + 1)] 25) = W0 := ⟨_, rfl⟩
  have q0 : Below w.heap.size w W0 := by subst hW0; exact below_alloc _ _
  have H1 : Hid (W0.heap[w.heap.size]? = some (.cells #[.slice a n ca, .slice a' n' ca', .int .i64 ((l : Int) + 1)] 25 (0, 0))) := by subst hW0; exact al1 _ _
  obtain ⟨i0, i1, i2⟩ := box3_one H1.out
  have cs := size_any (l + 1) (by omega)
  rw [show ((l + 1 : Nat) : Int) + 1 = (l : Int) + 2 by omega] at cs
  have e1 : IntKind.i64.wrap ((l : Int) + 1 + 1) = (l : Int) + 2 := by rw [show (l : Int) + 1 + 1 = (l : Int) + 2 by omega]; exact wrapI (by omega) (by omega)
  have hp : 4 ^ l ≤ 16 := by
    match l, hl with
    | 0, _ => decide
    | 1, _ => decide
    | 2, _ => decide
  rw [Nat.pow_succ] at cs
  generalize 4 ^ l = N at *
  have e2 : IntKind.i64.wrap (((N * 4 : Nat) : Int).tdiv 4) = (N : Int) := by
    rw [show ((N * 4 : Nat) : Int).tdiv 4 = (N : Int) by rw [Int.tdiv_eq_ediv_of_nonneg (by omega)]; omega]; exact wrapI (by omega) (by omega)
  unfold kv
  go_enter Try.func49, Try.ntmps49
  go_wp2_with fail
  refine (cs _).mono ?_
  rintro e w1' ⟨rfl, hw⟩
  have hw' := hw.symm
  subst hw'
  clear hw
  go_wp2
  go_ret
  refine ⟨?_, q0⟩
  simp
end Go.Proofs.Ytkkakidhdnfilaa
