import Derived.Test.YthioomihpfmlmaaDoorT2
/- The program: a path cut into names. -/
namespace Go.Proofs.YthioomihpfmlmaaDoor
open Go.ChangeShapes Go.WideShapes Go.ChangeAt Go.RowKit
set_option linter.unusedVariables false
open Hd

attribute [local go_sem] Oper.semAt_some

def subS (x : Option Addr) (k c : Nat) : Option Addr := if c = k then x else x.map (·.add (k * 1))
theorem sliceS_from (x : Option Addr) (n c k : Nat) (h : k ≤ n) (w : World) : (Instr.slice 41 (.slice x n c) (some (.int .i64 (k : Int))) none none).run Tryd.prog w = .ok (.slice (subS x k c) (n - k) (c - k)) w := by
  rw [run_slice_l w 41 x n c (by kernel_rfl) .i64 k (by omega) (by omega), show Tryd.prog.elem 41 = 9 from by kernel_rfl, Tryd.sizeOf9]
  simp [Result.andThen, sliced, subS]
theorem gs_drop {l : List ByteArray} {k i : Nat} : gs (l.drop k) i = gs l (k + i) := by simp [gs]
theorem Strs.drop {w : World} {a : Option Addr} {l : List ByteArray} (h : Strs w a l) (c k : Nat) (hc : l.length ≤ c) : Strs w (subS a k c) (l.drop k) := by
  intro hn
  simp at hn
  obtain ⟨b, off, rfl, hcell⟩ := h (by omega)
  refine ⟨b, off + k, ?_, fun i hi => ?_⟩
  · unfold subS
    rw [if_neg (by omega)]
    show some ((⟨b, off, none⟩ : Addr).add (k * 1)) = _
    rw [addN, Nat.mul_one]
  · simp at hi
    show w.cell? _ = some (.string (gs (l.drop k) i))
    rw [gs_drop]
    have := hcell (k + i) (by omega)
    rw [show off + k + i = off + (k + i) by omega]
    exact this
theorem Strs.on {w w' : World} {a : Option Addr} {l : List ByteArray} (h : Strs w a l) (hb : Below w.heap.size w w') : Strs w' a l := At.below h hb
theorem ext_small (p : ByteArray) (i j : Nat) : (p.extract i j).size ≤ p.size := by rw [ByteArray.size_extract]; omega
theorem pcs_small (p : ByteArray) : ∀ (m k : Nat), p.size - k ≤ m → k ≤ p.size → ∀ x, x ∈ pcs p k → x.size ≤ p.size := by
  intro m
  induction m with
  | zero =>
    intro k hk hk' x hx
    rw [pcs_step hk', nx_end (by omega), if_neg (by omega)] at hx
    rcases List.mem_cons.1 hx with e | e
    · rw [e]; exact ext_small _ _ _
    · cases e
  | succ m ih =>
    intro k hk hk' x hx
    rw [pcs_step hk'] at hx
    rcases List.mem_cons.1 hx with e | e
    · rw [e]; exact ext_small _ _ _
    · by_cases h : nx p k < p.size
      · rw [if_pos h] at e
        have hge := nx_ge p k
        exact ih _ (by omega) (by omega) x e
      · rw [if_neg h] at e
        cases e
set_option maxHeartbeats 4000000 in
set_option maxRecDepth 100000 in
theorem namesIn_any (p : ByteArray) (w : World) (hp : p.size ≤ 1048576) : Calls Tryd.prog 24 #[.string p] w (PathR w p) := by
  have he := eqs_is p ⟨#[47]⟩
  rw [sl1_list] at he
  by_cases hr : p = ⟨#[47]⟩
  · rw [decide_eq_true hr] at he
    have HPN : Hid (PN p = some []) := by show _ = _; rw [hr]; exact PN_root
    clear hr
    go_enter Tryd.func24, Tryd.ntmps24
    go_wp2
    go_ret2
    exact ⟨Below.refl _ _, .inl ⟨[], none, 0, HPN.out, rfl, Nat.le_refl _, Strs.nil⟩⟩
  · rw [decide_eq_false hr] at he
    have cS := split_any p w hp
    obtain ⟨L, hL⟩ : ∃ L, pcs p 0 = L := ⟨_, rfl⟩
    have hne : L ≠ [] := by rw [← hL]; exact pcs_ne p (Nat.zero_le _)
    have HPN : Hid (PN p = if gs L 0 = ⟨#[]⟩ ∧ 1 ≤ (L.drop 1).length ∧ (L.drop 1).length ≤ 8 ∧ (L.drop 1).all isN = true then some (L.drop 1) else none) := by
      show _ = _
      unfold PN
      rw [if_neg (show ¬ p = sl1 from hr), hL]
      cases L with
      | nil => exact absurd rfl hne
      | cons a t => rfl
    have HSM : Hid (∀ i, i < L.length → (gs L i).size ≤ 9223372036854775807) := fun i hi => by
      have hm : gs L i ∈ pcs p 0 := by rw [hL, gs_eq hi]; exact List.getElem_mem _
      have := pcs_small p p.size 0 (by omega) (Nat.zero_le _) _ hm
      omega
    rw [hL] at cS
    have hN1 : 1 ≤ L.length := List.length_pos_iff.2 hne
    have hln : (L.drop 1).length = L.length - 1 := by simp
    rw [hln] at HPN
    clear hr hne hL hln
    generalize hNL : L.length = N at *
    have HNL : Hid _ := hNL
    clear hNL
    go_enter Tryd.func24, Tryd.ntmps24
    go_wp2_with fail
    refine cS.mono ?_
    rintro e w1 ⟨b1, a, c, rfl, hc, hS⟩
    have HS : Hid (Strs w1 a L) := hS
    unfold Strs at hS
    rw [HNL.out] at hS
    obtain ⟨b, off, rfl, hcell⟩ := hS (by omega)
    have x0 : w1.cell? ⟨b, off + 0, none⟩ = some (.string (gs L 0)) := hcell 0 (by omega)
    rw [Nat.add_zero] at x0
    have hsf : ∀ w, (Instr.slice 41 (.slice (some ⟨b, off, none⟩) N c) (some (.int .i64 1)) none none).run Tryd.prog w = .ok (.slice (subS (some ⟨b, off, none⟩) 1 c) (N - 1) (c - 1)) w := fun w => sliceS_from (some ⟨b, off, none⟩) N c 1 hN1 w
    have HSD : Hid (Strs w1 (subS (some ⟨b, off, none⟩) 1 c) (L.drop 1)) := Strs.drop HS.out c 1 (by rw [HNL.out]; exact hc)
    obtain ⟨a1, ha1⟩ : ∃ a1, subS (some ⟨b, off, none⟩) 1 c = a1 := ⟨_, rfl⟩
    rw [ha1] at hsf HSD
    have hN0 : (0 : Int) < (N : Int) := by omega
    obtain ⟨M, hM⟩ : ∃ M, N - 1 = M := ⟨_, rfl⟩
    rw [hM] at hsf HPN
    have hcM : M ≤ c - 1 := by omega
    have HMN : Hid (N = M + 1) := by show _ = _; omega
    obtain ⟨h0, hh0⟩ : ∃ h0, gs L 0 = h0 := ⟨_, rfl⟩
    rw [hh0] at x0 HPN
    have v0 : ∀ d os, (Go.Sort.grow (redrawn w1 d) os).cell? ⟨b, off, none⟩ = some (.string h0) := fun d os => cell_regrown x0 d os
    clear hcell x0 ha1 hM hh0 cS hN1
    go_wp2
    refine wp_region_quiet_below (by kernel_rfl) (by kernel_rfl) ?_
    repeat (go_big_quiet_step (fail))
    refine wpQuiet_nil ?_
    intro _ hw'
    obtain ⟨⟨dq2, osq2⟩, hw''⟩ := hw'
    subst hw''
    have b9 := below_regrown w1 dq2 osq2
    clear v0 hsf
    generalize Go.Sort.grow (redrawn w1 dq2) osq2 = w9 at *
    have hb9 := Below.comp b1 b9
    have HSD9 : Hid (Strs w9 a1 (L.drop 1)) := Strs.on HSD.out b9
    have hem := isEmp h0
    have hEm : Hid (h0 = ⟨#[]⟩ ↔ h0.size = 0) := by
      show _ ↔ _
      constructor
      · intro h; rw [h]; rfl
      · intro h
        apply ByteArray.ext
        exact Array.eq_empty_of_size_eq_zero h
    by_cases hz : h0.size = 0
    · rw [decide_eq_true hz] at hem
      have HZ : Hid _ := hEm.out.2 hz
      by_cases hM1 : M < 1
      · have e1 : decide ((M : Int) < 1) = true := by simp; omega
        have e2 : M = 0 := by omega
        have HNo : Hid (PN p = none) := by show _ = _; rw [HPN.out, if_neg (fun h => absurd h.2.1 (by omega))]
        subst e2
        go_wp2
        go_ret2
        exact ⟨hb9, .inr ⟨HNo.out, _, _, _, rfl⟩⟩
      · have e1 : decide ((M : Int) < 1) = false := by simp; omega
        have e2 : ¬ M = 0 := by omega
        by_cases hM8 : 8 < M
        · have e3 : decide ((8 : Int) < (M : Int)) = true := by simp; omega
          have HNo : Hid (PN p = none) := by show _ = _; rw [HPN.out, if_neg (fun h => absurd h.2.2.1 (by omega))]
          clear hM1 hM8
          go_wp2
          go_ret2
          exact ⟨hb9, .inr ⟨HNo.out, _, _, _, rfl⟩⟩
        · have e3 : decide ((8 : Int) < (M : Int)) = false := by simp; omega
          have HB : Hid (1 ≤ M ∧ M ≤ 8) := ⟨by omega, by omega⟩
          have HMl : Hid ((L.drop 1).length = M) := by show _ = _; have := HMN.out; have := HNL.out; simp; omega
          have hM9 : M ≤ 8 := HB.out.2
          clear hM1 hM8
          go_wp2
          go_loop [32] (fun x => ∃ k : Nat, k ≤ M ∧ x = .int .i64 k ∧ Hid (∀ j, j < k → isN (gs (L.drop 1) j) = true)) (fun x => M - (intOf x).toNat)
          case atStart => exact ⟨0, Nat.zero_le _, rfl, fun j hj => absurd hj (by omega)⟩
          case round =>
            obtain ⟨k, hk, rfl, HK⟩ := hrel
            by_cases hkl : k < M
            · have hsd := HSD9.out
              unfold Strs at hsd
              rw [HMl.out] at hsd
              obtain ⟨b', off', rfl, hcell⟩ := hsd (by omega)
              have x0 : w9.cell? ⟨b', off' + k, none⟩ = some (.string (gs (L.drop 1) k)) := hcell k hkl
              have hsm := HSM.out (1 + k) (by have := HMN.out; omega)
              rw [← gs_drop] at hsm
              have HKb : Hid (isN (gs (L.drop 1) k) = false → PN p = none) := fun h => by
                rw [HPN.out, if_neg]
                rintro ⟨-, -, -, h4⟩
                rw [List.all_eq_true] at h4
                have := h4 (gs (L.drop 1) k) (by rw [gs_eq (by rw [HMl.out]; exact hkl)]; exact List.getElem_mem _)
                rw [h] at this
                cases this
              have HKg : Hid (isN (gs (L.drop 1) k) = true → ∀ j, j < k + 1 → isN (gs (L.drop 1) j) = true) := fun h j hj => by
                by_cases e : j = k
                · subst e; exact h
                · exact HK.out j (by omega)
              have cN := fun W => isName_any (gs (L.drop 1) k) W hsm
              clear hcell hsd
              generalize isN (gs (L.drop 1) k) = o at cN HKb HKg
              generalize gs (L.drop 1) k = x at x0 cN
              cases o with
              | false =>
                go_wp2_with (go_at_call 39; refine (cN _).mono ?_; rintro e w' ⟨rfl, hww⟩; rw [hww])
                go_ret2
                exact ⟨hb9, .inr ⟨HKb.out (by first | rfl | trivial), _, _, _, rfl⟩⟩
              | true =>
                go_wp2_with (go_at_call 39; refine (cN _).mono ?_; rintro e w' ⟨rfl, hww⟩; rw [hww])
                go_round
                case rel => exact ⟨k + 1, by omega, by go_num, HKg.out (by first | rfl | trivial)⟩
                case measure => simp [intOf]; omega
            · have hkM : k = M := by omega
              subst hkM
              have HYes : Hid (PN p = some (L.drop 1)) := by
                show _ = _
                have hall : (L.drop 1).all isN = true := by
                  rw [List.all_eq_true]
                  intro x hx
                  obtain ⟨j, hj, rfl⟩ := List.mem_iff_getElem.1 hx
                  have := HK.out j (by rw [HMl.out] at hj; exact hj)
                  rwa [gs_eq hj] at this
                rw [HPN.out, if_pos ⟨HZ.out, HB.out.1, HB.out.2, hall⟩]
              go_wp2
              go_ret2
              exact ⟨hb9, .inl ⟨L.drop 1, _, _, HYes.out, by rw [HMl.out]; rfl, by rw [HMl.out]; exact hcM, HSD9.out⟩⟩
    · rw [decide_eq_false hz] at hem
      have HNo : Hid (PN p = none) := by show _ = _; rw [HPN.out, if_neg (fun h => hz (hEm.out.1 h.1))]
      clear hz
      go_wp2
      go_ret2
      exact ⟨hb9, .inr ⟨HNo.out, _, _, _, rfl⟩⟩
end Go.Proofs.YthioomihpfmlmaaDoor
