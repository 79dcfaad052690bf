import Derived.Test.YtkkakidhdnfilaaV6
/- The program: the leaf at a place of a picture. -/
namespace Go.Proofs.Ytkkakidhdnfilaa
open Go.ChangeShapes Go.WideShapes Go.ChangeAt Go.RowKit
set_option linter.unusedVariables false
open Hd

attribute [local go_sem] Oper.semAt_some

theorem lvL_len {c : Co} {x : Int} (h : lvB c x = true) : (lvL c x).length = 4 ^ lv1 c ∧ ∀ t, t < 4 ^ lv1 c → gs (lvL c x) t = la c.cs (lv1 c) (gi c.rs x.toNat) t := by
  obtain ⟨hg, hx⟩ := lvB_parts h
  obtain ⟨h1, h2⟩ : 0 ≤ x ∧ x < c.rs.length := by unfold inB at hx; simpa using hx
  obtain ⟨hn, hm1, hm8, hl1, hl3⟩ := gI_few' hg
  obtain ⟨-, hok, hro, -⟩ := gI_parts hg
  have hpo := hro (gi c.rs x.toNat) (by rw [gi_eq (by omega)]; exact List.getElem_mem _)
  rw [show c.lv.toNat = lv1 c + 1 by unfold lv1; omega] at hpo
  unfold lvL
  rw [if_pos h]
  exact ⟨lvf_len hok _ _ hpo, fun t ht => la_lvf hok _ _ t hpo ht⟩
theorem lfB_lv (c : Co) (x t : Int) : lfB c x t = (lvB c x && inB (4 ^ lv1 c) t) := by
  unfold lfB lvB
  rw [Bool.and_assoc]
set_option maxHeartbeats 2000000 in
theorem implLeafAt_any (v : Value) (c : Co) (x t : Int) (w : World) (hc : CowAt w v c) (hf : FewW c) :
    Calls Try.prog 21 #[v, .int .i64 x, .int .i64 t] w fun e w' => e = .returned (.tuple #[.string (lfS c x t), .bool (lfB c x t)]) ∧ Below w.heap.size w w' := by
  have cL := fun W h => implLeaves_any v c x W (hc.below h) hf
  obtain ⟨a, ca, a', ca', rfl, -, -, -, -⟩ := hc
  have hlen := lvL_len (c := c) (x := x)
  obtain ⟨S, hS⟩ : ∃ S, lfS c x t = S := ⟨_, rfl⟩
  have HS : Hid _ := hS
  rw [hS]
  obtain ⟨ob, hB⟩ : ∃ ob, lfB c x t = ob := ⟨_, rfl⟩
  have HB : Hid _ := hB
  rw [hB]
  clear hS hB
  obtain ⟨W0, hW0⟩ : ∃ W0, w.alloc (.cells #[.slice a c.cs.length ca, .slice a' c.rs.length ca', .int .i64 c.lv] 25) = W0 := ⟨_, rfl⟩
  have q0 : Below w.heap.size w W0 := by subst hW0; exact below_alloc _ _
  have H1 : Hid (W0.heap[w.heap.size]? = some (.cells #[.slice a c.cs.length ca, .slice a' c.rs.length ca', .int .i64 c.lv] 25 (0, 0))) := by subst hW0; exact al1 _ _
  obtain ⟨i0, i1, i2⟩ := box3_one H1.out
  obtain ⟨L, hL⟩ : ∃ L, lvL c x = L := ⟨_, rfl⟩
  rw [hL] at cL hlen
  unfold kv at *
  obtain ⟨bl, hbl⟩ : ∃ bl, lvB c x = bl := ⟨_, rfl⟩
  rw [hbl] at cL hlen
  have HBL : Hid (lfB c x t = (bl && inB (4 ^ lv1 c) t)) := by show _ = _; rw [← hbl]; exact lfB_lv c x t
  have HSL : Hid (S = if lfB c x t = true then la c.cs (lv1 c) (gi c.rs x.toNat) t.toNat else ⟨#[]⟩) := by show _ = _; rw [← HS.out]; rfl
  have Hlen : Hid _ := hlen
  have HL2 : Hid (bl = true → lv1 c ≤ 2) := fun h => by
    rw [h] at hbl
    obtain ⟨-, -, -, h3, h4⟩ := gI_few' (lvB_parts hbl).1
    unfold lv1
    omega
  clear hlen hL hbl
  cases bl with
  | false =>
    have e1 : ob = false := by rw [← HB.out, HBL.out]; rfl
    have e2 : S = ⟨#[]⟩ := by rw [HSL.out, HB.out, e1]; rfl
    subst e1 e2
    go_enter Try.func21, Try.ntmps21
    go_wp2_with fail
    refine (cL _ q0).mono ?_
    rintro e w1 ⟨b1, u, rfl, own⟩
    obtain ⟨y, yc, rfl⟩ := owns_form own
    clear own
    go_wp2_with fail
    go_ret2
    exact ⟨rfl, Below.comp q0 b1⟩
  | true =>
    obtain ⟨hN, hA⟩ := Hlen.out rfl
    have hpw := pow_lt _ (HL2.out rfl)
    have HA : Hid _ := hA
    clear hA
    generalize 4 ^ lv1 c = N at *
    by_cases ht : 0 ≤ t ∧ t < (N : Int)
    · obtain ⟨q, rfl⟩ : ∃ q : Nat, t = q := ⟨t.toNat, by omega⟩
      have hq : q < N := by omega
      have e1 : ob = true := by rw [← HB.out, HBL.out]; unfold inB; simp; omega
      have e2 : S = gs L q := by rw [HSL.out, HB.out, e1, if_pos rfl, HA.out q hq]; rfl
      subst e1
      have HE2 : Hid _ := e2
      clear e2
      go_enter Try.func21, Try.ntmps21
      go_wp2_with fail
      refine (cL _ q0).mono ?_
      rintro e w1 ⟨b1, u, rfl, own⟩
      obtain ⟨y, yc, rfl, -, hst⟩ := own.strs
      rw [hN]
      obtain ⟨yb, yo, rfl, hcc⟩ := hst (by omega)
      have c0 : w1.cell? ⟨yb, yo + q, none⟩ = some (.string (gs L q)) := hcc q (by omega)
      clear own hst hcc
      have hqN : (q : Int) < (N : Int) := by omega
      go_wp2_with fail
      go_ret2
      exact ⟨by rw [HE2.out]; rfl, Below.comp q0 b1⟩
    · have e1 : ob = false := by rw [← HB.out, HBL.out]; unfold inB; simp; omega
      have e2 : S = ⟨#[]⟩ := by rw [HSL.out, HB.out, e1]; rfl
      subst e1 e2
      by_cases ht0 : t < 0
      · go_enter Try.func21, Try.ntmps21
        go_wp2_with fail
        refine (cL _ q0).mono ?_
        rintro e w1 ⟨b1, u, rfl, own⟩
        obtain ⟨y, yc, rfl⟩ := owns_form own
        clear own
        go_wp2_with fail
        go_ret2
        exact ⟨rfl, Below.comp q0 b1⟩
      · have hge : (N : Int) ≤ t := by omega
        have h0 : ¬ t < 0 := ht0
        go_enter Try.func21, Try.ntmps21
        go_wp2_with fail
        refine (cL _ q0).mono ?_
        rintro e w1 ⟨b1, u, rfl, own⟩
        obtain ⟨y, yc, rfl⟩ := owns_form own
        rw [hN]
        clear own
        go_wp2_with fail
        go_ret2
        exact ⟨rfl, Below.comp q0 b1⟩
end Go.Proofs.Ytkkakidhdnfilaa
