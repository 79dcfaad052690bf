import Derived.Test.YthioomihpfmlmaaDoorT3
import Derived.Test.YthioomihpfmlmaaDoorI4
/- Walking down by names, on both sides. -/
namespace Go.Proofs.YthioomihpfmlmaaDoor
open Go.ChangeShapes Go.WideShapes Go.ChangeAt Go.RowKit
set_option linter.unusedVariables false
open Hd

attribute [local go_sem] Oper.semAt_some

/-- Walking down from an inode: where it ends and the code; told where each name stands or would. -/
def wk (kp : List Nm → ByteArray → Nat) (T : List Ino) : Nat → List ByteArray → Nat × Nat
  | k, [] => (k, 0)
  | k, s :: L => if (gn T k).dr then (if hasN (gn T k).ns s (kp (gn T k).ns s) then wk kp T (tg (gm (gn T k).ns (kp (gn T k).ns s))) L else (0, 2)) else (0, 4)
theorem drop_gs {L : List ByteArray} {i : Nat} (h : i < L.length) : L.drop i = gs L i :: L.drop (i + 1) := by
  rw [List.drop_eq_getElem_cons h, gs_eq h]
theorem Ris_of {n : Nat} {x : Ino} (h : okN n x) : Ris x.ns := fun i hi h0 => (h.1 i hi).2.2.2 h0
theorem has_lt {l : List Nm} {s : ByteArray} {k : Nat} (h : hasN l s k = true) : k < l.length := by
  unfold hasN at h
  rw [Bool.and_eq_true, decide_eq_true_eq] at h
  exact h.1
/-- A name that is there means an inode. -/
theorem tg_of {n : Nat} {x : Ino} (h : okN n x) {k : Nat} (hk : k < x.ns.length) : (gm x.ns k).fl = ((tg (gm x.ns k) : Nat) : Int) ∧ tg (gm x.ns k) < n := by
  obtain ⟨-, h1, h2, -⟩ := h.1 k hk
  unfold tg
  omega
set_option maxHeartbeats 4000000 in
set_option maxRecDepth 20000 in
theorem l13Walk_any (kp : List Nm → ByteArray → Nat) (hkp : ∀ l s, AtN l s (kp l s)) (T : List Ino) (v : Value) (L : List ByteArray) (a' : Option Addr) (c' : Nat) (w : World) (h1 : 1 ≤ T.length) (h60 : T.length ≤ 60) (hok : ∀ k, k < T.length → okN T.length (gn T k)) (hL : L.length ≤ 8)
    (hc : NamAt w v T) (hs : Strs w a' L) :
    Calls Tryd.prog 22 #[v, .slice a' L.length c'] w fun e w' => e = .returned (.tuple #[.int .i64 (((wk kp T 0 L).1 : Nat) : Int), .int .i64 (((wk kp T 0 L).2 : Nat) : Int)]) ∧ Below w.heap.size w w' := by
  obtain ⟨a, ca, rfl, hca, hI⟩ := hc
  obtain ⟨W0, hW0⟩ : ∃ W0, w.alloc (.cells #[.slice a T.length ca] 30) = W0 := ⟨_, rfl⟩
  have q0 : Below w.heap.size w W0 := by subst hW0; exact below_alloc _ _
  have HX : Hid (W0.heap[w.heap.size]? = some (.cells #[.slice a T.length ca] 30 (0, 0))) := by subst hW0; exact al1 _ _
  obtain ⟨x0, -⟩ := box1_cells HX.out
  unfold tv
  obtain ⟨b, off, rfl, hcell⟩ := hI (by omega)
  have HC : Hid (∀ W, Below W0.heap.size W0 W → ∀ i, i < T.length → InAt W b (off + i * 3) (gn T i)) := fun W h i hi => ((hcell i hi).below q0).below h
  have HSt : Hid (∀ W, Below W0.heap.size W0 W → L.length ≠ 0 → ∃ b off, a' = some ⟨b, off, none⟩ ∧ ∀ i, i < L.length → W.cell? ⟨b, off + i, none⟩ = some (.string (gs L i))) := fun W h => Strs.on (Strs.on hs q0) h
  have HOK : Hid _ := hok
  obtain ⟨R1, hR1⟩ : ∃ R1, (wk kp T 0 L).1 = R1 := ⟨_, rfl⟩
  obtain ⟨R2, hR2⟩ : ∃ R2, (wk kp T 0 L).2 = R2 := ⟨_, rfl⟩
  have HR : Hid (wk kp T 0 L = (R1, R2)) := by show _ = _; rw [← hR1, ← hR2]
  rw [hR1, hR2]
  clear hcell hI hca hok hs hR1 hR2
  generalize hTn : T.length = n at *
  generalize hLn : L.length = m at *
  have HT : Hid _ := hTn
  have HL : Hid _ := hLn
  clear hTn hLn
  go_enter Tryd.func22, Tryd.ntmps22
  go_wp2
  clear x0 hW0
  go_loopw [6, 13] (fun s6 s13 wr => ∃ (i k : Nat), i ≤ m ∧ k < n ∧ s6 = .int .i64 k ∧ s13 = .int .i64 i ∧ Hid (wk kp T k (L.drop i) = (R1, R2)) ∧ Below W0.heap.size W0 wr) (fun _ s13 _ => m - (intOf s13).toNat)
  case atStart => exact ⟨0, 0, Nat.zero_le _, by omega, rfl, rfl, by rw [List.drop_zero]; exact HR.out, Below.refl _ _⟩
  case round =>
    obtain ⟨i, k, hi, hk, rfl, rfl, HW, hb⟩ := hrel
    have hkn : (k : Int) < (n : Int) := by omega
    by_cases hlt : i < m
    · obtain ⟨b', off', rfl, hst⟩ := HSt.out _ hb (by omega)
      have y0 := hst i hlt
      clear hst
      obtain ⟨na, nc, u0, u1, u2, u3, -⟩ := HC.out _ hb k hk
      obtain ⟨x0, -⟩ := box1_cells (box_on HX.out hb)
      have hok := HOK.out k hk
      have hw := HW.out
      rw [drop_gs (by rw [HL.out]; exact hlt), wk] at hw
      have hl20 := hok.2.2
      have hat := hkp (gn T k).ns (gs L i)
      have HIn : Hid (∀ W, Below W0.heap.size W0 W → InAt W b (off + k * 3) (gn T k)) := fun W h => HC.out W h k hk
      have HTg : Hid (hasN (gn T k).ns (gs L i) (kp (gn T k).ns (gs L i)) = true → (gm (gn T k).ns (kp (gn T k).ns (gs L i))).fl = ((tg (gm (gn T k).ns (kp (gn T k).ns (gs L i))) : Nat) : Int) ∧ tg (gm (gn T k).ns (kp (gn T k).ns (gs L i))) < n ∧ kp (gn T k).ns (gs L i) < (gn T k).ns.length) := fun h => by
        obtain ⟨t1, t2⟩ := tg_of hok (has_lt h)
        exact ⟨t1, t2, has_lt h⟩
      generalize kp (gn T k).ns (gs L i) = K at *
      generalize gs L i = s at *
      generalize gn T k = X at *
      obtain ⟨dr, lk, l⟩ := X
      simp only at u0 u1 u2 u3 hw hl20 hat HTg
      have cA := fun W h => l8At_any na l nc s K W (by omega) h hat
      cases dr with
      | false =>
        simp only [Bool.false_eq_true, if_false, Prod.mk.injEq] at hw
        obtain ⟨rfl, rfl⟩ := hw
        clear cA
        go_wp2
        go_ret2
        exact ⟨rfl, Below.comp q0 hb⟩
      | true =>
        simp only [if_true] at hw
        have Hw : Hid _ := hw
        have U3 : Hid (Nms wr na l) := u3
        clear hw u3 hat
        generalize hll : l.length = nl at *
        have HLL : Hid _ := hll
        clear hll
        generalize ho : hasN l s K = o at *
        clear ho
        go_wp2_with fail
        refine (cA _ U3.out).mono ?_
        rintro e w1 ⟨rfl, b1⟩
        have hb1 := Below.comp hb b1
        clear x0 u0 u1 u2 y0
        obtain ⟨x0, -⟩ := box1_cells (box_on HX.out hb1)
        obtain ⟨na2, nc2, u0, u1, u2, u3, -⟩ := HIn.out _ hb1
        simp only at u0 u1 u2 u3
        rw [HLL.out] at u2
        cases o with
        | false =>
          have hw2 := Hw.out
          simp only [Bool.false_eq_true, if_false, Prod.mk.injEq] at hw2
          obtain ⟨rfl, rfl⟩ := hw2
          go_wp2_with fail
          go_ret2
          exact ⟨rfl, Below.comp q0 hb1⟩
        | true =>
          have hw2 := Hw.out
          simp only [if_true] at hw2
          obtain ⟨t1, t2, t3⟩ := HTg.out (by first | rfl | trivial)
          obtain ⟨nb, no, rfl, hnc⟩ := u3 (by rw [HLL.out]; omega)
          obtain ⟨z0, z1⟩ := hnc K (by rw [HLL.out]; exact t3)
          rw [t1] at z1
          have hKn : (K : Int) < (nl : Int) := by omega
          have HW2 : Hid _ := hw2
          clear hw2 hnc u3 z0 t1
          generalize tg (gm l K) = t at *
          go_wp2_with fail
          go_roundw
          case rel => exact ⟨i + 1, t, by omega, t2, rfl, by go_num, HW2, hb1⟩
          case measure => simp [intOf]; omega
    · have him : i = m := by omega
      subst him
      have hw := HW.out
      rw [List.drop_of_length_le (by rw [HL.out]; exact Nat.le_refl _), wk] at hw
      simp only [Prod.mk.injEq] at hw
      obtain ⟨rfl, rfl⟩ := hw
      go_wp2
      go_ret2
      exact ⟨rfl, Below.comp q0 hb⟩
/-- One step down. -/
def sd (x : Ino) (s : ByteArray) (K : Nat) : Nat × Nat := if x.dr then (if hasN x.ns s K then (tg (gm x.ns K), 0) else (0, 2)) else (0, 4)
theorem stepDown_any (n : Nat) (x : Ino) (s : ByteArray) (K : Nat) (a : Option Addr) (c : Nat) (w : World) (hok : okN n x) (hat : AtN x.ns s K) (ha : Nms w a x.ns) :
    Calls Tryd.prog 43 #[.agg #[.bool x.dr, .int .i64 x.lk, .slice a x.ns.length c], .string s] w fun e w' => e = .returned (.tuple #[.int .i64 (((sd x s K).1 : Nat) : Int), .int .i64 (((sd x s K).2 : Nat) : Int)]) ∧ Below w.heap.size w w' := by
  have hr := Ris_of hok
  have hl20 := hok.2.2
  have cS := fun W h => searchName_any a x.ns c s K W (by omega) h hr hat
  have HTg : Hid (hasN x.ns s K = true → (gm x.ns K).fl = ((tg (gm x.ns K) : Nat) : Int) ∧ K < x.ns.length) := fun h => ⟨(tg_of hok (has_lt h)).1, has_lt h⟩
  unfold sd
  obtain ⟨dr, lk, l⟩ := x
  simp only at ha hl20 cS HTg ⊢
  obtain ⟨W0, hW0⟩ : ∃ W0, w.alloc (.cells #[.bool dr, .int .i64 lk, .slice a l.length c] 49) = W0 := ⟨_, rfl⟩
  have q0 : Below w.heap.size w W0 := by subst hW0; exact below_alloc _ _
  have HX : Hid (W0.heap[w.heap.size]? = some (.cells #[.bool dr, .int .i64 lk, .slice a l.length c] 49 (0, 0))) := by subst hW0; exact al1 _ _
  obtain ⟨x0, x1, x2⟩ := box3_one HX.out
  have HA : Hid (Nms W0 a l) := ha.below q0
  clear ha hr hat hok
  generalize hll : l.length = nl at *
  have HLL : Hid _ := hll
  clear hll
  cases dr with
  | false =>
    simp only [Bool.false_eq_true, if_false]
    go_enter Tryd.func43, Tryd.ntmps43
    go_wp2
    go_ret2
    exact ⟨rfl, q0⟩
  | true =>
    simp only [if_true]
    generalize ho : hasN l s K = o at *
    clear ho
    cases o with
    | false =>
      simp only [Bool.false_eq_true, if_false]
      go_enter Tryd.func43, Tryd.ntmps43
      go_wp2_with fail
      refine (cS _ HA.out).mono ?_
      rintro e w1 ⟨rfl, b1⟩
      clear x0 x1 x2 hW0
      go_wp2_with fail
      go_ret2
      exact ⟨rfl, Below.comp q0 b1⟩
    | true =>
      simp only [if_true]
      obtain ⟨t1, t3⟩ := HTg.out rfl
      obtain ⟨t, ht⟩ : ∃ t, tg (gm l K) = t := ⟨_, rfl⟩
      rw [ht] at t1
      rw [ht]
      have HT1 : Hid _ := t1
      clear t1 ht
      have hKn : (K : Int) < (nl : Int) := by omega
      go_enter Tryd.func43, Tryd.ntmps43
      go_wp2_with fail
      refine (cS _ HA.out).mono ?_
      rintro e w1 ⟨rfl, b1⟩
      clear x0 x1 x2 hW0
      obtain ⟨x0, x1, x2⟩ := box3_one (box_on HX.out b1)
      obtain ⟨nb, no, rfl, hnc⟩ := (Nms.below HA.out b1) (by rw [HLL.out]; omega)
      obtain ⟨z0, z1⟩ := hnc K (by rw [HLL.out]; exact t3)
      rw [HT1.out] at z1
      clear hnc z0
      go_wp2_with fail
      go_ret2
      exact ⟨rfl, Below.comp q0 b1⟩
end Go.Proofs.YthioomihpfmlmaaDoor
