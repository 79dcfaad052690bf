import Derived.Test.YtfphffbclpmobaaM3
import Derived.Laws.StructEq
/- All pieces held against a map of stocks. -/
namespace Go.Proofs.Ytfphffbclpmobaa
open Go.ChangeShapes Go.WideShapes Go.ChangeAt Go.RowKit Go.Maps
set_option linter.unusedVariables false
open Hd

attribute [local go_sem] Oper.semAt_some

/-- Whether two stocks are the same. -/
def sameK (a b c d : Int) : Bool := decide (a = c) && decide (b = d)
theorem eqlK (a b c d : Int) (w : World) : (binOp .eql 71 (.agg #[.int .i64 a, .int .i64 b]) (.agg #[.int .i64 c, .int .i64 d])).run Try.prog w = .ok (.bool (sameK a b c d)) w := by
  have u3 := Try.underlying3
  have a3 := Try.isAgg3
  have z3 := Try.sizeOf3
  have hS : Try.prog.underlying 71 = some (.struct (Try.prog.fieldsOf 71)) := by kernel_rfl
  have hp : Try.prog.stoodInHeld 71 = false := by kernel_rfl
  rw [run_eql_struct, show (10000 : Nat) = 9999 + 1 from rfl, run_equalIn_agg w 9999 71 _ _ hS hp]
  simp only [Program.fieldsOf, Try.underlying71]
  go_simp
  unfold sameK
  by_cases h1 : a = c <;> by_cases h2 : b = d <;> simp [h1, h2]
theorem neqK (a b c d : Int) (w : World) : (binOp .neq 71 (.agg #[.int .i64 a, .int .i64 b]) (.agg #[.int .i64 c, .int .i64 d])).run Try.prog w = .ok (.bool (!(sameK a b c d))) w := by
  have h := eqlK a b c d w
  rw [run_eql_struct] at h
  rw [run_neq_struct]
  cases hq : (Op.equalIn 10000 71 (.agg #[.int .i64 a, .int .i64 b]) (.agg #[.int .i64 c, .int .i64 d])).run Try.prog w with
  | ok b w' =>
    rw [hq] at h
    simp only [Result.andThen] at h ⊢
    simp only [Result.ok.injEq, Value.bool.injEq] at h
    obtain ⟨rfl, rfl⟩ := h
    rfl
  | halt x w' => rw [hq] at h; simp [Result.andThen] at h
theorem guardK (op : BinOp) (x y : Operand) (xs ys : Array Value) (w : World) : (eqGuard op 71 x y (.agg xs) (.agg ys)).run Try.prog w = .ok () w := run_eqGuard_agg w op _ x y xs ys (by kernel_rfl)
/-- A piece as the program asks of a map of stocks. -/
def kOk (g : SG) (L : List Nm) (i : Nat) : Prop := (1 ≤ (gm L i).nm.size ∧ (gm L i).nm.size ≤ 24) ∧ 1 ≤ (gm L i).fl ∧ g (gm L i).nm = some ((i : Int), (gm L i).fl)
set_option maxRecDepth 20000 in
set_option maxHeartbeats 4000000 in
theorem hasAll_any (M n N : Nat) (g : SG) (y : Value) (a : Option Addr) (c : Nat) (L : List Nm) (B : Bool) (w : World) (hG : GM w M n g N) (hy : ∃ x k cc, y = .slice x k cc) (hL : L.length ≤ 1048576) (hf : FewN L) (hP : Nms w a L) (hB : B = true ↔ ∀ i, i < L.length → kOk g L i) :
    Calls Try.prog 36 #[.agg #[.map (some M), y], .slice a L.length c] w fun e w' => e = .returned (.bool B) ∧ Below w.heap.size w w' := by
  obtain ⟨yx, yk, yc, rfl⟩ := hy
  obtain ⟨W0, hW0⟩ : ∃ W0, w.alloc (.cells #[.map (some M), .slice yx yk yc] 52) = W0 := ⟨_, rfl⟩
  have q0 : Below w.heap.size w W0 := by subst hW0; exact below_alloc _ _
  have H1 : Hid (W0.heap[w.heap.size]? = some (.cells #[.map (some M), .slice yx yk yc] 52 (0, 0))) := by subst hW0; exact al1 _ _
  have HGW : Hid (∀ W, Below w.heap.size w W → GM W M n g N) := fun W h => hG.below h
  have HN : Hid (∀ W, Below w.heap.size w W → Nms W a L) := fun W h => hP.below h
  have HB : Hid (B = true ↔ ∀ i, i < L.length → kOk g L i) := hB
  have HF : Hid (∀ i, i < L.length → (gm L i).nm.size ≤ 9223372036854775807) := hf.2
  clear hP hG hB hf
  obtain ⟨m, hm⟩ : ∃ m, L.length = m := ⟨_, rfl⟩
  have Hm : Hid (L.length = m) := hm
  rw [hm] at hL HB HF
  rw [hm]
  clear hm
  go_enter Try.func36, Try.ntmps36
  go_wp2
  clear hW0
  go_loopw [9] (fun i ws => ∃ (k : Nat), k ≤ m ∧ i = .int .i64 (k : Int) ∧ Hid (∀ i, i < k → kOk g L i) ∧ Below W0.heap.size W0 ws) (fun i _ => m - (intOf i).toNat)
  case atStart => exact ⟨0, Nat.zero_le _, rfl, fun i h => absurd h (by omega), Below.refl _ _⟩
  case round =>
    obtain ⟨k, hk, rfl, HK, hb⟩ := hrel
    have hbw := Below.comp q0 hb
    by_cases hlt : k < m
    · obtain ⟨pb, poff, rfl, hpc⟩ := HN.out wr hbw (by have := Hm.out; omega)
      obtain ⟨z0, z1⟩ := hpc k (by rw [Hm.out]; exact hlt)
      clear hpc
      have hkn' : (k : Int) < (m : Int) := by omega
      have HKo : Hid (kOk g L k ↔ (1 ≤ (gm L k).nm.size ∧ (gm L k).nm.size ≤ 24) ∧ 1 ≤ (gm L k).fl ∧ g (gm L k).nm = some ((k : Int), (gm L k).fl)) := Iff.rfl
      have HBad : Hid (¬ kOk g L k → B = false) := fun h => by
        by_cases hb : B = true
        · exact absurd (HB.out.1 hb k hlt) h
        · simpa using hb
      have HGd : Hid (kOk g L k → ∀ i, i < k + 1 → kOk g L i) := fun h i hi => by
        by_cases e : i = k
        · subst e; exact h
        · exact HK.out i (by omega)
      have hsz := HF.out k hlt
      have hlk0 := fun W h => (HGW.out W h).look (gm L k).nm (by unfold maxLen; omega)
      generalize (gm L k).nm = tx at *
      generalize (gm L k).fl = fl at *
      obtain ⟨E, hE⟩ : ∃ E, wr.heap.size = E := ⟨_, rfl⟩
      obtain ⟨W2, hW2⟩ : ∃ W2, wr.alloc (.cells #[.string tx, .int .i64 fl] 46) = W2 := ⟨_, rfl⟩
      have b2 : Below wr.heap.size wr W2 := by subst hW2; exact below_alloc _ _
      obtain ⟨u0, u1, -, -⟩ := box2_cells (show W2.heap[E]? = some (.cells #[.string tx, .int .i64 fl] 46 (0, 0)) by subst hW2 hE; exact al1 _ _)
      obtain ⟨o0, o1, -, -⟩ := box2_cells (box_on H1.out (Below.comp hb b2))
      have hb2 := Below.comp hbw b2
      have hb3 := Below.comp hb b2
      have hlk := hlk0 W2 hb2
      clear hlk0
      obtain ⟨P, Q, hPQ⟩ : ∃ P Q : Int, sv (g tx) = .agg #[.int .i64 P, .int .i64 Q] := by
        cases g tx with
        | none => exact ⟨0, 0, rfl⟩
        | some p => exact ⟨p.1, p.2, rfl⟩
      rw [hPQ] at hlk
      have HPQ : Hid (1 ≤ fl → (g tx = some ((k : Int), fl) ↔ sameK P Q (k : Int) fl = true)) := fun h1 => by
        unfold sameK
        cases hg : g tx with
        | none =>
          rw [hg] at hPQ
          simp only [sv, Value.agg.injEq] at hPQ
          have e1 := congrArg (fun a => a[0]?) hPQ
          have e2 := congrArg (fun a => a[1]?) hPQ
          simp at e1 e2
          simp
          omega
        | some p =>
          obtain ⟨p, q⟩ := p
          rw [hg] at hPQ
          simp only [sv, Value.agg.injEq] at hPQ
          have e1 := congrArg (fun a => a[0]?) hPQ
          have e2 := congrArg (fun a => a[1]?) hPQ
          simp at e1 e2
          subst e1 e2
          simp
      clear hPQ
      have cN := fun W => neqK P Q (k : Int) fl W
      have cG := fun op x y xs ys W => guardK op x y xs ys W
      obtain ⟨ss, hss⟩ : ∃ ss, sameK P Q (k : Int) fl = ss := ⟨_, rfl⟩
      have HSS : Hid _ := hss
      rw [hss] at cN
      rw [hss] at HPQ
      clear hss
      by_cases c1 : 1 ≤ tx.size
      · have c1' : decide ((tx.size : Int) < 1) = false := by simp; omega
        by_cases c2 : tx.size ≤ 24
        · have c2' : decide ((24 : Int) < (tx.size : Int)) = false := by simp; omega
          by_cases c3 : 1 ≤ fl
          · have c3' : decide (fl < 1) = false := by simp; omega
            cases ss with
            | true =>
              have hok := HKo.out.2 ⟨⟨c1, c2⟩, c3, (HPQ.out c3).2 rfl⟩
              have HOk : Hid _ := hok
              clear hok
              go_wp2
              go_roundw
              case rel => exact ⟨k + 1, by omega, by go_num, HGd.out HOk.out, hb3⟩
              case measure => simp [intOf]; omega
            | false =>
              have hb0 := HBad.out (fun h => by
                have := (HPQ.out c3).1 (HKo.out.1 h).2.2
                cases this)
              subst hb0
              go_wp2
              go_ret
              exact ⟨rfl, hb2⟩
          · have hb0 := HBad.out (fun h => c3 (HKo.out.1 h).2.1)
            have c3' : decide (fl < 1) = true := by simp; omega
            subst hb0
            clear cN cG
            go_wp2
            go_ret
            exact ⟨rfl, hb2⟩
        · have hb0 := HBad.out (fun h => c2 (HKo.out.1 h).1.2)
          have c2' : decide ((24 : Int) < (tx.size : Int)) = true := by simp; omega
          subst hb0
          clear cN cG
          go_wp2
          go_ret
          exact ⟨rfl, hb2⟩
      · have hb0 := HBad.out (fun h => c1 (HKo.out.1 h).1.1)
        have c1' : decide ((tx.size : Int) < 1) = true := by simp; omega
        subst hb0
        clear cN cG
        go_wp2
        go_ret
        exact ⟨rfl, hb2⟩
    · have hkm : k = m := by omega
      subst hkm
      have hb0 : B = true := HB.out.2 HK.out
      subst hb0
      go_wp2
      go_ret
      exact ⟨rfl, hbw⟩
end Go.Proofs.Ytfphffbclpmobaa
