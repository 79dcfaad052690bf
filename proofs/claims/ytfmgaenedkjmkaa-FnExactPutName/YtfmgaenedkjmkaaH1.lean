import Derived.Test.YtfmgaenedkjmkaaG1
/- The bucket of a name, on both sides. -/
namespace Go.Proofs.Ytfmgaenedkjmkaa
open Go.ChangeShapes Go.WideShapes Go.ChangeAt Go.RowKit
set_option linter.unusedVariables false
open Hd

attribute [local go_sem] Oper.semAt_some

/-- The number of the bucket of a name. -/
def bkOf (d : Dr) (s : ByteArray) : Int := gi d.sl (low (nh s) d.dp.toNat)
theorem imp_regrown {P : Program} {f : Nat} {args : Array Value} {W : World} {v : Value} (h : ∀ u, Calls P f args u fun e w' => e = .returned v ∧ w' = u) (d : _) (os : _) :
    Calls P f args (Go.Sort.grow (redrawn W d) os) fun e w'' => e = .returned v ∧ ∃ p : Regrown, w'' = Go.Sort.grow (redrawn W p.d) p.os := same_regrown h d os
theorem low_regrownI (W : World) {n d : Nat} (hn : n < 9223372036854775808) (hd : d ≤ 62) (dd : _) (os : _) :
    Calls Try.prog 68 #[.int .i64 (n : Int), .int .i64 (d : Int)] (Go.Sort.grow (redrawn W dd) os) fun e w'' => e = .returned (.int .i64 (low n d : Nat)) ∧ ∃ p : Regrown, w'' = Go.Sort.grow (redrawn W p.d) p.os :=
  same_regrown (fun u => lowestBits_any n d u hn hd) dd os
set_option maxHeartbeats 1000000 in
theorem l8Bucket_any (v : Value) (d : Dr) (s : ByteArray) (w : World) (hz : szOk d) (hs : s.size ≤ 9223372036854775807) (hc : DirAt w v d) :
    Calls Try.prog 32 #[v, .string s] w fun e w' => e = .returned (.int .i64 (bkOf d s)) ∧ Below w.heap.size w w' := by
  obtain ⟨a, ca, a', ca', rfl, -, -, ha, -⟩ := hc
  unfold bkOf
  obtain ⟨hz0, hz8, hzl⟩ := hz
  have ha0 : At w a d.sl.length fun i => iv (gi d.sl i) := ha
  obtain ⟨D, hD⟩ : ∃ D : Nat, d.dp = (D : Int) := ⟨d.dp.toNat, by omega⟩
  rw [hD] at hz0 hz8 hzl ⊢
  rw [Int.toNat_natCast] at hzl ⊢
  have hD8 : D ≤ 8 := by omega
  have hlt := low_lt (nh s) D
  rw [← hzl] at hlt
  have hpos : d.sl.length ≠ 0 := by omega
  have hnh := nh_lt s
  unfold dv
  obtain ⟨b, off, rfl, hcell⟩ := ha0 hpos
  have hc0 := hcell _ hlt
  have hbig : d.sl.length ≤ 256 := by rw [hzl]; exact Nat.pow_le_pow_right (n := 2) (by omega) hD8
  obtain ⟨W0, hW0⟩ : ∃ W0, w.alloc (.cells #[.int .i64 (D : Int), .slice (some ⟨b, off, none⟩) d.sl.length ca, .slice a' d.bs.length ca'] 32) = W0 := ⟨_, rfl⟩
  have q0 : Below w.heap.size w W0 := by subst hW0; exact below_alloc _ _
  have HA : Hid (W0.heap[w.heap.size]? = some (.cells #[.int .i64 (D : Int), .slice (some ⟨b, off, none⟩) d.sl.length ca, .slice a' d.bs.length ca'] 32 (0, 0))) := by subst hW0; exact al1 _ _
  have c1 := fun dd os => imp_regrown (W := W0) (fun u => specHash_any s u hs) dd os
  have c2 := fun dd os => low_regrown W0 (n := nh s) (d := D) (by omega) (by omega) dd os
  have x0 : ∀ d os, (Go.Sort.grow (redrawn W0 d) os).cell? ⟨w.heap.size, 0, none⟩ = some (.int .i64 (D : Int)) := fun dd os => cell_regrown (box3_cells HA.out).1 dd os
  have x1 : ∀ dd os, (Go.Sort.grow (redrawn W0 dd) os).cell? ⟨w.heap.size, 1, none⟩ = some (.slice (some ⟨b, off, none⟩) d.sl.length ca) := fun dd os => cell_regrown (box3_cells HA.out).2.1 dd os
  have x2 : ∀ dd os, (Go.Sort.grow (redrawn W0 dd) os).cell? ⟨b, off + low (nh s) D, none⟩ = some (.int .i64 (gi d.sl (low (nh s) D))) := fun dd os => cell_regrown (cell_on hc0 q0) dd os
  have hlt' : ((low (nh s) D : Nat) : Int) < (d.sl.length : Int) := by omega
  generalize gi d.sl (low (nh s) D) = y at *
  obtain ⟨Lx, hLx⟩ : ∃ Lx, low (nh s) D = Lx := ⟨_, rfl⟩
  obtain ⟨N, hN⟩ : ∃ N, nh s = N := ⟨_, rfl⟩
  rw [hLx] at c2 x2 hlt'
  rw [hN] at c1 c2
  generalize d.sl.length = n at *
  generalize d.bs.length = m at *
  clear hLx hN hnh hlt hc0 hcell ha0 ha hzl
  go_enter Try.func32, Try.ntmps32
  go_wp2
  clear hW0
  refine wp_region_quiet_below (by kernel_rfl) (by kernel_rfl) ?_
  repeat (go_big_quiet_step (first | with_reducible exact c1 _ _ | with_reducible exact c2 _ _))
  refine wpQuiet_nil ?_
  intro _ hw'
  obtain ⟨⟨dq', osq⟩, hw''⟩ := hw'
  subst hw''
  have b8 := below_regrown W0 dq' osq
  clear x0 x1 x2 c1 c2
  generalize Go.Sort.grow (redrawn W0 dq') osq = w8 at *
  go_wp2
  go_ret
  exact ⟨rfl, Below.comp q0 b8⟩
set_option maxHeartbeats 1000000 in
theorem bucketFor_any (v : Value) (d : Dr) (s : ByteArray) (w : World) (hz : szOk d) (hs : s.size ≤ 9223372036854775807) (hc : DirAt w v d) :
    Calls Try.prog 64 #[v, .string s] w fun e w' => e = .returned (.int .i64 (bkOf d s)) ∧ Below w.heap.size w w' := by
  obtain ⟨a, ca, a', ca', rfl, -, -, ha, -⟩ := hc
  unfold bkOf
  obtain ⟨hz0, hz8, hzl⟩ := hz
  have ha0 : At w a d.sl.length fun i => iv (gi d.sl i) := ha
  obtain ⟨D, hD⟩ : ∃ D : Nat, d.dp = (D : Int) := ⟨d.dp.toNat, by omega⟩
  rw [hD] at hz0 hz8 hzl ⊢
  rw [Int.toNat_natCast] at hzl ⊢
  have hD8 : D ≤ 8 := by omega
  have hlt := low_lt (nh s) D
  rw [← hzl] at hlt
  have hpos : d.sl.length ≠ 0 := by omega
  have hnh := nh_lt s
  unfold dv
  obtain ⟨b, off, rfl, hcell⟩ := ha0 hpos
  have hc0 := hcell _ hlt
  have hbig : d.sl.length ≤ 256 := by rw [hzl]; exact Nat.pow_le_pow_right (n := 2) (by omega) hD8
  obtain ⟨W0, hW0⟩ : ∃ W0, w.alloc (.cells #[.int .i64 (D : Int), .slice (some ⟨b, off, none⟩) d.sl.length ca, .slice a' d.bs.length ca'] 32) = W0 := ⟨_, rfl⟩
  have q0 : Below w.heap.size w W0 := by subst hW0; exact below_alloc _ _
  have HA : Hid (W0.heap[w.heap.size]? = some (.cells #[.int .i64 (D : Int), .slice (some ⟨b, off, none⟩) d.sl.length ca, .slice a' d.bs.length ca'] 32 (0, 0))) := by subst hW0; exact al1 _ _
  have c1 := fun dd os => imp_regrown (W := W0) (fun u => implHash_any s u hs) dd os
  have c2 := fun dd os => low_regrownI W0 (n := nh s) (d := D) (by omega) (by omega) dd os
  have x0 : ∀ d os, (Go.Sort.grow (redrawn W0 d) os).cell? ⟨w.heap.size, 0, none⟩ = some (.int .i64 (D : Int)) := fun dd os => cell_regrown (box3_cells HA.out).1 dd os
  have x1 : ∀ dd os, (Go.Sort.grow (redrawn W0 dd) os).cell? ⟨w.heap.size, 1, none⟩ = some (.slice (some ⟨b, off, none⟩) d.sl.length ca) := fun dd os => cell_regrown (box3_cells HA.out).2.1 dd os
  have x2 : ∀ dd os, (Go.Sort.grow (redrawn W0 dd) os).cell? ⟨b, off + low (nh s) D, none⟩ = some (.int .i64 (gi d.sl (low (nh s) D))) := fun dd os => cell_regrown (cell_on hc0 q0) dd os
  have hlt' : ((low (nh s) D : Nat) : Int) < (d.sl.length : Int) := by omega
  generalize gi d.sl (low (nh s) D) = y at *
  obtain ⟨Lx, hLx⟩ : ∃ Lx, low (nh s) D = Lx := ⟨_, rfl⟩
  obtain ⟨N, hN⟩ : ∃ N, nh s = N := ⟨_, rfl⟩
  rw [hLx] at c2 x2 hlt'
  rw [hN] at c1 c2
  generalize d.sl.length = n at *
  generalize d.bs.length = m at *
  clear hLx hN hnh hlt hc0 hcell ha0 ha hzl
  go_enter Try.func64, Try.ntmps64
  go_wp2
  clear hW0
  refine wp_region_quiet_below (by kernel_rfl) (by kernel_rfl) ?_
  repeat (go_big_quiet_step (first | with_reducible exact c1 _ _ | with_reducible exact c2 _ _))
  refine wpQuiet_nil ?_
  intro _ hw'
  obtain ⟨⟨dq', osq⟩, hw''⟩ := hw'
  subst hw''
  have b8 := below_regrown W0 dq' osq
  clear x0 x1 x2 c1 c2
  generalize Go.Sort.grow (redrawn W0 dq') osq = w8 at *
  go_wp2
  go_ret
  exact ⟨rfl, Below.comp q0 b8⟩
/-- What BucketOf answers. -/
def BuOk (d : Dr) (s : ByteArray) (N : Int) (B : Bool) : Prop := (B = true ↔ GS d ∧ isN s = true) ∧ (B = true → N = bkOf d s) ∧ (B = false → N = 0)
theorem bu_ex (d : Dr) (s : ByteArray) : ∃ N B, BuOk d s N B := by
  by_cases h : GS d ∧ isN s = true
  · exact ⟨bkOf d s, true, ⟨by simpa using h, ⟨fun _ => rfl, fun h => (by cases h)⟩⟩⟩
  · exact ⟨0, false, ⟨by simpa using h, ⟨fun h => (by cases h), fun _ => rfl⟩⟩⟩
set_option maxHeartbeats 1000000 in
theorem implBucket_any (v : Value) (d : Dr) (s : ByteArray) (w : World) (hsm : Sml d) (hf : FewD d) (hs : s.size ≤ 9223372036854775807) (hc : DirAt w v d) {N : Int} {B : Bool} (hNB : BuOk d s N B) :
    Calls Try.prog 76 #[v, .string s] w fun e w' => e = .returned (.tuple #[.int .i64 N, .bool B]) ∧ Below w.heap.size w w' := by
  obtain ⟨g, hg⟩ := tel_ex (GS d)
  have cG : ∀ W x, DirAt W x d → Calls Try.prog 39 #[x] W (fun e w' => e = .returned (.bool g) ∧ Below W.heap.size W w') := fun W x h => (implGood_any x d W hsm hf h).mono (fun e w' q => ⟨q.1.is hg, q.2⟩)
  have cN := fun W => isName_any s W hs
  have HBu : Hid (∀ W x, g = true → DirAt W x d → Calls Try.prog 64 #[x, .string s] W (fun e w' => e = .returned (.int .i64 (bkOf d s)) ∧ Below W.heap.size W w')) := fun W x h hd => bucketFor_any x d s W (hg.1 h).1 hs hd
  obtain ⟨a, c, a', c', rfl, hca, hca', ha, ha'⟩ := hc
  have HD : Hid (∀ W, Below w.heap.size w W → DirAt W (dv d.dp a d.sl.length c a' d.bs.length c') d) := fun W h => ⟨a, c, a', c', rfl, hca, hca', ha.below h, ha'.below h⟩
  have HNo : Hid (g = false ∨ isN s = false → N = 0 ∧ B = false) := fun h => by
    have hb : B = false := by
      cases B with
      | false => rfl
      | true =>
        have := hNB.1.1 rfl
        rcases h with h | h
        · rw [h] at hg; exact absurd this.1 (by simpa using hg)
        · rw [h] at this; exact absurd this.2 (by simp)
    exact ⟨hNB.2.2 hb, hb⟩
  have HYes : Hid (g = true → isN s = true → N = bkOf d s ∧ B = true) := fun h h' => by
    have hb : B = true := hNB.1.2 ⟨hg.1 h, h'⟩
    exact ⟨hNB.2.1 hb, hb⟩
  clear ha ha' hca hca' hNB hg hf hsm
  unfold dv at *
  generalize d.dp = DP at *
  generalize d.sl.length = n at *
  generalize d.bs.length = m at *
  generalize isN s = o at *
  generalize bkOf d s = y at *
  obtain ⟨W0, hW0⟩ : ∃ W0, w.alloc (.cells #[.int .i64 DP, .slice a n c, .slice a' m c'] 32) = W0 := ⟨_, rfl⟩
  have q0 : Below w.heap.size w W0 := by subst hW0; exact below_alloc _ _
  have HA : Hid (W0.heap[w.heap.size]? = some (.cells #[.int .i64 DP, .slice a n c, .slice a' m c'] 32 (0, 0))) := by subst hW0; exact al1 _ _
  obtain ⟨x0, x1, x2, -, -, -⟩ := box3_cells HA.out
  go_enter Try.func76, Try.ntmps76
  go_wp2_with fail
  refine (cG _ _ (HD.out _ q0)).mono ?_
  rintro e w1 ⟨rfl, b1⟩
  have g1 := Below.comp q0 b1
  clear x0 x1 x2 hW0
  cases g with
  | false =>
    obtain ⟨rfl, rfl⟩ := HNo.out (by simp)
    go_wp2_with fail
    go_ret2
    exact ⟨rfl, g1⟩
  | true =>
    go_wp2_with fail
    refine (cN _).mono ?_
    rintro e w2 ⟨rfl, hww⟩
    have hww := hww.symm
    subst hww
    cases o with
    | false =>
      obtain ⟨rfl, rfl⟩ := HNo.out (by simp)
      go_wp2_with fail
      go_ret2
      exact ⟨rfl, g1⟩
    | true =>
      obtain ⟨rfl, rfl⟩ := HYes.out (by simp) (by simp)
      obtain ⟨x0, x1, x2, -, -, -⟩ := box3_cells (box_on HA.out b1)
      go_wp2_with fail
      refine (HBu.out _ _ (by simp) (HD.out _ g1)).mono ?_
      rintro e w3 ⟨rfl, b3⟩
      go_wp2_with fail
      go_ret2
      exact ⟨rfl, Below.comp g1 b3⟩
end Go.Proofs.Ytfmgaenedkjmkaa
