import Derived.Test.YtcfjkejaenmibaaDoorE2
/- errors.As of a record's fault into a variable of its type. -/
namespace Go.Proofs.YtcfjkejaenmibaaDoor
open Go.ChangeShapes Go.WideShapes Go.ChangeAt Go.RowKit Go.Extern.Stop Go.Stop Go.Extern
set_option linter.unusedVariables false
open Lg

attribute [local go_sem] Oper.semAt_some

/-- errors.As(nil, x). -/
theorem as_none (v : Value) (w : World) : Calls Tryd.prog 70 #[.nilIface, v] w fun e w' => e = .returned (.bool false) ∧ w' = w := by
  go_enter Tryd.func70, Tryd.ntmps70
  go_wp2
  go_ret
  exact ⟨rfl, rfl⟩
set_option maxRecDepth 20000 in
set_option maxHeartbeats 2000000 in
theorem as_inner (k : Int) (a : Addr) (b D : Nat) (u0 u1 : Value) (w : World) (hb : w.cell? ⟨b, 0, none⟩ = some (.pointer (some ⟨D, 0, none⟩))) (hD : w.heap[D]? = some (.cells #[u0, u1] 82 (0, 0))) :
    Calls Tryd.prog 79 #[.iface 82 (fv k 136 a), .iface 84 (.pointer (some ⟨D, 0, none⟩)), vP b, .iface 108 (.agg #[hd 82])] w
      fun e w' => e = .returned (.bool true) ∧ w'.heap[D]? = some (.cells #[.int .i64 k, .iface 136 (.pointer (some a))] 82 (0, 0)) ∧ Out D (D + 1) w w' := by
  have x1 := run_callFunc_extern (P := Tryd.prog) (f := 73) (e := tofE) Tryd.func73 (by kernel_rfl) (by kernel_rfl) (by kernel_rfl) (by kernel_rfl)
  have x2 := run_callFunc_extern (P := Tryd.prog) (f := 116) (e := tasE) Tryd.func116 (by kernel_rfl) (by kernel_rfl) (by kernel_rfl) (by kernel_rfl)
  have x3 := run_callFunc_extern (P := Tryd.prog) (f := 84) (e := velE) Tryd.func84 (by kernel_rfl) (by kernel_rfl) (by kernel_rfl) (by kernel_rfl)
  have x4 := run_callFunc_extern (P := Tryd.prog) (f := 76) (e := vofE) Tryd.func76 (by kernel_rfl) (by kernel_rfl) (by kernel_rfl) (by kernel_rfl)
  have x5 := run_callFunc_extern (P := Tryd.prog) (f := 85) (e := vsetE) Tryd.func85 (by kernel_rfl) (by kernel_rfl) (by kernel_rfl) (by kernel_rfl)
  have y1 := as_tof
  have y2 := as_tas
  have y3 := as_mAs
  obtain ⟨E, hE⟩ : ∃ E, w.heap.size = E := ⟨_, rfl⟩
  obtain ⟨W1, hW1⟩ : ∃ W1, w.alloc (.cells #[hd 84, .pointer (some ⟨b, 0, none⟩), .int .u64 150] 100) = W1 := ⟨_, rfl⟩
  have q1 : Below w.heap.size w W1 := by subst hW1; exact below_alloc _ _
  have B1 : W1.heap[E]? = some (.cells #[hd 84, .pointer (some ⟨b, 0, none⟩), .int .u64 150] 100 (0, 0)) := by subst hW1 hE; exact al1 _ _
  obtain ⟨c0, c1, c2, -, -, -⟩ := box3_cells B1
  have y4 := as_vel b D W1 (cell_on hb q1)
  obtain ⟨F, hF⟩ : ∃ F, W1.heap.size = F := ⟨_, rfl⟩
  have y5 := as_vof2 k 136 a W1
  obtain ⟨W2, hW2⟩ : ∃ W2, W1.alloc (.cells #[.int .i64 k, .iface 136 (.pointer (some a))] 82) = W2 := ⟨_, rfl⟩
  have q2 : Below W1.heap.size W1 W2 := by subst hW2; exact below_alloc _ _
  have B2 : W2.heap[F]? = some (.cells #[.int .i64 k, .iface 136 (.pointer (some a))] 82 (0, 0)) := by subst hW2 hF; exact al1 _ _
  obtain ⟨d0, d1, -, -⟩ := box2_cells B2
  have hD2 := box_on hD (Below.comp q1 q2)
  have y6 := as_set F D k 136 a u0 u1 W2 d0 d1 hD2
  rw [hF, hW2] at y5
  have HD2 : Hid _ := hD2
  have HQ : Hid _ := Below.comp q1 q2
  clear d0 d1 B1 B2 hD2 q1 q2 hb hD hW2
  go_enter Tryd.func79, Tryd.ntmps79
  go_wp2
  refine wp_loop_rounds 1 ?_
  rw [rounds_succ]
  go_wp2
  go_ret
  exact ⟨rfl, setRow_heap W2 D _ _ _ _ HD2.out, (Out.of_below HQ.out).trans (out_setRow W2 D _)⟩
/-- The variable that holds the type of errors. -/
def Et (w : World) : Prop := w.cell? ⟨2, 0, none⟩ = some (.iface 108 (.agg #[hd 77]))
theorem Et.on {w w' : World} (h : Et w) (hb : Below w.heap.size w w') : Et w' := cell_on h hb
set_option maxRecDepth 20000 in
set_option maxHeartbeats 2000000 in
theorem as_fault (k : Int) (a : Addr) (D : Nat) (u0 u1 : Value) (w : World) (hD : w.heap[D]? = some (.cells #[u0, u1] 82 (0, 0))) (hE : Et w) :
    Calls Tryd.prog 70 #[.iface 82 (fv k 136 a), .iface 84 (.pointer (some ⟨D, 0, none⟩))] w
      fun e w' => e = .returned (.bool true) ∧ w'.heap[D]? = some (.cells #[.int .i64 k, .iface 136 (.pointer (some a))] 82 (0, 0)) ∧ Out D (D + 1) w w' := by
  have x1 := run_callFunc_extern (P := Tryd.prog) (f := 76) (e := vofE) Tryd.func76 (by kernel_rfl) (by kernel_rfl) (by kernel_rfl) (by kernel_rfl)
  have x2 := run_callFunc_extern (P := Tryd.prog) (f := 77) (e := vtyE) Tryd.func77 (by kernel_rfl) (by kernel_rfl) (by kernel_rfl) (by kernel_rfl)
  have x3 := run_callFunc_extern (P := Tryd.prog) (f := 107) (e := tkiE) Tryd.func107 (by kernel_rfl) (by kernel_rfl) (by kernel_rfl) (by kernel_rfl)
  have x4 := run_callFunc_extern (P := Tryd.prog) (f := 78) (e := vnilE) Tryd.func78 (by kernel_rfl) (by kernel_rfl) (by kernel_rfl) (by kernel_rfl)
  have x5 := run_callFunc_extern (P := Tryd.prog) (f := 118) (e := telE) Tryd.func118 (by kernel_rfl) (by kernel_rfl) (by kernel_rfl) (by kernel_rfl)
  have x6 := run_callFunc_extern (P := Tryd.prog) (f := 119) (e := timE) Tryd.func119 (by kernel_rfl) (by kernel_rfl) (by kernel_rfl) (by kernel_rfl)
  have y1 := as_vof D w
  have y2 := as_vty
  have y3 := as_mKi1
  have y4 := as_mKi2
  have y5 := as_ki1
  have y6 := as_ki2
  have y7 := as_mEl
  have y8 := as_tel
  have y9 := as_mIm
  have y10 := as_tim
  obtain ⟨b, hb⟩ : ∃ b, w.heap.size = b := ⟨_, rfl⟩
  obtain ⟨W1, hW1⟩ : ∃ W1, w.alloc (.cells #[.pointer (some ⟨D, 0, none⟩)] 84) = W1 := ⟨_, rfl⟩
  have q1 : Below w.heap.size w W1 := by subst hW1; exact below_alloc _ _
  have B1 : W1.heap[b]? = some (.cells #[.pointer (some ⟨D, 0, none⟩)] 84 (0, 0)) := by subst hW1 hb; exact al1 _ _
  obtain ⟨E, hEe⟩ : ∃ E, W1.heap.size = E := ⟨_, rfl⟩
  obtain ⟨Wz, hWz⟩ : ∃ Wz, W1.alloc (.cells #[.pointer none, .pointer none, .int .u64 0] 100) = Wz := ⟨_, rfl⟩
  have qz : Below W1.heap.size W1 Wz := by subst hWz; exact below_alloc _ _
  have Bz : Wz.heap[E]? = some (.cells #[.pointer none, .pointer none, .int .u64 0] 100 (0, 0)) := by subst hWz hEe; exact al1 _ _
  obtain ⟨c0, c1, c2, f0, f1, f2⟩ := box3_cells Bz
  obtain ⟨W2, hW2⟩ : ∃ W2, ((Wz.setCell ⟨E, 0, none⟩ (hd 84)).setCell ⟨E, 1, none⟩ (.pointer (some ⟨b, 0, none⟩))).setCell ⟨E, 2, none⟩ (.int .u64 150) = W2 := ⟨_, rfl⟩
  have B2 : W2.heap[E]? = some (.cells #[hd 84, .pointer (some ⟨b, 0, none⟩), .int .u64 150] 100 (0, 0)) := by subst hW2; exact box3_set Bz
  have q2 : Below W1.heap.size W1 W2 := by subst hW2; exact ((qz.setCell (by simp; omega) _).setCell (by simp; omega) _).setCell (by simp; omega) _
  obtain ⟨d0, d1, d2, -, -, -⟩ := box3_cells B2
  have hb2 : W2.cell? ⟨b, 0, none⟩ = some (.pointer (some ⟨D, 0, none⟩)) := (box1_cells (box_on B1 q2)).1
  have y11 := as_nil b D W2 hb2
  have g2 := Below.comp q1 q2
  have hg : W2.cell? ⟨2, 0, none⟩ = some (.iface 108 (.agg #[hd 77])) := Et.on hE g2
  have cI := as_inner k a b D u0 u1 W2 hb2 (box_on hD g2)
  rw [hb, hW1] at y1
  have G2 : Hid _ := g2
  clear B1 Bz B2 q1 q2 qz hb2 hE g2
  go_enter Tryd.func70, Tryd.ntmps70
  go_wp2_with fail
  refine cI.mono ?_
  rintro e w3 ⟨rfl, h3, o3⟩
  go_wp2_with fail
  go_ret
  exact ⟨rfl, h3, (Out.of_below G2.out).trans o3⟩
end Go.Proofs.YtcfjkejaenmibaaDoor
