import Derived.Test.YtmijalmihfgolaaDoorQC
/- Stores: three rows in blocks of their own; what the laws do with them: compare, mark, hold. -/
namespace Go.Proofs.YtmijalmihfgolaaDoor
open Go.ChangeShapes Go.WideShapes Go.ChangeAt Go.RowKit
set_option linter.unusedVariables false
open Tx

attribute [local go_sem] Oper.semAt_some

abbrev stv (x : Option Addr) (N cx : Nat) (y : Option Addr) (M cy : Nat) (z : Option Addr) (G cz : Nat) (q : Int) : Value := .agg #[.slice x N cx, .slice y M cy, .slice z G cz, .int .i64 q]
/-- Two rows that do not share a block. -/
def Apt (N : Nat) (x : Option Addr) (G : Nat) (z : Option Addr) : Prop := N = 0 ∨ G = 0 ∨ ∀ a b : Addr, x = some a → z = some b → a.block ≠ b.block
/-- A store whose three rows lie in blocks of its own. -/
def MineSt (w : World) (B C : Nat) (x y z : Option Addr) (N M G : Nat) (S : Nat → ByteArray) (T : Nat → Int) (U : Nat → ByteArray) (L : Nat → ByteArray) : Prop :=
  MineD w B C x y N M S T U ∧ Mine w B C 9 G z (strs G L) ∧ Apt N x G z
theorem MineSt.below {w w' : World} {B C : Nat} {x y z : Option Addr} {N M G : Nat} {S : Nat → ByteArray} {T : Nat → Int} {U : Nat → ByteArray} {L : Nat → ByteArray} (h : MineSt w B C x y z N M G S T U L) (hb : Below w.heap.size w w') : MineSt w' B C x y z N M G S T U L := ⟨h.1.below hb, h.2.1.below hb, h.2.2⟩
theorem MineSt.mono {w : World} {B C B' C' : Nat} {x y z : Option Addr} {N M G : Nat} {S : Nat → ByteArray} {T : Nat → Int} {U : Nat → ByteArray} {L : Nat → ByteArray} (h : MineSt w B C x y z N M G S T U L) (h1 : B' ≤ B) (h2 : C ≤ C') : MineSt w B' C' x y z N M G S T U L := ⟨h.1.mono h1 h2, h.2.1.mono h1 h2, h.2.2⟩
theorem MineSt.out {w w' : World} {B C B' C' : Nat} {x y z : Option Addr} {N M G : Nat} {S : Nat → ByteArray} {T : Nat → Int} {U : Nat → ByteArray} {L : Nat → ByteArray} (h : MineSt w B C x y z N M G S T U L) (ho : Out B' C' w w') (hd : C ≤ B' ∨ C' ≤ B) : MineSt w' B C x y z N M G S T U L := ⟨h.1.out ho hd, h.2.1.out ho hd, h.2.2⟩
theorem mine_at {w : World} {B C : Nat} {e : TypeId} {n : Nat} {x : Option Addr} {p : Array Value → Prop} (hC : C ≤ w.heap.size) (h : Mine w B C e n x p) :
    ∃ Bx Cx, Mine w Bx Cx e n x p ∧ (B ≤ Bx ∧ Cx ≤ C ∨ Bx = Cx) ∧ Cx ≤ w.heap.size ∧ (n = 0 ∧ Bx = 0 ∧ Cx = 0 ∨ n ≠ 0 ∧ ∃ a c, x = some a ∧ Bx = a.block ∧ Cx = a.block + 1 ∧ w.heap[a.block]? = some (.cells c e (0, 0))) := by
  by_cases hn : n = 0
  · exact ⟨0, 0, .inl hn, .inr rfl, Nat.zero_le _, .inl ⟨hn, rfl, rfl⟩⟩
  · rcases h with h | ⟨b, c, h1, h2, h3, h4, h5⟩
    · exact absurd h hn
    · exact ⟨b, b + 1, .inr ⟨b, c, Nat.le_refl _, Nat.lt_succ_self _, h3, h4, h5⟩, .inl ⟨h1, h2⟩, by omega, .inr ⟨hn, _, c, h3, rfl, rfl, h4⟩⟩
theorem types_apart {w : World} {b b' : Nat} {c c' : Array Value} {e f : TypeId} (hef : e ≠ f) (h : w.heap[b]? = some (.cells c e (0, 0))) (h' : w.heap[b']? = some (.cells c' f (0, 0))) : b ≠ b' := by
  intro e1
  subst e1
  rw [h] at h'
  simp at h'
  exact hef h'.2
theorem st_apart {w : World} {B C : Nat} {x y z : Option Addr} {N M G : Nat} {S : Nat → ByteArray} {T : Nat → Int} {U : Nat → ByteArray} {L : Nat → ByteArray} (hC : C ≤ w.heap.size) (h : MineSt w B C x y z N M G S T U L) :
    ∃ Bx Cx By Cy Bz Cz, (Mine w Bx Cx 9 N x (strs N S) ∧ Mine w By Cy 63 M y (wrts M T U) ∧ Mine w Bz Cz 9 G z (strs G L)) ∧ ((B ≤ Bx ∧ Cx ≤ C ∨ Bx = Cx) ∧ (B ≤ By ∧ Cy ≤ C ∨ By = Cy) ∧ (B ≤ Bz ∧ Cz ≤ C ∨ Bz = Cz)) ∧
      (Cx ≤ w.heap.size ∧ Cy ≤ w.heap.size ∧ Cz ≤ w.heap.size) ∧ (Cx ≤ By ∨ Cy ≤ Bx) ∧ (Cx ≤ Bz ∨ Cz ≤ Bx) ∧ (Cy ≤ Bz ∨ Cz ≤ By) := by
  obtain ⟨⟨hx, hy⟩, hz, ha⟩ := h
  obtain ⟨Bx, Cx, mx, dx, sx, tx⟩ := mine_at hC hx
  obtain ⟨By, Cy, my, dy, sy, ty⟩ := mine_at hC hy
  obtain ⟨Bz, Cz, mz, dz, sz, tz⟩ := mine_at hC hz
  refine ⟨Bx, Cx, By, Cy, Bz, Cz, ⟨mx, my, mz⟩, ⟨dx, dy, dz⟩, ⟨sx, sy, sz⟩, ?_, ?_, ?_⟩
  · rcases tx with ⟨_, rfl, rfl⟩ | ⟨_, a, c, _, rfl, rfl, hc⟩
    · exact .inl (Nat.zero_le _)
    · rcases ty with ⟨_, rfl, rfl⟩ | ⟨_, a', c', _, rfl, rfl, hc'⟩
      · exact .inr (Nat.zero_le _)
      · have := types_apart (by decide) hc hc'; omega
  · rcases tx with ⟨_, rfl, rfl⟩ | ⟨nx, a, c, ea, rfl, rfl, hc⟩
    · exact .inl (Nat.zero_le _)
    · rcases tz with ⟨_, rfl, rfl⟩ | ⟨nz, a', c', ea', rfl, rfl, hc'⟩
      · exact .inr (Nat.zero_le _)
      · rcases ha with h0 | h0 | h0
        · exact absurd h0 nx
        · exact absurd h0 nz
        · have := h0 _ _ ea ea'; omega
  · rcases tz with ⟨_, rfl, rfl⟩ | ⟨_, a, c, _, rfl, rfl, hc⟩
    · exact .inr (Nat.zero_le _)
    · rcases ty with ⟨_, rfl, rfl⟩ | ⟨_, a', c', _, rfl, rfl, hc'⟩
      · exact .inl (Nat.zero_le _)
      · have := types_apart (by decide) hc hc'; omega

set_option maxHeartbeats 800000 in
theorem markDev_two (Bx Cx By Cy : Nat) (x y : Option Addr) (N M cx cy : Nat) (S : Nat → ByteArray) (T : Nat → Int) (U : Nat → ByteArray) (k : Nat) (w : World) (hk : 1 ≤ k) (hkn : k + N + 2 * M ≤ 100000000) (hCx : Cx ≤ w.heap.size) (hCy : Cy ≤ w.heap.size) (dd : Cx ≤ By ∨ Cy ≤ Bx) (mx : Mine w Bx Cx 9 N x (strs N S)) (my : Mine w By Cy 63 M y (wrts M T U)) :
    Calls Tryd.prog 61 #[.agg #[.slice x N cx, .slice y M cy], .int .i64 k] w fun e w' => e = .returned (.int .i64 ((k + N + 2 * M : Nat) : Int)) ∧ (∃ wm, Out Bx Cx w wm ∧ Out By Cy wm w') ∧ Mine w' Bx Cx 9 N x (strs N (mk k)) ∧ Mine w' By Cy 63 M y (wrts M (mkT (k + N)) (mkU (k + N))) := by
  have h0 : ∀ o1, Below w.heap.size w (w.alloc o1) := fun o1 => below_alloc _ _
  go_enter Tryd.func61, Tryd.ntmps61
  go_wp2_with fail
  refine (markStringS_any Bx Cx x N cx S k _ hk (by omega) (mx.below (h0 _))).mono ?_
  rintro e w1 ⟨rfl, o1, mx1⟩
  have my1 := (my.below (h0 (.cells #[.slice x N cx, .slice y M cy] 32))).out o1 (by omega)
  have y1 : w1.cell? ⟨w.heap.size, 1, none⟩ = some (.slice y M cy) := o1.cell (cell_new1 w _ _ _) (by omega)
  go_wp2_with fail
  refine (markWriteS_any By Cy y M cy T U (k + N) _ (by omega) hkn my1).mono ?_
  rintro e w2 ⟨rfl, o2, my2⟩
  have mx2 := mx1.out o2 (by omega)
  clear y1
  go_wp2
  go_ret
  exact ⟨rfl, ⟨w1, (Out.of_below (h0 _)).trans o1, o2⟩, mx2, my2⟩

theorem cell4_2 (w : World) (v0 v1 v2 v3 : Value) (t : TypeId) : (w.alloc (.cells #[v0, v1, v2, v3] t)).cell? ⟨w.heap.size, 2, none⟩ = some v2 := by simp [go_sem]

set_option maxHeartbeats 1600000 in
theorem markStore_any (B C : Nat) (x y z : Option Addr) (N M G cx cy cz : Nat) (q : Int) (S : Nat → ByteArray) (T : Nat → Int) (U : Nat → ByteArray) (L : Nat → ByteArray) (k : Nat) (w : World) (hk : 1 ≤ k) (hkn : k + N + 2 * M + G ≤ 100000000) (hC : C ≤ w.heap.size) (hm : MineSt w B C x y z N M G S T U L) :
    Calls Tryd.prog 21 #[stv x N cx y M cy z G cz q, .int .i64 k] w fun e w' => e = .returned (.int .i64 ((k + N + 2 * M + G : Nat) : Int)) ∧ Out B C w w' ∧ MineSt w' B C x y z N M G (mk k) (mkT (k + N)) (mkU (k + N)) (mk (k + N + 2 * M)) := by
  have hap := hm.2.2
  obtain ⟨Bx, Cx, By, Cy, Bz, Cz, ⟨mx, my, mz⟩, ⟨dx, dy, dz⟩, ⟨sx, sy, sz⟩, dxy, dxz, dyz⟩ := st_apart hC hm
  clear hm
  have h0 : ∀ o1, Below w.heap.size w (w.alloc o1) := fun o1 => below_alloc _ _
  have hs0 : ∀ o1, w.heap.size ≤ (w.alloc o1).heap.size := fun o1 => by simp
  go_enter Tryd.func21, Tryd.ntmps21
  go_wp2_with fail
  refine (markDev_two Bx Cx By Cy x y N M cx cy S T U k _ hk (by omega) (Nat.le_trans sx (hs0 _)) (Nat.le_trans sy (hs0 _)) dxy (mx.below (h0 _)) (my.below (h0 _))).mono ?_
  rintro e w2 ⟨rfl, ⟨w1, o1, o2⟩, mx2, my2⟩
  have mz2 := ((mz.below (h0 (.cells #[.slice x N cx, .slice y M cy, .slice z G cz, .int .i64 q] 34))).out o1 (by omega)).out o2 (by omega)
  have z2 : w2.cell? ⟨w.heap.size, 2, none⟩ = some (.slice z G cz) := o2.cell (o1.cell (cell4_2 w _ _ _ _ _) (by omega)) (by omega)
  go_wp2_with fail
  refine (markStringS_any Bz Cz z G cz L (k + N + 2 * M) _ (by omega) hkn mz2).mono ?_
  rintro e w3 ⟨rfl, o3, mz3⟩
  have mx3 := mx2.out o3 (by omega)
  have my3 := my2.out o3 (by omega)
  clear z2
  go_wp2
  go_ret
  exact ⟨rfl, (((Out.of_below (h0 _)).trans (o1.wide dx)).trans (o2.wide dy)).trans (o3.wide dz), ⟨mx3.wide dx, my3.wide dy⟩, mz3.wide dz, hap⟩

set_option maxHeartbeats 800000 in
theorem heldStore_any (x y z : Option Addr) (N M G cx cy cz : Nat) (q : Int) (k : Nat) (w : World) (hk : 1 ≤ k) (hkn : k + N + 2 * M + G ≤ 100000000) (hx : At w x N fun i => .string (mk k i)) (hy : At2 w y M (mkT (k + N)) (mkU (k + N))) (hz : At w z G fun i => .string (mk (k + N + 2 * M) i)) :
    Calls Tryd.prog 23 #[stv x N cx y M cy z G cz q, .int .i64 k] w fun e w' => e = .returned (.int .i64 ((k + N + 2 * M + G : Nat) : Int)) ∧ Below w.heap.size w w' := by
  have h0 : ∀ o1, Below w.heap.size w (w.alloc o1) := fun o1 => below_alloc _ _
  go_enter Tryd.func23, Tryd.ntmps23
  go_wp2_with fail
  refine (heldDevice_any x y N M cx cy k _ hk (by omega) (hx.below (h0 _)) (hy.below (h0 _))).mono ?_
  rintro e w1 ⟨rfl, b1⟩
  have g1 := Below.comp (h0 _) b1
  have z1 := cell_on (cell4_2 w _ _ _ _ _) b1
  have hp : ¬ (((k + N + 2 * M : Nat) : Int) < 0) := by omega
  have hp2 : ¬ (((k + N + 2 * M + G : Nat) : Int) < 0) := by omega
  go_wp2_with fail
  refine (heldStringS_any z G cz (k + N + 2 * M) _ (by omega) hkn (hz.below g1)).mono ?_
  rintro e w2 ⟨rfl, b2⟩
  have g2 := Below.comp g1 b2
  clear z1
  go_wp2
  go_ret
  exact ⟨rfl, g2⟩

set_option maxHeartbeats 800000 in
theorem eqStore_any (a a' az b b' bz : Option Addr) (n m g ca ca' caz cb cb' cbz : Nat) (q : Int) (S : Nat → ByteArray) (T : Nat → Int) (U : Nat → ByteArray) (L : Nat → ByteArray) (w : World) (hn : n ≤ 9223372036854775807) (hm : m ≤ 9223372036854775807) (hg : g ≤ 9223372036854775807)
    (ha : At w a n fun i => .string (S i)) (ha' : At2 w a' m T U) (haz : At w az g fun i => .string (L i)) (hb : At w b n fun i => .string (S i)) (hb' : At2 w b' m T U) (hbz : At w bz g fun i => .string (L i)) :
    Calls Tryd.prog 15 #[stv a n ca a' m ca' az g caz q, stv b n cb b' m cb' bz g cbz q] w fun e w' => e = .returned (.bool true) ∧ Below w.heap.size w w' := by
  have h0 : ∀ o1 o2, Below w.heap.size w ((w.alloc o1).alloc o2) := fun o1 o2 => (below_alloc _ _).alloc (by simp) _
  go_enter Tryd.func15, Tryd.ntmps15
  go_wp2_with fail
  refine (eqDevice_any a a' b b' n m ca ca' cb cb' S T U _ hn hm (ha.below (h0 _ _)) (ha'.below (h0 _ _)) (hb.below (h0 _ _)) (hb'.below (h0 _ _))).mono ?_
  rintro e w1 ⟨rfl, b1⟩
  obtain ⟨c1, f1⟩ := bcell b1
  have g1 := Below.comp (h0 _ _) b1
  go_wp2_with fail
  refine (eqStringS_any az bz g caz cbz L _ hg (haz.below g1) (hbz.below g1)).mono ?_
  rintro e w2 ⟨rfl, b2⟩
  obtain ⟨c2, f2⟩ := bcell (Below.comp b1 b2)
  have g2 := Below.comp g1 b2
  clear c1 f1
  go_wp2
  go_ret
  exact ⟨rfl, g2⟩
end Go.Proofs.YtmijalmihfgolaaDoor
