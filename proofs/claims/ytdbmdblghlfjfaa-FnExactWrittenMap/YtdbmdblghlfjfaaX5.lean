import Derived.Test.YtdbmdblghlfjfaaX4
import Derived.Test.YtdbmdblghlfjfaaS1
/- impl.placesOfPieces. -/
namespace Go.Proofs.Ytdbmdblghlfjfaa
open Go.ChangeShapes Go.WideShapes Go.ChangeAt Go.RowKit
set_option linter.unusedVariables false
open Mp

attribute [local go_sem] Oper.semAt_some

theorem gx_dvs {l : List Pc} {i : Nat} (h : i < l.length) : gx (dvs l) i = ((gp l i).a, (gp l i).n) := by
  rw [gp_eq h]
  simp [gx, dvs, h]
theorem cells2 {w : World} {b k n : Nat} {c : Array Value} {e : TypeId} (h : w.heap[b]? = some (.cells c e (0, 0))) (hc : n * 2 ≤ c.size) (hk : k < n) :
    (∃ v, w.cell? ⟨b, k * 2, none⟩ = some v) ∧ (∃ v, w.cell? ⟨b, k * 2 + 1, none⟩ = some v) ∧ w.frozen? ⟨b, k * 2, none⟩ = false ∧ w.frozen? ⟨b, k * 2 + 1, none⟩ = false := by
  have hx : ∀ i, i < c.size → ∃ v, w.cell? ⟨b, i, none⟩ = some v := fun i hi => ⟨c[i], cell_of_block h (by simp [hi])⟩
  exact ⟨hx _ (by omega), hx _ (by omega), free_of_block h, free_of_block h⟩
set_option maxHeartbeats 2000000 in
theorem places_any (a : Option Addr) (c : Nat) (l : List Pc) (w : World) (hl : l.length ≤ 40) (hA : Apart l) (ha : Pcs w a l) :
    Calls Try.prog 64 #[.slice a l.length c] w fun e w' => Below w.heap.size w w' ∧ ∃ v, e = .returned v ∧ OwnR w' w.heap.size v (plX l) := by
  have hmk := make_any (P := Try.prog) 44 73 _ 2 16 Try.underlying44 info73 .i64 .i64 l.length (by omega) (by omega)
  have hdl : (dvs l).length = l.length := by simp [dvs]
  have hsl : (sortX (dvs l)).length = l.length := by rw [len_sortX, hdl]
  obtain ⟨Z, hZ⟩ : ∃ Z, w.heap.size = Z := ⟨_, rfl⟩
  have HS : Hid (∀ W c', W.heap[Z]? = some (.cells c' 73 (0, 0)) → exsN l.length (gx (dvs l)) c' → Calls Try.prog 81 #[.slice (some ⟨Z, 0, none⟩) l.length l.length, .func (.func 82) #[] #[]] W fun e w' => e = .returned (.tuple #[]) ∧ Out Z (Z + 1) W w' ∧ (∃ c', w'.heap[Z]? = some (.cells c' 73 (0, 0)) ∧ exsN l.length (gx (sortX (dvs l))) c')) := fun W c' h1 h2 => by
    have := SortFunc_any Z l.length (dvs l) (sortX (dvs l)) W (dvs_ne hA) (so_sortX _ (dvs_ne hA)) (fun x => (mem_sortX _).symm) (by omega) c' h1 (by rw [hdl]; exact h2)
    rw [hdl, hsl] at this
    exact this.mono fun e w' q => ⟨q.1, q.2.1, q.2.2.1⟩
  have HJ : Hid (∀ W c', W.heap[Z]? = some (.cells c' 73 (0, 0)) → exsN l.length (gx (sortX (dvs l))) c' → Calls Try.prog 83 #[.slice (some ⟨Z, 0, none⟩) l.length l.length, .func (.func 84) #[] #[]] W fun e w' => Below W.heap.size W w' ∧ ∃ v, e = .returned v ∧ OwnR w' W.heap.size v (plX l)) := fun W c' h1 h2 => by
    have := joinAllX_any (some ⟨Z, 0, none⟩) l.length (sortX (dvs l)) W (by omega) (sort_ok hA.1) (by
      unfold Exs
      rw [hsl]
      exact fun _ => ⟨Z, 0, rfl, fun i hi => by simp only [Nat.zero_add]; exact ⟨cell_of_block h1 (h2 i hi).1, cell_of_block h1 (h2 i hi).2⟩⟩)
    rw [hsl] at this
    exact this
  have HX : Hid (∀ i, i < l.length → gx (dvs l) i = ((gp l i).a, (gp l i).n)) := fun i hi => gx_dvs hi
  generalize gx (dvs l) = fd at *
  generalize gx (sortX (dvs l)) = fs at *
  generalize plX l = R at *
  unfold Pcs at ha
  generalize gp l = f at *
  clear hdl hsl hA
  generalize l.length = n at *
  go_enter Try.func64, Try.ntmps64
  go_wp2
  go_loopw [11] (fun i wr => ∃ (k : Nat) (cc : Array Value), k ≤ n ∧ i = .int .i64 k ∧ Hid (wr.heap[Z]? = some (.cells cc 73 (0, 0))) ∧ cc.size = n * 2 ∧ Hid (exsN k fd cc) ∧ Below Z w wr) (fun i _ => n - (intOf i).toNat)
  case atStart => exact ⟨0, _, Nat.zero_le _, rfl, by rw [← hZ]; exact heap_alloc_new w _, by simp [size_made], fun i hi => absurd hi (by simp), by rw [← hZ]; exact (Below.refl _ _).alloc (Nat.le_refl _) _⟩
  case round =>
    obtain ⟨k, cc, hk, rfl, HB, hcs, hst, hb⟩ := hrel
    have hbW : Below w.heap.size w wr := hZ ▸ hb
    by_cases hlt : k < n
    · obtain ⟨bb, off, rfl, hcell⟩ := (ha.below hbW) (by omega)
      obtain ⟨k0, k1, k2, k3⟩ := hcell k hlt
      clear hcell
      have hxk := HX.out k hlt
      have HXk : Hid _ := hxk
      clear hxk
      have cd := fun W => onDevice_any (f k) W
      generalize f k = x at *
      obtain ⟨pf, pn, pa, pz⟩ := x
      simp only at *
      have b0 := below_alloc wr (.cells #[.int .i64 pf, .int .i64 pn, .int .i64 pa, .bool pz] 40)
      go_wp2_with (go_at_call 70; refine (cd _).mono ?_; rintro e w1 ⟨rfl, b1⟩; have bw1 := Below.comp b0 b1; have HB1 : Hid (w1.heap[Z]? = some (.cells cc 73 (0, 0))) := box_on HB.out bw1; obtain ⟨⟨v0, g0⟩, ⟨v1, g1⟩, f0, f1⟩ := cells2 HB1.out (n := n) (k := k) (by omega) hlt)
      go_roundw
      case rel => exact ⟨k + 1, _, by omega, by go_num, block_set (block_set HB1.out), by simpa using hcs, exsN_put (p := pa) (q := pn) hst.out (by omega) hlt HXk.out, ((hb.trans (bw1.mono (by have := box_lt HB.out; omega))).setCell (Nat.le_refl _) _).setCell (Nat.le_refl _) _⟩
      case measure => simp [intOf]; omega
    · obtain rfl : k = n := by omega
      have zlt := box_lt HB.out
      have c1 := HS.out wr cc HB.out hst.out
      clear HS hmk
      go_wp2_with fail
      refine c1.mono ?_
      rintro e w1 ⟨rfl, o1, c', hB1, hs1⟩
      have c2 := HJ.out w1 c' hB1 hs1
      clear HJ c1
      have z1 := o1.size
      go_wp2_with fail
      refine c2.mono ?_
      rintro e w2 ⟨b2, v, rfl, hO⟩
      have HO : Hid _ := hO
      clear hO
      go_wp2_with fail
      go_ret
      exact ⟨by rw [hZ]; exact (hb.trans (o1.below (by omega))).trans (b2.mono (by omega)), v, rfl, owns_mono HO.out (by omega)⟩
end Go.Proofs.Ytdbmdblghlfjfaa
