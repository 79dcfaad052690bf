import Derived.Test.YtboladoddnnfcaaDoorJ3
namespace Go.Proofs.YtboladoddnnfcaaDoor
open Go.ChangeShapes Go.WideShapes Go.ChangeAt Go.RowKit
set_option linter.unusedVariables false
open GF

/-- The cursor as it is laid. -/
theorem cur_new (w : World) (a : Option Addr) (n cap : Nat) (l : List Nat) (hl : bt l) (hn : l.length = n) (hc : At w a n (by' (lf l))) : Cur (w.alloc (.cells #[.slice a n cap, .int .i64 0, .int .u64 0] 52)) w.heap.size a n cap 0 := by
  refine ⟨lf l, 0, 0, fun i => lf_lt hl i, fun h0 => ?_, Nat.le_refl _, by omega, by omega, heap_new w _⟩
  obtain ⟨b, off, e, hcell⟩ := hc h0
  exact ⟨b, off, e, lt_of_cell (hcell 0 (by omega)), fun i hi => ((below_alloc w _).cell (p := ⟨b, off + i, none⟩) (lt_of_cell (hcell i hi))).trans (hcell i hi)⟩
/-- What '[]byte(s)' of such a text lays can be read. -/
theorem at_bytes {w : World} {b cap : Nat} {l : List Nat} {fz : Nat × Nat} (hl : bt l) (h : w.heap[b]? = some (.cells (bytesRow (str l) cap) 5 fz)) : At w (some ⟨b, 0, none⟩) l.length (by' (lf l)) := by
  intro _
  refine ⟨b, 0, rfl, fun i hi => ?_⟩
  have h1 := hl l[i] (List.getElem_mem hi)
  have h2 : lf l i = l[i] := by simp [lf, hi]
  have h3 : (bytesRow (str l) cap)[i]? = some (.int .u8 (l[i] : Int)) := by
    unfold bytesRow
    rw [Array.getElem?_append_left (by simp [str, hi])]
    simp [str, hi, Nat.mod_eq_of_lt h1]
  rw [Nat.zero_add, by', h2]
  simp [World.cell?, h, h3]
theorem below_bytes (w : World) (o : Obj) : Below w.heap.size w (w.drew.alloc o) := (Below.refl _ _).drew.alloc (Nat.le_refl _) _

set_option maxHeartbeats 800000 in
theorem drawAt_any (a : Option Addr) (cap : Nat) (l : List Nat) (w : World) (hl : bt l) (hn : l.length ≤ 9223372036854775807) (hc : At w a l.length (by' (lf l))) :
    Calls Tryd.prog 29 #[.slice a l.length cap] w fun e w' => ∃ (p : List Nat) (x b c : Nat), e = .returned (.tuple #[.slice (some ⟨b, 0, none⟩) p.length c, .int .u8 (x : Int)]) ∧ bt p ∧ x < 256 ∧ p.length ≤ 61 ∧ At w' (some ⟨b, 0, none⟩) p.length (by' (lf p)) ∧ Below w.heap.size w w' := by
  have hcu := cur_new w a l.length cap l hl rfl hc
  have g0 := below_alloc w (.cells #[.slice a l.length cap, .int .i64 0, .int .u64 0] 52)
  generalize hN : l.length = n at *
  go_enter Tryd.func29, Tryd.ntmps29
  go_wp2_with fail
  refine (pick_any 8 w.heap.size a n cap 0 _ (by omega) (by omega) hn (by omega) hcu).mono ?_
  rintro e w1 ⟨k, rfl, hk, o1, c1⟩
  go_wp2_with fail
  refine (one_any 30 w.heap.size a n cap 2 _ (by omega) (by omega) hn (by omega) c1).mono ?_
  rintro e w2 ⟨r, rfl, o2, c2⟩
  have oo := o1.trans o2
  have gg : Below w.heap.size w w2 := g0.trans (oo.below (by simp))
  clear o1 o2 oo g0 hcu c1
  cases r
  · go_wp2_with fail
    refine (text_any (k) w.heap.size a n cap 4 _ (by omega) hn (by omega) c2).mono ?_
    rintro e w4 ⟨p, rfl, hp, hbp, o4, c4⟩
    have g4 : Below w.heap.size w w4 := gg.trans (o4.below (Nat.le_of_lt c2.lt))
    have hcv := run_bytes_of_string (P := Tryd.prog) w4 9 22 5 (str p) Tryd.underlying9 Tryd.underlying22 Tryd.underlying5
    obtain ⟨cp, hcp⟩ : ∃ cp, cp = grownCap w4 (str p).size 0 5 := ⟨_, rfl⟩
    rw [← hcp, str_size] at hcv
    obtain ⟨W, hW⟩ : ∃ W, W = w4.drew.alloc (.cells (bytesRow (str p) cp) 5 ((bytesRow (str p) cp).size, (bytesRow (str p) cp).size + 1)) := ⟨_, rfl⟩
    rw [← hW] at hcv
    have hA : At W (some ⟨w4.heap.size, 0, none⟩) p.length (by' (lf p)) := at_bytes hbp (by rw [hW]; exact heap_new w4.drew _)
    have bW : Below w4.heap.size w4 W := by rw [hW]; exact below_bytes w4 _
    have HA : Hid _ := hA
    have HBW : Hid _ := bW
    clear hW hA hcp bW
    go_wp2_with fail
    refine (byte_any w.heap.size a n cap _ _ hn (by omega) (c4.below HBW.out)).mono ?_
    rintro e w5 ⟨x, rfl, hx, o5, c5⟩
    have hlt4 := c4.lt
    have hA5 : At w5 (some ⟨w4.heap.size, 0, none⟩) p.length (by' (lf p)) := fun h0 => by
      obtain ⟨b, off, e, hc⟩ := HA.out h0
      exact ⟨b, off, e, fun i hi => cell_out o5 (hc i hi) (.inr (by simp at e; omega))⟩
    have g5 : Below w.heap.size w w5 := (Below.comp g4 HBW.out).trans (o5.below (by have := Below.size HBW.out; omega))
    go_wp2
    refine bodyPost_ret (v := .tuple #[.slice (some ⟨w4.heap.size, 0, none⟩) p.length cp, .int .u8 (x : Int)]) (by simp [results, Tryd.results29, go_sem, hp]) rfl ⟨p, x, w4.heap.size, cp, rfl, hbp, hx, by omega, hA5, g5⟩
  · go_wp2_with fail
    refine (pick_any 2 w.heap.size a n cap 4 _ (by omega) (by omega) hn (by omega) c2).mono ?_
    rintro e w3 ⟨k2, rfl, hk2, o3, c3⟩
    have g3 : Below w.heap.size w w3 := gg.trans (o3.below (Nat.le_of_lt c2.lt))
    go_wp2_with fail
    refine (text_any (60 + k2) w.heap.size a n cap 6 _ (by omega) hn (by omega) c3).mono ?_
    rintro e w4 ⟨p, rfl, hp, hbp, o4, c4⟩
    have g4 : Below w.heap.size w w4 := g3.trans (o4.below (Nat.le_of_lt c3.lt))
    have hcv := run_bytes_of_string (P := Tryd.prog) w4 9 22 5 (str p) Tryd.underlying9 Tryd.underlying22 Tryd.underlying5
    obtain ⟨cp, hcp⟩ : ∃ cp, cp = grownCap w4 (str p).size 0 5 := ⟨_, rfl⟩
    rw [← hcp, str_size] at hcv
    obtain ⟨W, hW⟩ : ∃ W, W = w4.drew.alloc (.cells (bytesRow (str p) cp) 5 ((bytesRow (str p) cp).size, (bytesRow (str p) cp).size + 1)) := ⟨_, rfl⟩
    rw [← hW] at hcv
    have hA : At W (some ⟨w4.heap.size, 0, none⟩) p.length (by' (lf p)) := at_bytes hbp (by rw [hW]; exact heap_new w4.drew _)
    have bW : Below w4.heap.size w4 W := by rw [hW]; exact below_bytes w4 _
    have HA : Hid _ := hA
    have HBW : Hid _ := bW
    clear hW hA hcp bW
    go_wp2_with fail
    refine (byte_any w.heap.size a n cap _ _ hn (by omega) (c4.below HBW.out)).mono ?_
    rintro e w5 ⟨x, rfl, hx, o5, c5⟩
    have hlt4 := c4.lt
    have hA5 : At w5 (some ⟨w4.heap.size, 0, none⟩) p.length (by' (lf p)) := fun h0 => by
      obtain ⟨b, off, e, hc⟩ := HA.out h0
      exact ⟨b, off, e, fun i hi => cell_out o5 (hc i hi) (.inr (by simp at e; omega))⟩
    have g5 : Below w.heap.size w w5 := (Below.comp g4 HBW.out).trans (o5.below (by have := Below.size HBW.out; omega))
    go_wp2
    refine bodyPost_ret (v := .tuple #[.slice (some ⟨w4.heap.size, 0, none⟩) p.length cp, .int .u8 (x : Int)]) (by simp [results, Tryd.results29, go_sem, hp]) rfl ⟨p, x, w4.heap.size, cp, rfl, hbp, hx, by omega, hA5, g5⟩
end Go.Proofs.YtboladoddnnfcaaDoor
