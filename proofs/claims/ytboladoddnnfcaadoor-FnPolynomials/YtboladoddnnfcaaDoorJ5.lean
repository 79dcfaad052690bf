import Derived.Test.YtboladoddnnfcaaDoorJ4
namespace Go.Proofs.YtboladoddnnfcaaDoor
open Go.ChangeShapes Go.WideShapes Go.ChangeAt Go.RowKit
set_option linter.unusedVariables false
open GF

theorem owns_out {w w' : World} {D e size n : Nat} {v : Value} {xs : List Value} (h : w.ownsRow (D + 1) e size v n xs) (ho : Out D (D + 1) w w') : w'.ownsRow (D + 1) e size v n xs := by
  refine h.kept (row := some D) ⟨ho.os, ho.tape, ho.output, ho.size, fun k hk hne => ho.block k hk (by have : k ≠ D := fun e => hne (by rw [e]); omega)⟩ (.inr fun e => ?_)
  have := (World.ownsRow.lt h D e).1
  omega

/-- What DrawPolyThrough draws. -/
def ThDraw (w w' : World) (e : Ending) : Prop := ∃ (xs ys : List Nat) (x : Option Addr) (cx b cy : Nat), e = .returned (.tuple #[.slice x xs.length cx, .slice (some ⟨b, 0, none⟩) ys.length cy]) ∧ bt xs ∧ bt ys ∧ xs.length = ys.length ∧ xs.length ≤ 6 ∧ xs.length ≤ cx ∧ (xs.length ≠ 0 → ∃ g, x = some ⟨g, 0, none⟩) ∧ At w' x xs.length (by' (lf xs)) ∧ At w' (some ⟨b, 0, none⟩) ys.length (by' (lf ys)) ∧ Below w.heap.size w w'
set_option maxHeartbeats 1600000 in
theorem drawTh_any (a : Option Addr) (cap : Nat) (l : List Nat) (w : World) (hl : bt l) (hn : l.length ≤ 9223372036854775807) (hc : At w a l.length (by' (lf l))) :
    Calls Tryd.prog 25 #[.slice a l.length cap] w fun e w' => ThDraw w w' e := by
  have hcu := cur_new w a l.length cap l hl rfl hc
  have g0 := below_alloc w (.cells #[.slice a l.length cap, .int .i64 0, .int .u64 0] 52)
  generalize hN : l.length = n at *
  go_enter Tryd.func25, Tryd.ntmps25
  go_wp2_with fail
  refine (pick_any 7 w.heap.size a n cap 0 _ (by omega) (by omega) hn (by omega) hcu).mono ?_
  rintro e w1 ⟨k, rfl, hk, o1, c1⟩
  go_wp2_with fail
  refine (pick_any 50 w.heap.size a n cap 2 _ (by omega) (by omega) hn (by omega) c1).mono ?_
  rintro e w2 ⟨x0, rfl, hx0, o2, c2⟩
  have gg : Below w.heap.size w w2 := g0.trans ((o1.trans o2).below (by simp))
  have HC2 : Hid (Cur w2 w.heap.size a n cap 4) := c2
  clear o1 o2 g0 hcu c1 c2 hc
  go_wp2
  go_loopw [6, 7, 8] (fun v xv i wr => ∃ (q x : Nat) (xs : List Nat), q ≤ k ∧ i = .int .i64 q ∧ xv = .int .i64 x ∧ x ≤ 50 + 20 * q ∧ xs.length = q ∧ bt xs ∧ wr.ownsRow (w.heap.size + 1) 5 1 v q (byL xs) ∧ Below w.heap.size w wr ∧ Cur wr w.heap.size a n cap (4 + 2 * q)) (fun _ _ i _ => k - (intOf i).toNat)
  case atStart => exact ⟨0, x0, [], Nat.zero_le _, rfl, rfl, by omega, rfl, by simp [bt], World.ownsRow_nil _ _ _ _, gg, HC2.out⟩
  case round =>
    obtain ⟨q, x, xs, hq, rfl, rfl, hx, hlen, hbx, hown, hb, hcu⟩ := hrel
    have HO : Hid _ := hown
    have HCU : Hid (Cur wr w.heap.size a n cap (4 + 2 * q)) := hcu
    have hDl := hcu.lt
    clear hown hcu HC2 gg
    by_cases hlt : q < k
    · have hlt' : (q : Int) < (k : Int) := by omega
      have hxm : (x : Int) % 256 = (x : Int) := by omega
      go_wp2_with (first
        | (at_builtin
           refine wpList_append_src rfl (.tmp 22) (.tmp 25) 22 rfl (w.heap.size + 1) 5 _ 1 1 Tryd.underlying22 info5 rfl (by decide) _ q (byL xs) rfl (World.ownsRow.alloc HO.out _) (some ⟨wr.heap.size, 0, none⟩) 1 1 (byL [x]) rfl rfl (.inr ⟨_, rfl, new_one _ _ _⟩) (byL_one _) (by omega) (by omega) (by simp; omega) ?_
           intro v2 w2 hown2 hgrow2
           have b2 : Below (w.heap.size + 1) wr w2 := ((below_alloc wr (.cells #[.int .u8 (x : Int)] 5)).mono (by omega)).trans (Grown.below hgrow2 (by simp; omega) (fun q hq => (World.ownsRow.lt HO.out q hq).1))
           rw [byL_append] at hown2
           have HO2 : Hid _ := hown2
           have CU2 : Hid (Cur w2 w.heap.size a n cap (4 + 2 * q)) := Cur.low HCU.out b2
           clear hown2 hgrow2)
        | (go_at_call 46; refine (pick_any 20 w.heap.size a n cap (4 + 2 * q) _ (by omega) (by omega) hn (by omega) CU2.out).mono ?_; rintro e w3 ⟨r, rfl, hr, o3, c3⟩))
      go_roundw
      case rel => exact ⟨q + 1, x + (1 + r), xs ++ [x], by omega, by go_num, by go_num, by omega, by simp [hlen], fun c hc => by rcases List.mem_append.1 hc with h | h; exact hbx c h; simp at h; omega, owns_out HO2.out o3, (hb.trans (b2.mono (by omega))).trans (o3.below (by have := b2.size; omega)), c3⟩
      case measure => simp [intOf]; omega
    · obtain rfl : k = q := by omega
      have hlt' : ¬ (k : Int) < (k : Int) := by omega
      obtain ⟨xa, cx, rfl⟩ := owns_form HO.out
      go_wp2_with fail
      refine (text_any k w.heap.size a n cap _ _ (by omega) hn (by omega) HCU.out).mono ?_
      rintro e w4 ⟨p, rfl, hp, hbp, o4, c4⟩
      have HO4 : Hid _ := owns_out HO.out o4
      have g4 : Below w.heap.size w w4 := hb.trans (o4.below (by omega))
      have hcv := run_bytes_of_string (P := Tryd.prog) w4 9 22 5 (str p) Tryd.underlying9 Tryd.underlying22 Tryd.underlying5
      obtain ⟨cp, hcp⟩ : ∃ cp, cp = grownCap w4 (str p).size 0 5 := ⟨_, rfl⟩
      rw [← hcp, str_size] at hcv
      obtain ⟨W, hW⟩ : ∃ W, W = w4.drew.alloc (.cells (bytesRow (str p) cp) 5 ((bytesRow (str p) cp).size, (bytesRow (str p) cp).size + 1)) := ⟨_, rfl⟩
      rw [← hW] at hcv
      have hA : At W (some ⟨w4.heap.size, 0, none⟩) p.length (by' (lf p)) := at_bytes hbp (by rw [hW]; exact heap_new w4.drew _)
      have bW : Below w4.heap.size w4 W := by rw [hW]; exact below_bytes w4 _
      have HA : Hid _ := hA
      have HBW : Hid _ := bW
      have HO5 : Hid _ := owns_below HO4.out bW
      have HG4 : Hid (∀ r, (Value.slice xa k cx).ownBlock = some r → r < w4.heap.size) := fun r hr => (World.ownsRow.lt HO4.out r hr).2
      have gW := Below.comp g4 bW
      have CW : Hid (Cur W w.heap.size a n cap (4 + 2 * k + 2 * k)) := c4.below bW
      have hDW : w.heap.size < W.heap.size := Cur.lt CW.out
      have h4W := bW.size
      have hD4 := c4.lt
      clear hW hA hcp bW HO HO4 o4 c4 HCU g4 hb hDl
      by_cases hk1 : 1 < k
      · have hk1' : (1 : Int) < (k : Int) := by omega
        obtain ⟨g, cg, cur, hv, hg0, hg1, hg2, hg3⟩ := owns_mine HO5.out (by omega)
        simp at hv
        obtain ⟨rfl, rfl⟩ := hv
        have hg4 : g < w4.heap.size := HG4.out g rfl
        have hcx : k ≤ cx := by
          rcases (HO5.out).2 with ⟨h, h0⟩ | ⟨g', cap', cur', hv', _, _, hle, _⟩
          · omega
          · simp at hv'; omega
        have hbys : bys k (lf xs) cur := fun i hi => by rw [hg3 i (by omega)]; exact byL_at (by omega)
        have HG1 : Hid (W.heap[g]? = some (.cells cur 5 (0, 0))) := hg1
        have hgl : g < W.heap.size := (Array.getElem?_eq_some_iff.1 hg1).1
        clear hg1 hg3 hg2
        go_wp2_with fail
        refine (one_any 12 w.heap.size a n cap _ _ (by omega) (by omega) hn (by omega) CW.out).mono ?_
        rintro e w5 ⟨r, rfl, o5, c5⟩
        have hB5 : w5.heap[g]? = some (.cells cur 5 (0, 0)) := (o5.block g hgl (by omega)).trans HG1.out
        have g5 : Below w.heap.size w w5 := gW.trans (o5.below (by omega))
        have hA5 : At w5 (some ⟨w4.heap.size, 0, none⟩) p.length (by' (lf p)) := fun h0 => by
          obtain ⟨b, off, e, hc⟩ := HA.out h0
          exact ⟨b, off, e, fun i hi => cell_out o5 (hc i hi) (.inr (by simp at e; omega))⟩
        cases r
        · have HB5 : Hid _ := hB5
          have HA5 : Hid _ := hA5
          clear hB5 hA5
          go_wp2
          refine bodyPost_ret (v := .tuple #[.slice (some ⟨g, 0, none⟩) xs.length cx, .slice (some ⟨w4.heap.size, 0, none⟩) p.length cp]) (by simp [results, Tryd.results25, go_sem, hp, hlen]) rfl ⟨xs, p, some ⟨g, 0, none⟩, cx, w4.heap.size, cp, rfl, hbx, hbp, by omega, by omega, by omega, fun _ => ⟨g, rfl⟩, ?_, HA5.out, g5⟩
          exact at_block HB5.out (by rw [hlen]; exact hbys)
        · have hc1 := cell_of_block hB5 (hbys 1 (by omega))
          have hc0 := cell_of_block hB5 (hbys 0 (by omega))
          have hf0 := free_of_block (i := 0) hB5
          have HB5 : Hid _ := hB5
          have HA5 : Hid _ := hA5
          have hcc : (1 : Int) < (cx : Int) := by omega
          clear hB5 hA5
          go_wp2
          refine bodyPost_ret (v := .tuple #[.slice (some ⟨g, 0, none⟩) (xs.set 0 (lf xs 1)).length cx, .slice (some ⟨w4.heap.size, 0, none⟩) p.length cp]) (by simp [results, Tryd.results25, go_sem, hp, hlen]) rfl ⟨xs.set 0 (lf xs 1), p, some ⟨g, 0, none⟩, cx, w4.heap.size, cp, rfl, bt_set hbx 0 (lf_lt hbx 1), hbp, by simp; omega, by simp; omega, by simp; omega, fun _ => ⟨g, rfl⟩, ?_, ?_, g5.setCell (show w.heap.size ≤ g by omega) _⟩
          · exact at_block (block_set HB5.out) (by rw [set_len, hlen]; exact bys_set hbys hlen.symm (by omega))
          · intro h0
            obtain ⟨b, off, e, hcc⟩ := HA5.out h0
            simp at e
            obtain ⟨rfl, rfl⟩ := e
            refine ⟨_, _, rfl, fun i hi => ?_⟩
            exact cell_out ((Out.refl g (g + 1) w5).setCell (Nat.le_refl _) (by omega) _ _) (hcc i hi) (.inr (by omega))
      · have hk1' : ¬ (1 : Int) < (k : Int) := by omega
        go_wp2
        refine bodyPost_ret (v := .tuple #[.slice xa xs.length cx, .slice (some ⟨w4.heap.size, 0, none⟩) p.length cp]) (by simp [results, Tryd.results25, go_sem, hp, hlen]) rfl ⟨xs, p, xa, cx, w4.heap.size, cp, rfl, hbx, hbp, by omega, by omega, ?_, ?_, ?_, HA.out, gW⟩
        · rcases (HO5.out).2 with ⟨h, h0⟩ | ⟨g', cap', cur', hv', _, _, hle, _⟩
          · omega
          · simp at hv'; omega
        · intro h0
          obtain ⟨g, cg, cur, hv, hg0, hg1, hg2, hg3⟩ := owns_mine HO5.out (by omega)
          simp at hv
          exact ⟨g, hv.1⟩
        · rw [hlen]
          exact (owns_bys hlen.symm HO5.out).bys
end Go.Proofs.YtboladoddnnfcaaDoor
