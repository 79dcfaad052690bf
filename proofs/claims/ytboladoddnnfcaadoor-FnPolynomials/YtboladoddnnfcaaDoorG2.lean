import Derived.Test.YtboladoddnnfcaaDoorG1
namespace Go.Proofs.YtboladoddnnfcaaDoor
open Go.ChangeShapes Go.WideShapes Go.ChangeAt Go.RowKit
set_option linter.unusedVariables false
open GF

/-- No two of the list are alike. -/
def Dis (l : List Nat) : Prop := ∀ i j, i < l.length → j < l.length → lf l i = lf l j → i = j
def goodT (xs ys : List Nat) : Prop := xs.length = ys.length ∧ xs.length ≤ 20 ∧ Dis xs
open Classical in
noncomputable def thOk (xs ys : List Nat) : Bool := decide (goodT xs ys)
open Classical in
/-- The polynomial through the points, or none. -/
noncomputable def thL (xs ys : List Nat) : List Nat := if goodT xs ys then ol (lf xs) (lf ys) xs.length xs.length else []
/-- An answer of PolyThrough. -/
def ThRes (w w' : World) (e : Ending) (xs ys : List Nat) : Prop :=
  Below w.heap.size w w' ∧ ∃ a c, e = .returned (.tuple #[.slice a (thL xs ys).length c, .bool (thOk xs ys)]) ∧ Mine w' w.heap.size w'.heap.size (thL xs ys).length a (bys (thL xs ys).length (lf (thL xs ys)))
open Classical in
theorem ThRes.no {w w' : World} {xs ys : List Nat} (h : ¬ goodT xs ys) (hb : Below w.heap.size w w') : ThRes w w' (.returned (.tuple #[.slice none 0 0, .bool false])) xs ys := by
  have e1 : thL xs ys = [] := by unfold thL; exact if_neg h
  have e2 : thOk xs ys = false := by unfold thOk; exact decide_eq_false h
  refine ⟨hb, none, 0, by rw [e1, e2]; rfl, .inl (by rw [e1]; rfl)⟩
open Classical in
theorem ThRes.yes {w w' : World} {xs ys : List Nat} {n c : Nat} {a : Option Addr} (h : goodT xs ys) (hn : xs.length = n) (hb : Below w.heap.size w w') (hm : Mine w' w.heap.size w'.heap.size n a (bys n (lf (ol (lf xs) (lf ys) n n)))) : ThRes w w' (.returned (.tuple #[.slice a n c, .bool true])) xs ys := by
  subst hn
  have e1 : thL xs ys = ol (lf xs) (lf ys) xs.length xs.length := by unfold thL; exact if_pos h
  have e2 : thOk xs ys = true := by unfold thOk; exact decide_eq_true h
  have e3 : (thL xs ys).length = xs.length := by rw [e1]; exact ol_len _ (Nat.le_refl _)
  unfold ThRes
  rw [e3, e2, e1]
  exact ⟨hb, a, c, rfl, hm⟩

theorem implAt_in (a : Option Addr) (cap n : Nat) (l : List Nat) (x : Nat) (w : World) (hN : l.length = n) (h60 : n ≤ 60) (hl : bt l) (hx : x < 256) (hc : At w a n (by' (lf l))) (ht : Tab w) :
    Calls Tryd.prog 28 #[.slice a n cap, .int .u8 (x : Int)] w fun e w' => e = .returned (.tuple #[.int .u8 (pv l x : Nat), .bool true]) ∧ Below w.heap.size w w' := by
  subst hN
  rw [← atV_in h60]
  exact implAt_any a cap l x w hl hx (by omega) hc ht
theorem implDiv_no (a : Nat) (w : World) (ha : a < 256) (ht : Tab w) :
    Calls Tryd.prog 19 #[.int .u8 (a : Int), .int .u8 (0 : Int)] w fun e w' => e = .returned (.tuple #[.int .u8 0, .bool false]) ∧ w' = w := implDiv_any a 0 w ha (by omega) ht
theorem implDiv_yes (a b : Nat) (w : World) (ha : a < 256) (hb : b < 256) (h0 : b ≠ 0) (ht : Tab w) :
    Calls Tryd.prog 19 #[.int .u8 (a : Int), .int .u8 (b : Int)] w fun e w' => e = .returned (.tuple #[.int .u8 (gm a (gi b) : Nat), .bool true]) ∧ w' = w := by
  have := implDiv_any a b w ha hb ht
  have e0 : dvV a b = .tuple #[.int .u8 (gm a (gi b) : Nat), .bool true] := by simp [dvV, h0]
  rw [e0] at this; exact this
theorem withZero_in (a : Option Addr) (cap n : Nat) (l : List Nat) (x : Nat) (w : World) (hN : l.length = n) (hl : bt l) (hx : x < 256) (hn : n ≤ 1048575) (hc : At w a n (by' (lf l))) (ht : Tab w) :
    Calls Tryd.prog 49 #[.slice a n cap, .int .u8 (x : Int)] w fun e w' => RowRes w w' e (n + 1) (lf (mulx l x)) := by
  subst hN
  exact withZero_any a cap l x w hl hx hn hc ht
theorem at_block {w : World} {b n : Nat} {S : Nat → Nat} {c : Array Value} (h : w.heap[b]? = some (.cells c 5 (0, 0))) (hs : bys n S c) : At w (some ⟨b, 0, none⟩) n (by' S) := fun _ => ⟨b, 0, rfl, fun i hi => by rw [Nat.zero_add]; exact cell_of_block h (hs i hi)⟩

set_option maxHeartbeats 3200000 in
theorem implTh_any (a a' : Option Addr) (n cap cap' : Nat) (xs ys : List Nat) (w : World) (hx : bt xs) (hy : bt ys) (hn : xs.length = n) (hn' : ys.length = n) (h20 : n ≤ 20) (hc : At w a n (by' (lf xs))) (hc' : At w a' n (by' (lf ys))) (ht : Tab w) :
    Calls Tryd.prog 26 #[.slice a n cap, .slice a' n cap'] w fun e w' => ThRes w w' e xs ys := by
  have hw0 : 0 < w.heap.size := World.block_lt_of_cell? w _ ht.1
  have hmk := make_any (P := Tryd.prog) 22 5 _ 1 1 Tryd.underlying22 info5 .i64 .i64 n (by omega) (by omega)
  have h20' : ¬ (20 : Int) < (n : Int) := by omega
  have HX : Hid (∀ k, k < n → lf xs k < 256) := fun k _ => lf_lt hx k
  have HY : Hid (∀ k, k < n → lf ys k < 256) := fun k _ => lf_lt hy k
  go_enter Tryd.func26, Tryd.ntmps26
  go_wp2
  obtain ⟨w0, hw⟩ : ∃ w0, w0 = ((w.alloc (.cells (made (.int .u8 0) n) 5)).alloc (.cells #[.int .u8 1] 5)) := ⟨_, rfl⟩
  have r0 : w0.heap[w.heap.size]? = some (.cells (made (.int .u8 0) n) 5 (0, 0)) := by rw [hw]; exact ((below_alloc _ _).block _ (by simp)).trans (heap_new w _)
  have r1 : w0.heap[w.heap.size + 1]? = some (.cells #[.int .u8 1] 5 (0, 0)) := by rw [hw]; have := heap_new (w.alloc (.cells (made (.int .u8 0) n) 5)) (.cells #[.int .u8 1] 5); simpa using this
  have g0 : Below w.heap.size w w0 := by rw [hw]; exact Below.comp (below_alloc _ _) (below_alloc _ _)
  rw [← hw]
  have R0 : Hid _ := r0
  have R1 : Hid _ := r1
  clear hw r0 r1
  go_loopw [7, 34] (fun z i wr => ∃ (k zb zc : Nat) (T Z : List Nat) (c cz : Array Value), k ≤ n ∧ i = .int .i64 k ∧ z = .slice (some ⟨zb, 0, none⟩) (k + 1) zc ∧ w.heap.size < zb ∧ wr.heap[w.heap.size]? = some (.cells c 5 (0, 0)) ∧ wr.heap[zb]? = some (.cells cz 5 (0, 0)) ∧ bys n (lf T) c ∧ bys (k + 1) (lf Z) cz ∧ Nw (lf xs) (lf ys) n k T Z ∧ Below w.heap.size w wr) (fun _ i _ => n - (intOf i).toNat)
  case atStart =>
    refine ⟨0, w.heap.size + 1, 1, List.replicate n 0, [1], _, _, Nat.zero_le _, rfl, rfl, by omega, R0.out, R1.out, made_zeros n, ?_, Nw.start _ _ n, g0⟩
    intro i hi
    obtain rfl : i = 0 := by omega
    rfl
  case round =>
    obtain ⟨k, zb, zc, T, Z, c, cz, hk, rfl, rfl, hzb, hB, hZ, hsT, hsZ, hNw, hb⟩ := hrel
    by_cases hlt : k < n
    · obtain ⟨b, off, rfl, hcell⟩ := (hc.below hb) (by omega)
      obtain ⟨b', off', rfl, hcell'⟩ := (hc'.below hb) (by omega)
      have hck := hcell k hlt
      have hck' := hcell' k hlt
      unfold by' at hck hck'
      have hk' : (k : Int) < (n : Int) := by omega
      have hxk := HX.out k hlt
      have hyk := HY.out k hlt
      have AT : Hid _ := at_block hB hsT
      have AZ : Hid _ := at_block hZ hsZ
      have HB : Hid _ := hB
      have HZ : Hid _ := hZ
      have HN : Hid _ := hNw
      have TW : Hid (Tab wr) := ht.below hb hw0
      have hlw : w.heap.size < wr.heap.size := (Array.getElem?_eq_some_iff.1 hB).1
      have hlz : zb < wr.heap.size := (Array.getElem?_eq_some_iff.1 hZ).1
      clear hcell hcell' hc hc' hB hZ hNw
      go_wp2_with fail
      refine (implAt_in _ _ n T (lf xs k) _ HN.out.tl (by omega) HN.out.tb hxk AT.out TW.out).mono ?_
      rintro e w1 ⟨rfl, b1⟩
      have AZ1 : Hid _ := At.below AZ.out b1
      have TW1 : Hid (Tab w1) := TW.out.below b1 (by omega)
      have hck1 : w1.cell? ⟨b', off' + k, none⟩ = some (.int .u8 (lf ys k : Nat)) := (b1.cell (p := ⟨b', off' + k, none⟩) (lt_of_cell hck')).trans hck'
      clear hck hck'
      go_wp2_with fail
      refine (implAt_in _ _ (k + 1) Z (lf xs k) _ HN.out.zl (by omega) HN.out.zb hxk AZ1.out TW1.out).mono ?_
      rintro e w2 ⟨rfl, b2⟩
      have g2 := Below.comp b1 b2
      have TW2 : Hid (Tab w2) := TW.out.below g2 (by omega)
      have hck2 : w2.cell? ⟨b', off' + k, none⟩ = some (.int .u8 (lf ys k : Nat)) := (b2.cell (p := ⟨b', off' + k, none⟩) (lt_of_cell hck1)).trans hck1
      have HB2 : Hid (w2.heap[w.heap.size]? = some (.cells c 5 (0, 0))) := (g2.block _ hlw).trans HB.out
      have HZ2 : Hid (w2.heap[zb]? = some (.cells cz 5 (0, 0))) := (g2.block _ hlz).trans HZ.out
      have gw2 : Below w.heap.size w w2 := hb.trans (g2.mono (by omega))
      clear hck1 AT AZ AZ1 TW TW1 HB HZ hlz b1 b2
      have hpT := pv_lt (lf xs k) HN.out.tb
      have hpZ := pv_lt (lf xs k) HN.out.zb
      have hxo := bits_u8_xor hpT hyk
      have hxl := xor_lt hpT hyk
      by_cases hz : pv Z (lf xs k) = 0
      · rw [hz]
        go_wp2_with fail
        refine (implDiv_no (pv T (lf xs k) ^^^ lf ys k) _ hxl TW2.out).mono ?_
        rintro e w3 ⟨rfl, rfl⟩
        go_wp2
        have hno : ¬ goodT xs ys := fun hg => by
          obtain ⟨j, hj, e⟩ := HN.out.only _ hxk hz
          have := hg.2.2 j k (by omega) (by omega) e
          omega
        refine bodyPost_ret (v := .tuple #[.slice none 0 0, .bool false]) (by simp [results, Tryd.results26, go_sem]) rfl (ThRes.no hno gw2)
      · go_wp2_with fail
        refine (implDiv_yes (pv T (lf xs k) ^^^ lf ys k) (pv Z (lf xs k)) _ hxl hpZ hz TW2.out).mono ?_
        rintro e w3 ⟨rfl, rfl⟩
        have hf := gm_lt (gi (pv Z (lf xs k))) hxl
        have HS : Hid _ := HN.out.step HX.out HY.out hlt hz
        generalize gm (pv T (lf xs k) ^^^ lf ys k) (gi (pv Z (lf xs k))) = f at *
        have hlT := HN.out.tl
        have hlZ := HN.out.zl
        have hbT := HN.out.tb
        have hbZ := HN.out.zb
        have hlw3 : w.heap.size < w3.heap.size := Nat.lt_of_lt_of_le hlw g2.size
        clear hxo hxl hpT hpZ hck2 g2 hlw
        go_wp2
        go_loopw [66] (fun i wi => ∃ (q : Nat) (c' : Array Value), q ≤ k + 1 ∧ i = .int .i64 q ∧ wi.heap[w.heap.size]? = some (.cells c' 5 (0, 0)) ∧ bys n (lf (ad (fun c => gm f c) (Z.take q) T)) c' ∧ wi.heap[zb]? = some (.cells cz 5 (0, 0)) ∧ Below w.heap.size w wi) (fun i _ => k + 1 - (intOf i).toNat)
        case atStart => exact ⟨0, c, Nat.zero_le _, rfl, HB2.out, by simpa [ad] using hsT, HZ2.out, gw2⟩
        case round =>
          obtain ⟨q, c', hq, rfl, hB', hs', hZ', hb'⟩ := hrel
          by_cases hlq : q < k + 1
          · have hq1 : (q : Int) < (k : Int) + 1 := by omega
            have hq2 : (q : Int) < (n : Int) := by omega
            have hzq := cell_of_block hZ' (hsZ q hlq)
            have hlA := lf_lt hbZ q
            have hAt : lf (ad (fun c => gm f c) (Z.take q) T) q = lf T q := ad_at _ Z T q (by omega)
            have hSt : (ad (fun c => gm f c) (Z.take q) T).set q (lf T q ^^^ gm f (lf Z q)) = ad (fun c => gm f c) (Z.take (q + 1)) T := ad_step _ Z T q (by omega) (by omega)
            have hold := cell_of_block hB' (hs' q (by omega))
            rw [hAt] at hold
            have hfree := free_of_block (i := q) hB'
            have hlM := lf_lt hbT q
            have hgl := gm_lt (lf Z q) hf
            have hxo := bits_u8_xor hlM hgl
            have hadl := ad_len (fun c => gm f c) (Z.take q) T
            have HB3 : Hid _ := hB'
            have HZ3 : Hid _ := hZ'
            have TW3 : Hid (Tab wr.drew) := ht.below hb'.drew hw0
            have HST : Hid _ := hSt
            have hlz : zb < wr.heap.size := (Array.getElem?_eq_some_iff.1 hZ').1
            clear hB' hZ' hSt hAt
            generalize hA : lf Z q = A at *
            generalize hM : lf T q = M at *
            go_wp2
            go_region_with (go_at_call 16; refine (fieldMul_any f A _ hf hlA TW3.out).mono ?_; rintro e w4 ⟨rfl, rfl⟩)
            all_goals go_wp2
            all_goals
              go_roundw
              case rel =>
                refine ⟨q + 1, _, by omega, by go_num, block_set HB3.out, ?_, ?_, (hb'.setCell (Nat.le_refl _) _).drew⟩
                · rw [← HST.out]; exact bys_set hs' (by omega) (by omega)
                · exact (((Out.refl w.heap.size (w.heap.size + 1) wr).setCell (Nat.le_refl _) (by omega) _ _).block zb hlz (by omega)).trans HZ3.out
              case measure => simp [intOf]; omega
          · obtain rfl : q = k + 1 := by omega
            have AZ : Hid _ := at_block hZ' hsZ
            rw [List.take_of_length_le (by omega)] at hs'
            have HB3 : Hid _ := hB'
            have TW3 : Hid (Tab wr) := ht.below hb' hw0
            have hlw4 : w.heap.size < wr.heap.size := (Array.getElem?_eq_some_iff.1 hB').1
            clear hB' hZ'
            go_wp2_with fail
            refine (withZero_in _ _ (k + 1) Z (lf xs k) _ hlZ hbZ hxk (by omega) AZ.out TW3.out).mono ?_
            rintro e w4 ⟨b4, x4, c4, rfl, m4⟩
            rcases m4 with h | ⟨zb4, cz4, hz1, hz2, rfl, hz3, hz4⟩
            · exact absurd h (by omega)
            have HB4 : Hid (w4.heap[w.heap.size]? = some (.cells c' 5 (0, 0))) := (b4.block _ hlw4).trans HB3.out
            have HZ4 : Hid _ := hz3
            clear hz3
            go_wp2
            go_roundw
            case rel => exact ⟨k + 1, zb4, c4, ad (fun c => gm f c) Z T, mulx Z (lf xs k), c', cz4, by omega, by go_num, rfl, by omega, HB4.out, HZ4.out, hs', hz4, HS.out, hb'.trans (b4.mono (by omega))⟩
            case measure => simp [intOf]; omega
    · go_wp2
      obtain rfl : k = n := by omega
      have e0 := hNw.done HX.out HY.out
      refine bodyPost_ret (v := .tuple #[.slice (some ⟨w.heap.size, 0, none⟩) k k, .bool true]) (by simp [results, Tryd.results26, go_sem]) rfl (ThRes.yes ⟨by omega, by omega, fun i j hi hj e => hNw.apart i j (by omega) (by omega) e⟩ hn hb (.inr ⟨_, c, Nat.le_refl _, (Array.getElem?_eq_some_iff.1 hB).1, rfl, hB, e0 ▸ hsT⟩))
end Go.Proofs.YtboladoddnnfcaaDoor
