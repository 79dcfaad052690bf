import Derived.Test.YtboladoddnnfcaaDoorM1
namespace Go.Proofs.YtboladoddnnfcaaDoor
open Go.ChangeShapes Go.WideShapes Go.ChangeAt Go.RowKit
set_option linter.unusedVariables false
open GF

theorem one_int (z : Int) : ∀ u ∈ [Value.int .u8 z], u.oneCell' = true := by
  intro u hu
  rw [List.mem_singleton] at hu
  rw [hu]; rfl
theorem pt_cells (q : Nat) : byL (ptL q) ++ [Value.int .u8 (3 * (q : Int) + 1)] = byL (ptL (q + 1)) := by
  rw [← ptL_succ, ← byL_append]
  simp [byL]

set_option maxRecDepth 20000 in
set_option maxHeartbeats 6400000 in
theorem lawPoly (a a' : Option Addr) (cap cap' : Nat) (l m : List Nat) (w : World) (hl : bt l) (hm : bt m) (hn : l.length ≤ 9223372036854775807) (hnm : m.length ≤ 9223372036854775807) (hc : At w a l.length (by' (lf l))) (hc' : At w a' m.length (by' (lf m))) (ht : Tab w) :
    Calls Tryd.prog 5 #[.slice a l.length cap, .slice a' m.length cap'] w fun e w' => e = .returned (.bool true) ∧ Below w.heap.size w w' := by
  have hw0 : 0 < w.heap.size := World.block_lt_of_cell? w _ ht.1
  have HW : Hid (0 < w.heap.size) := hw0
  clear hw0
  by_cases h : 1048576 < wrap64 ((l.length : Int) + (m.length : Int))
  · go_enter Tryd.func5, Tryd.ntmps5
    go_wp2
    go_ret
    exact ⟨rfl, Below.refl _ _⟩
  · go_enter Tryd.func5, Tryd.ntmps5
    go_wp2_with fail
    refine (drawTh_any a cap l _ hl hn hc).mono ?_
    rintro e w1 ⟨xs, ys, x, cx, b, cy, rfl, hbx, hby, hxy, h6, hcx, hg, atx, aty, b1⟩
    clear h
    have HXY : Hid (xs.length = ys.length) := hxy
    have HG : Hid (xs.length ≠ 0 → ∃ g, x = some ⟨g, 0, none⟩) := hg
    have hy6 : ys.length ≤ 6 := by omega
    clear hxy hg
    cases hok : thOk xs ys
    · have eL := th_no hok
      have hbL : bt (thL xs ys) := by rw [eL]; simp [bt]
      clear eL
      go_wp2_with fail
      refine (implTh x _ cx cy xs ys _ hbx hby (by omega) (by omega) atx aty (ht.below b1 HW.out)).mono ?_
      rintro e w2 ⟨b2, y, c2, rfl, mg⟩
      rw [hok]
      go_wp2_with fail
      refine (specTh2 x b cx cy xs ys _ hbx hby HXY.out (by omega) hcx HG.out (atx.below b2) (aty.below b2)).mono ?_
      rintro e w3 ⟨b3, z, c3, rfl, ms⟩
      rw [hok]
      replace mg := mg.below b3
      have g3 := Below.comp (Below.comp b1 b2) b3
      have b13 := Below.comp b2 b3
      have cv1 := conv_any c2 hbL mg.bys
      have cv2 := conv_any c3 hbL ms.bys
      have GG : Hid (Below w.heap.size w w3) := g3
      clear g3 b13 b2 b3 mg ms
      go_wp2_with fail
      refine (drawAt_any a' cap' m _ hm hnm (hc'.below GG.out)).mono ?_
      rintro e v1 ⟨p, px, pb, pc, rfl, hbp, hpx, hp61, atp, d1⟩
      have e1 := Below.comp GG.out d1
      by_cases h60 : p.length ≤ 60
      · go_wp2_with fail
        refine (implAt_any _ _ p px _ hbp hpx (by omega) atp (ht.below e1 HW.out)).mono ?_
        rintro e v2 ⟨rfl, d2⟩
        rw [atV_in h60]
        have e2 := Below.comp e1 d2
        go_wp2_with fail
        refine (specAt_any _ _ p px _ hbp hpx (by omega) (atp.below d2)).mono ?_
        rintro e v3 ⟨rfl, d3⟩
        rw [atV_in h60]
        have e3 := Below.comp e2 d3
        have atp3 := (atp.below d2).below d3
        have ATP : Hid (At v3 (some ⟨pb, 0, none⟩) p.length (by' (lf p))) := atp3
        have E3 : Hid _ := e3
        clear d1 d2 d3 e1 e2 atp atp3 e3
        by_cases p0 : p.length = 0
        · obtain rfl := List.eq_nil_of_length_eq_zero p0
          have hpv : pv [] px = 0 := rfl
          rw [hpv]
          go_wp2
          go_ret
          exact ⟨rfl, E3.out⟩
        have p0' : ¬ (p.length : Int) = 0 := by omega
        by_cases p20 : 20 < p.length
        · have p20' : (20 : Int) < (p.length : Int) := by omega
          have p0'' : (0 : Int) < (p.length : Int) := by omega
          go_wp2
          go_ret
          exact ⟨rfl, E3.out⟩
        have p20' : ¬ (20 : Int) < (p.length : Int) := by omega
        have h20 : p.length ≤ 20 := by omega
        obtain ⟨i0, hi, hz0, hz1, hz2⟩ := info_parts info5
        obtain ⟨te, tk⟩ := told_again (p := p) rfl h20 hbp
        have TE : Hid _ := te
        have TK : Hid _ := tk
        clear te tk
        have HI : Hid _ := hi
        have HZ0 : Hid _ := hz0
        have HZ1 : Hid _ := hz1
        have HZ2 : Hid _ := hz2
        clear hi hz0 hz1 hz2
        generalize hnn : p.length = n at *
        have hnb : ((n : Int) == 0) = false := by simpa using p0'
        go_wp2
        go_loopw [21, 22, 141] (fun va vb i wr => ∃ (q : Nat), q ≤ n ∧ i = .int .i64 q ∧ wr.ownsRow v3.heap.size 5 1 va q (byL (ptL q)) ∧ wr.ownsRow v3.heap.size 5 1 vb q (byL (vlL p q)) ∧ Ap va vb ∧ Below v3.heap.size v3 wr) (fun _ _ i _ => n - (intOf i).toNat)
        case atStart => exact ⟨0, Nat.zero_le _, rfl, World.ownsRow_nil _ _ _ _, World.ownsRow_nil _ _ _ _, (fun g h => by cases h), Below.refl _ _⟩
        case round =>
          obtain ⟨q, hq, rfl, hoa, hob, hap, hb⟩ := hrel
          obtain ⟨xa, ca, rfl⟩ := owns_form hoa
          obtain ⟨xb, cb, rfl⟩ := owns_form hob
          have HOA : Hid _ := hoa
          have HOB : Hid _ := hob
          have HAP : Hid (Ap (.slice xa q ca) (.slice xb q cb)) := hap
          clear hoa hob hap
          have gr : Below w.heap.size w wr := Below.comp E3.out hb
          have GR : Hid _ := gr
          clear gr
          by_cases hlt : q < n
          · have hlt' : (q : Int) < (n : Int) := by omega
            have hx1 : 3 * q + 1 < 256 := by omega
            have hxe : (3 * (q : Int) + 1) % 256 = ((3 * q + 1 : Nat) : Int) := by omega
            have hxe2 : 3 * (q : Int) + 1 = ((3 * q + 1 : Nat) : Int) := by omega
            have HXE : Hid _ := hxe2
            clear hxe hxe2
            go_wp2_with fail
            rw [HXE.out]
            refine (implAt_in _ _ n p (3 * q + 1) _ hnn (by omega) hbp hx1 (At.below ATP.out hb) (ht.below GR.out HW.out)).mono ?_
            rintro e w5 ⟨rfl, b5⟩
            have hv5 := pv_lt (3 * q + 1) hbp
            have HOA5 : Hid _ := owns_below HOA.out b5
            have HOB5 : Hid _ := owns_below HOB.out b5
            have hz5 := b5.size
            have hz3 := hb.size
            generalize hPV : pv p (3 * q + 1) = pvv at *
            go_wp2_with (at_builtin; first
              | (refine wpList_append_lies _ rfl (.tmp 153) (.tmp 158) 22 rfl v3.heap.size 5 i0 _ 1 1 Tryd.underlying22 HI.out HZ0.out HZ1.out HZ2.out rfl (by decide) (.slice xa q ca) q (byL (ptL q)) rfl (World.ownsRow.alloc HOA5.out _) ⟨w5.heap.size, 0, none⟩ 1 1 [.int .u8 (3 * (q : Int) + 1)] rfl rfl (new_one _ _ _) (one_int _) (by omega) (by unfold maxLen; omega) (by omega) (by simp; omega) (w5.heap.size + 1) (by simp) ?_
                 intro g1 c1 w6 hown6 hgrow6 hat6 hlt6
                 have b6 : Below v3.heap.size w5 w6 := ((below_alloc w5 (.cells #[.int .u8 (3 * (q : Int) + 1)] 5)).mono (by omega)).trans (Grown.below hgrow6 (by simp; omega) (fun r hr => (World.ownsRow.lt HOA5.out r hr).1))
                 have HOB6 : Hid _ := Ap.keep HAP.out (World.ownsRow.alloc HOB5.out (.cells #[.int .u8 (3 * (q : Int) + 1)] 5)) hgrow6
                 have HAP6 : Hid _ := Ap.next (k := q + 1) (c := c1) HAP.out (World.ownsRow.alloc HOB5.out (.cells #[.int .u8 (3 * (q : Int) + 1)] 5)) (by simpa using hat6)
                 rw [pt_cells] at hown6
                 have HOA6 : Hid _ := hown6
                 have hz6 := b6.size
                 clear hown6 hgrow6 hat6)
              | (refine wpList_append_lies _ rfl (.tmp 160) (.tmp 162) 22 rfl v3.heap.size 5 i0 _ 1 1 Tryd.underlying22 HI.out HZ0.out HZ1.out HZ2.out rfl (by decide) (.slice xb q cb) q (byL (vlL p q)) rfl (World.ownsRow.alloc HOB6.out _) ⟨w6.heap.size, 0, none⟩ 1 1 (byL [pvv]) rfl rfl (new_one _ _ _) (byL_one _) (by omega) (by unfold maxLen; omega) (by omega) (by simp; omega) (w6.heap.size + 1) (by simp) ?_
                 intro g2 c2 w7 hown7 hgrow7 hat7 hlt7
                 have b7 : Below v3.heap.size w6 w7 := ((below_alloc w6 (.cells #[.int .u8 (pvv : Int)] 5)).mono (by omega)).trans (Grown.below hgrow7 (by simp; omega) (fun r hr => (World.ownsRow.lt HOB6.out r hr).1))
                 have HOA7 : Hid _ := Ap.keep (Ap.symm HAP6.out) (World.ownsRow.alloc HOA6.out (.cells #[.int .u8 (pvv : Int)] 5)) hgrow7
                 have HAP7 : Hid _ := Ap.next (k := q + 1) (c := c2) (Ap.symm HAP6.out) (World.ownsRow.alloc HOA6.out (.cells #[.int .u8 (pvv : Int)] 5)) (by simpa using hat7)
                 rw [byL_append] at hown7
                 have HOB7 : Hid _ := hown7
                 clear hown7 hgrow7 hat7))
            go_roundw
            case rel => exact ⟨q + 1, by omega, by go_num, HOA7.out, by rw [← vlL_succ, hPV]; exact HOB7.out, Ap.symm HAP7.out, ((hb.trans (b5.mono hz3)).trans b6).trans b7⟩
            case measure => simp [intOf]; omega
          · obtain rfl : n = q := by omega
            have AA : Hid (At wr xa n (by' (lf (ptL n)))) := (owns_bys (ptL_len n).symm HOA.out).bys
            have AB : Hid (At wr xb n (by' (lf (vlL p n)))) := (owns_bys (vlL_len p n).symm HOB.out).bys
            go_wp2_with fail
            refine (implTh_any _ _ n _ _ (ptL n) (vlL p n) _ (bt_pt (by omega)) (bt_vl hbp) (ptL_len n) (vlL_len p n) (by omega) AA.out AB.out (ht.below GR.out HW.out)).mono ?_
            rintro e w6 ⟨b6, y6, c6, rfl, m6⟩
            rw [TE.out, TK.out] at *
            have g6 := Below.comp GR.out b6
            have ATP6 : At w6 (some ⟨pb, 0, none⟩) p.length (by' (lf p)) := by rw [hnn]; exact At.below (At.below ATP.out hb) b6
            have cv1 := conv_any c6 hbp m6.bys
            have cv2 := conv_any pc hbp ATP6
            rw [hnn] at cv1 cv2 ⊢
            clear m6 ATP6
            go_wp2
            go_ret
            exact ⟨rfl, g6⟩
      · go_wp2_with fail
        refine (implAt_any _ _ p px _ hbp hpx (by omega) atp (ht.below e1 HW.out)).mono ?_
        rintro e v2 ⟨rfl, d2⟩
        rw [atV_out h60]
        have e2 := Below.comp e1 d2
        go_wp2_with fail
        refine (specAt_any _ _ p px _ hbp hpx (by omega) (atp.below d2)).mono ?_
        rintro e v3 ⟨rfl, d3⟩
        rw [atV_out h60]
        have e3 := Below.comp e2 d3
        go_wp2
        go_ret
        exact ⟨rfl, e3⟩
    · obtain ⟨hLl, hbL, h20L, hxy2, hat⟩ := th_at hbx hby hok
      clear hxy2
      have HLL : Hid ((thL xs ys).length = xs.length) := hLl
      have HOK : Hid (thOk xs ys = true) := hok
      clear hLl
      go_wp2_with fail
      refine (implTh x _ cx cy xs ys _ hbx hby (by omega) (by omega) atx aty (ht.below b1 HW.out)).mono ?_
      rintro e w2 ⟨b2, y, c2, rfl, mg⟩
      rw [hok]
      go_wp2_with fail
      refine (specTh2 x b cx cy xs ys _ hbx hby HXY.out (by omega) hcx HG.out (atx.below b2) (aty.below b2)).mono ?_
      rintro e w3 ⟨b3, z, c3, rfl, ms⟩
      rw [hok]
      replace mg := mg.below b3
      have g3 := Below.comp (Below.comp b1 b2) b3
      have b13 := Below.comp b2 b3
      have cv1 := conv_any c2 hbL mg.bys
      have cv2 := conv_any c3 hbL ms.bys
      have ATX := atx.below b13
      have ATY := aty.below b13
      have hLl : (thL xs ys).length = xs.length := HLL.out
      clear HLL
      generalize thL xs ys = L at *
      have ATG := mg.bys
      rw [hLl] at cv1 cv2 ATG ⊢
      have AX : Hid (At w3 x xs.length (by' (lf xs))) := ATX
      have AY : Hid (At w3 (some ⟨b, 0, none⟩) ys.length (by' (lf ys))) := ATY
      have AG : Hid (At w3 y xs.length (by' (lf L))) := ATG
      have G3 : Hid (Below w.heap.size w w3) := g3
      have HATP : Hid _ := hat
      clear g3 b13 b2 b3 mg ms ATX ATY ATG atx aty hat
      go_wp2
      go_loopw [69] (fun i wr => ∃ (k : Nat), k ≤ xs.length ∧ i = .int .i64 k ∧ Below w3.heap.size w3 wr) (fun i _ => xs.length - (intOf i).toNat)
      case atStart => exact ⟨0, Nat.zero_le _, rfl, Below.refl _ _⟩
      case round =>
        obtain ⟨k, hk, rfl, hb⟩ := hrel
        clear cv1 cv2
        by_cases hlt : k < xs.length
        · have hlt' : (k : Int) < (xs.length : Int) := by omega
          have hlt2 : (k : Int) < (ys.length : Int) := by have := HXY.out; omega
          obtain ⟨bx, ox, rfl, hcxk⟩ := (At.below AX.out hb) (by omega)
          have hck := hcxk k hlt
          unfold by' at hck
          have hxk := lf_lt hbx k
          clear hcxk
          go_wp2_with fail
          refine (implAt_in y c2 xs.length L (lf xs k) _ hLl (by omega) hbL hxk (At.below AG.out hb) (ht.below (Below.comp G3.out hb) HW.out)).mono ?_
          rintro e w4 ⟨rfl, b4⟩
          rw [HATP.out k hlt]
          obtain ⟨by1, oy, hey, hcyk⟩ := (At.below (At.below AY.out hb) b4) (by have := HXY.out; omega)
          simp at hey
          obtain ⟨rfl, rfl⟩ := hey
          have hcy2 := hcyk k (by have := HXY.out; omega)
          unfold by' at hcy2
          rw [Nat.zero_add] at hcy2
          clear hcyk hck
          go_wp2
          go_roundw
          case rel => exact ⟨k + 1, by omega, by go_num, Below.comp hb b4⟩
          case measure => simp [intOf]; omega
        · have hlt' : ¬ (k : Int) < (xs.length : Int) := by omega
          have GG : Hid (Below w.heap.size w wr) := Below.comp G3.out hb
          clear AX AY AG HATP hb
          go_wp2_with fail
          refine (drawAt_any a' cap' m _ hm hnm (hc'.below GG.out)).mono ?_
          rintro e v1 ⟨p, px, pb, pc, rfl, hbp, hpx, hp61, atp, d1⟩
          have e1 := Below.comp GG.out d1
          by_cases h60 : p.length ≤ 60
          · go_wp2_with fail
            refine (implAt_any _ _ p px _ hbp hpx (by omega) atp (ht.below e1 HW.out)).mono ?_
            rintro e v2 ⟨rfl, d2⟩
            rw [atV_in h60]
            have e2 := Below.comp e1 d2
            go_wp2_with fail
            refine (specAt_any _ _ p px _ hbp hpx (by omega) (atp.below d2)).mono ?_
            rintro e v3 ⟨rfl, d3⟩
            rw [atV_in h60]
            have e3 := Below.comp e2 d3
            have atp3 := (atp.below d2).below d3
            have ATP : Hid (At v3 (some ⟨pb, 0, none⟩) p.length (by' (lf p))) := atp3
            have E3 : Hid _ := e3
            clear d1 d2 d3 e1 e2 atp atp3 e3
            by_cases p0 : p.length = 0
            · obtain rfl := List.eq_nil_of_length_eq_zero p0
              have hpv : pv [] px = 0 := rfl
              rw [hpv]
              go_wp2
              go_ret
              exact ⟨rfl, E3.out⟩
            have p0' : ¬ (p.length : Int) = 0 := by omega
            by_cases p20 : 20 < p.length
            · have p20' : (20 : Int) < (p.length : Int) := by omega
              have p0'' : (0 : Int) < (p.length : Int) := by omega
              go_wp2
              go_ret
              exact ⟨rfl, E3.out⟩
            have p20' : ¬ (20 : Int) < (p.length : Int) := by omega
            have h20 : p.length ≤ 20 := by omega
            obtain ⟨i0, hi, hz0, hz1, hz2⟩ := info_parts info5
            obtain ⟨te, tk⟩ := told_again (p := p) rfl h20 hbp
            have TE : Hid _ := te
            have TK : Hid _ := tk
            clear te tk
            have HI : Hid _ := hi
            have HZ0 : Hid _ := hz0
            have HZ1 : Hid _ := hz1
            have HZ2 : Hid _ := hz2
            clear hi hz0 hz1 hz2
            generalize hnn : p.length = n at *
            have hnb : ((n : Int) == 0) = false := by simpa using p0'
            go_wp2
            go_loopw [21, 22, 141] (fun va vb i wr => ∃ (q : Nat), q ≤ n ∧ i = .int .i64 q ∧ wr.ownsRow v3.heap.size 5 1 va q (byL (ptL q)) ∧ wr.ownsRow v3.heap.size 5 1 vb q (byL (vlL p q)) ∧ Ap va vb ∧ Below v3.heap.size v3 wr) (fun _ _ i _ => n - (intOf i).toNat)
            case atStart => exact ⟨0, Nat.zero_le _, rfl, World.ownsRow_nil _ _ _ _, World.ownsRow_nil _ _ _ _, (fun g h => by cases h), Below.refl _ _⟩
            case round =>
              obtain ⟨q, hq, rfl, hoa, hob, hap, hb⟩ := hrel
              obtain ⟨xa, ca, rfl⟩ := owns_form hoa
              obtain ⟨xb, cb, rfl⟩ := owns_form hob
              have HOA : Hid _ := hoa
              have HOB : Hid _ := hob
              have HAP : Hid (Ap (.slice xa q ca) (.slice xb q cb)) := hap
              clear hoa hob hap
              have gr : Below w.heap.size w wr := Below.comp E3.out hb
              have GR : Hid _ := gr
              clear gr
              by_cases hlt : q < n
              · have hlt' : (q : Int) < (n : Int) := by omega
                have hx1 : 3 * q + 1 < 256 := by omega
                have hxe : (3 * (q : Int) + 1) % 256 = ((3 * q + 1 : Nat) : Int) := by omega
                have hxe2 : 3 * (q : Int) + 1 = ((3 * q + 1 : Nat) : Int) := by omega
                have HXE : Hid _ := hxe2
                clear hxe hxe2
                go_wp2_with fail
                rw [HXE.out]
                refine (implAt_in _ _ n p (3 * q + 1) _ hnn (by omega) hbp hx1 (At.below ATP.out hb) (ht.below GR.out HW.out)).mono ?_
                rintro e w5 ⟨rfl, b5⟩
                have hv5 := pv_lt (3 * q + 1) hbp
                have HOA5 : Hid _ := owns_below HOA.out b5
                have HOB5 : Hid _ := owns_below HOB.out b5
                have hz5 := b5.size
                have hz3 := hb.size
                generalize hPV : pv p (3 * q + 1) = pvv at *
                go_wp2_with (at_builtin; first
                  | (refine wpList_append_lies _ rfl (.tmp 153) (.tmp 158) 22 rfl v3.heap.size 5 i0 _ 1 1 Tryd.underlying22 HI.out HZ0.out HZ1.out HZ2.out rfl (by decide) (.slice xa q ca) q (byL (ptL q)) rfl (World.ownsRow.alloc HOA5.out _) ⟨w5.heap.size, 0, none⟩ 1 1 [.int .u8 (3 * (q : Int) + 1)] rfl rfl (new_one _ _ _) (one_int _) (by omega) (by unfold maxLen; omega) (by omega) (by simp; omega) (w5.heap.size + 1) (by simp) ?_
                     intro g1 c1 w6 hown6 hgrow6 hat6 hlt6
                     have b6 : Below v3.heap.size w5 w6 := ((below_alloc w5 (.cells #[.int .u8 (3 * (q : Int) + 1)] 5)).mono (by omega)).trans (Grown.below hgrow6 (by simp; omega) (fun r hr => (World.ownsRow.lt HOA5.out r hr).1))
                     have HOB6 : Hid _ := Ap.keep HAP.out (World.ownsRow.alloc HOB5.out (.cells #[.int .u8 (3 * (q : Int) + 1)] 5)) hgrow6
                     have HAP6 : Hid _ := Ap.next (k := q + 1) (c := c1) HAP.out (World.ownsRow.alloc HOB5.out (.cells #[.int .u8 (3 * (q : Int) + 1)] 5)) (by simpa using hat6)
                     rw [pt_cells] at hown6
                     have HOA6 : Hid _ := hown6
                     have hz6 := b6.size
                     clear hown6 hgrow6 hat6)
                  | (refine wpList_append_lies _ rfl (.tmp 160) (.tmp 162) 22 rfl v3.heap.size 5 i0 _ 1 1 Tryd.underlying22 HI.out HZ0.out HZ1.out HZ2.out rfl (by decide) (.slice xb q cb) q (byL (vlL p q)) rfl (World.ownsRow.alloc HOB6.out _) ⟨w6.heap.size, 0, none⟩ 1 1 (byL [pvv]) rfl rfl (new_one _ _ _) (byL_one _) (by omega) (by unfold maxLen; omega) (by omega) (by simp; omega) (w6.heap.size + 1) (by simp) ?_
                     intro g2 c2 w7 hown7 hgrow7 hat7 hlt7
                     have b7 : Below v3.heap.size w6 w7 := ((below_alloc w6 (.cells #[.int .u8 (pvv : Int)] 5)).mono (by omega)).trans (Grown.below hgrow7 (by simp; omega) (fun r hr => (World.ownsRow.lt HOB6.out r hr).1))
                     have HOA7 : Hid _ := Ap.keep (Ap.symm HAP6.out) (World.ownsRow.alloc HOA6.out (.cells #[.int .u8 (pvv : Int)] 5)) hgrow7
                     have HAP7 : Hid _ := Ap.next (k := q + 1) (c := c2) (Ap.symm HAP6.out) (World.ownsRow.alloc HOA6.out (.cells #[.int .u8 (pvv : Int)] 5)) (by simpa using hat7)
                     rw [byL_append] at hown7
                     have HOB7 : Hid _ := hown7
                     clear hown7 hgrow7 hat7))
                go_roundw
                case rel => exact ⟨q + 1, by omega, by go_num, HOA7.out, by rw [← vlL_succ, hPV]; exact HOB7.out, Ap.symm HAP7.out, ((hb.trans (b5.mono hz3)).trans b6).trans b7⟩
                case measure => simp [intOf]; omega
              · obtain rfl : n = q := by omega
                have AA : Hid (At wr xa n (by' (lf (ptL n)))) := (owns_bys (ptL_len n).symm HOA.out).bys
                have AB : Hid (At wr xb n (by' (lf (vlL p n)))) := (owns_bys (vlL_len p n).symm HOB.out).bys
                go_wp2_with fail
                refine (implTh_any _ _ n _ _ (ptL n) (vlL p n) _ (bt_pt (by omega)) (bt_vl hbp) (ptL_len n) (vlL_len p n) (by omega) AA.out AB.out (ht.below GR.out HW.out)).mono ?_
                rintro e w6 ⟨b6, y6, c6, rfl, m6⟩
                rw [TE.out, TK.out] at *
                have g6 := Below.comp GR.out b6
                have ATP6 : At w6 (some ⟨pb, 0, none⟩) p.length (by' (lf p)) := by rw [hnn]; exact At.below (At.below ATP.out hb) b6
                have cv1 := conv_any c6 hbp m6.bys
                have cv2 := conv_any pc hbp ATP6
                rw [hnn] at cv1 cv2 ⊢
                clear m6 ATP6
                go_wp2
                go_ret
                exact ⟨rfl, g6⟩
          · go_wp2_with fail
            refine (implAt_any _ _ p px _ hbp hpx (by omega) atp (ht.below e1 HW.out)).mono ?_
            rintro e v2 ⟨rfl, d2⟩
            rw [atV_out h60]
            have e2 := Below.comp e1 d2
            go_wp2_with fail
            refine (specAt_any _ _ p px _ hbp hpx (by omega) (atp.below d2)).mono ?_
            rintro e v3 ⟨rfl, d3⟩
            rw [atV_out h60]
            have e3 := Below.comp e2 d3
            go_wp2
            go_ret
            exact ⟨rfl, e3⟩
end Go.Proofs.YtboladoddnnfcaaDoor
