import Derived.Test.YtfmgaenedkjmkaaGb
import Derived.Test.YtfmgaenedkjmkaaU9
import Derived.Test.YtfmgaenedkjmkaaOL
/- The specification: buckets put in their order. -/
namespace Go.Proofs.Ytfmgaenedkjmkaa
open Go.ChangeShapes Go.WideShapes Go.ChangeAt Go.RowKit
set_option linter.unusedVariables false
open Hd

attribute [local go_sem] Oper.semAt_some

theorem infoBo : (Try.prog.info? 4).map (fun i => (i.zero, i.size, i.bytes)) = some (some (.bool false), 1, 1) := by kernel_rfl
theorem made_bo {m k : Nat} (h : k < m) : (made (.bool false) m)[k]? = some (.bool false) := by
  unfold made
  rw [show (Value.bool false).cells = #[.bool false] from rfl]
  simp [madeCells, h, Nat.mod_one]
theorem GB.at_ {w : World} {B gB m cap : Nat} {N : List Bk} {kb : Nat → Nat} (h : GB w B (.slice (some ⟨gB, 0, none⟩) m cap) N kb) (hm : N.length = m) {k : Nat} (hk : k < m) : ∃ na nc, w.cell? ⟨gB, k * 2, none⟩ = some (.int .i64 (gb N k).dp) ∧ w.cell? ⟨gB, k * 2 + 1, none⟩ = some (.slice na (gb N k).ns.length nc) ∧ ∀ ys, w.ownsRow B 63 2 (.slice (some ⟨gB, 0, none⟩) m cap) N.length ys → ys[k * 2 + 1]? = some (.slice na (gb N k).ns.length nc) := by
  obtain ⟨⟨xs, ho, hx⟩, -⟩ := h
  obtain ⟨h0, p, h1, a, c, rfl, -⟩ := hx k (by omega)
  rcases ho.2 with ⟨e1, -⟩ | ⟨g, cap', cur, e1, -, e3, e4, -, e5, e6⟩
  · cases e1
  · simp only [Value.slice.injEq, Option.some.injEq, Addr.mk.injEq] at e1
    obtain ⟨⟨rfl, -⟩, -, rfl⟩ := e1
    have at' : ∀ (j : Nat) (u : Value), xs[j]? = some u → cur[j]? = some u := fun j u hj => by
      rw [← e6, List.getElem?_take] at hj
      split at hj
      · simpa using hj
      · simp at hj
    refine ⟨a, c, cell_of_block e3 (at' _ _ h0), cell_of_block e3 (at' _ _ h1), fun ys hy => ?_⟩
    rcases hy.2 with ⟨f1, -⟩ | ⟨g', cap'', cur', f1, -, f3, -, -, -, f6⟩
    · cases f1
    · simp only [Value.slice.injEq, Option.some.injEq, Addr.mk.injEq] at f1
      obtain ⟨⟨rfl, -⟩, -, rfl⟩ := f1
      rw [e3] at f3
      simp only [Option.some.injEq, Obj.cells.injEq] at f3
      obtain ⟨rfl, -⟩ := f3
      rw [← f6, e6]
      exact h1
set_option maxHeartbeats 8000000 in
set_option maxRecDepth 20000 in
theorem l8Sort_any (v : Value) (d e : Dr) (kb : Nat → Nat) (w : World) (B : Nat) (hS : SpO w B v d kb) (hw : Hd.Way d e) (hB : B ≤ w.heap.size) (hn8 : d.sl.length ≤ 1000) (hm8 : d.bs.length ≤ 1000) :
    Calls Try.prog 35 #[v] w fun z w' => Below B w w' ∧ w.heap.size ≤ w'.heap.size ∧ ∃ v', z = .returned v' ∧ DOwn w' B w'.heap.size v' e := by
  obtain ⟨gs, c, cs, vB, rfl, hsc, hgs, hcs, hin, hG⟩ := hS
  have hpos : 0 < d.sl.length := by have := (hw.u.slot ⟨#[]⟩).1; omega
  have hmpos : 0 < d.bs.length := by have := hw.u.b 0 hpos; omega
  have HWay : Hid (Hd.Way d e) := hw
  have HBd : Hid (∀ i, i < d.sl.length → ∃ k : Nat, gi d.sl i = (k : Int) ∧ k < d.bs.length) := fun i hi => by have := hw.u.b i hi; exact ⟨(gi d.sl i).toNat, by omega, by omega⟩
  have HB' : Hid (Bd d) := hw.u.b
  obtain ⟨gB, cap, hvB, hgB⟩ : ∃ gB cap, vB = .slice (some ⟨gB, 0, none⟩) d.bs.length cap ∧ gB < w.heap.size := by
    obtain ⟨⟨xs, ho, -⟩, -⟩ := hG
    rcases ho.2 with ⟨-, e2⟩ | ⟨g, cap', cur, e1, -, e3, -⟩
    · omega
    · exact ⟨g, cap', e1, box_lt e3⟩
  subst hvB
  have HG0 : Hid (GB w B (.slice (some ⟨gB, 0, none⟩) d.bs.length cap) d.bs kb) := hG
  have zgs := box_lt hcs
  clear hG hw
  obtain ⟨DP, hDP⟩ : ∃ DP, d.dp = DP := ⟨_, rfl⟩
  obtain ⟨n, hn⟩ : ∃ n, d.sl.length = n := ⟨_, rfl⟩
  obtain ⟨m, hm⟩ : ∃ m, d.bs.length = m := ⟨_, rfl⟩
  have HE : Hid (d.dp = DP ∧ d.sl.length = n ∧ d.bs.length = m) := ⟨hDP, hn, hm⟩
  rw [hDP, hn, hm]
  rw [hn] at hn8 HBd hin hsc hpos
  rw [hm] at hm8 HBd HG0 hmpos
  clear hDP hn hm
  obtain ⟨W0, hW0⟩ : ∃ W0, (w.alloc (.cells #[.int .i64 DP, .slice (some ⟨gs, 0, none⟩) n c, .slice (some ⟨gB, 0, none⟩) m cap] 32)).alloc (.cells #[.int .i64 0, .slice none 0 0, .slice none 0 0] 32) = W0 := ⟨_, rfl⟩
  have q0 : Below w.heap.size w W0 := by subst hW0; exact ba2 _ _ _
  obtain ⟨B1, B2⟩ : W0.heap[w.heap.size]? = some (.cells #[.int .i64 DP, .slice (some ⟨gs, 0, none⟩) n c, .slice (some ⟨gB, 0, none⟩) m cap] 32 (0, 0)) ∧ W0.heap[w.heap.size + 1]? = some (.cells #[.int .i64 0, .slice none 0 0, .slice none 0 0] 32 (0, 0)) := by subst hW0; exact al2 _ _ _
  have z0 := box_lt B2
  have hmk1 : ∀ w, (Instr.makeSlice 22 (.int .i64 (m : Int)) (.int .i64 (m : Int))).run Try.prog w = .ok (.slice (some ⟨w.heap.size, 0, none⟩) m m) (w.alloc (.cells (made (.int .i64 0) m) 3)) := fun w => by have := make_any (P := Try.prog) 22 3 _ 1 8 Try.underlying22 info3 .i64 .i64 m (by omega) (by omega) w; rwa [Nat.mul_one] at this
  have hmk2 : ∀ w, (Instr.makeSlice 45 (.int .i64 (m : Int)) (.int .i64 (m : Int))).run Try.prog w = .ok (.slice (some ⟨w.heap.size, 0, none⟩) m m) (w.alloc (.cells (made (.bool false) m) 4)) := fun w => by have := make_any (P := Try.prog) 45 4 _ 1 1 Try.underlying45 infoBo .i64 .i64 m (by omega) (by omega) w; rwa [Nat.mul_one] at this
  obtain ⟨P, hP⟩ : ∃ P, W0.heap.size = P := ⟨_, rfl⟩
  obtain ⟨Wp, hWp⟩ : ∃ Wp, W0.alloc (.cells (made (.int .i64 0) m) 3) = Wp := ⟨_, rfl⟩
  have qp : Below W0.heap.size W0 Wp := by subst hWp; exact below_alloc _ _
  have hPp : Wp.heap[P]? = some (.cells (made (.int .i64 0) m) 3 (0, 0)) := by subst hWp hP; exact al1 _ _
  obtain ⟨Q, hQ⟩ : ∃ Q, Wp.heap.size = Q := ⟨_, rfl⟩
  obtain ⟨W1, hW1⟩ : ∃ W1, Wp.alloc (.cells (made (.bool false) m) 4) = W1 := ⟨_, rfl⟩
  have q1' : Below Wp.heap.size Wp W1 := by subst hW1; exact below_alloc _ _
  have hQ1 : W1.heap[Q]? = some (.cells (made (.bool false) m) 4 (0, 0)) := by subst hW1 hQ; exact al1 _ _
  have hP1 : W1.heap[P]? = some (.cells (made (.int .i64 0) m) 3 (0, 0)) := box_on hPp q1'
  have q1 : Below W0.heap.size W0 W1 := Below.comp qp q1'
  have hEp := box_on B1 qp
  have HE1 : Hid (W1.heap[w.heap.size]? = some (.cells #[.int .i64 DP, .slice (some ⟨gs, 0, none⟩) n c, .slice (some ⟨gB, 0, none⟩) m cap] 32 (0, 0))) := box_on B1 q1
  have HZ1 : Hid (W1.heap[w.heap.size + 1]? = some (.cells #[.int .i64 0, .slice none 0 0, .slice none 0 0] 32 (0, 0))) := box_on B2 q1
  obtain ⟨x0, x1, x2, -, -, -⟩ := box3_cells B1
  obtain ⟨p0, p1, p2, -, -, -⟩ := box3_cells hEp
  obtain ⟨r0, r1, r2, -, -, -⟩ := box3_cells HE1.out
  have zQ1 := box_lt hQ1
  have zP1 := box_lt hPp
  have hWs : W1.heap.size = Q + 1 := by subst hW1; rw [sz1, hQ]
  have q01 : Below w.heap.size w W1 := Below.comp q0 q1
  have HL1 : Hid (SoL d kb B W1.heap.size gs P Q n m (.slice (some ⟨gB, 0, none⟩) m cap) W1 0 (.slice none 0 0) d.sl [] (fun _ => 0) (fun _ => false) cs (made (.int .i64 0) m) (made (.bool false) m) [] (fun _ => 0)) :=
    ⟨SrI.nil d _, box_on hcs q01, hin, hP1, by simp [size_made], fun k _ h => (by simp at h), hQ1, by simp [size_made], fun k hk => made_bo hk, ⟨rfl, .inl ⟨rfl, rfl⟩⟩, fun i hi => absurd hi (by simp), fun r hr => absurd hr (by simp), fun r _ hr => absurd hr (by simp), HG0.out.keepT (KeepT.below q01)⟩
  have HN : Hid (w.heap.size + 1 < P ∧ P < Q ∧ P = W0.heap.size ∧ gs < w.heap.size ∧ gB < w.heap.size ∧ W1.heap.size = Q + 1 ∧ B ≤ w.heap.size ∧ w.heap.size ≤ W0.heap.size) := ⟨by omega, by omega, hP.symm, zgs, hgB, hWs, hB, q0.size⟩
  have HP : Hid _ := hP
  have HQ : Hid _ := hQ
  clear B1 B2 hP1 hQ1 hcs hin hPp hEp
  go_enter Try.func35, Try.ntmps35
  go_wp2_with fail
  clear hW0 hWp hW1 x0 x1 x2 p0 p1 p2 r0 r1 r2 hmk1 hmk2 hP hQ
  go_loopw [3, 19] (fun vl i wr => ∃ (kk : Nat) (x : Option Addr) (cx : Nat) (S : List Int) (l : List Bk) (pl : Nat → Int) (dn : Nat → Bool) (cS cP cQ : Array Value) (xs : List Value) (src : Nat → Nat), kk ≤ n ∧ i = .int .i64 kk ∧ vl = .slice x l.length cx ∧ Hid (SoL d kb B W1.heap.size gs P Q n m (.slice (some ⟨gB, 0, none⟩) m cap) wr kk (.slice x l.length cx) S l pl dn cS cP cQ xs src) ∧ Hid (wr.heap[w.heap.size]? = some (.cells #[.int .i64 DP, .slice (some ⟨gs, 0, none⟩) n c, .slice (some ⟨gB, 0, none⟩) m cap] 32 (0, 0))) ∧ Hid (wr.heap[w.heap.size + 1]? = some (.cells #[.int .i64 0, .slice none 0 0, .slice none 0 0] 32 (0, 0))) ∧ Below B w wr ∧ W1.heap.size ≤ wr.heap.size) (fun _ i _ => n - (intOf i).toNat)
  case atStart => exact ⟨0, none, 0, d.sl, [], fun _ => 0, fun _ => false, cs, _, _, [], fun _ => 0, Nat.zero_le _, rfl, rfl, HL1, HE1, HZ1, q01.mono hB, Nat.le_refl _⟩
  case round =>
    obtain ⟨kk, x, cx, S, l, pl, dn, cS, cP, cQ, xs, src, hkk, rfl, rfl, HL, HEr, HZr, hbw, hzr⟩ := hrel
    by_cases hlt : kk < n
    · obtain ⟨k, hk, hkm⟩ := HBd.out kk hlt
      have hSn : S.length = n := by rw [HL.out.sr.ln]; exact HE.out.2.1
      have hSk : gi S kk = (k : Int) := by rw [HL.out.sr.old kk (Nat.le_refl _) (by rw [HE.out.2.1]; exact hlt)]; exact hk
      have hc0 := HL.out.iS kk hlt
      rw [hSk] at hc0
      have k0 : wr.cell? ⟨gs, kk, none⟩ = some (.int .i64 (k : Int)) := cell_of_block HL.out.hS hc0
      have f0 : wr.frozen? ⟨gs, kk, none⟩ = false := free_of_block HL.out.hS
      have k1 : wr.cell? ⟨Q, k, none⟩ = some (.bool (dn k)) := cell_of_block HL.out.hQ (HL.out.iQ k hkm)
      have HK : Hid (gi d.sl kk = (k : Int)) := hk
      have Hc0 : Hid (cS[kk]? = some (iv (k : Int))) := hc0
      have hkm' : (k : Int) < (m : Int) := by omega
      have hkn' : (kk : Int) < (n : Int) := by omega
      obtain ⟨x0, x1, x2, -, -, -⟩ := box3_cells HEr.out
      have HSn : Hid (S.length = n) := hSn
      clear hSk hc0 hk hSn
      cases hdk : dn k with
      | true =>
        rw [hdk] at k1
        have hpk : wr.cell? ⟨P, k, none⟩ = some (iv (pl k)) := cell_of_block HL.out.hP (HL.out.iP k hkm hdk)
        have HPR : Hid (wr.cell? ⟨P, k, none⟩ = some (iv (pl k))) := hpk
        have HSR : Hid (wr.cell? ⟨gs, kk, none⟩ = some (.int .i64 (k : Int))) := k0
        have HFR : Hid (wr.frozen? ⟨gs, kk, none⟩ = false) := f0
        have Hdk : Hid _ := hdk
        clear hpk hdk
        go_wp2_with fail
        clear k0 f0 k1 x0 x1 x2
        have SB : Hid (∀ W, Below wr.heap.size wr W → W.cell? ⟨w.heap.size, 1, none⟩ = some (.slice (some ⟨gs, 0, none⟩) n c) ∧ W.cell? ⟨P, k, none⟩ = some (iv (pl k)) ∧ W.cell? ⟨gs, kk, none⟩ = some (.int .i64 (k : Int))) := fun W hW => ⟨(box3_cells (box_on HEr.out hW)).2.1, cell_on HPR.out hW, cell_on HSR.out hW⟩
        refine wp_region_L (fun W => Below wr.heap.size wr W) 8 9 (by kernel_rfl) rfl (Below.drew (Below.refl _ _)) (fun hS0 => ?_)
        refine tkL (i := 0) (d := 45) (v := ?_) rfl rfl (by kernel_rfl) (by kernel_rfl) (by kernel_rfl) (by kernel_rfl) (fun _ _ _ h => h) (Or.inl ⟨by rfl, by intro wq hSq; obtain ⟨q1, q2, q3⟩ := SB.out wq hSq; go_simp; try with_reducible rfl⟩) (by assumption) ?_
        simp only [List.setIfInBounds_toArray, List.set_cons_zero, List.set_cons_succ]
        refine tkL (i := 1) (d := 46) (v := ?_) rfl rfl (by kernel_rfl) (by kernel_rfl) (by kernel_rfl) (by kernel_rfl) (fun _ _ _ h => h) (Or.inl ⟨by rfl, by intro wq hSq; obtain ⟨q1, q2, q3⟩ := SB.out wq hSq; go_simp; try with_reducible rfl⟩) (by assumption) ?_
        simp only [List.setIfInBounds_toArray, List.set_cons_zero, List.set_cons_succ]
        refine tkL (i := 2) (d := 47) (v := ?_) rfl rfl (by kernel_rfl) (by kernel_rfl) (by kernel_rfl) (by kernel_rfl) (fun _ _ _ h => h) (Or.inl ⟨by rfl, by intro wq hSq; obtain ⟨q1, q2, q3⟩ := SB.out wq hSq; go_simp; try with_reducible rfl⟩) (by assumption) ?_
        simp only [List.setIfInBounds_toArray, List.set_cons_zero, List.set_cons_succ]
        refine tkL (i := 3) (d := 48) (v := ?_) rfl rfl (by kernel_rfl) (by kernel_rfl) (by kernel_rfl) (by kernel_rfl) (fun _ _ _ h => h) (Or.inl ⟨by rfl, by intro wq hSq; obtain ⟨q1, q2, q3⟩ := SB.out wq hSq; go_simp; try with_reducible rfl⟩) (by assumption) ?_
        simp only [List.setIfInBounds_toArray, List.set_cons_zero, List.set_cons_succ]
        refine tkL (i := 4) (d := 49) (v := ?_) rfl rfl (by kernel_rfl) (by kernel_rfl) (by kernel_rfl) (by kernel_rfl) (fun _ _ _ h => h) (Or.inl ⟨by rfl, by intro wq hSq; obtain ⟨q1, q2, q3⟩ := SB.out wq hSq; go_simp; try with_reducible rfl⟩) (by assumption) ?_
        simp only [List.setIfInBounds_toArray, List.set_cons_zero, List.set_cons_succ]
        refine tkL (i := 5) (d := 50) (v := ?_) rfl rfl (by kernel_rfl) (by kernel_rfl) (by kernel_rfl) (by kernel_rfl) (fun _ _ _ h => h) (Or.inl ⟨by rfl, by intro wq hSq; obtain ⟨q1, q2, q3⟩ := SB.out wq hSq; go_simp; try with_reducible rfl⟩) (by assumption) ?_
        simp only [List.setIfInBounds_toArray, List.set_cons_zero, List.set_cons_succ]
        refine tkL (i := 6) (d := 51) (v := ?_) rfl rfl (by kernel_rfl) (by kernel_rfl) (by kernel_rfl) (by kernel_rfl) (fun _ _ _ h => h) (Or.inl ⟨by rfl, by intro wq hSq; obtain ⟨q1, q2, q3⟩ := SB.out wq hSq; go_simp; try with_reducible rfl⟩) (by assumption) ?_
        simp only [List.setIfInBounds_toArray, List.set_cons_zero, List.set_cons_succ]
        refine tkL (i := 7) (d := 52) (v := ?_) rfl rfl (by kernel_rfl) (by kernel_rfl) (by kernel_rfl) (by kernel_rfl) (fun _ _ _ h => h) (Or.inl ⟨by rfl, by intro wq hSq; obtain ⟨q1, q2, q3⟩ := SB.out wq hSq; go_simp; try with_reducible rfl⟩) (by assumption) ?_
        simp only [List.setIfInBounds_toArray, List.set_cons_zero, List.set_cons_succ]
        have kz : wr.drew.cell? ⟨gs, kk, none⟩ = some (.int .i64 (k : Int)) := HSR.out
        have fz : wr.drew.frozen? ⟨gs, kk, none⟩ = false := HFR.out
        refine lastL rfl (by kernel_rfl) (by kernel_rfl) (fun K hK => ?_)
        go_simp
        refine hK.out _ _ ?_
        clear hK K
        go_wp2_with fail
        go_round
        case rel =>
          have o1 := out_setCell wr.drew gs kk (iv (pl k))
          have hNN := HN.out
          have hgsB : B ≤ gs := hgs
          refine ⟨kk + 1, x, cx, _, l, pl, dn, _, cP, cQ, xs, src, by omega, by go_num, rfl, SoL.slot (wq := wr.drew) rfl rfl (SrI.met HB'.out HL.out.sr (by rw [HE.out.2.1]; exact hlt) HK.out Hdk.out) hlt HSn.out (by omega) (by omega) HL.out.hS HL.out.iS HL.out.hP HL.out.zP HL.out.iP HL.out.hQ HL.out.zQ HL.out.iQ HL.out.ow HL.out.ex HL.out.sc HL.out.ij HL.out.gd, box_out (w := wr.drew) HEr.out o1 (.inr (by omega)), box_out (w := wr.drew) HZr.out o1 (.inr (by omega)), ?_, ?_⟩
          · exact hbw.trans (((Below.drew (Below.refl wr.heap.size wr)).mono (by omega)).setCell hgs _)
          · exact Nat.le_trans hzr (by simp)
        case measure => simp [intOf]; omega
      | false =>
        rw [hdk] at k1
        have Hdk : Hid _ := hdk
        clear hdk
        have hNN := HN.out
        have hnl : l.length ≤ 1000 := by rw [← HL.out.sr.sn]; have := sn_le S kk; omega
        have g1 : wr.frozen? ⟨Q, k, none⟩ = false := free_of_block HL.out.hQ
        obtain ⟨V1, hV1⟩ : ∃ V1, wr.setCell ⟨Q, k, none⟩ (.bool true) = V1 := ⟨_, rfl⟩
        have o1 : Out Q (Q + 1) wr V1 := by subst hV1; exact out_setCell _ _ _ _
        have t1 : KeepT wr V1 := by subst hV1; exact KeepT.set HL.out.hQ ⟨by decide, by decide⟩
        have hP1 : V1.heap[P]? = some (.cells cP 3 (0, 0)) := box_out HL.out.hP o1 (by omega)
        have g2 : V1.cell? ⟨P, k, none⟩ = some (cP[k]'(by rw [HL.out.zP]; exact hkm)) := cell_of_block hP1 (by simp)
        have g3 : V1.frozen? ⟨P, k, none⟩ = false := free_of_block hP1
        obtain ⟨V2, hV2⟩ : ∃ V2, V1.setCell ⟨P, k, none⟩ (.int .i64 (l.length : Int)) = V2 := ⟨_, rfl⟩
        have o2 : Out P (P + 1) V1 V2 := by subst hV2; exact out_setCell _ _ _ _
        have t2 : KeepT wr V2 := t1.trans (by subst hV2; exact KeepT.set hP1 ⟨by decide, by decide⟩)
        obtain ⟨na, nc, c0, c1, hpys⟩ := (HL.out.gd.keepT t2).at_ HE.out.2.2 hkm
        have Hpys : Hid _ := (HL.out.gd.at_ HE.out.2.2 hkm)
        have hE2 : V2.heap[w.heap.size]? = _ := box_out (box_out HEr.out o1 (.inl (by omega))) o2 (.inl (by omega))
        obtain ⟨d0, d1, d2, -, -, -⟩ := box3_cells hE2
        obtain ⟨V3, hV3⟩ : ∃ V3, V2.alloc (.cells #[.int .i64 (gb d.bs k).dp, .slice na (gb d.bs k).ns.length nc] 63) = V3 := ⟨_, rfl⟩
        have b3 : Below V2.heap.size V2 V3 := by subst hV3; exact below_alloc _ _
        have hN3 : V3.heap[V2.heap.size]? = some (.cells #[.int .i64 (gb d.bs k).dp, .slice na (gb d.bs k).ns.length nc] 63 (0, 0)) := by subst hV3; exact al1 _ _
        have own3 := owns_keepT HL.out.ow (t2.trans (KeepT.below b3))
        have sr3 : 1 = 0 ∨ ∃ ad, some (⟨V2.heap.size, 0, none⟩ : Addr) = some ad ∧ ∀ j u, [Value.int .i64 (gb d.bs k).dp, .slice na (gb d.bs k).ns.length nc][j]? = some u → V3.cell? (ad.add j) = some u := .inr ⟨_, rfl, fun j u hj => by
          rw [addN]
          match j with
          | 0 => simp at hj; subst hj; exact cell_of_block hN3 rfl
          | 1 => simp at hj; subst hj; exact cell_of_block hN3 rfl
          | j + 2 => simp at hj⟩
        have zV3 : W1.heap.size ≤ V3.heap.size := by have := o1.size; have := o2.size; have := b3.size; omega
        have hB3 : Below B w V3 := by
          have a1 : Below B wr V1 := (o1.below (by omega)).mono (by omega)
          have a2 : Below B V1 V2 := (o2.below (by have := o1.size; omega)).mono (by omega)
          exact ((hbw.trans a1).trans a2).trans (b3.mono (by have := o1.size; have := o2.size; omega))
        have HE3 : Hid (V3.heap[w.heap.size]? = some (.cells #[.int .i64 DP, .slice (some ⟨gs, 0, none⟩) n c, .slice (some ⟨gB, 0, none⟩) m cap] 32 (0, 0))) := box_on hE2 b3
        have HZ3 : Hid (V3.heap[w.heap.size + 1]? = some (.cells #[.int .i64 0, .slice none 0 0, .slice none 0 0] 32 (0, 0))) := box_on (box_out (box_out HZr.out o1 (.inl (by omega))) o2 (.inl (by omega))) b3
        have HOW : Hid (V3.ownsRow W1.heap.size 63 2 (.slice x l.length cx) l.length xs) := own3
        have HV1 : Hid _ := hV1
        have HV2 : Hid _ := hV2
        have Hb3 : Hid _ := b3
        have Hp : Hid (∀ ys, wr.ownsRow B 63 2 (.slice (some ⟨gB, 0, none⟩) m cap) d.bs.length ys → ys[k * 2 + 1]? = some (.slice na (gb d.bs k).ns.length nc)) := fun ys hy => hpys ys (owns_keepT hy t2)
        have Hnn : Hid _ := hNN
        clear hNN hN3 hpys o1 o2 t1 t2 hP1 hE2 b3
        obtain ⟨nl, hnl'⟩ : ∃ nl, l.length = nl := ⟨_, rfl⟩
        obtain ⟨dk, hdk⟩ : ∃ dk, (gb d.bs k).dp = dk := ⟨_, rfl⟩
        obtain ⟨ml, hml⟩ : ∃ ml, (gb d.bs k).ns.length = ml := ⟨_, rfl⟩
        have Hnm : Hid (l.length = nl ∧ (gb d.bs k).dp = dk ∧ (gb d.bs k).ns.length = ml) := ⟨hnl', hdk, hml⟩
        rw [hnl'] at own3 hnl hV2
        rw [hdk] at c0 hV3 sr3
        rw [hml] at c1 hV3 sr3
        rw [hnl']
        clear hnl' hdk hml
        go_wp2_with (at_builtin; refine wpList_append_src rfl _ _ 30 rfl W1.heap.size 63 _ 2 32 Try.underlying30 info67 rfl (by decide) (.slice x nl cx) nl xs rfl own3 (some ⟨V2.heap.size, 0, none⟩) 1 1 [.int .i64 dk, .slice na ml nc] rfl rfl sr3 (by simp [Value.oneCell']) (by omega) (by decide) zV3 ?_; intro v5 w5 own5 gr5; obtain ⟨y5, c5, e5⟩ := owns_form own5; subst e5; have HO5 : Hid (w5.ownsRow W1.heap.size 63 2 (.slice y5 (nl + 1) c5) (nl + 1) (xs ++ [.int .i64 dk, .slice na ml nc])) := own5; have HG5 : Hid (V3.grownBy w5 (Value.slice x nl cx).ownBlock) := gr5; have hE5 : w5.heap[w.heap.size]? = some (.cells #[.int .i64 DP, .slice (some ⟨gs, 0, none⟩) n c, .slice (some ⟨gB, 0, none⟩) m cap] 32 (0, 0)) := (by rw [gr5.block w.heap.size (box_lt HE3.out) (fun e => by have h9 := (own_row own3 _ e.symm).1; have := Hnn.out; omega)]; exact HE3.out); have HE5 : Hid _ := hE5; have HZ5 : Hid (w5.heap[w.heap.size + 1]? = some (.cells #[.int .i64 0, .slice none 0 0, .slice none 0 0] 32 (0, 0))) := (by show _ = _; rw [gr5.block (w.heap.size + 1) (box_lt HZ3.out) (fun e => by have h9 := (own_row own3 _ e.symm).1; have := Hnn.out; omega)]; exact HZ3.out); have HB5 : Hid (Below B w w5) := grown_on hB3 (by have := Hnn.out; omega) (owns_low own3 (by have := Hnn.out; omega)) gr5; have HZ9 : Hid (W1.heap.size ≤ w5.heap.size) := Nat.le_trans zV3 gr5.size; obtain ⟨y0, y1, y2, -, -, -⟩ := box3_cells hE5)
        have hSP : SoP d kb B W1.heap.size gs P Q n m (.slice (some ⟨gB, 0, none⟩) m cap) w5 (.slice y5 (nl + 1) c5) S (l ++ [gb d.bs k]) (fun x => if x = k then (l.length : Int) else pl x) (fun x => if x = k then true else dn x) cS (cP.setIfInBounds k (iv (l.length : Int))) (cQ.setIfInBounds k (.bool true)) (xs ++ [.int .i64 (gb d.bs k).dp, .slice na (gb d.bs k).ns.length nc]) (fun r => if r = l.length then k else src r) := by
          have hnn := Hnn.out
          obtain ⟨e1, e2, e3⟩ := Hnm.out
          refine SoL.push (W1 := V1) (W2 := V2) (W3 := V3) HL.out HE.out.2.2 (by omega) (fun g hg => by cases hg; show gB < _; omega) (by omega) (by omega) (by omega) hkm Hdk.out HV1.out.symm HV2.out.symm Hb3.out Hp.out (fun _ => ?_) ?_
          · rw [e1, e2, e3]; exact HO5.out
          · rw [e1]; exact HG5.out
        have HSP : Hid _ := hSP
        have HPR : Hid (w5.cell? ⟨P, k, none⟩ = some (iv (nl : Int))) := by
          obtain ⟨e1, -, -⟩ := Hnm.out
          rw [← e1]
          exact cell_of_block hSP.2.2.1 (by rw [set_at (by rw [HL.out.zP]; exact hkm)])
        have HSR : Hid (w5.cell? ⟨gs, kk, none⟩ = some (.int .i64 (k : Int))) := cell_of_block hSP.1 Hc0.out
        have HFR : Hid (w5.frozen? ⟨gs, kk, none⟩ = false) := free_of_block hSP.1
        clear hSP own3 own5 gr5 sr3 zV3 hB3 k0 f0 k1 g1 g2 g3 c0 c1 d0 d1 d2 x0 x1 x2 y0 y1 y2 hV1 hV2 hV3 hE5
        have SB : Hid (∀ W, Below w5.heap.size w5 W → W.cell? ⟨w.heap.size, 1, none⟩ = some (.slice (some ⟨gs, 0, none⟩) n c) ∧ W.cell? ⟨P, k, none⟩ = some (iv (nl : Int)) ∧ W.cell? ⟨gs, kk, none⟩ = some (.int .i64 (k : Int))) := fun W hW => ⟨(box3_cells (box_on HE5.out hW)).2.1, cell_on HPR.out hW, cell_on HSR.out hW⟩
        refine wp_region_L (fun W => Below w5.heap.size w5 W) 8 9 (by kernel_rfl) rfl (Below.drew (Below.refl _ _)) (fun hS0 => ?_)
        refine tkL (i := 0) (d := 45) (v := ?_) rfl rfl (by kernel_rfl) (by kernel_rfl) (by kernel_rfl) (by kernel_rfl) (fun _ _ _ h => h) (Or.inl ⟨by rfl, by intro wq hSq; obtain ⟨q1, q2, q3⟩ := SB.out wq hSq; go_simp; try with_reducible rfl⟩) (by assumption) ?_
        simp only [List.setIfInBounds_toArray, List.set_cons_zero, List.set_cons_succ]
        refine tkL (i := 1) (d := 46) (v := ?_) rfl rfl (by kernel_rfl) (by kernel_rfl) (by kernel_rfl) (by kernel_rfl) (fun _ _ _ h => h) (Or.inl ⟨by rfl, by intro wq hSq; obtain ⟨q1, q2, q3⟩ := SB.out wq hSq; go_simp; try with_reducible rfl⟩) (by assumption) ?_
        simp only [List.setIfInBounds_toArray, List.set_cons_zero, List.set_cons_succ]
        refine tkL (i := 2) (d := 47) (v := ?_) rfl rfl (by kernel_rfl) (by kernel_rfl) (by kernel_rfl) (by kernel_rfl) (fun _ _ _ h => h) (Or.inl ⟨by rfl, by intro wq hSq; obtain ⟨q1, q2, q3⟩ := SB.out wq hSq; go_simp; try with_reducible rfl⟩) (by assumption) ?_
        simp only [List.setIfInBounds_toArray, List.set_cons_zero, List.set_cons_succ]
        refine tkL (i := 3) (d := 48) (v := ?_) rfl rfl (by kernel_rfl) (by kernel_rfl) (by kernel_rfl) (by kernel_rfl) (fun _ _ _ h => h) (Or.inl ⟨by rfl, by intro wq hSq; obtain ⟨q1, q2, q3⟩ := SB.out wq hSq; go_simp; try with_reducible rfl⟩) (by assumption) ?_
        simp only [List.setIfInBounds_toArray, List.set_cons_zero, List.set_cons_succ]
        refine tkL (i := 4) (d := 49) (v := ?_) rfl rfl (by kernel_rfl) (by kernel_rfl) (by kernel_rfl) (by kernel_rfl) (fun _ _ _ h => h) (Or.inl ⟨by rfl, by intro wq hSq; obtain ⟨q1, q2, q3⟩ := SB.out wq hSq; go_simp; try with_reducible rfl⟩) (by assumption) ?_
        simp only [List.setIfInBounds_toArray, List.set_cons_zero, List.set_cons_succ]
        refine tkL (i := 5) (d := 50) (v := ?_) rfl rfl (by kernel_rfl) (by kernel_rfl) (by kernel_rfl) (by kernel_rfl) (fun _ _ _ h => h) (Or.inl ⟨by rfl, by intro wq hSq; obtain ⟨q1, q2, q3⟩ := SB.out wq hSq; go_simp; try with_reducible rfl⟩) (by assumption) ?_
        simp only [List.setIfInBounds_toArray, List.set_cons_zero, List.set_cons_succ]
        refine tkL (i := 6) (d := 51) (v := ?_) rfl rfl (by kernel_rfl) (by kernel_rfl) (by kernel_rfl) (by kernel_rfl) (fun _ _ _ h => h) (Or.inl ⟨by rfl, by intro wq hSq; obtain ⟨q1, q2, q3⟩ := SB.out wq hSq; go_simp; try with_reducible rfl⟩) (by assumption) ?_
        simp only [List.setIfInBounds_toArray, List.set_cons_zero, List.set_cons_succ]
        refine tkL (i := 7) (d := 52) (v := ?_) rfl rfl (by kernel_rfl) (by kernel_rfl) (by kernel_rfl) (by kernel_rfl) (fun _ _ _ h => h) (Or.inl ⟨by rfl, by intro wq hSq; obtain ⟨q1, q2, q3⟩ := SB.out wq hSq; go_simp; try with_reducible rfl⟩) (by assumption) ?_
        simp only [List.setIfInBounds_toArray, List.set_cons_zero, List.set_cons_succ]
        have kz : w5.drew.cell? ⟨gs, kk, none⟩ = some (.int .i64 (k : Int)) := HSR.out
        have fz : w5.drew.frozen? ⟨gs, kk, none⟩ = false := HFR.out
        refine lastL rfl (by kernel_rfl) (by kernel_rfl) (fun K hK => ?_)
        go_simp
        refine hK.out _ _ ?_
        clear hK K
        go_wp2_with fail
        go_round
        case rel =>
          have hnn := Hnn.out
          obtain ⟨e1, -, -⟩ := Hnm.out
          subst e1
          have o9 := out_setCell w5.drew gs kk (iv (l.length : Int))
          have hl1 : (l ++ [gb d.bs k]).length = l.length + 1 := by simp
          obtain ⟨s1, s2, s3, s4, s5, s6, s7, s8, s9, s10, s11, s12, s13⟩ := HSP.out
          have hL := SoL.slot (wq := w5.drew) rfl rfl (SrI.new HB'.out HL.out.sr (by rw [HE.out.2.1]; exact hlt) HK.out Hdk.out) hlt HSn.out (by omega) (by omega) s1 s2 s3 s4 s5 s6 s7 s8 s9 s10 s11 s12 s13
          rw [← hl1] at hL
          refine ⟨kk + 1, y5, c5, _, _, _, _, _, _, _, _, _, by omega, by go_num, by rw [hl1], hL, box_out (w := w5.drew) HE5.out o9 (.inr (by omega)), box_out (w := w5.drew) HZ5.out o9 (.inr (by omega)), ?_, ?_⟩
          · exact HB5.out.trans (((Below.drew (Below.refl w5.heap.size w5)).mono (by have := HZ9.out; omega)).setCell hgs _)
          · exact Nat.le_trans HZ9.out (by simp)
        case measure => simp [intOf]; omega
    · obtain rfl : n = kk := by omega
      have hnn := HN.out
      obtain ⟨x0, x1, x2, x3, x4, x5⟩ := box3_cells HEr.out
      obtain ⟨f0, f1, f2, f3, f4, f5⟩ := box3_cells HZr.out
      have hGl := HL.out.gl HE.out.2.2 (by omega)
      obtain ⟨vn, hvn⟩ : ∃ vn, l.length = vn := ⟨_, rfl⟩
      have Hvn : Hid _ := hvn
      have HGl : Hid _ := hGl
      rw [hvn]
      clear hGl hvn
      go_wp2_with fail
      obtain ⟨W9, hW9⟩ : ∃ W9, (((wr.setCell ⟨w.heap.size, 2, none⟩ (.slice x vn cx)).setCell ⟨w.heap.size + 1, 0, none⟩ (.int .i64 DP)).setCell ⟨w.heap.size + 1, 1, none⟩ (.slice (some ⟨gs, 0, none⟩) n c)).setCell ⟨w.heap.size + 1, 2, none⟩ (.slice x vn cx) = W9 := ⟨_, rfl⟩
      have o9 : Out w.heap.size (w.heap.size + 2) wr W9 := by
        subst hW9
        exact ((((Out.refl _ _ _).setCell (by omega) (by omega) _ _).setCell (by omega) (by omega) _ _).setCell (by omega) (by omega) _ _).setCell (by omega) (by omega) _ _
      have k9 : KeepT wr W9 := ⟨o9.size, fun g c t hg ht => o9.block g (box_lt hg) (by
        by_cases e1 : g = w.heap.size
        · rw [e1, HEr.out] at hg
          simp only [Option.some.injEq, Obj.cells.injEq] at hg
          obtain ⟨-, rfl, -⟩ := hg
          rcases ht with ht | ht <;> exact absurd ht (by decide)
        · by_cases e2 : g = w.heap.size + 1
          · rw [e2, HZr.out] at hg
            simp only [Option.some.injEq, Obj.cells.injEq] at hg
            obtain ⟨-, rfl, -⟩ := hg
            rcases ht with ht | ht <;> exact absurd ht (by decide)
          · omega)⟩
      have R : W9.heap[w.heap.size + 1]? = some (.cells #[.int .i64 DP, .slice (some ⟨gs, 0, none⟩) n c, .slice x vn cx] 32 (0, 0)) := by
        subst hW9
        exact box3_set (box_out HZr.out (out_setCell _ _ _ _) (by omega))
      rw [hW9]
      clear hW9
      obtain ⟨t0, t1, t2, -, -, -⟩ := box3_cells R
      have z9 := o9.size
      have hSp : SpO W9 B (.agg #[.int .i64 DP, .slice (some ⟨gs, 0, none⟩) n c, .slice x vn cx]) ⟨d.dp, S, l⟩ (fun r => kb (src r)) := by
        have hSn : S.length = n := by rw [HL.out.sr.ln]; exact HE.out.2.1
        refine ⟨gs, c, cS, .slice x vn cx, by rw [HE.out.1, hSn], by rw [hSn]; exact hsc, hgs, box_out HL.out.hS o9 (.inl (by omega)), by rw [hSn]; exact HL.out.iS, ?_⟩
        have := GB.keepT HGl.out k9
        rw [Hvn.out] at this
        exact this
      have he : (⟨d.dp, S, l⟩ : Dr) = e := SrI.done (by have := HL.out.sr; rw [← HE.out.2.1] at this; exact this) HWay.out
      rw [he] at hSp
      refine bodyPost_ret (v := .agg #[.int .i64 DP, .slice (some ⟨gs, 0, none⟩) n c, .slice x vn cx]) (by simp [results, Try.results35, go_sem, t0, t1, t2]) rfl ⟨?_, ?_, _, rfl, hSp.down⟩
      · exact hbw.trans ((o9.below (by omega)).mono hB)
      · omega
end Go.Proofs.Ytfmgaenedkjmkaa
