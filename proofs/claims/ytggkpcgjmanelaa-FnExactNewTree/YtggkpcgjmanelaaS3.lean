import Derived.Test.YtggkpcgjmanelaaS0
import Derived.Test.YtggkpcgjmanelaaL3
/- The specification: a node is read. -/
namespace Go.Proofs.Ytggkpcgjmanelaa
open Go.ChangeShapes Go.WideShapes Go.ChangeAt Go.RowKit
set_option linter.unusedVariables false
open Bt

attribute [local go_sem] Oper.semAt_some

theorem rd_at {N : List Nd} {f kk : Nat} {lf : Bool} {ks cs : List Int} (h : kk < N.length) (hg : gn N kk = ⟨lf, ks, cs⟩) :
    rd N (f + 1) (kk : Int) = if lf then (if cs.length = 0 then some (⟨ks, []⟩, (kk : Int)) else none) else if cs.length = ks.length + 1 then (rdK (rd N f) cs.reverse (kk : Int)).map fun q => (⟨ks, q.1⟩, q.2) else none := by
  unfold gn at hg
  simp only [rd, Int.toNat_natCast]
  rw [if_pos ⟨by omega, by omega⟩, hg]
theorem take_rev {cs : List Int} {q : Nat} (h : q < cs.length) : (cs.take (q + 1)).reverse = gi cs q :: (cs.take q).reverse := by
  rw [List.take_add_one, List.getElem?_eq_getElem h, gi_eq h]; simp
theorem rdK_step {g : Int → Option (Tr × Int)} {c first : Int} {cs : List Int} {r : Tr × Int} (h : c = first - 1) (hg : g c = some r) : rdK g (c :: cs) first = (rdK g cs r.2).map fun q => (q.1 ++ [r.1], q.2) := by
  rw [rdK, if_pos h, hg]
theorem rdK_stop {g : Int → Option (Tr × Int)} {c first : Int} {cs : List Int} (h : c = first - 1) (hg : g c = none) : rdK g (c :: cs) first = none := by
  rw [rdK, if_pos h, hg]
theorem rdK_off {g : Int → Option (Tr × Int)} {c first : Int} {cs : List Int} (h : ¬ c = first - 1) : rdK g (c :: cs) first = none := by
  rw [rdK, if_neg h]
theorem rd_out {N : List Nd} {f : Nat} {k : Int} (h : ¬ (0 ≤ k ∧ k < N.length)) : rd N f k = none := by
  cases f with
  | zero => rfl
  | succ f => simp only [rd]; exact if_neg h
/-- What is told where nothing is read. -/
theorem info67 : (Try.prog.info? 67).map (fun i => (i.zero, i.size, i.bytes)) = some (some (.agg #[.slice none 0 0, .slice none 0 0]), 2, 48) := by kernel_rfl
abbrev sz0 : Value := .agg #[.slice none 0 0, .slice none 0 0]

/-- What reading answers. -/
def ReadA (w0 w : World) (f : Nat) (o : Option (Tr × Int)) (e : Ending) (w' : World) : Prop :=
  Below w.heap.size w w' ∧ ∃ x n c x' n' c' z, e = .returned (.tuple #[nv x n c x' n' c', .int .i64 z, .bool o.isSome]) ∧ ∀ r, o = some r → z = r.2 ∧ SX w' (fun b => b < w0.heap.size ∨ w.heap.size ≤ b) f (nv x n c x' n' c') r.1
theorem ReadA.no {w0 w w' : World} {f : Nat} {o : Option (Tr × Int)} {e : Ending} {x : Option Addr} {n c : Nat} {x' : Option Addr} {n' c' : Nat} {z : Int} (ho : o = none) (he : e = .returned (.tuple #[nv x n c x' n' c', .int .i64 z, .bool false])) (hb : Below w.heap.size w w') : ReadA w0 w f o e w' := by
  subst ho
  exact ⟨hb, x, n, c, x', n', c', z, he, fun r hr => by simp at hr⟩
theorem ReadA.yes {w0 w w' : World} {f : Nat} {o : Option (Tr × Int)} {e : Ending} {x : Option Addr} {n c : Nat} {x' : Option Addr} {n' c' : Nat} {t : Tr} {z : Int} (ho : o = some (t, z)) (he : e = .returned (.tuple #[nv x n c x' n' c', .int .i64 z, .bool true])) (hb : Below w.heap.size w w') (hs : SX w' (fun b => b < w0.heap.size ∨ w.heap.size ≤ b) f (nv x n c x' n' c') t) : ReadA w0 w f o e w' := by
  subst ho
  exact ⟨hb, x, n, c, x', n', c', z, he, fun r hr => by simp only [Option.some.injEq] at hr; subst hr; exact ⟨rfl, hs⟩⟩

set_option maxRecDepth 20000 in
set_option maxHeartbeats 4000000 in
theorem l7Read_any (N : List Nd) (a : Option Addr) (cap : Nat) (root : Int) (w0 : World) (hN : Nodes w0 a N) (hn : N.length ≤ 1048576) (hbk : bk N N.length ≤ 1048576) (f : Nat) : ∀ (k : Int) (w : World), f ≤ 20 → -1 ≤ k → k ≤ 1048576 → Below w0.heap.size w0 w →
    Calls Try.prog 86 #[tv a N.length cap root, .int .i64 k, .int .i64 (21 - (f : Int))] w fun e w' => ReadA w0 w f (rd N f k) e w' := by
  induction f with
  | zero =>
    intro k w hf hk1 hk2 hb0
    have c47 := fun W => l1In_any k 0 ((N.length : Int) - 1) W
    have hrd0 : Hid (rd N 0 k = none) := (rfl : rd N 0 k = none)
    generalize rd N 0 k = o at *
    generalize N.length = n at *
    generalize (decide (0 ≤ k) && decide (k ≤ (n : Int) - 1)) = g at c47
    cases g with
    | false =>
      go_enter Try.func86, Try.ntmps86
      go_wp2_with (go_at_call 47; refine (c47 _).mono ?_; rintro e w1 ⟨rfl, rfl⟩)
      refine bodyPost_ret (v := .tuple #[sz0, .int .i64 0, .bool false]) (by simp [results, Try.results86, go_sem]) rfl (ReadA.no hrd0.out rfl (ba2 _ _ _))
    | true =>
      go_enter Try.func86, Try.ntmps86
      go_wp2_with (go_at_call 47; refine (c47 _).mono ?_; rintro e w1 ⟨rfl, rfl⟩)
      refine bodyPost_ret (v := .tuple #[sz0, .int .i64 0, .bool false]) (by simp [results, Try.results86, go_sem]) rfl (ReadA.no hrd0.out rfl (ba2 _ _ _))
  | succ f ih =>
    intro k w hf hk1 hk2 hb0
    have hD : ((21 : Int) - ((f + 1 : Nat) : Int)) = 20 - (f : Int) := by omega
    obtain ⟨D, hDD⟩ : ∃ D : Int, 20 - (f : Int) = D := ⟨_, rfl⟩
    rw [hD, hDD]
    have hD0 : 0 ≤ D := by omega
    have hD1 : D ≤ 20 := by omega
    have HD : Hid _ := hDD
    clear hDD hD
    have c47 := fun W => l1In_any k 0 ((N.length : Int) - 1) W
    by_cases hk : 0 ≤ k ∧ k < N.length
    · have e1 : (decide (0 ≤ k) && decide (k ≤ (N.length : Int) - 1)) = true := by simp; omega
      rw [e1] at c47
      obtain ⟨kk, rfl⟩ : ∃ kk : Nat, k = kk := ⟨k.toNat, by omega⟩
      have hkk : kk < N.length := by omega
      obtain ⟨b, off, rfl, hcell⟩ := hN (by omega)
      obtain ⟨ka, kc, ca, cc, k0, k1, k2, k3, k4, k5, k6⟩ := hcell kk hkk
      have hbn := bk_le (N := N) hkk
      have hrd := fun lf ks cs h => rd_at (N := N) (f := f) (lf := lf) (ks := ks) (cs := cs) hkk h
      generalize hnd : gn N kk = nd at k0 k1 k2 k3 k4 k5 k6 hbn hrd
      obtain ⟨lf, ks, cs⟩ := nd
      have hrd' := hrd lf ks cs rfl
      simp only at k0 k1 k2 k3 k4 k5 k6 hbn
      clear hrd hnd hcell
      have Hrd : Hid _ := hrd'
      generalize rd N (f + 1) (kk : Int) = O at *
      have c47' := fun W => (c47 W).mono (fun e w' h => (⟨h.1, h.2.symm⟩ : _ ∧ W = w'))
      clear c47 e1 hrd'
      have hlt0 : b < w0.heap.size := lt_of_cell k0
      obtain ⟨s, hs⟩ : ∃ s, w.heap.size = s := ⟨_, rfl⟩
      obtain ⟨W0, hW0⟩ : ∃ W0, (w.alloc (.cells #[.slice (some ⟨b, off, none⟩) N.length cap, .int .i64 root] 27)).alloc (.cells #[.slice none 0 0, .slice none 0 0] 67) = W0 := ⟨_, rfl⟩
      have z00 : w0.heap.size ≤ w.heap.size := hb0.size
      have q0 : Below w.heap.size w W0 := by subst hW0; exact ba2 _ _ _
      obtain ⟨A1, A2⟩ : W0.heap[s]? = some (.cells #[.slice (some ⟨b, off, none⟩) N.length cap, .int .i64 root] 27 (0, 0)) ∧ W0.heap[s + 1]? = some (.cells #[.slice none 0 0, .slice none 0 0] 67 (0, 0)) := by subst hW0 hs; exact al2 _ _ _
      have zS : s + 1 < W0.heap.size := box_lt A2
      obtain ⟨W1, hW1⟩ : ∃ W1, W0.alloc (.cells #[.slice ka ks.length kc, .slice none 0 0] 67) = W1 := ⟨_, rfl⟩
      have q1a : Below W0.heap.size W0 W1 := by subst hW1; exact below_alloc _ _
      have A3a : W1.heap[W0.heap.size]? = some (.cells #[.slice ka ks.length kc, .slice none 0 0] 67 (0, 0)) := by subst hW1; exact al1 _ _
      obtain ⟨W2, hW2⟩ : ∃ W2, W1.setCell ⟨W0.heap.size, 1, none⟩ (.slice none 0 0) = W2 := ⟨_, rfl⟩
      have q1 : Below W0.heap.size W0 W2 := by subst hW2; exact q1a.setCell (by simp) _
      have A3 : W2.heap[W0.heap.size]? = some (.cells #[.slice ka ks.length kc, .slice none 0 0] 67 (0, 0)) := by subst hW2; exact block_set A3a
      have HA1 : Hid (W2.heap[s]? = some (.cells #[.slice (some ⟨b, off, none⟩) N.length cap, .int .i64 root] 27 (0, 0))) := box_on A1 q1
      have HA2 : Hid (W2.heap[s + 1]? = some (.cells #[.slice none 0 0, .slice none 0 0] 67 (0, 0))) := box_on A2 q1
      have HA3 : Hid (W2.heap[W0.heap.size]? = some (.cells #[.slice ka ks.length kc, .slice none 0 0] 67 (0, 0))) := A3
      have qq0 : Below w0.heap.size w0 W0 := hb0.trans (q0.mono z00)
      have qq1 : Below w0.heap.size w0 W2 := qq0.trans (q1.mono (by have := q0.size; omega))
      have q01 : Below w.heap.size w W2 := Below.comp q0 q1
      have Hk34 : Hid (Ints w0 ka ks ∧ Ints w0 ca cs) := ⟨k3, k4⟩
      clear k3 k4
      obtain ⟨x0, x1, -, -⟩ := box2_cells A1
      obtain ⟨x2, x3, x4, x5⟩ := box2_cells A2
      obtain ⟨x6, x7, x8, x9⟩ := box2_cells A3a
      obtain ⟨y0, y1, -, -⟩ := box2_cells HA1.out
      obtain ⟨y2, y3, y4, y5⟩ := box2_cells HA2.out
      obtain ⟨y6, y7, y8, y9⟩ := box2_cells A3
      clear A1 A2 A3 A3a q1a
      have g1 := cell_on k0 qq0
      have g2 := cell_on k1 qq0
      have g3 := cell_on k2 qq0
      have g1' := cell_on k0 qq1
      have g2' := cell_on k1 qq1
      have g3' := cell_on k2 qq1
      cases lf with
      | true =>
        go_enter Try.func86, Try.ntmps86
        go_wp2_with (go_at_call 47; refine (c47' _).mono ?_; rintro e w1 ⟨rfl, rfl⟩)
        go_region
        go_wp2_with fail
        obtain ⟨W3, hW3⟩ : ∃ W3, ((W2.setCell ⟨s + 1, 0, none⟩ (.slice ka ks.length kc)).setCell ⟨s + 1, 1, none⟩ (.slice none 0 0)).drew = W3 := ⟨_, rfl⟩
        have z1 : s + 1 < W2.heap.size := box_lt HA2.out
        have o2 : Out (s + 1) (s + 1 + 1) W2 W3 := by
          subst hW3
          exact (((Out.refl (s + 1) (s + 1 + 1) W2).setCell (b := s + 1) (by omega) (by omega) 0 _).setCell (b := s + 1) (by omega) (by omega) 1 _).trans (Out.of_below (Below.refl _ _).drew)
        have R : W3.heap[s + 1]? = some (.cells #[.slice ka ks.length kc, .slice none 0 0] 67 (0, 0)) := by
          subst hW3
          exact box2_set HA2.out
        rw [hW3]
        obtain ⟨t0, t1, -, -⟩ := box2_cells R
        have z3 := o2.size
        have z2 := q01.size
        have g9 : Below w.heap.size w W3 := q01.trans ((o2.below (by omega)).mono (by rw [hs]; omega))
        have hrd2 := Hrd.out
        simp only [if_true] at hrd2
        by_cases hcs : cs.length = 0
        · rw [if_pos hcs] at hrd2
          refine bodyPost_ret (v := .tuple #[.agg #[.slice ka ks.length kc, .slice none 0 0], .int .i64 (kk : Int), .bool true]) (by simp [results, Try.results86, go_sem, t0, t1, List.eq_nil_of_length_eq_zero hcs]) rfl (ReadA.yes hrd2 rfl g9 (SX_succ.2 ⟨ka, kc, none, 0, rfl, k5, by simp, ?_, fun h => absurd rfl h⟩))
          have h0 := IntsP.of Hk34.out.1 (P := fun b => b < w0.heap.size ∨ w.heap.size ≤ b) (fun b hb => .inl hb)
          have hbw := hb0.trans (g9.mono z00)
          exact h0.keep (fun b _ hb => hbw.block b hb)
        · rw [if_neg hcs] at hrd2
          exact bodyPost_ret (v := .tuple #[.agg #[.slice ka ks.length kc, .slice none 0 0], .int .i64 (kk : Int), .bool false]) (by simp [results, Try.results86, go_sem, t0, t1]; exact fun h => hcs (by rw [h]; rfl)) rfl (ReadA.no hrd2 rfl g9)
      | false =>
        by_cases hl : cs.length = ks.length + 1
        · have hrd2 := Hrd.out
          simp only [Bool.false_eq_true, if_false] at hrd2
          rw [if_pos hl] at hrd2
          have Hrd2 : Hid _ := hrd2
          have Hl : Hid _ := hl
          clear hrd2 Hrd
          have hl1 : (cs.length : Int) = (ks.length : Int) + 1 := by omega
          have hl2 : ((cs.length : Int) != (ks.length : Int) + 1) = false := by simp [hl1]
          obtain ⟨cb, co, rfl, hcc⟩ := Hk34.out.2 (by omega)
          have Hcc : Hid _ := hcc
          have hm2 : cs.length ≤ 1048576 := by omega
          clear hl hl1 hcc
          go_enter Try.func86, Try.ntmps86
          go_wp2_with (go_at_call 47; refine (c47' _).mono ?_; rintro e w1 ⟨rfl, rfl⟩)
          clear x0 x1 x2 x3 x4 x5 x6 x7 x8 x9 y0 y1 y2 y3 y4 y5 y6 y7 y8 y9 g1 g2 g3 g1' g2' g3' hW0 hW1 hW2 k0 k1 k2 c47'
          have Hhs : Hid _ := hs
          have zs1 : s + 1 < W0.heap.size := zS
          have zs2 : W0.heap.size < W2.heap.size := box_lt HA3.out
          clear hs
          go_loopw [11, 12] (fun fv iv wr => ∃ (q : Nat) (first : Int) (acc : List Tr) (xa : Option Addr) (xc : Nat), q ≤ cs.length ∧ fv = .int .i64 first ∧ iv = .int .i64 ((q : Int) - 1) ∧ 0 ≤ first ∧ first ≤ 1048576 ∧ acc.length + q = cs.length ∧ Hid (rdK (rd N f) cs.reverse (kk : Int) = (rdK (rd N f) (cs.take q).reverse first).map fun r => (r.1 ++ acc, r.2)) ∧ Hid (wr.heap[W0.heap.size]? = some (.cells #[.slice ka ks.length kc, .slice xa acc.length xc] 67 (0, 0))) ∧ acc.length ≤ xc ∧ SXs wr (fun b => b < w0.heap.size ∨ W2.heap.size ≤ b) f xa acc ∧ Out W0.heap.size (W0.heap.size + 1) W2 wr) (fun _ i _ => (intOf i + 1).toNat)
          case atStart => exact ⟨cs.length, kk, [], none, 0, Nat.le_refl _, rfl, rfl, by omega, by omega, by simp, by simp [Hid], HA3, Nat.le_refl _, fun h => absurd rfl h, Out.refl _ _ _⟩
          case round =>
            obtain ⟨q, first, acc, xa, xc, hq, rfl, rfl, hf0, hf1, hac, Hst, HS, hxc, hacc, ho⟩ := hrel
            have zo := ho.size
            have R1 : Hid (wr.heap[s]? = some (.cells #[.slice (some ⟨b, off, none⟩) N.length cap, .int .i64 root] 27 (0, 0))) := box_out HA1.out ho (.inl (by omega))
            have R2 : Hid (wr.heap[s + 1]? = some (.cells #[.slice none 0 0, .slice none 0 0] 67 (0, 0))) := box_out HA2.out ho (.inl (by omega))
            have gw : Below w0.heap.size w0 wr := qq1.trans ((ho.below (by omega)).mono (by have := Hhs.out; omega))
            by_cases hq0 : q = 0
            · subst hq0
              have hyes : O = some (⟨ks, acc⟩, first) := by rw [Hrd2.out, Hst.out]; rfl
              obtain ⟨y2, y3, y4, y5⟩ := box2_cells R2.out
              obtain ⟨y6, y7, -, -⟩ := box2_cells HS.out
              go_wp2_with fail
              obtain ⟨W3, hW3⟩ : ∃ W3, ((wr.setCell ⟨s + 1, 0, none⟩ (.slice ka ks.length kc)).setCell ⟨s + 1, 1, none⟩ (.slice xa acc.length xc)) = W3 := ⟨_, rfl⟩
              have o2 : Out (s + 1) (s + 1 + 1) wr W3 := by
                subst hW3
                exact ((Out.refl (s + 1) (s + 1 + 1) wr).setCell (b := s + 1) (by omega) (by omega) 0 _).setCell (b := s + 1) (by omega) (by omega) 1 _
              have R : W3.heap[s + 1]? = some (.cells #[.slice ka ks.length kc, .slice xa acc.length xc] 67 (0, 0)) := by
                subst hW3
                exact box2_set R2.out
              rw [hW3]
              obtain ⟨t0, t1, -, -⟩ := box2_cells R
              have z3 := o2.size
              have z4 := Hhs.out
              have g9 : Below w.heap.size w W3 := (q01.trans ((ho.below (by omega)).mono (by omega))).trans ((o2.below (by have := box_lt R2.out; omega)).mono (by omega))
              refine bodyPost_ret (v := .tuple #[nv ka ks.length kc xa acc.length xc, .int .i64 first, .bool true]) (by simp [results, Try.results86, go_sem, t0, t1]) rfl (ReadA.yes hyes rfl g9 (SX_succ.2 ⟨ka, kc, xa, xc, rfl, k5, hxc, ?_, ?_⟩))
              · have h0 := IntsP.of Hk34.out.1 (P := fun b => b < w0.heap.size ∨ w.heap.size ≤ b) (fun b hb => .inl hb)
                have hbw := hb0.trans (g9.mono z00)
                exact h0.keep (fun b _ hb => hbw.block b hb)
              · exact (hacc.keep (Kp.of_out o2 (fun b hb => by omega))).imp (fun b _ hb => by omega)
            · obtain ⟨j, rfl⟩ : ∃ j, q = j + 1 := ⟨q - 1, by omega⟩
              have ej : (((j + 1 : Nat) : Int) - 1) = (j : Int) := by omega
              rw [ej]
              have hj : j < cs.length := by omega
              have kc0 := cell_on (Hcc.out j hj) gw
              rw [take_rev hj] at Hst
              obtain ⟨c, hc⟩ : ∃ c, gi cs j = c := ⟨_, rfl⟩
              rw [hc] at kc0 Hst
              have Hc : Hid _ := hc
              clear hc
              by_cases hcf : c = first - 1
              · have hcf' : (c != first - 1) = false := by simp [hcf]
                have Hcf : Hid _ := hcf
                obtain ⟨y0, y1, -, -⟩ := box2_cells R1.out
                have cI := fun W h => ih c W (by omega) (by omega) (by omega) h
                obtain ⟨D1, hD2⟩ : ∃ D1 : Int, IntKind.i64.wrap (D + 1) = D1 := ⟨_, rfl⟩
                have hD3 : (21 : Int) - (f : Int) = D1 := by rw [← hD2, wrapI (by omega) (by omega)]; have := HD.out; omega
                rw [hD3] at cI
                clear hD3
                generalize hO : rd N f c = O2 at cI
                have HO : Hid _ := hO
                clear hO hcf ih
                have SB : Hid (∀ W, Below wr.heap.size wr W → W.cell? ⟨s, 0, none⟩ = some (.slice (some ⟨b, off, none⟩) N.length cap) ∧ W.cell? ⟨s, 1, none⟩ = some (.int .i64 root) ∧ W.cell? ⟨cb, co + j, none⟩ = some (iv c) ∧ Below wr.heap.size wr W) := fun W g => ⟨cell_on y0 g, cell_on y1 g, cell_on kc0 g, g⟩
                go_wp2_with fail
                clear y0 y1 kc0
                have bZ : Below wr.heap.size wr wr.drew := (Below.refl _ _).drew
                go_region_held3 (fun W => W.cell? ⟨s, 0, none⟩ = some (.slice (some ⟨b, off, none⟩) N.length cap) ∧ W.cell? ⟨s, 1, none⟩ = some (.int .i64 root) ∧ W.cell? ⟨cb, co + j, none⟩ = some (iv c) ∧ Below wr.heap.size wr W)
                  ((refine SB.out _ ?_; first | assumption | exact bZ.alloc bZ.size _ | exact (bZ.setCell (by simp) _).setCell (by simp) _))
                  (first
                  | (go_at_call 86; obtain ⟨-, -, -, hw0⟩ := ‹_ ∧ _ ∧ _ ∧ Below wr.heap.size wr _›; refine (cI _ (gw.trans (hw0.mono gw.size))).mono ?_; rintro e w2 ⟨b2, x, xn, xcc, x', xn', xcc', z, rfl, hz⟩; have bZ := hw0.trans (b2.mono hw0.size); (first | (have hG := box_on (w := (wr.alloc (.cells #[.slice none 0 0, .slice none 0 0] 67)).drew) (al1 wr (.cells #[.slice none 0 0, .slice none 0 0] 67)) b2; obtain ⟨u0, u1, u2, u3⟩ := box2_cells hG; have HG : Hid _ := hG; clear hG) | skip)))
                · obtain ⟨Wx, hWx⟩ : ∃ Wx, w2.alloc (.cells #[.slice x xn xcc, .slice x' xn' xcc'] 67) = Wx := ⟨_, rfl⟩
                  have BX : Wx.heap[w2.heap.size]? = some (.cells #[.slice x xn xcc, .slice x' xn' xcc'] 67 (0, 0)) := by subst hWx; exact al1 _ _
                  have bX : Below wr.heap.size wr Wx := by subst hWx; exact bZ.alloc bZ.size _
                  have hzX : ∀ r, O2 = some r → z = r.2 ∧ SX Wx (fun b => b < w0.heap.size ∨ W2.heap.size ≤ b) f (nv x xn xcc x' xn' xcc') r.1 := by
                    intro r hr
                    obtain ⟨h1, h2⟩ := hz r hr
                    refine ⟨h1, (SX.keep h2 (Kp.of_below (w' := Wx) (by subst hWx; exact below_alloc _ _))).imp (fun b _ hb => ?_)⟩
                    have : wr.drew.heap.size = wr.heap.size := rfl
                    omega
                  clear hz
                  rw [hWx]
                  clear hWx
                  have zx := bX.size
                  have HSx : Hid (Wx.heap[W0.heap.size]? = some (.cells #[.slice ka ks.length kc, .slice xa acc.length xc] 67 (0, 0))) := box_on HS.out bX
                  have R1x : Hid (Wx.heap[s + 1]? = some (.cells #[.slice none 0 0, .slice none 0 0] 67 (0, 0))) := box_on R2.out bX
                  cases O2 with
                  | none =>
                    have hno : O = none := by rw [Hrd2.out, Hst.out, rdK_stop Hcf.out HO.out]; rfl
                    obtain ⟨y2, y3, y4, y5⟩ := box2_cells R1x.out
                    go_wp2_with fail
                    obtain ⟨W3, hW3⟩ : ∃ W3, ((Wx.setCell ⟨s + 1, 0, none⟩ (.slice none 0 0)).setCell ⟨s + 1, 1, none⟩ (.slice none 0 0)) = W3 := ⟨_, rfl⟩
                    have o2 : Out (s + 1) (s + 1 + 1) Wx W3 := by
                      subst hW3
                      exact ((Out.refl (s + 1) (s + 1 + 1) Wx).setCell (b := s + 1) (by omega) (by omega) 0 _).setCell (b := s + 1) (by omega) (by omega) 1 _
                    have R : W3.heap[s + 1]? = some (.cells #[.slice none 0 0, .slice none 0 0] 67 (0, 0)) := by
                      subst hW3
                      exact box2_set R1x.out
                    rw [hW3]
                    obtain ⟨t0, t1, -, -⟩ := box2_cells R
                    have z3 := o2.size
                    have z4 := Hhs.out
                    have g9 : Below w.heap.size w W3 := (q01.trans ((ho.below (by omega)).mono (by omega))).trans ((bX.mono (by omega)).trans ((o2.below (by have := box_lt R1x.out; omega)).mono (by omega)))
                    exact bodyPost_ret (v := .tuple #[sz0, .int .i64 0, .bool false]) (by simp [results, Try.results86, go_sem, t0, t1]) rfl (ReadA.no hno rfl g9)
                  | some r =>
                    obtain ⟨hz1, sx⟩ := hzX r rfl
                    have hRd := rd_sound f c r HO.out
                    have hst2 := Hst.out
                    rw [rdK_step Hcf.out HO.out, ← hz1] at hst2
                    have Hst2 : Hid _ := hst2
                    have hz2 : 0 ≤ z := by rw [hz1]; exact hRd.nn
                    have hz3 : z ≤ 1048576 := by have h1 := hRd.le; have h2 := hRd.lt; omega
                    clear hst2 hz1 hRd hzX
                    obtain ⟨xs, kd, src⟩ := (hacc.keep (Kp.of_below bX)).src
                    obtain ⟨y6, y7, y8, y9⟩ := box2_cells HSx.out
                    obtain ⟨v0, v1, -, -⟩ := box2_cells BX
                    obtain ⟨Wy, hWy⟩ : ∃ Wy, Wx.alloc (.cells #[.slice x xn xcc, .slice x' xn' xcc'] 67) = Wy := ⟨_, rfl⟩
                    have by1 : Below Wx.heap.size Wx Wy := by subst hWy; exact below_alloc _ _
                    have zy := by1.size
                    have own1 : Wy.ownsRow Wx.heap.size 67 2 (.slice (some ⟨Wx.heap.size, 0, none⟩) 1 1) 1 [.slice x xn xcc, .slice x' xn' xcc'] := by
                      refine ⟨rfl, .inr ⟨Wx.heap.size, 1, #[.slice x xn xcc, .slice x' xn' xcc'], rfl, Nat.le_refl _, ?_, Nat.le_refl _, by unfold maxLen; omega, rfl, rfl⟩⟩
                      subst hWy
                      exact al1 _ _
                    obtain ⟨y6', y7', -, -⟩ := box2_cells (box_on HSx.out by1)
                    have src' : acc.length = 0 ∨ ∃ ad, xa = some ad ∧ ∀ j u, xs[j]? = some u → Wy.cell? (ad.add j) = some u := by
                      rcases src with h | ⟨ad, h1, h2⟩
                      · exact .inl h
                      · refine .inr ⟨ad, h1, fun j u hu => ?_⟩
                        have h3 := h2 j u hu
                        rw [by1.cell (World.block_lt_of_cell? Wx _ h3)]
                        exact h3
                    have hxsl := kd.1
                    have hone := kd.one
                    have zS2 : W0.heap.size < Wx.heap.size := box_lt HSx.out
                    clear src
                    go_wp2_with (at_builtin; refine wpList_append_src rfl _ _ 65 rfl Wx.heap.size 67 _ 2 48 Try.underlying65 info67 rfl (by decide) (.slice (some ⟨Wx.heap.size, 0, none⟩) 1 1) 1 [.slice x xn xcc, .slice x' xn' xcc'] rfl own1 xa acc.length xc xs rfl hxsl src' hone (by omega) (by decide) zy ?_; intro v3 w3 own3 gr3; have b3 : Below Wx.heap.size Wx w3 := grown_on by1 zy own1 gr3; obtain ⟨o3, co3, eo3⟩ := owns_form own3; subst eo3; have HS3 := box_on HSx.out b3; obtain ⟨m0, m1, m2, m3⟩ := box2_cells HS3; have HS3' : Hid _ := HS3; have OWN3 : Hid _ := own3; clear HS3 gr3 own3)
                    go_roundw
                    case rel =>
                      have kd3 : Kds w3 (fun b => b < w0.heap.size ∨ W2.heap.size ≤ b) f ([.slice x xn xcc, .slice x' xn' xcc'] ++ xs) (r.1 :: acc) := Kds.app (Kds.single (sx.keep (Kp.of_below b3))) (kd.keep (Kp.of_below b3))
                      obtain ⟨sx3, hc3⟩ := own_sxs (l := r.1 :: acc) OWN3.out kd3 (by simp; omega) (fun b hb => .inr (by omega))
                      have ex : ∀ (v : Value), Out W0.heap.size (W0.heap.size + 1) w3 (w3.setCell ⟨W0.heap.size, 1, none⟩ v) := fun v => out_setCell _ _ _ _
                      refine ⟨j, z, r.1 :: acc, o3, co3, by omega, rfl, by go_num, hz2, hz3, by simp; omega, ?_, ?_, hc3, ?_, ?_⟩
                      · show rdK _ _ _ = _
                        rw [Hst2.out]
                        cases rdK (rd N f) (cs.take j).reverse z with
                        | none => rfl
                        | some y => simp
                      · have e9 : (r.1 :: acc).length = 1 + acc.length := by simp; omega
                        rw [e9]
                        exact block_set HS3'.out
                      · exact sx3.keep (Kp.of_out (ex _) (fun b hb => by have := Hhs.out; omega))
                      · exact ho.trans ((Out.of_below bX).trans ((Out.of_below b3).trans (ex _)))
                    case measure => simp [intOf]
                · obtain ⟨Wx, hWx⟩ : ∃ Wx, (w2.setCell ⟨wr.heap.size, 0, none⟩ (.slice x xn xcc)).setCell ⟨wr.heap.size, 1, none⟩ (.slice x' xn' xcc') = Wx := ⟨_, rfl⟩
                  have BX : Wx.heap[wr.heap.size]? = some (.cells #[.slice x xn xcc, .slice x' xn' xcc'] 67 (0, 0)) := by subst hWx; exact box2_set HG.out
                  have oX : Out wr.heap.size (wr.heap.size + 1) w2 Wx := by
                    subst hWx
                    exact ((Out.refl wr.heap.size (wr.heap.size + 1) w2).setCell (b := wr.heap.size) (by omega) (by omega) 0 _).setCell (b := wr.heap.size) (by omega) (by omega) 1 _
                  have bX : Below wr.heap.size wr Wx := bZ.trans (oX.below bZ.size)
                  have hzX : ∀ r, O2 = some r → z = r.2 ∧ SX Wx (fun b => b < w0.heap.size ∨ W2.heap.size ≤ b) f (nv x xn xcc x' xn' xcc') r.1 := by
                    intro r hr
                    obtain ⟨h1, h2⟩ := hz r hr
                    have e8 : ((wr.alloc (.cells #[.slice none 0 0, .slice none 0 0] 67)).drew).heap.size = wr.heap.size + 1 := sz1 _ _
                    rw [e8] at h2
                    refine ⟨h1, (SX.keep h2 (Kp.of_out oX (fun b hb => by have := gw.size; omega))).imp (fun b _ hb => by omega)⟩
                  clear hz u0 u1 u2 u3
                  rw [hWx]
                  clear hWx
                  have zx := bX.size
                  have HSx : Hid (Wx.heap[W0.heap.size]? = some (.cells #[.slice ka ks.length kc, .slice xa acc.length xc] 67 (0, 0))) := box_on HS.out bX
                  have R1x : Hid (Wx.heap[s + 1]? = some (.cells #[.slice none 0 0, .slice none 0 0] 67 (0, 0))) := box_on R2.out bX
                  cases O2 with
                  | none =>
                    have hno : O = none := by rw [Hrd2.out, Hst.out, rdK_stop Hcf.out HO.out]; rfl
                    obtain ⟨y2, y3, y4, y5⟩ := box2_cells R1x.out
                    go_wp2_with fail
                    obtain ⟨W3, hW3⟩ : ∃ W3, ((Wx.setCell ⟨s + 1, 0, none⟩ (.slice none 0 0)).setCell ⟨s + 1, 1, none⟩ (.slice none 0 0)) = W3 := ⟨_, rfl⟩
                    have o2 : Out (s + 1) (s + 1 + 1) Wx W3 := by
                      subst hW3
                      exact ((Out.refl (s + 1) (s + 1 + 1) Wx).setCell (b := s + 1) (by omega) (by omega) 0 _).setCell (b := s + 1) (by omega) (by omega) 1 _
                    have R : W3.heap[s + 1]? = some (.cells #[.slice none 0 0, .slice none 0 0] 67 (0, 0)) := by
                      subst hW3
                      exact box2_set R1x.out
                    rw [hW3]
                    obtain ⟨t0, t1, -, -⟩ := box2_cells R
                    have z3 := o2.size
                    have z4 := Hhs.out
                    have g9 : Below w.heap.size w W3 := (q01.trans ((ho.below (by omega)).mono (by omega))).trans ((bX.mono (by omega)).trans ((o2.below (by have := box_lt R1x.out; omega)).mono (by omega)))
                    exact bodyPost_ret (v := .tuple #[sz0, .int .i64 0, .bool false]) (by simp [results, Try.results86, go_sem, t0, t1]) rfl (ReadA.no hno rfl g9)
                  | some r =>
                    obtain ⟨hz1, sx⟩ := hzX r rfl
                    have hRd := rd_sound f c r HO.out
                    have hst2 := Hst.out
                    rw [rdK_step Hcf.out HO.out, ← hz1] at hst2
                    have Hst2 : Hid _ := hst2
                    have hz2 : 0 ≤ z := by rw [hz1]; exact hRd.nn
                    have hz3 : z ≤ 1048576 := by have h1 := hRd.le; have h2 := hRd.lt; omega
                    clear hst2 hz1 hRd hzX
                    obtain ⟨xs, kd, src⟩ := (hacc.keep (Kp.of_below bX)).src
                    obtain ⟨y6, y7, y8, y9⟩ := box2_cells HSx.out
                    obtain ⟨v0, v1, -, -⟩ := box2_cells BX
                    obtain ⟨Wy, hWy⟩ : ∃ Wy, Wx.alloc (.cells #[.slice x xn xcc, .slice x' xn' xcc'] 67) = Wy := ⟨_, rfl⟩
                    have by1 : Below Wx.heap.size Wx Wy := by subst hWy; exact below_alloc _ _
                    have zy := by1.size
                    have own1 : Wy.ownsRow Wx.heap.size 67 2 (.slice (some ⟨Wx.heap.size, 0, none⟩) 1 1) 1 [.slice x xn xcc, .slice x' xn' xcc'] := by
                      refine ⟨rfl, .inr ⟨Wx.heap.size, 1, #[.slice x xn xcc, .slice x' xn' xcc'], rfl, Nat.le_refl _, ?_, Nat.le_refl _, by unfold maxLen; omega, rfl, rfl⟩⟩
                      subst hWy
                      exact al1 _ _
                    obtain ⟨y6', y7', -, -⟩ := box2_cells (box_on HSx.out by1)
                    have src' : acc.length = 0 ∨ ∃ ad, xa = some ad ∧ ∀ j u, xs[j]? = some u → Wy.cell? (ad.add j) = some u := by
                      rcases src with h | ⟨ad, h1, h2⟩
                      · exact .inl h
                      · refine .inr ⟨ad, h1, fun j u hu => ?_⟩
                        have h3 := h2 j u hu
                        rw [by1.cell (World.block_lt_of_cell? Wx _ h3)]
                        exact h3
                    have hxsl := kd.1
                    have hone := kd.one
                    have zS2 : W0.heap.size < Wx.heap.size := box_lt HSx.out
                    clear src
                    go_wp2_with (at_builtin; refine wpList_append_src rfl _ _ 65 rfl Wx.heap.size 67 _ 2 48 Try.underlying65 info67 rfl (by decide) (.slice (some ⟨Wx.heap.size, 0, none⟩) 1 1) 1 [.slice x xn xcc, .slice x' xn' xcc'] rfl own1 xa acc.length xc xs rfl hxsl src' hone (by omega) (by decide) zy ?_; intro v3 w3 own3 gr3; have b3 : Below Wx.heap.size Wx w3 := grown_on by1 zy own1 gr3; obtain ⟨o3, co3, eo3⟩ := owns_form own3; subst eo3; have HS3 := box_on HSx.out b3; obtain ⟨m0, m1, m2, m3⟩ := box2_cells HS3; have HS3' : Hid _ := HS3; have OWN3 : Hid _ := own3; clear HS3 gr3 own3)
                    go_roundw
                    case rel =>
                      have kd3 : Kds w3 (fun b => b < w0.heap.size ∨ W2.heap.size ≤ b) f ([.slice x xn xcc, .slice x' xn' xcc'] ++ xs) (r.1 :: acc) := Kds.app (Kds.single (sx.keep (Kp.of_below b3))) (kd.keep (Kp.of_below b3))
                      obtain ⟨sx3, hc3⟩ := own_sxs (l := r.1 :: acc) OWN3.out kd3 (by simp; omega) (fun b hb => .inr (by omega))
                      have ex : ∀ (v : Value), Out W0.heap.size (W0.heap.size + 1) w3 (w3.setCell ⟨W0.heap.size, 1, none⟩ v) := fun v => out_setCell _ _ _ _
                      refine ⟨j, z, r.1 :: acc, o3, co3, by omega, rfl, by go_num, hz2, hz3, by simp; omega, ?_, ?_, hc3, ?_, ?_⟩
                      · show rdK _ _ _ = _
                        rw [Hst2.out]
                        cases rdK (rd N f) (cs.take j).reverse z with
                        | none => rfl
                        | some y => simp
                      · have e9 : (r.1 :: acc).length = 1 + acc.length := by simp; omega
                        rw [e9]
                        exact block_set HS3'.out
                      · exact sx3.keep (Kp.of_out (ex _) (fun b hb => by have := Hhs.out; omega))
                      · exact ho.trans ((Out.of_below bX).trans ((Out.of_below b3).trans (ex _)))
                    case measure => simp [intOf]
              · have hcf' : (c != first - 1) = true := by simp; omega
                obtain ⟨y2, y3, y4, y5⟩ := box2_cells R2.out
                have hno : O = none := by rw [Hrd2.out, Hst.out, rdK_off hcf]; rfl
                go_wp2_with fail
                obtain ⟨W3, hW3⟩ : ∃ W3, ((wr.setCell ⟨s + 1, 0, none⟩ (.slice none 0 0)).setCell ⟨s + 1, 1, none⟩ (.slice none 0 0)) = W3 := ⟨_, rfl⟩
                have o2 : Out (s + 1) (s + 1 + 1) wr W3 := by
                  subst hW3
                  exact ((Out.refl (s + 1) (s + 1 + 1) wr).setCell (b := s + 1) (by omega) (by omega) 0 _).setCell (b := s + 1) (by omega) (by omega) 1 _
                have R : W3.heap[s + 1]? = some (.cells #[.slice none 0 0, .slice none 0 0] 67 (0, 0)) := by
                  subst hW3
                  exact box2_set R2.out
                rw [hW3]
                obtain ⟨t0, t1, -, -⟩ := box2_cells R
                have z3 := o2.size
                have z4 := Hhs.out
                have g9 : Below w.heap.size w W3 := (q01.trans ((ho.below (by omega)).mono (by have := Hhs.out; omega))).trans ((o2.below (by have := box_lt R2.out; omega)).mono (by omega))
                exact bodyPost_ret (v := .tuple #[sz0, .int .i64 0, .bool false]) (by simp [results, Try.results86, go_sem, t0, t1]) rfl (ReadA.no hno rfl g9)
        · have hl1 : ((cs.length : Int) != (ks.length : Int) + 1) = true := by simp; omega
          have hrd2 := Hrd.out
          simp only [Bool.false_eq_true, if_false] at hrd2
          rw [if_neg hl] at hrd2
          go_enter Try.func86, Try.ntmps86
          go_wp2_with (go_at_call 47; refine (c47' _).mono ?_; rintro e w1 ⟨rfl, rfl⟩)
          obtain ⟨W3, hW3⟩ : ∃ W3, ((W2.setCell ⟨s + 1, 0, none⟩ (.slice none 0 0)).setCell ⟨s + 1, 1, none⟩ (.slice none 0 0)) = W3 := ⟨_, rfl⟩
          have z1 : s + 1 < W2.heap.size := box_lt HA2.out
          have o2 : Out (s + 1) (s + 1 + 1) W2 W3 := by
            subst hW3
            exact ((Out.refl (s + 1) (s + 1 + 1) W2).setCell (b := s + 1) (by omega) (by omega) 0 _).setCell (b := s + 1) (by omega) (by omega) 1 _
          have R : W3.heap[s + 1]? = some (.cells #[.slice none 0 0, .slice none 0 0] 67 (0, 0)) := by
            subst hW3
            exact box2_set HA2.out
          rw [hW3]
          obtain ⟨t0, t1, -, -⟩ := box2_cells R
          have z3 := o2.size
          have z2 := q01.size
          have g9 : Below w.heap.size w W3 := q01.trans ((o2.below (by omega)).mono (by rw [hs]; omega))
          exact bodyPost_ret (v := .tuple #[sz0, .int .i64 0, .bool false]) (by simp [results, Try.results86, go_sem, t0, t1]) rfl (ReadA.no hrd2 rfl g9)
    · have e1 : (decide (0 ≤ k) && decide (k ≤ (N.length : Int) - 1)) = false := by
        rw [Bool.and_eq_false_iff]
        simp only [decide_eq_false_iff_not]
        omega
      rw [e1] at c47
      have hrd0 : Hid (rd N (f + 1) k = none) := rd_out hk
      generalize rd N (f + 1) k = o at *
      clear hk e1
      generalize N.length = n at *
      go_enter Try.func86, Try.ntmps86
      go_wp2_with (go_at_call 47; refine (c47 _).mono ?_; rintro e w1 ⟨rfl, rfl⟩)
      refine bodyPost_ret (v := .tuple #[sz0, .int .i64 0, .bool false]) (by simp [results, Try.results86, go_sem]) rfl (ReadA.no hrd0.out rfl (ba2 _ _ _))
end Go.Proofs.Ytggkpcgjmanelaa
