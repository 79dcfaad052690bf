import Derived.Test.YtpolhigpcllhiaaII
/- A promise made: the model's side. -/
namespace Go.Proofs.Ytpolhigpcllhiaa
open Go.ChangeShapes Go.WideShapes Go.ChangeAt Go.RowKit
set_option linter.unusedVariables false
open Room

attribute [local go_sem] Oper.semAt_some

theorem Mine.lo {w w' : World} {B C Z : Nat} {e : TypeId} {n : Nat} {a : Option Addr} {p : Array Value → Prop} (h : Mine w B C e n a p) (hb : Below Z w w') (hC : C ≤ Z) : Mine w' B C e n a p := by
  rcases h with h | ⟨k, c, h1, h2, h3, h4, h5⟩
  · exact .inl h
  · exact .inr ⟨k, c, h1, h2, h3, (hb.block k (by omega)).trans h4, h5⟩
theorem box_lo {w w' : World} {Z k : Nat} {o : Obj} (h : w.heap[k]? = some o) (hb : Below Z w w') (hk : k < Z) : w'.heap[k]? = some o := (hb.block k hk).trans h
set_option maxRecDepth 10000 in
set_option maxHeartbeats 4000000 in
theorem specPromise_any (b : Int) (a : Option Addr) (ca : Nat) (a' : Option Addr) (ca' : Nat) (l s : List Ex) (nx : Int) (i : Option Addr) (ci : Nat) (t : List It) (x : Ex) (w : World) (hb0 : -9223372036854775808 ≤ b) (hb1 : b ≤ 9223372036854775807) (hn : l.length ≤ 1048576) (hn' : s.length ≤ 1048576) (hm : t.length ≤ 1048576) (hci : t.length ≤ ci) (hxi : ∀ x, x ∈ t → FitI x) (hxx : x.1 ≤ 9223372036854775807 ∧ -9223372036854775808 ≤ x.2) (ha : Exs w a l) (ha' : Exs w a' s) (hi : Its w i t) :
    Calls Try.prog 18 #[wv b a l.length ca a' s.length ca' nx i t.length ci, xv x] w fun e w' => Below w.heap.size w w' ∧ ∃ v, e = .returned (.tuple #[v, .int .i64 (wiB (okP b l s nx t x) nx), .bool (okP b l s nx t x)]) ∧ WkM w' w.heap.size w'.heap.size v (wiB (okP b l s nx t x) b) (wiL (okP b l s nx t x) l).length (wiL (okP b l s nx t x) s).length (wiL (okP b l s nx t x) (t ++ [⟨1, nx, x, 0⟩])).length (gx (wiL (okP b l s nx t x) l)) (gx (wiL (okP b l s nx t x) s)) (wiB (okP b l s nx t x) (nx + 1)) (gi (wiL (okP b l s nx t x) (t ++ [⟨1, nx, x, 0⟩]))) := by
  have cG := fun W h => specGoodW_any b a ca a' ca' l s nx i ci t W hb0 hb1 hn hn' (by omega) hci hxi (ha.below h) (ha'.below h) (hi.below h)
  have cL := fun (h60 : l.length ≤ 60) (h30 : t.length ≤ 30) W h => l12Own_any b a ca a' s.length ca' l nx i ci t W h60 h30 (ha.below h) (hi.below h)
  have cG2 := fun (W : World) (v : Value) (h : WkR W v b l.length s.length (t.length + 1) (gx l) (gx s) (nx + 1) (gi (t ++ [⟨1, nx, x, 0⟩]))) => show Calls Try.prog 15 #[v] W fun e w' => e = .returned (.bool (gw b l s (nx + 1) (t ++ [⟨1, nx, x, 0⟩]))) ∧ Below W.heap.size W w' by
    obtain ⟨y, c, y', c', z, cz, rfl, k1, k2, k3, k4⟩ := h
    have el : (t ++ [(⟨1, nx, x, 0⟩ : It)]).length = t.length + 1 := by simp
    have k3' : Its W z (t ++ [⟨1, nx, x, 0⟩]) := by unfold Its; rw [el]; exact k3
    have := specGoodW_any b y c y' c' l s (nx + 1) z cz (t ++ [⟨1, nx, x, 0⟩]) W hb0 hb1 hn hn' (by omega) (by omega) (fun u hu => by rcases List.mem_append.1 hu with q | q; exact hxi u q; rw [List.mem_singleton.1 q]; exact hxx) k1 k2 k3'
    rw [el] at this
    exact this
  have HOK : Hid (okP b l s nx t x = (gw b l s nx t && gw b l s (nx + 1) (t ++ [⟨1, nx, x, 0⟩]))) := rfl
  have HNx : Hid (gw b l s nx t = true → 1 ≤ nx ∧ nx ≤ 31 ∧ t.length ≤ 30 ∧ l.length ≤ 60 ∧ srt l = s ∧ s.length ≤ 60) := fun h => gw_nx h
  have HFin : Hid (∀ (w' : World) (B C : Nat) (v : Value), WkM w' B C v b l.length s.length (t.length + 1) (gx l) (gx s) (nx + 1) (gi (t ++ [⟨1, nx, x, 0⟩])) → WkM w' B C v (wiB true b) (wiL true l).length (wiL true s).length (wiL true (t ++ [⟨1, nx, x, 0⟩])).length (gx (wiL true l)) (gx (wiL true s)) (wiB true (nx + 1)) (gi (wiL true (t ++ [⟨1, nx, x, 0⟩])))) := fun w' B C v h => by
    have el : (t ++ [(⟨1, nx, x, 0⟩ : It)]).length = t.length + 1 := by simp
    show WkM w' B C v b l.length s.length (t ++ [_]).length (gx l) (gx s) (nx + 1) (gi (t ++ [_]))
    rw [el]
    exact h
  have HOw : Hid (∀ (wa : World) (B : Nat) (v : Value), World.ownsRow wa B 71 5 v (t.length + 1) (cis t ++ cis [⟨1, nx, x, 0⟩]) → ∃ y cy, v = .slice y (t.length + 1) cy ∧ MineI wa B wa.heap.size y (t.length + 1) (gi (t ++ [⟨1, nx, x, 0⟩])) ∧ t.length + 1 ≤ cy) := fun wa B v h => by
    have el : (t ++ [(⟨1, nx, x, 0⟩ : It)]).length = t.length + 1 := by simp
    obtain ⟨y, cy, rfl⟩ := owns_form h
    have h2 : OwnI wa B (.slice y (t.length + 1) cy) (t ++ [⟨1, nx, x, 0⟩]) := by
      show World.ownsRow wa B _ _ _ (t ++ [_]).length (cis (t ++ [_]))
      rw [el, cis_app]
      exact h
    have h1 := OwnI.own h2
    rw [el] at h1
    exact ⟨y, cy, rfl, h1.1, h1.2.2⟩
  have HOt : Hid (∀ (wa : World) (B : Nat) (v : Value), OwnI wa B v t → World.ownsRow wa B 71 5 v t.length (cis t)) := fun _ _ _ h => h
  have hc1 := cis_one [(⟨1, nx, x, 0⟩ : It)]
  have sr := fun W => src_oneI W ⟨1, nx, x, 0⟩ 71
  have hcl : (cis [(⟨1, nx, x, 0⟩ : It)]).length = 1 * 5 := rfl
  generalize cis [(⟨1, nx, x, 0⟩ : It)] = c1 at *
  generalize cis t = c0 at *
  generalize okP b l s nx t x = ok at *
  generalize gw b l s (nx + 1) (t ++ [⟨1, nx, x, 0⟩]) = u2 at *
  generalize gw b l s nx t = u1 at *
  obtain ⟨p, q⟩ := x
  simp only at sr
  clear ha ha' hi hxi hxx
  generalize hg2 : gi (t ++ [⟨1, nx, (p, q), 0⟩]) = g2 at cG2 HOw HFin
  clear hg2
  have HSL : Hid (∀ (W : World) (B C : Nat) (y : Option Addr), srt l = s → Own W B C y (srt l) → MineX W B C y s.length (gx s)) := fun W B C y h hh => by rw [← h]; exact hh
  have HSn : Hid (srt l = s → (srt l).length = s.length) := fun h => by rw [h]
  obtain ⟨n, hnn⟩ : ∃ n, l.length = n := ⟨_, rfl⟩
  obtain ⟨n', hnn'⟩ : ∃ n', s.length = n' := ⟨_, rfl⟩
  obtain ⟨m, hmm⟩ : ∃ m, t.length = m := ⟨_, rfl⟩
  rw [hnn] at cG cL cG2 HNx HFin
  rw [hnn'] at cG cL cG2 HNx HFin HSL HSn
  rw [hmm] at cG cL cG2 HNx HFin HOw HOt
  rw [hnn, hnn', hmm]
  have HMX : Hid (∀ (W : World) (B C : Nat) (y : Option Addr), Own W B C y l → MineX W B C y n (gx l)) := fun W B C y hh => by rw [← hnn]; exact hh
  clear hnn hnn' hmm hn hn' hm hci
  obtain ⟨D, hD⟩ : ∃ D, w.heap.size = D := ⟨_, rfl⟩
  obtain ⟨W0, hW0⟩ : ∃ W0, ((w.alloc (.cells #[.int .i64 b, .slice a n ca, .slice a' n' ca', .int .i64 nx, .slice i m ci] 27)).alloc (.cells #[.int .i64 p, .int .i64 q] 47)).alloc (.cells #[.int .i64 0, .slice none 0 0, .slice none 0 0, .int .i64 0, .slice none 0 0] 27) = W0 := ⟨_, rfl⟩
  have g0 : Below w.heap.size w W0 := by subst hW0; exact ba3 _ _ _ _
  obtain ⟨B1, B2, B3⟩ : W0.heap[D]? = some (.cells #[.int .i64 b, .slice a n ca, .slice a' n' ca', .int .i64 nx, .slice i m ci] 27 (0, 0)) ∧ W0.heap[D + 1]? = some (.cells #[.int .i64 p, .int .i64 q] 47 (0, 0)) ∧ W0.heap[D + 1 + 1]? = some (.cells #[.int .i64 0, .slice none 0 0, .slice none 0 0, .int .i64 0, .slice none 0 0] 27 (0, 0)) := by subst hW0 hD; exact al3 _ _ _ _
  have H1 : Hid (W0.heap[D]? = some (.cells #[.int .i64 b, .slice a n ca, .slice a' n' ca', .int .i64 nx, .slice i m ci] 27 (0, 0))) := B1
  have H2 : Hid (W0.heap[D + 1]? = some (.cells #[.int .i64 p, .int .i64 q] 47 (0, 0))) := B2
  have H3 : Hid (W0.heap[D + 1 + 1]? = some (.cells #[.int .i64 0, .slice none 0 0, .slice none 0 0, .int .i64 0, .slice none 0 0] 27 (0, 0))) := B3
  have z0 := box_lt B3
  have hzw : w.heap.size ≤ W0.heap.size := g0.size
  obtain ⟨i0, i1, i2, i3, i4⟩ := box5_cells B1
  clear B1 B2 B3
  cases u1 with
  | false =>
    have hok : ok = false := by rw [HOK.out]; rfl
    subst hok
    go_enter Try.func18, Try.ntmps18
    go_wp2_with fail
    refine (cG _ g0).mono ?_
    rintro e w1 ⟨rfl, b1⟩
    clear hW0 i0 i1 i2 i3 i4
    have K3 := box_on H3.out b1
    obtain ⟨r0, r1, r2, r3, r4⟩ := box5_cells K3
    obtain ⟨q0, q1, q2, q3, q4⟩ := box5_free K3
    have z1 := b1.size
    go_wp2
    obtain ⟨W6, hW6⟩ : ∃ W6, ((((w1.setCell ⟨D + 1 + 1, 0, none⟩ (.int .i64 0)).setCell ⟨D + 1 + 1, 1, none⟩ (.slice none 0 0)).setCell ⟨D + 1 + 1, 2, none⟩ (.slice none 0 0)).setCell ⟨D + 1 + 1, 3, none⟩ (.int .i64 0)).setCell ⟨D + 1 + 1, 4, none⟩ (.slice none 0 0) = W6 := ⟨_, rfl⟩
    have o6 : Out (D + 1 + 1) (D + 1 + 1 + 1) w1 W6 := by subst hW6; exact box5_out _ _ _ _ _ _ _
    have R6 : W6.heap[D + 1 + 1]? = some (.cells #[.int .i64 0, .slice none 0 0, .slice none 0 0, .int .i64 0, .slice none 0 0] 27 (0, 0)) := by subst hW6; exact box5_set K3
    rw [hW6]
    clear hW6 r0 r1 r2 r3 r4 q0 q1 q2 q3 q4
    obtain ⟨t0, t1, t2, t3, t4⟩ := box5_cells R6
    have z6 := o6.size
    refine bodyPost_ret (v := .tuple #[wv 0 none 0 0 none 0 0 0 none 0 0, .int .i64 0, .bool false]) (by simp [results, Try.results18, go_sem, t0, t1, t2, t3, t4]) rfl ?_
    exact ⟨(Below.comp g0 b1).trans ((o6.below (by omega)).mono (by omega)), _, rfl, (WkM.nil W6 w.heap.size 0).mono (Nat.le_refl _) (by omega)⟩
  | true =>
    obtain ⟨hx1, hx2, hm30, hn60, hsl, hs60⟩ := HNx.out rfl
    have HSl : Hid (srt l = s) := hsl
    have cL' := cL hn60 hm30
    rw [HSn.out hsl] at cL'
    have hok : ok = u2 := by rw [HOK.out]; rfl
    subst hok
    clear hsl cL HNx HOK
    have hnw : IntKind.i64.wrap (nx + 1) = nx + 1 := wrapI (by omega) (by omega)
    have hnb : IntKind.i64.wrap (nx + 1 - 1) = nx := by rw [wrapI (by omega) (by omega)]; omega
    have hnb2 : nx + 1 - 1 = nx := by omega
    have hnz : IntKind.i64.wrap nx = nx := wrapI (by omega) (by omega)
    go_enter Try.func18, Try.ntmps18
    go_wp2_with fail
    refine (cG _ g0).mono ?_
    rintro e w0 ⟨rfl, b0⟩
    clear hW0 i0 i1 i2 i3 i4
    have gz : Below w.heap.size w w0 := Below.comp g0 b0
    obtain ⟨i0, i1, i2, i3, i4⟩ := box5_cells (box_on H1.out b0)
    go_wp2_with fail
    refine (cL' _ gz).mono ?_
    rintro e w1 ⟨b1, x, c, x', c', y, cy, M, N, rfl, hM, hN, hN1, m1, m2, own1⟩
    clear i0 i1 i2 i3 i4 cL'
    have zb := b0.size
    have z1 := b1.size
    have b01 : Below W0.heap.size W0 w1 := Below.comp b0 b1
    have K1 := box_on H1.out b01
    have K2 : Hid (w1.heap[D + 1]? = some (.cells #[.int .i64 p, .int .i64 q] 47 (0, 0))) := box_on H2.out b01
    have K3 : Hid (w1.heap[D + 1 + 1]? = some (.cells #[.int .i64 0, .slice none 0 0, .slice none 0 0, .int .i64 0, .slice none 0 0] 27 (0, 0))) := box_on H3.out b01
    obtain ⟨i0, i1, i2, i3, i4⟩ := box5_cells K1
    obtain ⟨f0, f1, f2, f3, f4⟩ := box5_free K1
    obtain ⟨W2, hW2⟩ : ∃ W2, ((((w1.setCell ⟨D, 0, none⟩ (.int .i64 b)).setCell ⟨D, 1, none⟩ (.slice x n c)).setCell ⟨D, 2, none⟩ (.slice x' n' c')).setCell ⟨D, 3, none⟩ (.int .i64 nx)).setCell ⟨D, 4, none⟩ (.slice y m cy) = W2 := ⟨_, rfl⟩
    have o2 : Out D (D + 1) w1 W2 := by subst hW2; exact box5_out _ _ _ _ _ _ _
    have R2 : Hid (W2.heap[D]? = some (.cells #[.int .i64 b, .slice x n c, .slice x' n' c', .int .i64 nx, .slice y m cy] 27 (0, 0))) := by subst hW2; exact box5_set K1
    have z2 := o2.size
    have hw0 : W0.heap.size ≤ w0.heap.size := zb
    have M2 : Hid (MineX W2 w0.heap.size M x n (gx l) ∧ MineX W2 M N x' n' (gx s)) := ⟨(HMX.out _ _ _ _ m1).out o2 (.inr (by omega)), (HSL.out _ _ _ _ HSl.out m2).out o2 (.inr (by omega))⟩
    have own2 : OwnI W2 N (.slice y m cy) t := owns_out own1 o2 (by omega)
    have K2' : Hid (W2.heap[D + 1]? = some (.cells #[.int .i64 p, .int .i64 q] 47 (0, 0))) := box_out K2.out o2 (by omega)
    have K3' : Hid (W2.heap[D + 1 + 1]? = some (.cells #[.int .i64 0, .slice none 0 0, .slice none 0 0, .int .i64 0, .slice none 0 0] 27 (0, 0))) := box_out K3.out o2 (by omega)
    clear K1 m1 m2 own1
    have hNs : N ≤ W2.heap.size := by omega
    obtain ⟨i0, i1, i2, i3, i4⟩ := box5_cells R2.out
    obtain ⟨j0, j1, -, -⟩ := box2_cells K2'.out
    obtain ⟨W3, hW3⟩ : ∃ W3, W2.alloc (.cells #[.int .i64 1, .int .i64 nx, .int .i64 p, .int .i64 q, .int .i64 0] 71) = W3 := ⟨_, rfl⟩
    have b3 : Below W2.heap.size W2 W3 := by subst hW3; exact below_alloc _ _
    have sr3 : (1 : Nat) = 0 ∨ ∃ ad, some (⟨W2.heap.size, 0, none⟩ : Addr) = some ad ∧ ∀ j u, c1[j]? = some u → W3.cell? (ad.add j) = some u := by subst hW3; exact sr W2
    have own3 : W3.ownsRow N 71 5 (.slice y m cy) m c0 := HOt.out _ _ _ (owns_below own2 b3)
    have z3 := b3.size
    have R3 : Hid (W3.heap[D]? = some (.cells #[.int .i64 b, .slice x n c, .slice x' n' c', .int .i64 nx, .slice y m cy] 27 (0, 0))) := box_on R2.out b3
    have K3'' : Hid (W3.heap[D + 1 + 1]? = some (.cells #[.int .i64 0, .slice none 0 0, .slice none 0 0, .int .i64 0, .slice none 0 0] 27 (0, 0))) := box_on K3'.out b3
    have M3 : Hid (MineX W3 w0.heap.size M x n (gx l) ∧ MineX W3 M N x' n' (gx s)) := ⟨M2.out.1.below b3, M2.out.2.below b3⟩
    clear own2 sr
    go_wp2_with (at_builtin; refine wpList_append_src rfl _ _ 25 rfl N 71 _ 5 40 Try.underlying25 infoIt rfl (by decide) (.slice y m cy) m c0 rfl own3 (some ⟨W2.heap.size, 0, none⟩) 1 1 c1 rfl hcl sr3 hc1 (by omega) (by decide) (by omega) ?_; intro v4 w4 own4 gr4; have b4 : Below N W3 w4 := Grown.below gr4 (by omega) (owns_ge own3); obtain ⟨y', cy', e4, mI4, hcy⟩ := HOw.out _ _ _ own4; subst e4; have z4 := gr4.size; have R4 : w4.heap[D]? = some (.cells #[.int .i64 b, .slice x n c, .slice x' n' c', .int .i64 nx, .slice y m cy] 27 (0, 0)) := box_lo R3.out b4 (by omega); have HR4 : Hid (w4.heap[D]? = some (.cells #[.int .i64 b, .slice x n c, .slice x' n' c', .int .i64 nx, .slice y m cy] 27 (0, 0))) := R4; have HI4 : Hid (MineI w4 N w4.heap.size y' (m + 1) g2) := mI4; obtain ⟨u0, u1, u2', u3, u4⟩ := box5_cells R4; obtain ⟨v0, v1, v2, v3, v4⟩ := box5_free R4; clear R4 own4 gr4 own3 mI4 hW3 i0 i1 i2 i3 i4 j0 j1)
    obtain ⟨W5, hW5⟩ : ∃ W5, (w4.setCell ⟨D, 4, none⟩ (.slice y' (m + 1) cy')).setCell ⟨D, 3, none⟩ (.int .i64 (nx + 1)) = W5 := ⟨_, rfl⟩
    have o5 : Out D (D + 1) w4 W5 := by subst hW5; exact ((Out.refl _ _ _).setCell (by omega) (by omega) _ _).setCell (by omega) (by omega) _ _
    have HD5 : Hid (W5.heap[D]? = some (.cells #[.int .i64 b, .slice x n c, .slice x' n' c', .int .i64 (nx + 1), .slice y' (m + 1) cy'] 27 (0, 0))) := by subst hW5; exact block_set (block_set HR4.out)
    first | rw [hW5] | skip
    clear hW5 u0 u1 u2' u3 u4 v0 v1 v2 v3 v4
    have z5 := o5.size
    have H5 : Hid (W5.heap[D + 1 + 1]? = some (.cells #[.int .i64 0, .slice none 0 0, .slice none 0 0, .int .i64 0, .slice none 0 0] 27 (0, 0))) := box_out (box_lo K3''.out b4 (by omega)) o5 (by omega)
    have M5 : Hid (MineX W5 w0.heap.size M x n (gx l) ∧ MineX W5 M N x' n' (gx s) ∧ MineI W5 N w4.heap.size y' (m + 1) g2) := ⟨(M3.out.1.lo b4 (by omega)).out o5 (.inr (by omega)), (M3.out.2.lo b4 (by omega)).out o5 (.inr (by omega)), HI4.out.out o5 (.inr (by omega))⟩
    have HW5 : Hid (WkM W5 w0.heap.size w4.heap.size (wv b x n c x' n' c' (nx + 1) y' (m + 1) cy') b n n' (m + 1) (gx l) (gx s) (nx + 1) g2) := ⟨x, c, x', c', y', cy', w0.heap.size, M, M, N, N, w4.heap.size, rfl, by omega, by omega, M5.out.1, M5.out.2.1, M5.out.2.2, hcy⟩
    have g5 : Below w.heap.size w W5 := by
      have q1 : Below w.heap.size w w1 := Below.comp gz b1
      have q2 : Below w.heap.size w W2 := q1.trans ((o2.below (by omega)).mono (by omega))
      have q3 : Below w.heap.size w W3 := Below.comp q2 b3
      have q4 : Below w.heap.size w w4 := q3.trans (b4.mono (by omega))
      exact q4.trans ((o5.below (by omega)).mono (by omega))
    refine (cG2 W5 _ HW5.out.r).mono ?_
    rintro e w6 ⟨rfl, b6⟩
    have z6 := b6.size
    have K6 : Hid (w6.heap[D + 1 + 1]? = some (.cells #[.int .i64 0, .slice none 0 0, .slice none 0 0, .int .i64 0, .slice none 0 0] 27 (0, 0))) := box_on H5.out b6
    cases ok with
    | false =>
      obtain ⟨r0, r1, r2, r3, r4⟩ := box5_cells K6.out
      obtain ⟨q0, q1, q2, q3, q4⟩ := box5_free K6.out
      go_wp2
      obtain ⟨W6, hW6⟩ : ∃ W6, ((((w6.setCell ⟨D + 1 + 1, 0, none⟩ (.int .i64 0)).setCell ⟨D + 1 + 1, 1, none⟩ (.slice none 0 0)).setCell ⟨D + 1 + 1, 2, none⟩ (.slice none 0 0)).setCell ⟨D + 1 + 1, 3, none⟩ (.int .i64 0)).setCell ⟨D + 1 + 1, 4, none⟩ (.slice none 0 0) = W6 := ⟨_, rfl⟩
      have o6 : Out (D + 1 + 1) (D + 1 + 1 + 1) w6 W6 := by subst hW6; exact box5_out _ _ _ _ _ _ _
      have R6 : W6.heap[D + 1 + 1]? = some (.cells #[.int .i64 0, .slice none 0 0, .slice none 0 0, .int .i64 0, .slice none 0 0] 27 (0, 0)) := by subst hW6; exact box5_set K6.out
      rw [hW6]
      clear hW6 r0 r1 r2 r3 r4 q0 q1 q2 q3 q4
      obtain ⟨t0, t1, t2, t3, t4⟩ := box5_cells R6
      have z7 := o6.size
      refine bodyPost_ret (v := .tuple #[wv 0 none 0 0 none 0 0 0 none 0 0, .int .i64 0, .bool false]) (by simp [results, Try.results18, go_sem, t0, t1, t2, t3, t4]) rfl ?_
      exact ⟨(Below.comp g5 b6).trans ((o6.below (by omega)).mono (by omega)), _, rfl, (WkM.nil W6 w.heap.size 0).mono (Nat.le_refl _) (by omega)⟩
    | true =>
      go_wp2
      obtain ⟨WZ, hWZ⟩ : ∃ WZ, w6.drew = WZ := ⟨_, rfl⟩
      have BZ : Below w6.heap.size w6 WZ := by subst hWZ; exact Below.drew (Below.refl _ _)
      have SZ : Hid (∀ W6 : World, (∀ k, k ≠ D + 1 + 1 → k < WZ.heap.size → W6.heap[k]? = WZ.heap[k]?) → W6.cell? ⟨D, 0, none⟩ = some (.int .i64 b) ∧ W6.cell? ⟨D, 1, none⟩ = some (.slice x n c) ∧ W6.cell? ⟨D, 2, none⟩ = some (.slice x' n' c') ∧ W6.cell? ⟨D, 3, none⟩ = some (.int .i64 (nx + 1)) ∧ W6.cell? ⟨D, 4, none⟩ = some (.slice y' (m + 1) cy')) := fun W6 hk => by
        have k1 : W6.heap[D]? = some (.cells #[.int .i64 b, .slice x n c, .slice x' n' c', .int .i64 (nx + 1), .slice y' (m + 1) cy'] 27 (0, 0)) := (hk D (by omega) (by have := box_lt (box_on HD5.out (Below.comp b6 BZ)); omega)).trans (box_on HD5.out (Below.comp b6 BZ))
        exact box5_cells k1
      refine wp_region_L (fun W => W.cell? ⟨D, 0, none⟩ = some (.int .i64 b) ∧ W.cell? ⟨D, 1, none⟩ = some (.slice x n c) ∧ W.cell? ⟨D, 2, none⟩ = some (.slice x' n' c') ∧ W.cell? ⟨D, 3, none⟩ = some (.int .i64 (nx + 1)) ∧ W.cell? ⟨D, 4, none⟩ = some (.slice y' (m + 1) cy')) 7 7 (by kernel_rfl) rfl (by rw [hWZ]; exact SZ.out WZ (fun _ _ _ => rfl)) (fun hS0 => ?_)
      rw [hWZ] at hS0
      rw [hWZ]
      clear hWZ
      have KZ : Hid (WZ.heap[D + 1 + 1]? = some (.cells #[.int .i64 0, .slice none 0 0, .slice none 0 0, .int .i64 0, .slice none 0 0] 27 (0, 0))) := box_on (box_on H5.out b6) BZ
      refine tkL (i := 0) (d := 30) (v := ?_) rfl rfl (by kernel_rfl) (by kernel_rfl) (by kernel_rfl) (by kernel_rfl) (fun _ _ _ h => h) (Or.inl ⟨by rfl, by intro wq hSq; obtain ⟨y0, y1, y2, y3, y4⟩ := hSq; go_simp; try with_reducible rfl⟩) (by assumption) ?_
      simp only [List.setIfInBounds_toArray, List.set_cons_zero, List.set_cons_succ]
      refine tkL (i := 1) (d := 31) (v := ?_) rfl rfl (by kernel_rfl) (by kernel_rfl) (by kernel_rfl) (by kernel_rfl) (fun _ _ _ h => h) (Or.inl ⟨by rfl, by intro wq hSq; obtain ⟨y0, y1, y2, y3, y4⟩ := hSq; go_simp; try with_reducible rfl⟩) (by assumption) ?_
      simp only [List.setIfInBounds_toArray, List.set_cons_zero, List.set_cons_succ]
      refine tkL (i := 2) (d := 32) (v := ?_) rfl rfl (by kernel_rfl) (by kernel_rfl) (by kernel_rfl) (by kernel_rfl) (fun _ _ _ h => h) (Or.inl ⟨by rfl, by intro wq hSq; obtain ⟨y0, y1, y2, y3, y4⟩ := hSq; go_simp; try with_reducible rfl⟩) (by assumption) ?_
      simp only [List.setIfInBounds_toArray, List.set_cons_zero, List.set_cons_succ]
      refine tkL (i := 3) (d := 33) (v := ?_) rfl rfl (by kernel_rfl) (by kernel_rfl) (by kernel_rfl) (by kernel_rfl) (fun _ _ _ h => h) (Or.inl ⟨by rfl, by intro wq hSq; obtain ⟨y0, y1, y2, y3, y4⟩ := hSq; go_simp; try with_reducible rfl⟩) (by assumption) ?_
      simp only [List.setIfInBounds_toArray, List.set_cons_zero, List.set_cons_succ]
      obtain ⟨r0, r1, r2, r3, r4⟩ := box5_cells KZ.out
      obtain ⟨q0, q1, q2, q3, q4⟩ := box5_free KZ.out
      refine oneL (i := 4) rfl (by kernel_rfl) (fun K hK => ?_)
      go_simp
      obtain ⟨W6, hW6⟩ : ∃ W6, ((((WZ.setCell ⟨D + 1 + 1, 0, none⟩ (.int .i64 b)).setCell ⟨D + 1 + 1, 1, none⟩ (.slice x n c)).setCell ⟨D + 1 + 1, 2, none⟩ (.slice x' n' c')).setCell ⟨D + 1 + 1, 3, none⟩ (.int .i64 (nx + 1))).setCell ⟨D + 1 + 1, 4, none⟩ (.slice y' (m + 1) cy') = W6 := ⟨_, rfl⟩
      have o6 : Out (D + 1 + 1) (D + 1 + 1 + 1) WZ W6 := by subst hW6; exact box5_out _ _ _ _ _ _ _
      have R6 : W6.heap[D + 1 + 1]? = some (.cells #[.int .i64 b, .slice x n c, .slice x' n' c', .int .i64 (nx + 1), .slice y' (m + 1) cy'] 27 (0, 0)) := by subst hW6; exact box5_set KZ.out
      first | rw [hW6] | skip
      have S6 := SZ.out W6 (fun k h1 h2 => o6.block k h2 (by omega))
      refine hK.out _ _ S6 (fun _ => ?_)
      clear hK K hW6 r0 r1 r2 r3 r4 q0 q1 q2 q3 q4
      refine oneL (i := 5) rfl (by kernel_rfl) (fun K hK => ?_)
      go_simp
      refine hK.out _ _ S6 (fun _ => ?_)
      clear hK K
      refine oneL (i := 6) rfl (by kernel_rfl) (fun K hK => ?_)
      go_simp
      refine hK.out _ _ S6 (fun _ => ?_)
      clear hK K
      refine ⟨by kernel_rfl, ?_⟩
      obtain ⟨t0, t1, t2, t3, t4⟩ := box5_cells R6
      have z6 := o6.size
      clear S6 hS0
      go_wp2
      refine bodyPost_ret (v := .tuple #[wv b x n c x' n' c' (nx + 1) y' (m + 1) cy', .int .i64 nx, .bool true]) (by simp [results, Try.results18, go_sem, t0, t1, t2, t3, t4]) rfl ?_
      have zz := BZ.size
      exact ⟨(Below.comp g5 (Below.comp b6 BZ)).trans ((o6.below (by omega)).mono (by omega)), _, rfl, HFin.out _ _ _ _ (((HW5.out.below (Below.comp b6 BZ)).out o6 (.inr (by omega))).mono (by omega) (by omega))⟩
end Go.Proofs.Ytpolhigpcllhiaa
