import Derived.Test.YtgapplfnlndckaaQ2
/- impl.GiveBlock. -/
namespace Go.Proofs.Ytgapplfnlndckaa
open Go.ChangeShapes Go.WideShapes Go.ChangeAt Go.RowKit
set_option linter.unusedVariables false
open Room

attribute [local go_sem] Oper.semAt_some

theorem KM.look2 {w : World} {b n : Nat} {g : Ex → Int} (h : KM w b n g) {u v : Int} (hf : FitX (u, v)) : (Instr.lookup 67 (.map (some b)) (.agg #[.int .i64 u, .int .i64 v]) false).run Try.prog w = .ok (.int .i64 (g (u, v))) w := by
  have e := KM.look h hf
  rw [show xv (u, v) = .agg #[.int .i64 u, .int .i64 v] from rfl] at e
  exact e
/-- How far an order stands below another. -/
def under (E : Nat) (o : Int) (w : World) : Nat := match w.cell? ⟨E, 1, none⟩ with | some (.int _ t) => (o - t).toNat | _ => 0
set_option maxRecDepth 20000 in
set_option maxHeartbeats 4000000 in
theorem implGive_any (b : Int) (a : Option Addr) (ca : Nat) (a' : Option Addr) (ca' : Nat) (F U : List Ex) (t : Int) (w : World) (hn : F.length ≤ 1048576) (hn' : U.length ≤ 1048576) (hca : F.length ≤ ca) (hca' : U.length ≤ ca') (ha : Exs w a F) (ha' : Exs w a' U) :
    Calls Try.prog 22 #[fv b a F.length ca a' U.length ca', .int .i64 t] w fun e w' => Below w.heap.size w w' ∧ AnsG w.heap.size w' (gvA b F U t) e := by
  obtain ⟨D, hD⟩ : ∃ D, w.heap.size = D := ⟨_, rfl⟩
  obtain ⟨W0, hW0⟩ : ∃ W0, ((w.alloc (.cells #[.int .i64 b, .slice a F.length ca, .slice a' U.length ca'] 24)).alloc (.cells #[.int .i64 t] 3)).alloc (.cells #[.int .i64 0, .slice none 0 0, .slice none 0 0] 24) = W0 := ⟨_, rfl⟩
  have g0 : Below w.heap.size w W0 := by subst hW0; exact ba3 _ _ _ _
  obtain ⟨B1, B2, B3⟩ : W0.heap[D]? = some (.cells #[.int .i64 b, .slice a F.length ca, .slice a' U.length ca'] 24 (0, 0)) ∧ W0.heap[D + 1]? = some (.cells #[.int .i64 t] 3 (0, 0)) ∧ W0.heap[D + 1 + 1]? = some (.cells #[.int .i64 0, .slice none 0 0, .slice none 0 0] 24 (0, 0)) := by subst hW0 hD; exact al3 _ _ _ _
  have HB : Hid (W0.heap[D]? = some (.cells #[.int .i64 b, .slice a F.length ca, .slice a' U.length ca'] 24 (0, 0))) := B1
  have HA : Hid (W0.heap[D + 1]? = some (.cells #[.int .i64 t] 3 (0, 0))) := B2
  have HR : Hid (W0.heap[D + 1 + 1]? = some (.cells #[.int .i64 0, .slice none 0 0, .slice none 0 0] 24 (0, 0))) := B3
  have z0 : D + 1 + 1 < W0.heap.size := box_lt B3
  obtain ⟨i0, i1, i2, -, -, -⟩ := box3_cells B1
  clear B1 B2 B3
  have cg := implGood_any b a ca a' ca' F U W0 hn hn' hca hca' (ha.below g0) (ha'.below g0)
  have NO : Hid (∀ (W : World), Below w.heap.size w W → ∀ e, e = .returned (.tuple #[fv 0 none 0 0 none 0 0, .bool false]) → gvA b F U t = noA → AnsG w.heap.size W (gvA b F U t) e) := fun W hW e he h => by
    rw [h]
    exact ⟨_, he, FreeAt.nil (by have := hW.size; omega)⟩
  obtain ⟨r, hr⟩ : ∃ r, good b F U = r := ⟨_, rfl⟩
  rw [hr] at cg
  have HRr : Hid (good b F U = r) := hr
  clear hr
  go_enter Try.func22, Try.ntmps22
  go_wp2_with fail
  refine cg.mono ?_
  rintro e w1 ⟨rfl, b1⟩
  clear hW0 i0 i1 i2 cg
  have g1 := Below.comp g0 b1
  have HR1 : Hid (w1.heap[D + 1 + 1]? = some (.cells #[.int .i64 0, .slice none 0 0, .slice none 0 0] 24 (0, 0))) := box_on HR.out b1
  have HB1 : Hid (w1.heap[D]? = some (.cells #[.int .i64 b, .slice a F.length ca, .slice a' U.length ca'] 24 (0, 0))) := box_on HB.out b1
  have HA1 : Hid (w1.heap[D + 1]? = some (.cells #[.int .i64 t] 3 (0, 0))) := box_on HA.out b1
  cases r with
  | false =>
    have hnone : gvA b F U t = noA := by unfold gvA; rw [if_neg (by rw [HRr.out]; simp)]
    obtain ⟨r0, r1, r2, q0, q1, q2⟩ := box3_cells HR1.out
    go_wp2
    obtain ⟨X, hX⟩ : ∃ X, ((w1.setCell ⟨D + 1 + 1, 0, none⟩ (.int .i64 0)).setCell ⟨D + 1 + 1, 1, none⟩ (.slice none 0 0)).setCell ⟨D + 1 + 1, 2, none⟩ (.slice none 0 0) = X := ⟨_, rfl⟩
    have R : X.heap[D + 1 + 1]? = some (.cells #[.int .i64 0, .slice none 0 0, .slice none 0 0] 24 (0, 0)) := by subst hX; exact box3_set HR1.out
    have bX : Below w.heap.size w X := by subst hX; exact g1.trans ((box3_out w1 (D + 1 + 1) _ _ _).below (by have := box_lt HR1.out; omega) |>.mono (by omega))
    rw [hX]
    clear hX r0 r1 r2 q0 q1 q2
    obtain ⟨t0, t1, t2, -, -, -⟩ := box3_cells R
    refine bodyPost_ret (v := .tuple #[fv 0 none 0 0 none 0 0, .bool false]) (by simp [results, Try.results22, go_sem, t0, t1, t2]) rfl ⟨bX, NO.out X bX _ rfl hnone⟩
  | true =>
    have G := gd_of HRr.out
    have HTA : Hid (gvA b F U t = (match ub U t with | some i => ⟨b, put (gv (b - (gx U i).2).toNat F (gx U i)).2 (gv (b - (gx U i).2).toNat F (gx U i)).1, without U i, 0, true⟩ | none => noA)) := by
      show _ = _
      unfold gvA
      rw [if_pos HRr.out]
      rfl
    have hlf := len_of G.lf (by have := pw_pos b; omega)
    have hlu := len_of G.lu (by have := pw_pos b; omega)
    have hpb : pw b ≤ 256 := by
      have := pw_le (k := b.toNat) (by have := G.b8; omega)
      have e1 : ((b.toNat : Nat) : Int) = b := by have := G.b0; omega
      rw [e1] at this
      exact this
    have HG : Hid (Gd b F U) := G
    have hb08 : 0 ≤ b ∧ b ≤ 8 := ⟨G.b0, G.b8⟩
    have hFl : F.length ≤ 256 := by omega
    have hUl : U.length ≤ 256 := by omega
    have c45 := fun W h h' => kindsOf_any b a ca a' ca' F U W (by omega) (by omega) G.fitF G.fitU h h'
    have cf := first50 w1.heap.size (D + 1) a' U.length ca' (gx U) (isA t) (w1.alloc (.cells #[.slice a' U.length ca'] 22)) (by omega) (sx_of (ha'.below g1)) (fun i hi W hW => cl50_any t (D + 1) (gx U i) W (cell_on (cell1 HA1.out).1 (Below.comp (below_alloc _ _) hW)))
    clear G HRr hlf hlu hpb
    obtain ⟨i0, i1, i2, -, -, -⟩ := box3_cells HB1.out
    go_wp2_with fail
    refine (All_any a' U.length ca' _).mono ?_
    rintro e w2 ⟨rfl, rfl⟩
    go_wp2_with fail
    refine cf.mono ?_
    rintro e w3 ⟨b3, y, r, rfl, hF⟩
    obtain ⟨y1, y2⟩ := y
    clear cf i0 i1 i2
    obtain ⟨E, hE⟩ : ∃ E, w3.heap.size = E := ⟨_, rfl⟩
    obtain ⟨W4, hW4⟩ : ∃ W4, w3.alloc (.cells #[.int .i64 y1, .int .i64 y2] 43) = W4 := ⟨_, rfl⟩
    have b4 : Below w3.heap.size w3 W4 := by subst hW4; exact below_alloc _ _
    have HE : Hid (W4.heap[E]? = some (.cells #[.int .i64 y1, .int .i64 y2] 43 (0, 0))) := by subst hW4 hE; exact al1 _ _
    have b34 := Below.comp (below_alloc w1 (.cells #[.slice a' U.length ca'] 22)) (Below.comp b3 b4)
    have HB4 : Hid (W4.heap[D]? = some (.cells #[.int .i64 b, .slice a F.length ca, .slice a' U.length ca'] 24 (0, 0))) := box_on HB1.out b34
    have HR4 : Hid (W4.heap[D + 1 + 1]? = some (.cells #[.int .i64 0, .slice none 0 0, .slice none 0 0] 24 (0, 0))) := box_on HR1.out b34
    have g4 := Below.comp g1 b34
    have zE : D + 1 + 1 < E := by
      have q1 := box_lt HR1.out
      have q2 := (below_alloc w1 (.cells #[.slice a' U.length ca'] 22)).size
      have q3 := b3.size
      omega
    cases r with
    | false =>
      have hnone : gvA b F U t = noA := by
        rcases hF with ⟨h, _⟩ | ⟨_, _, h⟩
        · cases h
        · rw [HTA.out, ub_none fun i hi => by have := h i hi; simpa [isA] using this]
      obtain ⟨r0, r1, r2, q0, q1, q2⟩ := box3_cells HR4.out
      go_wp2
      obtain ⟨X, hX⟩ : ∃ X, ((W4.setCell ⟨D + 1 + 1, 0, none⟩ (.int .i64 0)).setCell ⟨D + 1 + 1, 1, none⟩ (.slice none 0 0)).setCell ⟨D + 1 + 1, 2, none⟩ (.slice none 0 0) = X := ⟨_, rfl⟩
      have R : X.heap[D + 1 + 1]? = some (.cells #[.int .i64 0, .slice none 0 0, .slice none 0 0] 24 (0, 0)) := by subst hX; exact box3_set HR4.out
      have bX : Below w.heap.size w X := by subst hX; exact g4.trans ((box3_out W4 (D + 1 + 1) _ _ _).below (by have := box_lt HR4.out; omega) |>.mono (by omega))
      rw [hX]
      clear hX r0 r1 r2 q0 q1 q2
      obtain ⟨t0, t1, t2, -, -, -⟩ := box3_cells R
      refine bodyPost_ret (v := .tuple #[fv 0 none 0 0 none 0 0, .bool false]) (by simp [results, Try.results22, go_sem, t0, t1, t2]) rfl ⟨bX, NO.out X bX _ rfl hnone⟩
    | true =>
      obtain ⟨ki, hFa, hyk⟩ : ∃ k, Fa U t k ∧ (y1, y2) = gx U k := by
        rcases hF with ⟨_, k, hk, h1, h2, h3⟩ | ⟨h, _⟩
        · exact ⟨k, ⟨hk, by simpa [isA] using h2, fun j hj => by have := h3 j hj; simpa [isA] using this⟩, h1⟩
        · cases h
      have G := HG.out
      have hxU : gx U ki ∈ U := tk_mem hFa.1
      have gi0 := gi_start G hxU
      have kd0 := kd_start G hxU
      have hob := ord_le G G.lu hFa.1
      have hTA := HTA.out
      rw [ub_some hFa] at hTA
      simp only at hTA
      have hus : ∀ g x L, Gi b F U (gx U ki) L x → Kd U (gx U ki) L g → ∀ y, y ∈ without U ki ↔ FitX y ∧ upd g x 1 y = 2 := fun g x L h k y => gv_used G h k hFa.1 rfl y
      have soU : So ltP (without U ki) := so_without (lst_so G.lu)
      have hfx := G.fitU _ hxU
      rw [← hyk] at gi0 kd0 hob hTA hus hfx
      simp only at hob
      have h2B := isB_iff.1 gi0.bl
      simp only at h2B
      obtain ⟨n0, hn0⟩ : ∃ n0 : Nat, (b - y2).toNat = n0 := ⟨_, rfl⟩
      rw [hn0] at hTA
      have hn0' : y2 + (n0 : Int) = b := by omega
      have HGI : Hid (Gi b F U (y1, y2) F (y1, y2)) := gi0
      have HKD : Hid (Kd U (y1, y2) F (upd (kg F U) (y1, y2) 0)) := kd0
      have HUS : Hid (∀ g x L, Gi b F U (y1, y2) L x → Kd U (y1, y2) L g → ∀ y, y ∈ without U ki ↔ FitX y ∧ upd g x 1 y = 2) := hus
      have HSU : Hid (So ltP (without U ki)) := soU
      have HTA2 : Hid _ := hTA
      clear gi0 kd0 hob hTA hus soU hxU h2B hn0 hyk hFa hF G HTA NO
      obtain ⟨x0, hX0⟩ : ∃ x0 : Ex, ((y1, y2) : Ex) = x0 := ⟨_, rfl⟩
      rw [hX0] at HGI HKD HUS HTA2
      have HX0 : Hid (((y1, y2) : Ex) = x0) := hX0
      clear hX0
      obtain ⟨mU, hmU⟩ : ∃ mU, without U ki = mU := ⟨_, rfl⟩
      rw [hmU] at HUS HSU HTA2
      clear hmU
      obtain ⟨i0, i1, i2, -, -, -⟩ := box3_cells HB4.out
      obtain ⟨e0, e1, f0, f1⟩ := box2_cells HE.out
      go_wp2_with fail
      refine (c45 _ (ha.below g4) (ha'.below g4)).mono ?_
      rintro e w5 ⟨M, rfl, hM, km5, b5⟩
      clear c45 hW4 i0 i1 i2 e0 e1 f0 f1
      have HE5 : Hid (w5.heap[E]? = some (.cells #[.int .i64 y1, .int .i64 y2] 43 (0, 0))) := box_on HE.out b5
      obtain ⟨e0, e1, f0, f1⟩ := box2_cells HE5.out
      have zM : E < M := by have := box_lt HE.out; omega
      have hb5 : Below D w w5 := hD ▸ Below.comp g4 b5
      have HB5 : Hid (w5.heap[D]? = some (.cells #[.int .i64 b, .slice a F.length ca, .slice a' U.length ca'] 24 (0, 0))) := box_on HB4.out b5
      have HR5 : Hid (w5.heap[D + 1 + 1]? = some (.cells #[.int .i64 0, .slice none 0 0, .slice none 0 0] 24 (0, 0))) := box_on HR4.out b5
      go_wp2_with (at_delete; refine wpList_del _ rfl _ _ rfl M 800 _ (y1, y2) rfl km5 hfx rfl ?_; intro w6 km6 gr6)
      have hb6 : Below D w w6 := hb5.grown gr6 (by have := hb5.size; omega) (fun j hj => by cases hj; omega)
      have HE6 : Hid (w6.heap[E]? = some (.cells #[.int .i64 y1, .int .i64 y2] 43 (0, 0))) := at_grown HE5.out gr6 (fun e => by cases e; omega)
      have HB6 : Hid (w6.heap[D]? = some (.cells #[.int .i64 b, .slice a F.length ca, .slice a' U.length ca'] 24 (0, 0))) := at_grown HB5.out gr6 (fun e => by cases e; omega)
      have HR6 : Hid (w6.heap[D + 1 + 1]? = some (.cells #[.int .i64 0, .slice none 0 0, .slice none 0 0] 24 (0, 0))) := at_grown HR5.out gr6 (fun e => by cases e; omega)
      have HK6 : Hid (KM w6 M 800 (upd (kg F U) (y1, y2) 0)) := km6
      clear e0 e1 f0 f1 gr6 km6 km5
      go_frame
      go_loopw [10] (fun _ wr => ∃ (n : Nat) (L : List Ex) (p q : Int) (g : Ex → Int), wr.heap[D]? = some (.cells #[.int .i64 b, .slice a F.length ca, .slice a' U.length ca'] 24 (0, 0)) ∧ wr.heap[D + 1 + 1]? = some (.cells #[.int .i64 0, .slice none 0 0, .slice none 0 0] 24 (0, 0)) ∧ wr.heap[E]? = some (.cells #[.int .i64 p, .int .i64 q] 43 (0, 0)) ∧ q + (n : Int) = b ∧ Hid (Gi b F U x0 L (p, q)) ∧ Hid (Kd U x0 L g) ∧ Hid (KM wr M 800 g) ∧ Hid (gv n L (p, q) = gv n0 F x0) ∧ Below D w wr) (fun _ wr => under E b wr)
      case atStart => exact ⟨n0, F, y1, y2, _, HB6.out, HR6.out, HE6.out, hn0', by rw [HX0.out]; exact HGI, by rw [HX0.out]; exact HKD, HK6, by rw [HX0.out]; exact (rfl : _ = _), hb6⟩
      case round =>
        obtain ⟨n, L, p, q, g, B1, B2, B3, hqn, GI, KD, HKM, HGV, hb⟩ := hrel
        have J1 : Hid (wr.heap[D]? = some (.cells #[.int .i64 b, .slice a F.length ca, .slice a' U.length ca'] 24 (0, 0))) := B1
        have J2 : Hid (wr.heap[D + 1 + 1]? = some (.cells #[.int .i64 0, .slice none 0 0, .slice none 0 0] 24 (0, 0))) := B2
        have J3 : Hid (wr.heap[E]? = some (.cells #[.int .i64 p, .int .i64 q] 43 (0, 0))) := B3
        have zr : E < wr.heap.size := box_lt B3
        clear B1 B2 B3 HB6 HR6 HE6 HK6 hb6 HB5 HR5 HE5 hb5
        have HQN : Hid (q + (n : Int) = b) := hqn
        clear hqn
        have G := HG.out
        have hiB := isB_iff.1 GI.out.bl
        simp only at hiB
        have hfp : FitX (p, q) := fit_B GI.out.bl
        have c25 := fun W => implBuddyOf_any (p, q) W
        unfold budV at c25
        obtain ⟨r, hr⟩ : ∃ r, okB (p, q) = r := ⟨_, rfl⟩
        obtain ⟨y, hy⟩ : ∃ y, budO (p, q) = y := ⟨_, rfl⟩
        have hbo : r = true → y = bud (p, q) := fun h => by rw [← hy, budO, hr, h]; rfl
        have hfy : FitX y := by
          rw [← hy, budO, hr]
          cases r with
          | false => exact fit_small (by simp) (by simp)
          | true =>
            have : okB (p, q) = true := hr
            simp only [okB, Bool.and_eq_true] at this
            exact fit_B this.2.2
        rw [hr, hy] at c25
        have HR0 : Hid (okB (p, q) = r) := hr
        obtain ⟨u, v⟩ := y
        clear hr hy
        by_cases hm : bud (p, q) ∈ L
        · obtain ⟨hlt, hok⟩ := gi_lt G GI.out hm
          simp only at hlt
          have hrt : r = true := HR0.out.symm.trans hok
          subst hrt
          have hyb := hbo rfl
          rw [← hyb] at hm
          have hg1 : g (u, v) = 1 := (KD.out (u, v) hfy).1.2 hm
          have hu : u = (bud (p, q)).1 := congrArg Prod.fst hyb
          have gi2 := gi_step G GI.out (hyb ▸ hm)
          have kd2 := kd_step KD.out hfy hm
          obtain ⟨n', rfl⟩ : ∃ n', n = n' + 1 := ⟨n - 1, by have := HQN.out; omega⟩
          have hgv : gv (n' + 1) L (p, q) = gv n' (rm L (u, v)) (up (p, q)) := by rw [gv, if_pos (hyb ▸ hm), ← hyb]
          rw [← hyb] at gi2
          obtain ⟨s1, hs1⟩ : ∃ s1, (up (p, q)).1 = s1 := ⟨_, rfl⟩
          have hup : up (p, q) = (s1, q + 1) := by rw [← hs1]; rfl
          have hmin : min p u = s1 := by
            rw [← hs1, hu]
            unfold up
            simp only
            split <;> omega
          rw [hup] at gi2 hgv
          have GI2 : Hid (Gi b F U x0 (rm L (u, v)) (s1, q + 1)) := gi2
          have KD2 : Hid (Kd U x0 (rm L (u, v)) (upd g (u, v) 0)) := kd2
          have HGV2 : Hid (gv n' (rm L (u, v)) (s1, q + 1) = gv n0 F x0) := by show _ = _; rw [← hgv]; exact HGV.out
          have hq9 : q ≤ 8 := by omega
          have hq0 : 0 ≤ q := by omega
          clear gi2 kd2 hgv hup hs1 hu hyb hm hbo hok HR0 GI KD HGV hiB
          obtain ⟨e0, e1, f0, f1⟩ := box2_cells J3.out
          go_wp2_with fail
          refine (c25 _).mono ?_
          rintro e w7 ⟨rfl, b7⟩
          clear e0 e1 f0 f1
          obtain ⟨OX, hOX⟩ : ∃ OX, w7.heap.size = OX := ⟨_, rfl⟩
          obtain ⟨X, hX⟩ : ∃ X, w7.alloc (.cells #[.int .i64 u, .int .i64 v] 43) = X := ⟨_, rfl⟩
          have b77 : Below w7.heap.size w7 X := by subst hX; exact below_alloc _ _
          have HO : Hid (X.heap[OX]? = some (.cells #[.int .i64 u, .int .i64 v] 43 (0, 0))) := by subst hX hOX; exact al1 _ _
          have bX := Below.comp b7 b77
          have R1 : Hid (X.heap[D]? = some (.cells #[.int .i64 b, .slice a F.length ca, .slice a' U.length ca'] 24 (0, 0))) := box_on J1.out bX
          have R2 : Hid (X.heap[D + 1 + 1]? = some (.cells #[.int .i64 0, .slice none 0 0, .slice none 0 0] 24 (0, 0))) := box_on J2.out bX
          have R3 : Hid (X.heap[E]? = some (.cells #[.int .i64 p, .int .i64 q] 43 (0, 0))) := box_on J3.out bX
          have hbX : Below D w X := hb.trans (bX.mono (by have := hb.size; omega))
          have kmX : KM X M 800 g := HKM.out.below bX
          obtain ⟨j0, j1, -, -⟩ := box2_cells HO.out
          have hlook : (Instr.lookup 67 (.map (some M)) (.agg #[.int .i64 u, .int .i64 v]) false).run Try.prog X = .ok (.int .i64 (g (u, v))) X := KM.look2 kmX hfy
          rw [hg1] at hlook
          clear hg1
          have zOM : OX ≠ M := by have q1 := HKM.out.lt; have q2 := b7.size; omega
          have hwq : IntKind.i64.wrap (q + 1) = q + 1 := wrapI (by omega) (by omega)
          go_wp2_with (at_delete; refine wpList_del _ rfl _ _ rfl M 800 _ (u, v) rfl kmX hfy rfl ?_; intro w8 km8 gr8; have K3 : Hid (w8.heap[E]? = some (.cells #[.int .i64 p, .int .i64 q] 43 (0, 0))) := at_grown R3.out gr8 (fun e => by cases e; omega); have K4 : Hid (w8.heap[OX]? = some (.cells #[.int .i64 u, .int .i64 v] 43 (0, 0))) := at_grown HO.out gr8 (fun e => by cases e; exact zOM rfl); obtain ⟨e0, e1, f0, f1⟩ := box2_cells K3.out; obtain ⟨j2, j3, -, -⟩ := box2_cells K4.out)
          have hb8 : Below D w w8 := hbX.grown gr8 (by have := hbX.size; omega) (fun j hj => by cases hj; omega)
          have K1 : Hid (w8.heap[D]? = some (.cells #[.int .i64 b, .slice a F.length ca, .slice a' U.length ca'] 24 (0, 0))) := at_grown R1.out gr8 (fun e => by cases e; omega)
          have K2 : Hid (w8.heap[D + 1 + 1]? = some (.cells #[.int .i64 0, .slice none 0 0, .slice none 0 0] 24 (0, 0))) := at_grown R2.out gr8 (fun e => by cases e; omega)
          have HK8 : Hid (KM w8 M 800 (upd g (u, v) 0)) := km8
          have z8 := box_lt K3.out
          clear hX j0 j1 hlook gr8 km8 kmX
          obtain ⟨Y, hY⟩ : ∃ Y, (w8.setCell ⟨E, 0, none⟩ (.int .i64 s1)).setCell ⟨E, 1, none⟩ (.int .i64 (q + 1)) = Y := ⟨_, rfl⟩
          have oY : Out E (E + 1) w8 Y := by subst hY; exact ((Out.refl _ _ _).setCell (Nat.le_refl _) (Nat.lt_succ_self _) _ _).setCell (Nat.le_refl _) (Nat.lt_succ_self _) _ _
          have Y3 : Y.heap[E]? = some (.cells #[.int .i64 s1, .int .i64 (q + 1)] 43 (0, 0)) := by subst hY; exact box2_set K3.out
          have Y1 := box_out K1.out oY (.inl (by omega))
          have Y2 := box_out K2.out oY (.inl (by omega))
          have kmY : KM Y M 800 (upd g (u, v) 0) := HK8.out.out oY (.inr (by omega))
          have hbY : Below D w Y := hb8.trans ((oY.below (by omega)).mono (by omega))
          rw [hY]
          clear hY
          go_roundw
          case rel => exact ⟨n', rm L (u, v), s1, q + 1, _, Y1, Y2, Y3, by have := HQN.out; omega, GI2, KD2, kmY, HGV2, hbY⟩
          case measure =>
            have c1 := (box2_cells Y3).2.1
            have c2 := (box2_cells J3.out).2.1
            simp only [under, c1, c2]
            have := HQN.out
            omega
        · have hng : r = true → g (u, v) ≠ 1 := fun h q => by
            have := hbo h
            rw [this] at q hfy
            exact hm ((KD.out _ hfy).1.1 q)
          have HL : Hid (gv n L (p, q) = (L, (p, q))) := by
            cases n with
            | zero => rfl
            | succ n =>
              show gv (n + 1) L (p, q) = (L, (p, q))
              rw [gv, if_neg hm]
          have c47 := fun W (h : KM W M 801 (upd g (p, q) 1)) => ofKinds_any b M 801 (upd g (p, q) 1) (put (p, q) L) mU W (by omega) h (gv_so GI.out) (gv_free G GI.out KD.out) HSU.out (HUS.out g (p, q) L GI.out KD.out)
          rw [show gv n0 F x0 = (L, (p, q)) from (HGV.out.symm.trans HL.out)] at HTA2
          simp only at HTA2
          obtain ⟨mF, hmF⟩ : ∃ mF, put (p, q) L = mF := ⟨_, rfl⟩
          rw [hmF] at c47 HTA2
          clear hmF HL HGV hm GI KD HG G
          clear hbo hiB HR0
          obtain ⟨e0, e1, f0, f1⟩ := box2_cells J3.out
          go_wp2_with fail
          refine (c25 _).mono ?_
          rintro e w7 ⟨rfl, b7⟩
          clear e0 e1 f0 f1
          obtain ⟨OX, hOX⟩ : ∃ OX, w7.heap.size = OX := ⟨_, rfl⟩
          obtain ⟨X, hX⟩ : ∃ X, w7.alloc (.cells #[.int .i64 u, .int .i64 v] 43) = X := ⟨_, rfl⟩
          have b77 : Below w7.heap.size w7 X := by subst hX; exact below_alloc _ _
          have HO : Hid (X.heap[OX]? = some (.cells #[.int .i64 u, .int .i64 v] 43 (0, 0))) := by subst hX hOX; exact al1 _ _
          have bX := Below.comp b7 b77
          have R1 : Hid (X.heap[D]? = some (.cells #[.int .i64 b, .slice a F.length ca, .slice a' U.length ca'] 24 (0, 0))) := box_on J1.out bX
          have R2 : Hid (X.heap[D + 1 + 1]? = some (.cells #[.int .i64 0, .slice none 0 0, .slice none 0 0] 24 (0, 0))) := box_on J2.out bX
          have R3 : Hid (X.heap[E]? = some (.cells #[.int .i64 p, .int .i64 q] 43 (0, 0))) := box_on J3.out bX
          have hbX : Below D w X := hb.trans (bX.mono (by have := hb.size; omega))
          have kmX : KM X M 800 g := HKM.out.below bX
          obtain ⟨j0, j1, -, -⟩ := box2_cells HO.out
          cases r with
          | false =>
            obtain ⟨h0, h1, h2, h3⟩ := box2_cells R3.out
            go_wp2_with (at_mapUpdate; refine wpList_put _ rfl _ _ _ rfl M 800 _ (p, q) 1 rfl kmX (by omega) hfp (by decide) (by decide) rfl rfl ?_; intro w8 km8 gr8; have K1 : Hid (w8.heap[D]? = some (.cells #[.int .i64 b, .slice a F.length ca, .slice a' U.length ca'] 24 (0, 0))) := at_grown R1.out gr8 (fun e => by cases e; omega); obtain ⟨i0, i1, i2, -, -, -⟩ := box3_cells K1.out)
            have hb8 : Below D w w8 := hbX.grown gr8 (by have := hbX.size; omega) (fun j hj => by cases hj; omega)
            have K2 : Hid (w8.heap[D + 1 + 1]? = some (.cells #[.int .i64 0, .slice none 0 0, .slice none 0 0] 24 (0, 0))) := at_grown R2.out gr8 (fun e => by cases e; omega)
            have z8 := box_lt K2.out
            clear h0 h1 h2 h3 gr8 kmX R1 R2 R3 hbX hX j0 j1
            refine (c47 _ km8).mono ?_
            rintro e w9 ⟨b9, v9, rfl, x6, c6, x6', c6', M6, rfl, hM1, hM2, m6, m6'⟩
            clear i0 i1 i2
            have B9 : Hid (w9.heap[D + 1 + 1]? = some (.cells #[.int .i64 0, .slice none 0 0, .slice none 0 0] 24 (0, 0))) := box_on K2.out b9
            obtain ⟨r0, r1, r2, q0, q1, q2⟩ := box3_cells B9.out
            go_wp2
            obtain ⟨W7, hW7⟩ : ∃ W7, ((w9.setCell ⟨D + 1 + 1, 0, none⟩ (.int .i64 b)).setCell ⟨D + 1 + 1, 1, none⟩ (.slice x6 mF.length c6)).setCell ⟨D + 1 + 1, 2, none⟩ (.slice x6' mU.length c6') = W7 := ⟨_, rfl⟩
            have o7 : Out (D + 1 + 1) (D + 1 + 1 + 1) w9 W7 := by subst hW7; exact box3_out _ _ _ _ _
            have R7 : W7.heap[D + 1 + 1]? = some (.cells #[.int .i64 b, .slice x6 mF.length c6, .slice x6' mU.length c6'] 24 (0, 0)) := by subst hW7; exact box3_set B9.out
            rw [hW7]
            clear hW7 r0 r1 r2 q0 q1 q2
            obtain ⟨t0, t1, t2, -, -, -⟩ := box3_cells R7
            have z9 := b9.size
            have gW : Below D w W7 := (hb8.trans (b9.mono (by have := hb8.size; omega))).trans ((o7.below (by omega)).mono (by omega))
            refine bodyPost_ret (v := .tuple #[fv b x6 mF.length c6 x6' mU.length c6', .bool true]) (by simp [results, Try.results22, go_sem, t0, t1, t2]) rfl ?_
            refine ⟨by first | exact gW | exact (hD ▸ gW), ?_⟩
            rw [HTA2.out]
            exact ⟨_, rfl, (FreeAt.out (B := w8.heap.size) ⟨x6, c6, x6', c6', M6, rfl, hM1, hM2, m6, m6'⟩ o7 (by omega)).mono (by have := hb8.size; omega)⟩
          | true =>
            have hlook : (Instr.lookup 67 (.map (some M)) (.agg #[.int .i64 u, .int .i64 v]) false).run Try.prog X = .ok (.int .i64 (g (u, v))) X := KM.look2 kmX hfy
            have hne : (g (u, v) != 1) = true := by simpa using hng rfl
            generalize g (u, v) = gy at hlook hne
            obtain ⟨h0, h1, h2, h3⟩ := box2_cells R3.out
            go_wp2_with (at_mapUpdate; refine wpList_put _ rfl _ _ _ rfl M 800 _ (p, q) 1 rfl kmX (by omega) hfp (by decide) (by decide) rfl rfl ?_; intro w8 km8 gr8; have K1 : Hid (w8.heap[D]? = some (.cells #[.int .i64 b, .slice a F.length ca, .slice a' U.length ca'] 24 (0, 0))) := at_grown R1.out gr8 (fun e => by cases e; omega); obtain ⟨i0, i1, i2, -, -, -⟩ := box3_cells K1.out)
            have hb8 : Below D w w8 := hbX.grown gr8 (by have := hbX.size; omega) (fun j hj => by cases hj; omega)
            have K2 : Hid (w8.heap[D + 1 + 1]? = some (.cells #[.int .i64 0, .slice none 0 0, .slice none 0 0] 24 (0, 0))) := at_grown R2.out gr8 (fun e => by cases e; omega)
            have z8 := box_lt K2.out
            clear h0 h1 h2 h3 gr8 kmX R1 R2 R3 hbX hX j0 j1
            refine (c47 _ km8).mono ?_
            rintro e w9 ⟨b9, v9, rfl, x6, c6, x6', c6', M6, rfl, hM1, hM2, m6, m6'⟩
            clear i0 i1 i2
            have B9 : Hid (w9.heap[D + 1 + 1]? = some (.cells #[.int .i64 0, .slice none 0 0, .slice none 0 0] 24 (0, 0))) := box_on K2.out b9
            obtain ⟨r0, r1, r2, q0, q1, q2⟩ := box3_cells B9.out
            go_wp2
            obtain ⟨W7, hW7⟩ : ∃ W7, ((w9.setCell ⟨D + 1 + 1, 0, none⟩ (.int .i64 b)).setCell ⟨D + 1 + 1, 1, none⟩ (.slice x6 mF.length c6)).setCell ⟨D + 1 + 1, 2, none⟩ (.slice x6' mU.length c6') = W7 := ⟨_, rfl⟩
            have o7 : Out (D + 1 + 1) (D + 1 + 1 + 1) w9 W7 := by subst hW7; exact box3_out _ _ _ _ _
            have R7 : W7.heap[D + 1 + 1]? = some (.cells #[.int .i64 b, .slice x6 mF.length c6, .slice x6' mU.length c6'] 24 (0, 0)) := by subst hW7; exact box3_set B9.out
            rw [hW7]
            clear hW7 r0 r1 r2 q0 q1 q2
            obtain ⟨t0, t1, t2, -, -, -⟩ := box3_cells R7
            have z9 := b9.size
            have gW : Below D w W7 := (hb8.trans (b9.mono (by have := hb8.size; omega))).trans ((o7.below (by omega)).mono (by omega))
            refine bodyPost_ret (v := .tuple #[fv b x6 mF.length c6 x6' mU.length c6', .bool true]) (by simp [results, Try.results22, go_sem, t0, t1, t2]) rfl ?_
            refine ⟨by first | exact gW | exact (hD ▸ gW), ?_⟩
            rw [HTA2.out]
            exact ⟨_, rfl, (FreeAt.out (B := w8.heap.size) ⟨x6, c6, x6', c6', M6, rfl, hM1, hM2, m6, m6'⟩ o7 (by omega)).mono (by have := hb8.size; omega)⟩
end Go.Proofs.Ytgapplfnlndckaa
