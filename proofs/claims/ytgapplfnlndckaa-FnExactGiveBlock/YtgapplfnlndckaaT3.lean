import Derived.Test.YtgapplfnlndckaaT2
import Derived.Test.YtgapplfnlndckaaM4
/- impl.TakeBlock. -/
namespace Go.Proofs.Ytgapplfnlndckaa
open Go.ChangeShapes Go.WideShapes Go.ChangeAt Go.RowKit
set_option linter.unusedVariables false
open Room

attribute [local go_sem] Oper.semAt_some

/-- How far an order stands above another. -/
def over (E : Nat) (o : Int) (w : World) : Nat := match w.cell? ⟨E, 1, none⟩ with | some (.int _ t) => (t - o).toNat | _ => 0
theorem Out.drew1 {B C : Nat} (w : World) : Out B C w w.drew := ⟨rfl, rfl, rfl, Nat.le_refl _, fun _ _ _ => rfl⟩
open Classical in
/-- Where the best free block stands. -/
noncomputable def bk (F : List Ex) (o : Int) : Option Nat := if h : ∃ k, Best F o k then some h.choose else none
theorem bk_some {F : List Ex} {o : Int} {k : Nat} (h : Best F o k) : bk F o = some k := by
  have h' : ∃ k, Best F o k := ⟨k, h⟩
  unfold bk
  rw [dif_pos h', best_one h'.choose_spec h]
theorem bk_none {F : List Ex} {o : Int} (h : ∀ i, i < F.length → (gx F i).2 < o) : bk F o = none := by
  unfold bk
  rw [dif_neg]
  rintro ⟨k, h1, h2, _⟩
  have := h k h1
  omega
/-- A buddy, a place, and whether. -/
structure Ans where
  b : Int
  F : List Ex
  U : List Ex
  p : Int
  r : Bool
/-- Nothing is told. -/
def noA : Ans := ⟨0, [], [], 0, false⟩
/-- What TakeBlock answers. -/
noncomputable def tkA (b : Int) (F U : List Ex) (o : Int) : Ans :=
  if good b F U = true ∧ 0 ≤ o then
    match bk F o with
    | some k => ⟨b, cutF (gx F k).1 o.toNat ((gx F k).2 - o).toNat (without F k), put ((gx F k).1, o) U, (gx F k).1, true⟩
    | none => noA
  else noA
def AnsE (B : Nat) (w' : World) (A : Ans) (e : Ending) : Prop := ∃ v, e = .returned (.tuple #[v, .int .i64 A.p, .bool A.r]) ∧ FreeAt B w' v A.b A.F A.U
theorem ord_le {b : Int} {F U : List Ex} (G : Gd b F U) {l : List Ex} (h : lst (pw b) 0 l = true) {i : Nat} (hi : i < l.length) : (gx l i).2 ≤ b := by
  have h1 := lst_mem h (tk_mem hi)
  have h2 := isB_iff.1 h1.1
  have b0 := G.b0
  by_cases q : (gx l i).2 ≤ b
  · exact q
  · exfalso
    have e : pw (((b.toNat + 1 : Nat) : Nat) : Int) ≤ pw (((gx l i).2.toNat : Nat) : Int) := pw_mono (by omega)
    rw [pw_succ] at e
    have e1 : ((b.toNat : Nat) : Int) = b := by omega
    have e2 : (((gx l i).2.toNat : Nat) : Int) = (gx l i).2 := by omega
    rw [e1, e2] at e
    have := pw_pos b
    have e3 : ln (gx l i) = pw (gx l i).2 := rfl
    omega

set_option maxHeartbeats 4000000 in
theorem implTake_any (b : Int) (a : Option Addr) (ca : Nat) (a' : Option Addr) (ca' : Nat) (F U : List Ex) (o : Int) (w : World) (hn : F.length ≤ 1048576) (hn' : U.length ≤ 1048576) (hca : F.length ≤ ca) (hca' : U.length ≤ ca') (ha : Exs w a F) (ha' : Exs w a' U) :
    Calls Try.prog 20 #[fv b a F.length ca a' U.length ca', .int .i64 o] w fun e w' => Below w.heap.size w w' ∧ AnsE w.heap.size w' (tkA b F U o) e := by
  obtain ⟨D, hD⟩ : ∃ D, w.heap.size = D := ⟨_, rfl⟩
  obtain ⟨W0, hW0⟩ : ∃ W0, (w.alloc (.cells #[.int .i64 b, .slice a F.length ca, .slice a' U.length ca'] 24)).alloc (.cells #[.int .i64 0, .slice none 0 0, .slice none 0 0] 24) = W0 := ⟨_, rfl⟩
  have g0 : Below w.heap.size w W0 := by subst hW0; exact ba2 _ _ _
  obtain ⟨B1, B2⟩ : W0.heap[D]? = some (.cells #[.int .i64 b, .slice a F.length ca, .slice a' U.length ca'] 24 (0, 0)) ∧ W0.heap[D + 1]? = some (.cells #[.int .i64 0, .slice none 0 0, .slice none 0 0] 24 (0, 0)) := by subst hW0 hD; exact al2 _ _ _
  have HB : Hid (W0.heap[D]? = some (.cells #[.int .i64 b, .slice a F.length ca, .slice a' U.length ca'] 24 (0, 0))) := B1
  have HR : Hid (W0.heap[D + 1]? = some (.cells #[.int .i64 0, .slice none 0 0, .slice none 0 0] 24 (0, 0))) := B2
  have z0 : D + 1 < W0.heap.size := box_lt B2
  obtain ⟨i0, i1, i2, -, -, -⟩ := box3_cells B1
  clear B1 B2
  have cg := implGood_any b a ca a' ca' F U W0 hn hn' hca hca' (ha.below g0) (ha'.below g0)
  -- the answer that tells nothing
  have NO : Hid (∀ (W : World), Below w.heap.size w W → W.heap[D + 1]? = some (.cells #[.int .i64 0, .slice none 0 0, .slice none 0 0] 24 (0, 0)) → ∀ e, e = .returned (.tuple #[fv 0 none 0 0 none 0 0, .int .i64 0, .bool false]) → tkA b F U o = noA → AnsE w.heap.size W (tkA b F U o) e) := fun W hW hB e he h => by
    rw [h]
    exact ⟨_, he, FreeAt.nil (by have := hW.size; omega)⟩
  by_cases hgo : good b F U = true ∧ 0 ≤ o
  · obtain ⟨hg, ho⟩ := hgo
    have G := gd_of hg
    have hlf := len_of G.lf (by have := pw_pos b; omega)
    have hlu := len_of G.lu (by have := pw_pos b; omega)
    have hpb : pw b ≤ 256 := by
      have := pw_le (k := b.toNat) (by have := G.b8; omega)
      have e1 : ((b.toNat : Nat) : Int) = b := by have := G.b0; omega
      rw [e1] at this
      exact this
    rw [hg] at cg
    have hTA : tkA b F U o = (match bk F o with | some k => ⟨b, cutF (gx F k).1 o.toNat ((gx F k).2 - o).toNat (without F k), put ((gx F k).1, o) U, (gx F k).1, true⟩ | none => noA) := by
      unfold tkA
      rw [if_pos ⟨hg, ho⟩]
    have HT : Hid _ := hTA
    have HG : Hid (Gd b F U) := G
    have c44 := fun W h => leastFree_any b a ca a' U.length ca' F o W ho G.b0 G.b8 (by omega) (fun i hi => ord_le G G.lf hi) h
    have c45 := fun W h h' => kindsOf_any b a ca a' ca' F U W (by omega) (by omega) G.fitF G.fitU h h'
    clear hTA G hg
    go_enter Try.func20, Try.ntmps20
    go_wp2_with fail
    refine cg.mono ?_
    rintro e w1 ⟨rfl, b1⟩
    clear hW0 i0 i1 i2 cg
    have g1 := Below.comp g0 b1
    obtain ⟨i0, i1, i2, -, -, -⟩ := box3_cells (box_on HB.out b1)
    have ho' : ¬ o < 0 := by omega
    go_wp2_with fail
    refine (c44 _ (ha.below g1)).mono ?_
    rintro e w2 ⟨b2, y, r, rfl, hL⟩
    obtain ⟨y1, y2⟩ := y
    clear i0 i1 i2 c44
    have g2 := Below.comp g1 b2
    obtain ⟨E, hE⟩ : ∃ E, w2.heap.size = E := ⟨_, rfl⟩
    obtain ⟨W2, hW2⟩ : ∃ W2, w2.alloc (.cells #[.int .i64 y1, .int .i64 y2] 43) = W2 := ⟨_, rfl⟩
    have b3 : Below w2.heap.size w2 W2 := by subst hW2; exact below_alloc _ _
    have HE : Hid (W2.heap[E]? = some (.cells #[.int .i64 y1, .int .i64 y2] 43 (0, 0))) := by subst hW2 hE; exact al1 _ _
    have b03 := Below.comp b1 (Below.comp b2 b3)
    have HB3 : Hid (W2.heap[D]? = _) := box_on HB.out b03
    have HR3 : Hid (W2.heap[D + 1]? = some (.cells #[.int .i64 0, .slice none 0 0, .slice none 0 0] 24 (0, 0))) := box_on HR.out b03
    have g3 := Below.comp g2 b3
    have zE : D + 1 < E := by have := b1.size; have := b2.size; omega
    cases r with
    | false =>
      have hnone : tkA b F U o = noA := by
        rcases hL with ⟨h, _⟩ | ⟨_, _, h⟩
        · cases h
        · rw [HT.out, bk_none h]
      obtain ⟨r0, r1, r2, q0, q1, q2⟩ := box3_cells HR3.out
      go_wp2
      obtain ⟨X, hX⟩ : ∃ X, ((W2.setCell ⟨D + 1, 0, none⟩ (.int .i64 0)).setCell ⟨D + 1, 1, none⟩ (.slice none 0 0)).setCell ⟨D + 1, 2, none⟩ (.slice none 0 0) = X := ⟨_, rfl⟩
      have R : X.heap[D + 1]? = some (.cells #[.int .i64 0, .slice none 0 0, .slice none 0 0] 24 (0, 0)) := by subst hX; exact box3_set HR3.out
      have bX : Below w.heap.size w X := by subst hX; exact g3.trans ((box3_out W2 (D + 1) _ _ _).below (by have := b3.size; omega) |>.mono (by omega))
      rw [hX]
      clear hX r0 r1 r2 q0 q1 q2
      obtain ⟨t0, t1, t2, -, -, -⟩ := box3_cells R
      refine bodyPost_ret (v := .tuple #[fv 0 none 0 0 none 0 0, .int .i64 0, .bool false]) (by simp [results, Try.results20, go_sem, t0, t1, t2]) rfl ⟨bX, NO.out X bX R _ rfl hnone⟩
    | true =>
      obtain ⟨k, hBk, hyk⟩ : ∃ k, Best F o k ∧ (y1, y2) = gx F k := by
        rcases hL with ⟨_, h⟩ | ⟨h, _⟩
        · exact h
        · cases h
      have G := HG.out
      have hB1 := lst_mem G.lf (tk_mem hBk.1)
      have iB := isB_iff.1 hB1.1
      obtain ⟨oo, rfl⟩ : ∃ oo : Nat, o = (oo : Int) := ⟨o.toNat, by omega⟩
      obtain ⟨n, hnq⟩ : ∃ n : Nat, (gx F k).2 = ((oo + n : Nat) : Int) := ⟨((gx F k).2 - oo).toNat, by have := hBk.2.1; omega⟩
      have hx1 : y1 = (gx F k).1 := congrArg Prod.fst hyk
      have hx2 : y2 = ((oo + n : Nat) : Int) := (congrArg Prod.snd hyk).trans hnq
      have hq8 : oo + n ≤ 8 := by rw [hnq] at iB; omega
      have hTA := HT.out
      rw [bk_some hBk] at hTA
      have en : ((gx F k).2 - (oo : Int)).toNat = n := by rw [hnq]; omega
      simp only [en, Int.toNat_natCast] at hTA
      rw [← hx1] at hTA
      have hfr : ∀ y, y ∈ cutF y1 oo n (without F k) ↔ FitX y ∧ tkG F U (gx F k) oo n y = 1 := fun y => by rw [hx1]; exact (tk_free G hBk.1 hnq y).symm
      have hus : ∀ y, y ∈ put (y1, (oo : Int)) U ↔ FitX y ∧ tkG F U (gx F k) oo n y = 2 := fun y => by rw [hx1]; exact (tk_used G hBk.1 hnq y).symm
      have soF : So ltP (cutF y1 oo n (without F k)) := by rw [hx1]; exact tk_soF G hBk.1 hnq
      have soU : So ltP (put (y1, (oo : Int)) U) := by rw [hx1]; exact tk_soU G hBk.1
      have hfx : FitX (y1, y2) := by rw [hyk]; exact G.fitF _ (tk_mem hBk.1)
      have hp0 : 0 ≤ y1 ∧ y1 ≤ 1073741824 := by rw [hx1]; omega
      have htk : tkG F U (gx F k) oo n = upd (cutG y1 oo n (upd (kg F U) (y1, y2) 0)) (y1, (oo : Int)) 2 := by unfold tkG; rw [← hyk]
      rw [htk] at hfr hus
      have HS : Hid ((∀ y, y ∈ cutF y1 oo n (without F k) ↔ FitX y ∧ upd (cutG y1 oo n (upd (kg F U) (y1, y2) 0)) (y1, (oo : Int)) 2 y = 1) ∧ (∀ y, y ∈ put (y1, (oo : Int)) U ↔ FitX y ∧ upd (cutG y1 oo n (upd (kg F U) (y1, y2) 0)) (y1, (oo : Int)) 2 y = 2) ∧ So ltP (cutF y1 oo n (without F k)) ∧ So ltP (put (y1, (oo : Int)) U)) := ⟨hfr, hus, soF, soU⟩
      have HTA : Hid _ := hTA
      have HX2 : Hid (y2 = ((oo + n : Nat) : Int)) := hx2
      clear hfr hus soF soU hTA htk G hB1 iB hx1 hx2 hyk hL en HT HG hnq hBk NO
      generalize cutF y1 oo n (without F k) = mF at HS HTA
      generalize put (y1, (oo : Int)) U = mU at HS HTA
      obtain ⟨i0, i1, i2, -, -, -⟩ := box3_cells HB3.out
      obtain ⟨e0, e1, f0, f1⟩ := box2_cells HE.out
      go_wp2_with fail
      refine (c45 _ (ha.below g3) (ha'.below g3)).mono ?_
      rintro e w3 ⟨M, rfl, hM, km3, b4⟩
      clear c45 hW2 i0 i1 i2 e0 e1 f0 f1
      have HE3 : Hid (w3.heap[E]? = some (.cells #[.int .i64 y1, .int .i64 y2] 43 (0, 0))) := box_on HE.out b4
      obtain ⟨e0, e1, f0, f1⟩ := box2_cells HE3.out
      have zM : E < M := by have := box_lt HE.out; omega
      have hb3 : Below D w w3 := hD ▸ Below.comp g3 b4
      have HB4 : Hid (w3.heap[D]? = some (.cells #[.int .i64 b, .slice a F.length ca, .slice a' U.length ca'] 24 (0, 0))) := box_on HB3.out b4
      have HR4 : Hid (w3.heap[D + 1]? = some (.cells #[.int .i64 0, .slice none 0 0, .slice none 0 0] 24 (0, 0))) := box_on HR3.out b4
      go_wp2_with (at_delete; refine wpList_del _ rfl _ _ rfl M 800 _ (y1, y2) rfl km3 hfx rfl ?_; intro w4 km4 gr4)
      have hb4 : Below D w w4 := hb3.grown gr4 (by have := hb3.size; omega) (fun j hj => by cases hj; omega)
      have HE4 : Hid (w4.heap[E]? = some (.cells #[.int .i64 y1, .int .i64 y2] 43 (0, 0))) := at_grown HE3.out gr4 (fun e => by cases e; omega)
      have HB5 : Hid (w4.heap[D]? = some (.cells #[.int .i64 b, .slice a F.length ca, .slice a' U.length ca'] 24 (0, 0))) := at_grown HB4.out gr4 (fun e => by cases e; omega)
      have HR5 : Hid (w4.heap[D + 1]? = some (.cells #[.int .i64 0, .slice none 0 0, .slice none 0 0] 24 (0, 0))) := at_grown HR4.out gr4 (fun e => by cases e; omega)
      clear e0 e1 f0 f1 gr4
      generalize hg00 : upd (kg F U) (y1, y2) 0 = g00 at HS km4
      clear hg00
      go_frame
      go_loopw [33] (fun _ wr => ∃ (j N : Nat) (g : Ex → Int), wr.heap[D]? = some (.cells #[.int .i64 b, .slice a F.length ca, .slice a' U.length ca'] 24 (0, 0)) ∧ wr.heap[D + 1]? = some (.cells #[.int .i64 0, .slice none 0 0, .slice none 0 0] 24 (0, 0)) ∧ wr.heap[E]? = some (.cells #[.int .i64 y1, .int .i64 ((oo + j : Nat) : Int)] 43 (0, 0)) ∧ j ≤ n ∧ N + j ≤ 800 + n ∧ KM wr M N g ∧ cutG y1 oo j g = cutG y1 oo n g00 ∧ Below D w wr) (fun _ wr => over E oo wr)
      case atStart => exact ⟨n, 800, g00, HB5.out, HR5.out, by rw [HE4.out, HX2.out], Nat.le_refl _, by omega, km4, rfl, hb4⟩
      case round =>
        obtain ⟨j, N, g, B1, B2, B3, hj, hN, km, hcg, hb⟩ := hrel
        have J1 : Hid (wr.heap[D]? = some (.cells #[.int .i64 b, .slice a F.length ca, .slice a' U.length ca'] 24 (0, 0))) := B1
        have J2 : Hid (wr.heap[D + 1]? = some (.cells #[.int .i64 0, .slice none 0 0, .slice none 0 0] 24 (0, 0))) := B2
        have J3 : Hid (wr.heap[E]? = some (.cells #[.int .i64 y1, .int .i64 ((oo + j : Nat) : Int)] 43 (0, 0))) := B3
        have HCG : Hid _ := hcg
        obtain ⟨e0, e1, f0, f1⟩ := box2_cells B3
        have zr : E < wr.heap.size := box_lt B3
        have zm := km.lt
        clear B1 B2 B3 hcg HB5 HR5 HE4 km4 hb4 HB4 HR4 HE3 km3 hb3
        cases j with
        | zero =>
          simp only [Nat.add_zero] at J3 e1
          have hg0 : g = cutG y1 oo n g00 := HCG.out
          have hfo : FitX (y1, (oo : Int)) := fit_small (by simp only; omega) (by simp only; omega)
          have c47 := fun W (h : KM W M (N + 1) (upd g (y1, (oo : Int)) 2)) => ofKinds_any b M (N + 1) (upd g (y1, (oo : Int)) 2) mF mU W (by omega) h HS.out.2.2.1 (by rw [hg0]; exact HS.out.1) HS.out.2.2.2 (by rw [hg0]; exact HS.out.2.1)
          clear hg0 HCG
          have hgt : ¬ (oo : Int) < (oo : Int) := by omega
          go_wp2_with (at_mapUpdate; refine wpList_put _ rfl _ _ _ rfl M N _ (y1, (oo : Int)) 2 rfl km (by omega) hfo (by decide) (by decide) rfl rfl ?_; intro w5 km5 gr5)
          have hb5 : Below D w w5 := hb.grown gr5 (by have := hb.size; omega) (fun j hj => by cases hj; omega)
          have K1 : Hid (w5.heap[D]? = some (.cells #[.int .i64 b, .slice a F.length ca, .slice a' U.length ca'] 24 (0, 0))) := at_grown J1.out gr5 (fun e => by cases e; omega)
          have K2 : Hid (w5.heap[D + 1]? = some (.cells #[.int .i64 0, .slice none 0 0, .slice none 0 0] 24 (0, 0))) := at_grown J2.out gr5 (fun e => by cases e; omega)
          have K3 : Hid (w5.heap[E]? = some (.cells #[.int .i64 y1, .int .i64 (oo : Int)] 43 (0, 0))) := at_grown J3.out gr5 (fun e => by cases e; omega)
          have HK5 : Hid (KM w5 M (N + 1) (upd g (y1, (oo : Int)) 2)) := km5
          have z5 := box_lt K3.out
          clear e0 e1 f0 f1 gr5 km km5 J1 J2 J3 hb
          have SB : Hid (∀ W, Out (D + 1) (D + 1 + 1) w5 W → W.cell? ⟨D, 0, none⟩ = some (.int .i64 b) ∧ W.cell? ⟨E, 0, none⟩ = some (.int .i64 y1) ∧ Out (D + 1) (D + 1 + 1) w5 W) := fun W z => ⟨(box3_cells (box_out K1.out z (.inl (by omega)))).1, (box2_cells (box_out K3.out z (.inr (by omega)))).1, z⟩
          go_wp2
          go_region_held3 (fun W => W.cell? ⟨D, 0, none⟩ = some (.int .i64 b) ∧ W.cell? ⟨E, 0, none⟩ = some (.int .i64 y1) ∧ Out (D + 1) (D + 1 + 1) w5 W)
            ((refine SB.out _ ?_; first | assumption | exact Out.drew1 _ | exact Out.trans (by assumption) (box3_out _ _ _ _ _)))
            ((go_at_call 47; refine (c47 _ (KM.out HK5.out (Out.drew1 (B := D + 1) (C := D + 1 + 1) w5) (.inr (by omega)))).mono ?_; rintro e w6 ⟨b6, v6, rfl, x6, c6, x6', c6', M6, rfl, hM1, hM2, m6, m6'⟩; have o6 : Out (D + 1) (D + 1 + 1) w5 w6 := (Out.drew1 w5).trans (Out.of_below b6); have B6 : Hid (w6.heap[D + 1]? = some (.cells #[.int .i64 0, .slice none 0 0, .slice none 0 0] 24 (0, 0))) := box_on (w := w5.drew) K2.out b6; obtain ⟨r0, r1, r2, q0, q1, q2⟩ := box3_cells B6.out))
          all_goals go_wp2
          all_goals
            obtain ⟨W7, hW7⟩ : ∃ W7, ((w6.setCell ⟨D + 1, 0, none⟩ (.int .i64 b)).setCell ⟨D + 1, 1, none⟩ (.slice x6 mF.length c6)).setCell ⟨D + 1, 2, none⟩ (.slice x6' mU.length c6') = W7 := ⟨_, rfl⟩
            have o7 : Out (D + 1) (D + 1 + 1) w6 W7 := by subst hW7; exact box3_out _ _ _ _ _
            have R7 : W7.heap[D + 1]? = some (.cells #[.int .i64 b, .slice x6 mF.length c6, .slice x6' mU.length c6'] 24 (0, 0)) := by subst hW7; exact box3_set B6.out
            rw [hW7]
            clear hW7 r0 r1 r2 q0 q1 q2
            obtain ⟨t0, t1, t2, -, -, -⟩ := box3_cells R7
            have z6 : w5.heap.size ≤ w6.heap.size := o6.size
            have gW : Below D w W7 := hb5.trans (((o6.trans o7).below (by omega)).mono (by omega))
            refine bodyPost_ret (v := .tuple #[fv b x6 mF.length c6 x6' mU.length c6', .int .i64 y1, .bool true]) (by simp [results, Try.results20, go_sem, t0, t1, t2]) rfl ?_
            refine ⟨by first | exact gW | exact (hD ▸ gW), ?_⟩
            rw [HTA.out]
            exact ⟨_, rfl, (FreeAt.out (B := w5.drew.heap.size) ⟨x6, c6, x6', c6', M6, rfl, hM1, hM2, m6, m6'⟩ o7 (by show D + 1 + 1 ≤ w5.heap.size; omega)).mono (by show w.heap.size ≤ w5.heap.size; omega)⟩
        | succ j =>
          obtain ⟨T, hT⟩ : ∃ T, ((oo + (j + 1) : Nat) : Int) = T := ⟨_, rfl⟩
          obtain ⟨Q, hQ⟩ : ∃ Q, ((oo + j : Nat) : Int) = Q := ⟨_, rfl⟩
          have hTQ : T - 1 = Q := by omega
          have hoT : (oo : Int) < T := by omega
          have hQ0 : 0 ≤ Q ∧ Q ≤ 8 := by omega
          rw [hT] at J3 e1
          have c46 := fun W => lengthOf_any y1 (oo + j) (by omega) W
          have hP1 := pw_le (k := oo + j) (by omega)
          have hP0 := pw_pos ((oo + j : Nat) : Int)
          have hstep : cutG y1 oo (j + 1) g = cutG y1 oo j (upd g (y1 + pw ((oo + j : Nat) : Int), ((oo + j : Nat) : Int)) 1) := rfl
          rw [hQ] at c46 hP1 hP0 hstep
          obtain ⟨P, hP⟩ : ∃ P, pw Q = P := ⟨_, rfl⟩
          rw [hP] at c46 hP1 hP0 hstep
          obtain ⟨Y, hY⟩ : ∃ Y, y1 + P = Y := ⟨_, rfl⟩
          rw [hY] at hstep
          have hfY : FitX (Y, Q) := fit_small (by simp only; omega) (by simp only; omega)
          have HST : Hid (cutG y1 oo j (upd g (Y, Q) 1) = cutG y1 oo n g00) := by show _ = _; rw [← hstep]; exact HCG.out
          have HQ : Hid (((oo + j : Nat) : Int) = Q) := hQ
          have HT : Hid (((oo + (j + 1) : Nat) : Int) = T) := hT
          have hwT : IntKind.i64.wrap (T - 1) = Q := by rw [wrapI (by omega) (by omega)]; exact hTQ
          have hwY : IntKind.i64.wrap Y = Y := wrapI (by omega) (by omega)
          have hT1 : 0 < T ∧ T ≤ 9 := by omega
          have hY1 : 0 ≤ Y ∧ Y ≤ 1073742080 := by omega
          clear hT hQ hP hstep HCG
          obtain ⟨wA, hA⟩ : ∃ wA, wr.setCell ⟨E, 1, none⟩ (.int .i64 Q) = wA := ⟨_, rfl⟩
          have oA : Out E (E + 1) wr wA := by subst hA; exact out_setCell _ _ _ _
          have A3 : Hid (wA.heap[E]? = some (.cells #[.int .i64 y1, .int .i64 Q] 43 (0, 0))) := by subst hA; exact block_set J3.out
          have A1 : Hid (wA.heap[D]? = some (.cells #[.int .i64 b, .slice a F.length ca, .slice a' U.length ca'] 24 (0, 0))) := box_out J1.out oA (.inl (by omega))
          have A2 : Hid (wA.heap[D + 1]? = some (.cells #[.int .i64 0, .slice none 0 0, .slice none 0 0] 24 (0, 0))) := box_out J2.out oA (.inl (by omega))
          have kmA : KM wA M N g := km.out oA (.inr (by omega))
          have HKA : Hid (KM wA M N g) := kmA
          have hbA : Below D w wA := hb.trans ((oA.below (by omega)).mono (by omega))
          have zA := oA.size
          go_wp2
          clear hA e0 e1 f0 f1
          obtain ⟨e0, e1, -, -⟩ := box2_cells A3.out
          have SB : Hid (∀ W, Below wA.heap.size wA W → W.cell? ⟨E, 0, none⟩ = some (.int .i64 y1) ∧ W.cell? ⟨E, 1, none⟩ = some (.int .i64 Q) ∧ Below wA.heap.size wA W) := fun W z => ⟨cell_on e0 z, cell_on e1 z, z⟩
          clear e0 e1
          go_region_held3 (fun W => W.cell? ⟨E, 0, none⟩ = some (.int .i64 y1) ∧ W.cell? ⟨E, 1, none⟩ = some (.int .i64 Q) ∧ Below wA.heap.size wA W)
            ((refine SB.out _ ?_; first | assumption | exact Below.drew (Below.refl _ _) | exact Below.drew (below_alloc wA _) | exact Below.comp (by assumption) (below_alloc _ _) | exact below_set2 (by assumption) (by first | exact Nat.le_refl _ | exact (by assumption : Below _ _ _).size) | exact below_set2 (Below.comp (by assumption) (below_alloc _ _)) (by assumption : Below wA.heap.size wA _).size))
            ((go_at_call 46; refine (c46 _).mono ?_; rintro e w2 ⟨rfl, b2'⟩; first | (have HE0 : Hid (w2.heap[wA.heap.size]? = some (.cells #[.int .i64 0, .int .i64 0] 43 (0, 0))) := box_on (w := (wA.alloc (.cells #[.int .i64 0, .int .i64 0] 43)).drew) (al1 wA (.cells #[.int .i64 0, .int .i64 0] 43)) b2'; obtain ⟨e0, e1, f0, f1⟩ := box2_cells HE0.out; have b2 := Below.comp (Below.drew (below_alloc wA (.cells #[.int .i64 0, .int .i64 0] 43))) b2'; clear b2') | (have b2 := Below.comp (Below.drew (Below.refl wA.heap.size wA)) b2'; clear b2')))
          all_goals
            (first
            | (obtain ⟨X, hX⟩ : ∃ X, w2.alloc (.cells #[.int .i64 Y, .int .i64 Q] 43) = X := ⟨_, rfl⟩
               rw [hX]
               have HEX : Hid (X.heap[w2.heap.size]? = some (.cells #[.int .i64 Y, .int .i64 Q] 43 (0, 0))) := hX ▸ al1 _ _
               have bX : Below wA.heap.size wA X := hX ▸ Below.comp b2 (below_alloc _ _)
               have hEX : wA.heap.size ≤ w2.heap.size := b2.size
               clear hX
               generalize w2.heap.size = EX at *)
            | (obtain ⟨X, hX⟩ : ∃ X, (w2.setCell ⟨wA.heap.size, 0, none⟩ (.int .i64 Y)).setCell ⟨wA.heap.size, 1, none⟩ (.int .i64 Q) = X := ⟨_, rfl⟩
               rw [hX]
               have HEX : Hid (X.heap[wA.heap.size]? = some (.cells #[.int .i64 Y, .int .i64 Q] 43 (0, 0))) := hX ▸ box2_set HE0.out
               have bX : Below wA.heap.size wA X := hX ▸ below_set2 b2 (Nat.le_refl _)
               clear hX e0 e1 f0 f1
               obtain ⟨EX, hE'⟩ : ∃ EX, wA.heap.size = EX := ⟨_, rfl⟩
               rw [hE'] at HEX ⊢
               have hEX : wA.heap.size ≤ EX := Nat.le_of_eq hE'
               clear hE'))
          all_goals
            clear ‹_ ∧ _ ∧ Below wA.heap.size wA _›
            obtain ⟨j0, j1, -, -⟩ := box2_cells HEX.out
            have kmX : KM X M N g := HKA.out.below bX
            go_wp2_with (at_mapUpdate; refine wpList_put _ rfl _ _ _ rfl M N _ (Y, Q) 1 rfl kmX (by omega) hfY (by decide) (by decide) rfl rfl ?_; intro w5 km5 gr5)
            have hbX : Below D w X := hbA.trans (bX.mono (by omega))
            have hb5 : Below D w w5 := hbX.grown gr5 (by have := hbX.size; omega) (fun j hj => by cases hj; omega)
            have R1 := at_grown (box_on A1.out bX) gr5 (fun e => by cases e; omega)
            have R2 := at_grown (box_on A2.out bX) gr5 (fun e => by cases e; omega)
            have R3 := at_grown (box_on A3.out bX) gr5 (fun e => by cases e; omega)
            go_frame
            go_roundw
            case rel => exact ⟨j, N + 1, _, R1, R2, by rw [R3, HQ.out], by omega, by omega, km5, HST.out, hb5⟩
            case measure =>
              have c1 := (box2_cells R3).2.1
              have c2 := (box2_cells J3.out).2.1
              simp only [over, c1, c2]
              omega
  · have hnone : tkA b F U o = noA := by unfold tkA; rw [if_neg hgo]
    obtain ⟨r, hr⟩ : ∃ r, good b F U = r := ⟨_, rfl⟩
    rw [hr] at cg hgo
    go_enter Try.func20, Try.ntmps20
    go_wp2_with fail
    refine cg.mono ?_
    rintro e w1 ⟨rfl, b1⟩
    clear hW0 i0 i1 i2 cg
    have g1 := Below.comp g0 b1
    have HR1 : Hid (w1.heap[D + 1]? = some (.cells #[.int .i64 0, .slice none 0 0, .slice none 0 0] 24 (0, 0))) := box_on HR.out b1
    cases r with
    | false =>
      obtain ⟨r0, r1, r2, q0, q1, q2⟩ := box3_cells HR1.out
      go_wp2
      obtain ⟨X, hX⟩ : ∃ X, ((w1.setCell ⟨D + 1, 0, none⟩ (.int .i64 0)).setCell ⟨D + 1, 1, none⟩ (.slice none 0 0)).setCell ⟨D + 1, 2, none⟩ (.slice none 0 0) = X := ⟨_, rfl⟩
      have R : X.heap[D + 1]? = some (.cells #[.int .i64 0, .slice none 0 0, .slice none 0 0] 24 (0, 0)) := by subst hX; exact box3_set HR1.out
      have bX : Below w.heap.size w X := by subst hX; exact g1.trans ((box3_out w1 (D + 1) _ _ _).below (by have := b1.size; omega) |>.mono (by omega))
      rw [hX]
      clear hX r0 r1 r2 q0 q1 q2
      obtain ⟨t0, t1, t2, -, -, -⟩ := box3_cells R
      refine bodyPost_ret (v := .tuple #[fv 0 none 0 0 none 0 0, .int .i64 0, .bool false]) (by simp [results, Try.results20, go_sem, t0, t1, t2]) rfl ⟨bX, NO.out X bX R _ rfl hnone⟩
    | true =>
      have ho : o < 0 := by
        by_cases h : o < 0
        · exact h
        · exact absurd ⟨rfl, by omega⟩ hgo
      obtain ⟨r0, r1, r2, q0, q1, q2⟩ := box3_cells HR1.out
      go_wp2
      obtain ⟨X, hX⟩ : ∃ X, ((w1.setCell ⟨D + 1, 0, none⟩ (.int .i64 0)).setCell ⟨D + 1, 1, none⟩ (.slice none 0 0)).setCell ⟨D + 1, 2, none⟩ (.slice none 0 0) = X := ⟨_, rfl⟩
      have R : X.heap[D + 1]? = some (.cells #[.int .i64 0, .slice none 0 0, .slice none 0 0] 24 (0, 0)) := by subst hX; exact box3_set HR1.out
      have bX : Below w.heap.size w X := by subst hX; exact g1.trans ((box3_out w1 (D + 1) _ _ _).below (by have := b1.size; omega) |>.mono (by omega))
      rw [hX]
      clear hX r0 r1 r2 q0 q1 q2
      obtain ⟨t0, t1, t2, -, -, -⟩ := box3_cells R
      refine bodyPost_ret (v := .tuple #[fv 0 none 0 0 none 0 0, .int .i64 0, .bool false]) (by simp [results, Try.results20, go_sem, t0, t1, t2]) rfl ⟨bX, NO.out X bX R _ rfl hnone⟩
end Go.Proofs.Ytgapplfnlndckaa
