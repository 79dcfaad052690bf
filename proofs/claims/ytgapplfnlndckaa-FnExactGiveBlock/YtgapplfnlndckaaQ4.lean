import Derived.Test.YtgapplfnlndckaaQ3
import Derived.Test.YtgapplfnlndckaaV3
import Derived.Deep.DeepCutAuto
/- spec.GiveBlock. -/
namespace Go.Proofs.Ytgapplfnlndckaa
open Go.ChangeShapes Go.WideShapes Go.ChangeAt Go.RowKit
set_option linter.unusedVariables false
open Room

attribute [local go_sem] Oper.semAt_some

theorem row_out {w w' : World} {B C : Nat} {a : Option Addr} {l : List Ex} (h : Exs w a l) (ho : Out B C w w') (hd : l.length ≠ 0 → ∀ b off, a = some ⟨b, off, none⟩ → b < B ∨ C ≤ b) : Exs w' a l := by
  intro hn
  obtain ⟨b, off, rfl, hc⟩ := h hn
  refine ⟨b, off, rfl, fun i hi => ?_⟩
  have hb := ho.block b (lt_of_cell (hc i hi).1) (hd hn b off rfl)
  exact ⟨by have := (hc i hi).1; simpa only [World.cell?, hb] using this, by have := (hc i hi).2; simpa only [World.cell?, hb] using this⟩
/-- An answer that can be read. -/
def AnsS (w' : World) (A : Ans) (e : Ending) : Prop := ∃ v, e = .returned (.tuple #[v, .bool A.r]) ∧ ∃ x c x' c', v = fv A.b x A.F.length c x' A.U.length c' ∧ Exs w' x A.F ∧ Exs w' x' A.U
set_option maxRecDepth 20000 in
set_option maxHeartbeats 4000000 in
theorem specGive_any (b : Int) (a : Option Addr) (ca : Nat) (a' : Option Addr) (ca' : Nat) (F U : List Ex) (t : Int) (w : World) (hn : F.length ≤ 1048576) (hn' : U.length ≤ 1048576) (hca : F.length ≤ ca) (hca' : U.length ≤ ca') (ha : Exs w a F) (ha' : Exs w a' U) :
    Calls Try.prog 21 #[fv b a F.length ca a' U.length ca', .int .i64 t] w fun e w' => Below w.heap.size w w' ∧ AnsS w' (gvA b F U t) e := by
  obtain ⟨D, hD⟩ : ∃ D, w.heap.size = D := ⟨_, rfl⟩
  obtain ⟨W0, hW0⟩ : ∃ W0, (w.alloc (.cells #[.int .i64 b, .slice a F.length ca, .slice a' U.length ca'] 24)).alloc (.cells #[.int .i64 0, .slice none 0 0, .slice none 0 0] 24) = W0 := ⟨_, rfl⟩
  have g0 : Below w.heap.size w W0 := by subst hW0; exact ba2 _ _ _
  obtain ⟨B1, B2⟩ : W0.heap[D]? = some (.cells #[.int .i64 b, .slice a F.length ca, .slice a' U.length ca'] 24 (0, 0)) ∧ W0.heap[D + 1]? = some (.cells #[.int .i64 0, .slice none 0 0, .slice none 0 0] 24 (0, 0)) := by subst hW0 hD; exact al2 _ _ _
  have HB : Hid (W0.heap[D]? = some (.cells #[.int .i64 b, .slice a F.length ca, .slice a' U.length ca'] 24 (0, 0))) := B1
  have HR : Hid (W0.heap[D + 1]? = some (.cells #[.int .i64 0, .slice none 0 0, .slice none 0 0] 24 (0, 0))) := B2
  have z0 : D + 1 < W0.heap.size := box_lt B2
  obtain ⟨i0, i1, i2, -, -, -⟩ := box3_cells B1
  clear B1 B2
  have cg := specGood_any b a ca a' ca' F U W0 hn hn' (ha.below g0) (ha'.below g0)
  have NO : Hid (∀ (W : World), ∀ e, e = .returned (.tuple #[fv 0 none 0 0 none 0 0, .bool false]) → gvA b F U t = noA → AnsS W (gvA b F U t) e) := fun W e he h => by
    rw [h]
    exact ⟨_, he, none, 0, none, 0, rfl, fun h => absurd rfl h, fun h => absurd rfl h⟩
  obtain ⟨r, hr⟩ : ∃ r, good b F U = r := ⟨_, rfl⟩
  rw [hr] at cg
  have HRr : Hid (good b F U = r) := hr
  clear hr
  go_enter Try.func21, Try.ntmps21
  go_wp2_with fail
  refine cg.mono ?_
  rintro e w1 ⟨rfl, b1⟩
  clear hW0 i0 i1 i2 cg
  have g1 := Below.comp g0 b1
  have HR1 : Hid (w1.heap[D + 1]? = some (.cells #[.int .i64 0, .slice none 0 0, .slice none 0 0] 24 (0, 0))) := box_on HR.out b1
  have HB1 : Hid (w1.heap[D]? = some (.cells #[.int .i64 b, .slice a F.length ca, .slice a' U.length ca'] 24 (0, 0))) := box_on HB.out b1
  cases r with
  | false =>
    have hnone : gvA b F U t = noA := by unfold gvA; rw [if_neg (by rw [HRr.out]; simp)]
    obtain ⟨r0, r1, r2, q0, q1, q2⟩ := box3_cells HR1.out
    go_wp2
    obtain ⟨X, hX⟩ : ∃ X, ((w1.setCell ⟨D + 1, 0, none⟩ (.int .i64 0)).setCell ⟨D + 1, 1, none⟩ (.slice none 0 0)).setCell ⟨D + 1, 2, none⟩ (.slice none 0 0) = X := ⟨_, rfl⟩
    have R : X.heap[D + 1]? = some (.cells #[.int .i64 0, .slice none 0 0, .slice none 0 0] 24 (0, 0)) := by subst hX; exact box3_set HR1.out
    have bX : Below w.heap.size w X := by subst hX; exact g1.trans ((box3_out w1 (D + 1) _ _ _).below (by have := box_lt HR1.out; omega) |>.mono (by omega))
    rw [hX]
    clear hX r0 r1 r2 q0 q1 q2
    obtain ⟨t0, t1, t2, -, -, -⟩ := box3_cells R
    refine bodyPost_ret (v := .tuple #[fv 0 none 0 0 none 0 0, .bool false]) (by simp [results, Try.results21, go_sem, t0, t1, t2]) rfl ⟨bX, NO.out X _ rfl hnone⟩
  | true =>
    have G := gd_of HRr.out
    have HTA : Hid (gvA b F U t = (match ub U t with | some i => ⟨b, put (gv (b - (gx U i).2).toNat F (gx U i)).2 (gv (b - (gx U i).2).toNat F (gx U i)).1, without U i, 0, true⟩ | none => noA)) := by
      show _ = _
      unfold gvA
      rw [if_pos HRr.out]
      rfl
    have hlf := len_of G.lf (by have := pw_pos b; omega)
    have hlu := len_of G.lu (by have := pw_pos b; omega)
    have hpb : pw b ≤ 256 := by
      have := pw_le (k := b.toNat) (by have := G.b8; omega)
      have e1 : ((b.toNat : Nat) : Int) = b := by have := G.b0; omega
      rw [e1] at this
      exact this
    have HG : Hid (Gd b F U) := G
    have hb08 : 0 ≤ b ∧ b ≤ 8 := ⟨G.b0, G.b8⟩
    have hFl : F.length ≤ 256 := by omega
    have hUl : U.length ≤ 256 := by omega
    clear G HRr hlf hlu hpb
    obtain ⟨i0, i1, i2, -, -, -⟩ := box3_cells HB1.out
    go_wp2
    clear i0 i1 i2
    go_loopw [17] (fun i wr => ∃ (k : Nat), k ≤ U.length ∧ i = .int .i64 k ∧ (∀ j, j < k → (gx U j).1 ≠ t) ∧ Below w1.heap.size w1 wr) (fun i _ => U.length - (intOf i).toNat)
    case atStart => exact ⟨0, Nat.zero_le _, rfl, fun j hj => absurd hj (by omega), Below.refl _ _⟩
    case round =>
      obtain ⟨k, hk, rfl, hno, hb⟩ := hrel
      have hbw := Below.comp g1 hb
      have HRr : Hid (wr.heap[D + 1]? = some (.cells #[.int .i64 0, .slice none 0 0, .slice none 0 0] 24 (0, 0))) := box_on HR1.out hb
      have HBr : Hid (wr.heap[D]? = some (.cells #[.int .i64 b, .slice a F.length ca, .slice a' U.length ca'] 24 (0, 0))) := box_on HB1.out hb
      have HNO : Hid (∀ j, j < k → (gx U j).1 ≠ t) := hno
      clear hno
      by_cases hlt : k < U.length
      · obtain ⟨bb, off, hab, hcell⟩ := (ha'.below hbw) (by omega)
        obtain ⟨k0, k1⟩ := hcell k hlt
        have hlt' : (k : Int) < (U.length : Int) := by omega
        obtain ⟨x, hx⟩ : ∃ x, gx U k = x := ⟨_, rfl⟩
        rw [hx] at k0 k1
        have HX : Hid (gx U k = x) := hx
        clear hx hcell
        obtain ⟨y1, y2⟩ := x
        simp only at k0 k1
        obtain ⟨E, hE⟩ : ∃ E, wr.heap.size = E := ⟨_, rfl⟩
        obtain ⟨W2, hW2⟩ : ∃ W2, wr.alloc (.cells #[.int .i64 y1, .int .i64 y2] 43) = W2 := ⟨_, rfl⟩
        have b2 : Below wr.heap.size wr W2 := by subst hW2; exact below_alloc _ _
        have HE : Hid (W2.heap[E]? = some (.cells #[.int .i64 y1, .int .i64 y2] 43 (0, 0))) := by subst hW2 hE; exact al1 _ _
        obtain ⟨e0, e1, -, -⟩ := box2_cells HE.out
        by_cases hyt : y1 = t
        · have hneq : (y1 != t) = false := by simp [hyt]
          have hFa : Fa U t k := ⟨hlt, by rw [HX.out]; exact hyt, HNO.out⟩
          have G := HG.out
          have hxU : gx U k ∈ U := tk_mem hlt
          have gi0 := gi_start G hxU
          have hob := ord_le G G.lu hlt
          have hTA := HTA.out
          rw [ub_some hFa] at hTA
          simp only at hTA
          rw [HX.out] at gi0 hob hTA
          simp only at hob hTA
          have h2B := isB_iff.1 gi0.bl
          simp only at h2B
          obtain ⟨n0, hn0⟩ : ∃ n0 : Nat, (b - y2).toNat = n0 := ⟨_, rfl⟩
          rw [hn0] at hTA
          have HN0 : Hid (y2 + (n0 : Int) = b) := by show _ = _; omega
          have HGI : Hid (Gi b F U (y1, y2) F (y1, y2)) := gi0
          have HTA2 : Hid _ := hTA
          clear gi0 hob hTA hxU h2B hn0 hFa HTA NO hyt HNO
          have HB2 : Hid (W2.heap[D]? = some (.cells #[.int .i64 b, .slice a F.length ca, .slice a' U.length ca'] 24 (0, 0))) := box_on HBr.out b2
          have HR2 : Hid (W2.heap[D + 1]? = some (.cells #[.int .i64 0, .slice none 0 0, .slice none 0 0] 24 (0, 0))) := box_on HRr.out b2
          have hbw2 := Below.comp hbw b2
          have zE : D + 1 < E := by have := box_lt HRr.out; omega
          obtain ⟨d3, d4, d5, -, -, -⟩ := box3_cells (box_on HB2.out (below_alloc W2 (.cells #[] 43)))
          obtain ⟨Z, hZ⟩ : ∃ Z, W2.heap.size = Z := ⟨_, rfl⟩
          have zZ : E < Z := by have := box_lt HE.out; omega
          have hB0 : (W2.alloc (.cells #[] 43)).heap[Z]? = some (.cells #[] 43 (0, 0)) := by rw [← hZ]; exact al1 W2 _
          have own0 : OwnR (W2.alloc (.cells #[] 43)) Z (.slice (some ⟨Z, 0, none⟩) 0 0) [] := ⟨rfl, .inr ⟨Z, 0, #[], rfl, Nat.le_refl _, hB0, Nat.le_refl _, by decide, rfl, rfl⟩⟩
          have bz1 : Below Z W2 (W2.alloc (.cells #[] 43)) := hZ ▸ below_alloc _ _
          have z1 : Z ≤ (W2.alloc (.cells #[] 43)).heap.size := by simp [← hZ]
          have st1 := RowX.src ((ha.below hbw2).below (below_alloc W2 (.cells #[] 43)))
          have hcl : Hid ((cxs F).length = F.length * 2) := cxs_len F
          clear hB0
          go_upto_region 7 with fail
          clear hab k0 k1 e0 e1
          go_wp2_with (at_builtin; refine wpList_append_src rfl _ _ 22 rfl Z 43 _ 2 16 Try.underlying22 info43 rfl (by decide) (.slice (some ⟨Z, 0, none⟩) 0 0) 0 [] rfl own0 a F.length ca (cxs F) rfl hcl.out st1 (cxs_one _) (by omega) (by decide) z1 ?_; intro v3 w3 own3 gr3; rw [Nat.zero_add, List.nil_append] at own3; obtain ⟨x3, c3, e3⟩ := owns_form own3; subst e3)
          have hB3 : Below W2.heap.size W2 w3 := hZ ▸ (bz1.trans (Grown.below gr3 z1 (owns_ge own0)))
          have HO3 : Hid (OwnR w3 Z (.slice x3 F.length c3) F) := own3
          have HE3 : Hid (w3.heap[E]? = some (.cells #[.int .i64 y1, .int .i64 y2] 43 (0, 0))) := box_on HE.out hB3
          have HB3 : Hid (w3.heap[D]? = some (.cells #[.int .i64 b, .slice a F.length ca, .slice a' U.length ca'] 24 (0, 0))) := box_on HB2.out hB3
          have HR3 : Hid (w3.heap[D + 1]? = some (.cells #[.int .i64 0, .slice none 0 0, .slice none 0 0] 24 (0, 0))) := box_on HR2.out hB3
          have hb3 : Below D w w3 := hD ▸ Below.comp hbw2 hB3
          have zZ3 : Z ≤ w3.heap.size := by have := hB3.size; omega
          clear own3 own0 gr3 st1 d3 d4 d5 hW2 bz1 z1
          go_loopw [8] (fun fr wi => ∃ (n : Nat) (L : List Ex) (p q : Int) (x : Option Addr) (c : Nat), fr = .slice x L.length c ∧ Hid (OwnR wi Z (.slice x L.length c) L) ∧ wi.heap[D]? = some (.cells #[.int .i64 b, .slice a F.length ca, .slice a' U.length ca'] 24 (0, 0)) ∧ wi.heap[D + 1]? = some (.cells #[.int .i64 0, .slice none 0 0, .slice none 0 0] 24 (0, 0)) ∧ wi.heap[E]? = some (.cells #[.int .i64 p, .int .i64 q] 43 (0, 0)) ∧ Hid (q + (n : Int) = b) ∧ Hid (Gi b F U (y1, y2) L (p, q)) ∧ Hid (gv n L (p, q) = gv n0 F (y1, y2)) ∧ L.length ≤ 256 ∧ Below D w wi ∧ Z ≤ wi.heap.size) (fun _ wi => under E b wi)
          case atStart => exact ⟨n0, F, y1, y2, x3, c3, rfl, HO3, HB3.out, HR3.out, HE3.out, HN0, HGI, (rfl : _ = _), hFl, hb3, zZ3⟩
          case round =>
            obtain ⟨n, L, p, q, x, c, rfl, HO, B1, B2, B3, HQN, GI, HGV, hLl, hbi, zi⟩ := hrel
            have J1 : Hid (wr.heap[D]? = some (.cells #[.int .i64 b, .slice a F.length ca, .slice a' U.length ca'] 24 (0, 0))) := B1
            have J2 : Hid (wr.heap[D + 1]? = some (.cells #[.int .i64 0, .slice none 0 0, .slice none 0 0] 24 (0, 0))) := B2
            have J3 : Hid (wr.heap[E]? = some (.cells #[.int .i64 p, .int .i64 q] 43 (0, 0))) := B3
            obtain ⟨e0, e1, f0, f1⟩ := box2_cells B3
            obtain ⟨i0, i1, i2, -, -, -⟩ := box3_cells B1
            clear B1 B2 B3
            have G := HG.out
            have hbiw : Below w.heap.size w wr := hD ▸ hbi
            have hiB := isB_iff.1 GI.out.bl
            simp only at hiB
            obtain ⟨oL, -, hLc⟩ := HO.out.own
            have rL : Hid (Exs wr x L) := MineX.row oL
            clear oL
            cases n with
            | zero =>
              have hqb : ¬ q < b := by have := HQN.out; omega
              have HLf : Hid (gv 0 L (p, q) = (L, (p, q))) := (rfl : _ = _)
              obtain ⟨mU, hmU⟩ : ∃ mU, without U k = mU := ⟨_, rfl⟩
              have hmU' : U.take k ++ U.drop (k + 1) = mU := hmU
              have c43 := fun W (h : Below wr.heap.size wr W) => l6Put_any x c L (p, q) W (by omega) hLc (rL.out.below h)
              have c42 := fun W (h : Below wr.heap.size wr W) => l6Without_any a' ca' U k W (by omega) hca' hlt (ha'.below (Below.comp hbiw h))
              rw [hmU'] at c42
              rw [hmU] at HTA2
              clear hmU hmU'
              rw [show gv n0 F (y1, y2) = (L, (p, q)) from HGV.out.symm.trans HLf.out] at HTA2
              simp only at HTA2
              obtain ⟨mF, hmF⟩ : ∃ mF, put (p, q) L = mF := ⟨_, rfl⟩
              rw [hmF] at c43 HTA2
              clear hmF HLf HGV GI
              have SB : Hid (∀ W, Out (D + 1) (D + 1 + 1) wr W → W.cell? ⟨D, 0, none⟩ = some (.int .i64 b) ∧ W.cell? ⟨D, 2, none⟩ = some (.slice a' U.length ca') ∧ W.cell? ⟨E, 0, none⟩ = some (.int .i64 p) ∧ W.cell? ⟨E, 1, none⟩ = some (.int .i64 q) ∧ Out (D + 1) (D + 1 + 1) wr W) := fun W z => by
                obtain ⟨h0, -, h2, -⟩ := box3_cells (box_out J1.out z (.inl (by omega)))
                obtain ⟨h3, h4, -⟩ := box2_cells (box_out J3.out z (.inr (by omega)))
                exact ⟨h0, h2, h3, h4, z⟩
              have bz0 : Below wr.heap.size wr wr.drew := Below.drew (Below.refl _ _)
              go_wp2
              clear e0 e1 f0 f1 i0 i1 i2
              go_region_held3 (fun W => W.cell? ⟨D, 0, none⟩ = some (.int .i64 b) ∧ W.cell? ⟨D, 2, none⟩ = some (.slice a' U.length ca') ∧ W.cell? ⟨E, 0, none⟩ = some (.int .i64 p) ∧ W.cell? ⟨E, 1, none⟩ = some (.int .i64 q) ∧ Out (D + 1) (D + 1 + 1) wr W)
                ((refine SB.out _ ?_; first | assumption | exact Out.drew1 _ | exact Out.of_below bq | exact Out.trans (Out.of_below bq) (box3_out _ _ _ _ _)))
                (first
                | (go_at_call 43; refine (c43 _ (by first | exact bq | exact bz0)).mono ?_; rintro e w6 ⟨b6, v6, rfl, own6⟩; obtain ⟨x6, c6, e6⟩ := owns_form own6; subst e6; have HF6 : Hid (∃ C, Own w6 wr.heap.size C x6 mF) := ⟨_, own6.own.1.mono (by first | exact bq.size | exact bz0.size) (Nat.le_refl _)⟩; (first | (have HU6 : Hid (∃ C, Own w6 wr.heap.size C x7 mU) := HU7.out.imp fun _ h => h.below b6) | skip); have bq := Below.comp (by first | exact bq | exact bz0) b6; have B6 : Hid (w6.heap[D + 1]? = some (.cells #[.int .i64 0, .slice none 0 0, .slice none 0 0] 24 (0, 0))) := box_on J2.out bq; obtain ⟨r0, r1, r2, q0, q1, q2⟩ := box3_cells B6.out; clear own6 b6)
                | (go_at_call 42; refine (c42 _ (by first | exact bq | exact bz0)).mono ?_; rintro e w7 ⟨b7, v7, rfl, own7⟩; obtain ⟨x7, c7, e7⟩ := owns_form own7; subst e7; have HU7 : Hid (∃ C, Own w7 wr.heap.size C x7 mU) := ⟨_, own7.own.1.mono (by first | exact bq.size | exact bz0.size) (Nat.le_refl _)⟩; (first | (have HF7 : Hid (∃ C, Own w7 wr.heap.size C x6 mF) := HF6.out.imp fun _ h => h.below b7) | skip); have bq := Below.comp (by first | exact bq | exact bz0) b7; have B7 : Hid (w7.heap[D + 1]? = some (.cells #[.int .i64 0, .slice none 0 0, .slice none 0 0] 24 (0, 0))) := box_on J2.out bq; obtain ⟨r0, r1, r2, q0, q1, q2⟩ := box3_cells B7.out; clear own7 b7))
              all_goals go_wp2
              all_goals
                (first
                | (obtain ⟨Wf, hWf⟩ : ∃ Wf, ((w7.setCell ⟨D + 1, 0, none⟩ (.int .i64 b)).setCell ⟨D + 1, 1, none⟩ (.slice x6 mF.length c6)).setCell ⟨D + 1, 2, none⟩ (.slice x7 mU.length c7) = Wf := ⟨_, rfl⟩
                   rw [hWf]
                   have oW : Out (D + 1) (D + 1 + 1) w7 Wf := by subst hWf; exact box3_out _ _ _ _ _
                   have RW : Wf.heap[D + 1]? = some (.cells #[.int .i64 b, .slice x6 mF.length c6, .slice x7 mU.length c7] 24 (0, 0)) := by subst hWf; exact box3_set B7.out
                   have rF : Hid (∃ C, Own w7 wr.heap.size C x6 mF) := HF7
                   have rU : Hid (∃ C, Own w7 wr.heap.size C x7 mU) := HU7
                   generalize w7 = wz at *)
                | (obtain ⟨Wf, hWf⟩ : ∃ Wf, ((w6.setCell ⟨D + 1, 0, none⟩ (.int .i64 b)).setCell ⟨D + 1, 1, none⟩ (.slice x6 mF.length c6)).setCell ⟨D + 1, 2, none⟩ (.slice x7 mU.length c7) = Wf := ⟨_, rfl⟩
                   rw [hWf]
                   have oW : Out (D + 1) (D + 1 + 1) w6 Wf := by subst hWf; exact box3_out _ _ _ _ _
                   have RW : Wf.heap[D + 1]? = some (.cells #[.int .i64 b, .slice x6 mF.length c6, .slice x7 mU.length c7] 24 (0, 0)) := by subst hWf; exact box3_set B6.out
                   have rF : Hid (∃ C, Own w6 wr.heap.size C x6 mF) := HF6
                   have rU : Hid (∃ C, Own w6 wr.heap.size C x7 mU) := HU6
                   generalize w6 = wz at *))
              all_goals
                clear hWf r0 r1 r2 q0 q1 q2
                obtain ⟨t0, t1, t2, -, -, -⟩ := box3_cells RW
                have hbf : Below D w wz := hbi.trans (bq.mono (by have := hbi.size; omega))
                have gW : Below D w Wf := hbf.trans ((oW.below (by have := box_lt J2.out; have := bq.size; omega)).mono (by omega))
                refine bodyPost_ret (v := .tuple #[fv b x6 mF.length c6 x7 mU.length c7, .bool true]) (by simp [results, Try.results21, go_sem, t0, t1, t2]) rfl ?_
                refine ⟨by first | exact gW | exact (hD ▸ gW), ?_⟩
                rw [HTA2.out]
                have zj := box_lt J2.out
                obtain ⟨C1, o1⟩ := rF.out
                obtain ⟨C2, o2⟩ := rU.out
                exact ⟨_, rfl, x6, c6, x7, c7, rfl, MineX.row (o1.out oW (.inr (by omega))), MineX.row (o2.out oW (.inr (by omega)))⟩
            | succ n =>
              obtain ⟨on, cn, hpc, ho8, hc30⟩ := half_nat GI.out.bl
              have hp1 : p = ((2 ^ on * cn : Nat) : Int) := congrArg Prod.fst hpc
              obtain rfl : q = (on : Int) := congrArg Prod.snd hpc
              have hqb : (on : Int) < b := by have := HQN.out; omega
              have c38 := fun W => l6Buddy_any (2 ^ on * cn) on hc30 ho8 W
              have hand := and_not ho8 hc30
              rw [← hp1] at c38 hand
              have hsh := shl_one ho8
              obtain ⟨yb, hyb⟩ : ∃ yb, bud (p, (on : Int)) = yb := ⟨_, rfl⟩
              rw [hyb] at c38
              have c37 := fun W h => l6At_any x c L yb W (by omega) h
              have HYB : Hid (bud (p, (on : Int)) = yb) := hyb
              clear hpc hyb hp1 hc30
              obtain ⟨u, v⟩ := yb
              have hRy := box_lt J3.out
              by_cases hm : (u, v) ∈ L
              · obtain ⟨k', hk', hgx, hat⟩ : ∃ k' : Nat, k' < L.length ∧ gx L k' = (u, v) ∧ atI L (u, v) = (k' : Int) := by
                  have h1 := List.idxOf_lt_length_iff.2 hm
                  exact ⟨L.idxOf (u, v), h1, by rw [gx_eq h1]; exact List.getElem_idxOf h1, by unfold atI; rw [if_pos h1]⟩
                have hwr : L.take k' ++ L.drop (k' + 1) = rm L (u, v) := by
                  have := without_rm hk' GI.out.so
                  rw [hgx] at this
                  exact this
                rw [hat] at c37
                have c42' := fun W (h : Exs W x L) => l6Without_any x c L k' W (by omega) hLc hk' h
                rw [hwr] at c42'
                have gi2 := gi_step G GI.out (by rw [HYB.out]; exact hm)
                obtain ⟨s1, hs1⟩ : ∃ s1, (up (p, (on : Int))).1 = s1 := ⟨_, rfl⟩
                have hup : up (p, (on : Int)) = (s1, (on : Int) + 1) := by rw [← hs1]; rfl
                have hgv : gv (n + 1) L (p, (on : Int)) = gv n (rm L (u, v)) (s1, (on : Int) + 1) := by rw [gv, HYB.out, if_pos hm, hup]
                rw [HYB.out, hup] at gi2
                rw [hs1] at hand
                have GI2 : Hid (Gi b F U (y1, y2) (rm L (u, v)) (s1, (on : Int) + 1)) := gi2
                have HGV2 : Hid (gv n (rm L (u, v)) (s1, (on : Int) + 1) = gv n0 F (y1, y2)) := by show _ = _; rw [← hgv]; exact HGV.out
                have hk0 : ¬ ((k' : Int) < 0) := by omega
                have hml : (rm L (u, v)).length ≤ 256 := Nat.le_trans rm_len hLl
                have hwq : IntKind.i64.wrap ((on : Int) + 1) = (on : Int) + 1 := wrapI (by omega) (by omega)
                generalize rm L (u, v) = L' at *
                clear gi2 hgv hup hs1 hm hgx hat hwr HYB GI HGV hiB
                go_wp2_with fail
                refine (c38 _).mono ?_
                rintro e w4 ⟨rfl, b4⟩
                go_wp2_with fail
                refine (c37 _ (rL.out.below b4)).mono ?_
                rintro e w5 ⟨rfl, b5⟩
                have b45 := Below.comp b4 b5
                go_wp2_with fail
                refine (c42' _ (rL.out.below b45)).mono ?_
                rintro e w6 ⟨b6, v6, rfl, own6⟩
                obtain ⟨x6, c6, e6⟩ := owns_form own6
                subst e6
                have b46 := Below.comp b45 b6
                have K1 : Hid (w6.heap[D]? = some (.cells #[.int .i64 b, .slice a F.length ca, .slice a' U.length ca'] 24 (0, 0))) := box_on J1.out b46
                have K2 : Hid (w6.heap[D + 1]? = some (.cells #[.int .i64 0, .slice none 0 0, .slice none 0 0] 24 (0, 0))) := box_on J2.out b46
                have K3 : Hid (w6.heap[E]? = some (.cells #[.int .i64 p, .int .i64 (on : Int)] 43 (0, 0))) := box_on J3.out b46
                have zr := hbi.size
                have z46 := b46.size
                have z45 := b45.size
                have hb6 : Below D w w6 := hbi.trans (b46.mono (by omega))
                have HO6 : Hid (OwnR w6 Z (.slice x6 L'.length c6) L') := owns_mono own6 (by omega)
                clear e0 e1 f0 f1 i0 i1 i2 own6
                obtain ⟨e0, e1, f0, f1⟩ := box2_cells K3.out
                go_wp2
                obtain ⟨Y, hY⟩ : ∃ Y, (w6.setCell ⟨E, 0, none⟩ (.int .i64 s1)).setCell ⟨E, 1, none⟩ (.int .i64 ((on : Int) + 1)) = Y := ⟨_, rfl⟩
                have oY : Out E (E + 1) w6 Y := by subst hY; exact ((Out.refl _ _ _).setCell (Nat.le_refl _) (Nat.lt_succ_self _) _ _).setCell (Nat.le_refl _) (Nat.lt_succ_self _) _ _
                have Y3 : Y.heap[E]? = some (.cells #[.int .i64 s1, .int .i64 ((on : Int) + 1)] 43 (0, 0)) := by subst hY; exact box2_set K3.out
                have Y1 := box_out K1.out oY (.inl (by omega))
                have Y2 := box_out K2.out oY (.inl (by omega))
                have HOY : Hid (OwnR Y Z (.slice x6 L'.length c6) L') := owns_out HO6.out oY (by omega)
                have hbY : Below D w Y := hb6.trans ((oY.below (by omega)).mono (by omega))
                have zY := oY.size
                rw [hY]
                clear hY
                go_roundw
                case rel => exact ⟨n, L', s1, (on : Int) + 1, x6, c6, rfl, HOY, Y1, Y2, Y3, (by have := HQN.out; show _ = _; omega : Hid ((on : Int) + 1 + (n : Int) = b)), GI2, HGV2, hml, hbY, by omega⟩
                case measure =>
                  have c1 := (box2_cells Y3).2.1
                  have c2 := (box2_cells J3.out).2.1
                  simp only [under, c1, c2]
                  have := HQN.out
                  omega
              · have HLf : Hid (gv (n + 1) L (p, (on : Int)) = (L, (p, (on : Int)))) := by
                  show _ = _
                  rw [gv, HYB.out, if_neg hm]
                obtain ⟨ii, hii⟩ : ∃ ii, atI L (u, v) = ii := ⟨_, rfl⟩
                have hi0 : ii < 0 := by
                  have h := (not_congr (atI_mem (l := L) (x := (u, v)))).2 hm
                  omega
                rw [hii] at c37
                clear hm hii HYB hand hsh hiB
                go_wp2_with fail
                refine (c38 _).mono ?_
                rintro e w4 ⟨rfl, b4⟩
                go_wp2_with fail
                refine (c37 _ (rL.out.below b4)).mono ?_
                rintro e w5 ⟨rfl, b5⟩
                have b45 := Below.comp b4 b5
                have K1 : Hid (w5.heap[D]? = some (.cells #[.int .i64 b, .slice a F.length ca, .slice a' U.length ca'] 24 (0, 0))) := box_on J1.out b45
                have K2 : Hid (w5.heap[D + 1]? = some (.cells #[.int .i64 0, .slice none 0 0, .slice none 0 0] 24 (0, 0))) := box_on J2.out b45
                have K3 : Hid (w5.heap[E]? = some (.cells #[.int .i64 p, .int .i64 (on : Int)] 43 (0, 0))) := box_on J3.out b45
                have zr := hbi.size
                have z45 := b45.size
                have hb5 : Below D w w5 := hbi.trans (b45.mono (by omega))
                have hb5w : Below w.heap.size w w5 := hD ▸ hb5
                have rL5 : Hid (Exs w5 x L) := rL.out.below b45
                clear e0 e1 f0 f1 i0 i1 i2 c38 c37
                obtain ⟨e0, e1, f0, f1⟩ := box2_cells K3.out
                obtain ⟨i0, i1, i2, -, -, -⟩ := box3_cells K1.out
                obtain ⟨mU, hmU⟩ : ∃ mU, without U k = mU := ⟨_, rfl⟩
                have hmU' : U.take k ++ U.drop (k + 1) = mU := hmU
                have c43 := fun W (h : Below w5.heap.size w5 W) => l6Put_any x c L (p, (on : Int)) W (by omega) hLc (rL5.out.below h)
                have c42 := fun W (h : Below w5.heap.size w5 W) => l6Without_any a' ca' U k W (by omega) hca' hlt (ha'.below (Below.comp hb5w h))
                rw [hmU'] at c42
                rw [hmU] at HTA2
                clear hmU hmU'
                rw [show gv n0 F (y1, y2) = (L, (p, (on : Int))) from HGV.out.symm.trans HLf.out] at HTA2
                simp only at HTA2
                obtain ⟨mF, hmF⟩ : ∃ mF, put (p, (on : Int)) L = mF := ⟨_, rfl⟩
                rw [hmF] at c43 HTA2
                clear hmF HLf HGV GI
                have SB : Hid (∀ W, Out (D + 1) (D + 1 + 1) w5 W → W.cell? ⟨D, 0, none⟩ = some (.int .i64 b) ∧ W.cell? ⟨D, 2, none⟩ = some (.slice a' U.length ca') ∧ W.cell? ⟨E, 0, none⟩ = some (.int .i64 p) ∧ W.cell? ⟨E, 1, none⟩ = some (.int .i64 (on : Int)) ∧ Out (D + 1) (D + 1 + 1) w5 W) := fun W z => by
                  obtain ⟨h0, -, h2, -⟩ := box3_cells (box_out K1.out z (.inl (by omega)))
                  obtain ⟨h3, h4, -⟩ := box2_cells (box_out K3.out z (.inr (by omega)))
                  exact ⟨h0, h2, h3, h4, z⟩
                have bz0 : Below w5.heap.size w5 w5.drew := Below.drew (Below.refl _ _)
                go_wp2
                clear e0 e1 f0 f1 i0 i1 i2
                go_region_held3 (fun W => W.cell? ⟨D, 0, none⟩ = some (.int .i64 b) ∧ W.cell? ⟨D, 2, none⟩ = some (.slice a' U.length ca') ∧ W.cell? ⟨E, 0, none⟩ = some (.int .i64 p) ∧ W.cell? ⟨E, 1, none⟩ = some (.int .i64 (on : Int)) ∧ Out (D + 1) (D + 1 + 1) w5 W)
                  ((refine SB.out _ ?_; first | assumption | exact Out.drew1 _ | exact Out.of_below bq | exact Out.trans (Out.of_below bq) (box3_out _ _ _ _ _)))
                  (first
                  | (go_at_call 43; refine (c43 _ (by first | exact bq | exact bz0)).mono ?_; rintro e w6 ⟨b6, v6, rfl, own6⟩; obtain ⟨x6, c6, e6⟩ := owns_form own6; subst e6; have HF6 : Hid (∃ C, Own w6 w5.heap.size C x6 mF) := ⟨_, own6.own.1.mono (by first | exact bq.size | exact bz0.size) (Nat.le_refl _)⟩; (first | (have HU6 : Hid (∃ C, Own w6 w5.heap.size C x7 mU) := HU7.out.imp fun _ h => h.below b6) | skip); have bq := Below.comp (by first | exact bq | exact bz0) b6; have B6 : Hid (w6.heap[D + 1]? = some (.cells #[.int .i64 0, .slice none 0 0, .slice none 0 0] 24 (0, 0))) := box_on K2.out bq; obtain ⟨r0, r1, r2, q0, q1, q2⟩ := box3_cells B6.out; clear own6 b6)
                  | (go_at_call 42; refine (c42 _ (by first | exact bq | exact bz0)).mono ?_; rintro e w7 ⟨b7, v7, rfl, own7⟩; obtain ⟨x7, c7, e7⟩ := owns_form own7; subst e7; have HU7 : Hid (∃ C, Own w7 w5.heap.size C x7 mU) := ⟨_, own7.own.1.mono (by first | exact bq.size | exact bz0.size) (Nat.le_refl _)⟩; (first | (have HF7 : Hid (∃ C, Own w7 w5.heap.size C x6 mF) := HF6.out.imp fun _ h => h.below b7) | skip); have bq := Below.comp (by first | exact bq | exact bz0) b7; have B7 : Hid (w7.heap[D + 1]? = some (.cells #[.int .i64 0, .slice none 0 0, .slice none 0 0] 24 (0, 0))) := box_on K2.out bq; obtain ⟨r0, r1, r2, q0, q1, q2⟩ := box3_cells B7.out; clear own7 b7))
                all_goals go_wp2
                all_goals
                  (first
                  | (obtain ⟨Wf, hWf⟩ : ∃ Wf, ((w7.setCell ⟨D + 1, 0, none⟩ (.int .i64 b)).setCell ⟨D + 1, 1, none⟩ (.slice x6 mF.length c6)).setCell ⟨D + 1, 2, none⟩ (.slice x7 mU.length c7) = Wf := ⟨_, rfl⟩
                     rw [hWf]
                     have oW : Out (D + 1) (D + 1 + 1) w7 Wf := by subst hWf; exact box3_out _ _ _ _ _
                     have RW : Wf.heap[D + 1]? = some (.cells #[.int .i64 b, .slice x6 mF.length c6, .slice x7 mU.length c7] 24 (0, 0)) := by subst hWf; exact box3_set B7.out
                     have rF : Hid (∃ C, Own w7 w5.heap.size C x6 mF) := HF7
                     have rU : Hid (∃ C, Own w7 w5.heap.size C x7 mU) := HU7
                     generalize w7 = wz at *)
                  | (obtain ⟨Wf, hWf⟩ : ∃ Wf, ((w6.setCell ⟨D + 1, 0, none⟩ (.int .i64 b)).setCell ⟨D + 1, 1, none⟩ (.slice x6 mF.length c6)).setCell ⟨D + 1, 2, none⟩ (.slice x7 mU.length c7) = Wf := ⟨_, rfl⟩
                     rw [hWf]
                     have oW : Out (D + 1) (D + 1 + 1) w6 Wf := by subst hWf; exact box3_out _ _ _ _ _
                     have RW : Wf.heap[D + 1]? = some (.cells #[.int .i64 b, .slice x6 mF.length c6, .slice x7 mU.length c7] 24 (0, 0)) := by subst hWf; exact box3_set B6.out
                     have rF : Hid (∃ C, Own w6 w5.heap.size C x6 mF) := HF6
                     have rU : Hid (∃ C, Own w6 w5.heap.size C x7 mU) := HU6
                     generalize w6 = wz at *))
                all_goals
                  clear hWf r0 r1 r2 q0 q1 q2
                  obtain ⟨t0, t1, t2, -, -, -⟩ := box3_cells RW
                  have hbf : Below D w wz := hb5.trans (bq.mono (by have := hb5.size; omega))
                  have gW : Below D w Wf := hbf.trans ((oW.below (by have := box_lt K2.out; have := bq.size; omega)).mono (by omega))
                  refine bodyPost_ret (v := .tuple #[fv b x6 mF.length c6 x7 mU.length c7, .bool true]) (by simp [results, Try.results21, go_sem, t0, t1, t2]) rfl ?_
                  refine ⟨by first | exact gW | exact (hD ▸ gW), ?_⟩
                  rw [HTA2.out]
                  have zj := box_lt K2.out
                  obtain ⟨C1, o1⟩ := rF.out
                  obtain ⟨C2, o2⟩ := rU.out
                  exact ⟨_, rfl, x6, c6, x7, c7, rfl, MineX.row (o1.out oW (.inr (by omega))), MineX.row (o2.out oW (.inr (by omega)))⟩
        · have hneq : (y1 != t) = true := by simp [hyt]
          have HYT : Hid (y1 ≠ t) := hyt
          clear hyt
          go_wp2
          go_roundw
          case rel =>
            refine ⟨k + 1, by omega, by go_num, fun j hj => ?_, Below.comp hb b2⟩
            rcases Nat.lt_succ_iff_lt_or_eq.1 hj with h | h
            · exact HNO.out j h
            · subst h; rw [HX.out]; exact HYT.out
          case measure => simp [intOf]; omega
      · have hkn : k = U.length := by omega
        subst hkn
        have hnone : gvA b F U t = noA := by rw [HTA.out, ub_none HNO.out]
        obtain ⟨r0, r1, r2, q0, q1, q2⟩ := box3_cells HRr.out
        go_wp2
        obtain ⟨X, hX⟩ : ∃ X, ((wr.setCell ⟨D + 1, 0, none⟩ (.int .i64 0)).setCell ⟨D + 1, 1, none⟩ (.slice none 0 0)).setCell ⟨D + 1, 2, none⟩ (.slice none 0 0) = X := ⟨_, rfl⟩
        have R : X.heap[D + 1]? = some (.cells #[.int .i64 0, .slice none 0 0, .slice none 0 0] 24 (0, 0)) := by subst hX; exact box3_set HRr.out
        have bX : Below w.heap.size w X := by subst hX; exact hbw.trans ((box3_out wr (D + 1) _ _ _).below (by have := box_lt HRr.out; omega) |>.mono (by omega))
        rw [hX]
        clear hX r0 r1 r2 q0 q1 q2
        obtain ⟨t0, t1, t2, -, -, -⟩ := box3_cells R
        refine bodyPost_ret (v := .tuple #[fv 0 none 0 0 none 0 0, .bool false]) (by simp [results, Try.results21, go_sem, t0, t1, t2]) rfl ⟨bX, NO.out X _ rfl hnone⟩
end Go.Proofs.Ytgapplfnlndckaa
