import Derived.Test.YtpolhigpcllhiaaI7
/- The promises that items hold: the program's look, and whether work is good. -/
namespace Go.Proofs.Ytpolhigpcllhiaa
open Go.ChangeShapes Go.WideShapes Go.ChangeAt Go.RowKit
set_option linter.unusedVariables false
open Room

attribute [local go_sem] Oper.semAt_some

theorem src_oneI (w : World) (x : It) (t : TypeId) : (1 : Nat) = 0 ∨ ∃ ad, some (⟨w.heap.size, 0, none⟩ : Addr) = some ad ∧ ∀ j u, (cis [x])[j]? = some u → (w.alloc (.cells #[.int .i64 x.k, .int .i64 x.i, .int .i64 x.x.1, .int .i64 x.x.2, .int .i64 x.u] t)).cell? (ad.add j) = some u := by
  refine .inr ⟨_, rfl, fun j u hj => ?_⟩
  obtain ⟨h0, h1, h2, h3, h4⟩ := box5_cells (al1 w (.cells #[.int .i64 x.k, .int .i64 x.i, .int .i64 x.x.1, .int .i64 x.x.2, .int .i64 x.u] t))
  have e : (⟨w.heap.size, 0, none⟩ : Addr).add j = ⟨w.heap.size, j, none⟩ := by unfold Addr.add; split <;> simp_all
  rw [e]
  match j, hj with
  | 0, hj => simp [cis, encI] at hj; subst hj; exact h0
  | 1, hj => simp [cis, encI] at hj; subst hj; exact h1
  | 2, hj => simp [cis, encI] at hj; subst hj; exact h2
  | 3, hj => simp [cis, encI] at hj; subst hj; exact h3
  | 4, hj => simp [cis, encI] at hj; subst hj; exact h4
  | j + 5, hj => simp [cis, encI] at hj
/-- A row that may grow, with one in it at least. -/
theorem OwnI.open {w : World} {B : Nat} {a : Option Addr} {n c : Nat} {P : List It} (h : OwnI w B (.slice a n c) P) (h0 : 0 < P.length) : ∃ g, a = some ⟨g, 0, none⟩ ∧ B ≤ g ∧ g < w.heap.size ∧ (∀ j, j < P.length → ∃ v, w.cell? ⟨g, j * 5 + 4, none⟩ = some v) ∧ ∀ j, w.frozen? ⟨g, j, none⟩ = false := by
  rcases h.2 with ⟨h1, h2⟩ | ⟨g, cap, cur, h1, hb, hg, hc, hm, hcs, ht⟩
  · omega
  · simp only [Value.slice.injEq] at h1
    obtain ⟨rfl, rfl, rfl⟩ := h1
    have hs : P.length * 5 ≤ cur.size := by rw [hcs]; exact Nat.mul_le_mul_right 5 hc
    exact ⟨g, rfl, hb, box_lt hg, fun j hj => ⟨cur[j * 5 + 4], cell_of_block hg (by simp)⟩, fun j => free_of_block hg⟩
theorem prm_len (l : List It) : (prm l).length ≤ l.length := by
  unfold prm
  rw [List.length_map]
  exact List.length_filter_le _ _
theorem Inv.len {b : Int} {pre P : List It} (h : Inv b pre P) : P.length ≤ pre.length := by rw [h.eq]; exact prm_len _
theorem Inv.ins {b : Int} {pre P : List It} (h : Inv b pre P) : ∀ y, y ∈ P → inB b y.x = true := by
  intro y hy
  obtain ⟨j, hj, rfl⟩ := List.getElem_of_mem hy
  have := (h.ids j hj).2.2.1
  rwa [gi_eq hj] at this
theorem Pl.inB {b : Int} {l : List Ex} (h : Pl b l) : ∀ y, y ∈ l → Room.inB b y = true := by
  intro y hy
  have h1 := h.ins y hy
  unfold fin at h1
  exact inB_iff.2 ⟨h1.1, h1.2.1, by omega⟩
theorem drop_gi {l : List It} {k : Nat} (h : k < l.length) : l.drop k = gi l k :: l.drop (k + 1) := by
  rw [gi_eq h, List.drop_eq_getElem_cons h]
theorem take_gi {l : List It} {k : Nat} (h : k < l.length) : l.take (k + 1) = l.take k ++ [gi l k] := by
  rw [gi_eq h]; simp
theorem grown_on' {w0 w w' : World} {Z : Nat} {e : TypeId} {size n : Nat} {v : Value} {xs : List Value} (hb : Below Z w0 w) (hZ : Z ≤ w.heap.size) (h : w.ownsRow Z e size v n xs) (hg : w.grownBy w' v.ownBlock) : Below Z w0 w' := hb.trans (Grown.below hg hZ (owns_ge h))
/-- What the look at items answers: nothing, or the promises in a row of the call's own. -/
def AnsP (w' : World) (B : Nat) (e : Ending) (r : Option (List It)) : Prop := match r with
  | none => e = .returned (.tuple #[.slice none 0 0, .bool false])
  | some P => ∃ y cy, e = .returned (.tuple #[.slice y P.length cy, .bool true]) ∧ OwnI w' B (.slice y P.length cy) P
theorem AnsP.mono {w' : World} {B B' : Nat} {e : Ending} {r : Option (List It)} (h : AnsP w' B e r) (hB : B' ≤ B) : AnsP w' B' e r := by
  cases r with
  | none => exact h
  | some P =>
    obtain ⟨y, cy, h1, h2⟩ := h
    exact ⟨y, cy, h1, owns_mono h2 hB⟩
set_option maxHeartbeats 4000000 in
theorem promisesIn_any (b : Int) (a : Option Addr) (ca : Nat) (a' : Option Addr) (ca' : Nat) (l s : List Ex) (i : Option Addr) (ci : Nat) (t : List It) (w : World) (hn : l.length ≤ 1048576) (hn' : s.length ≤ 1048576) (hm : t.length ≤ 1048577) (hx : ∀ x, x ∈ l → x.1 ≤ 9223372036854775807) (hxi : ∀ x, x ∈ t → x.x.1 ≤ 9223372036854775807) (ha : Exs w a l) (ha' : Exs w a' s) (hi : Its w i t) :
    Calls Try.prog 63 #[fv b a l.length ca a' s.length ca', .slice i t.length ci] w fun e w' => Below w.heap.size w w' ∧ AnsP w' w.heap.size e (prs b l s t) := by
  have cG := fun W h => implGood_any b a ca a' ca' l s W hn hn' hx (ha.below h) (ha'.below h)
  have HP : Hid (prs b l s t = if good b l s && decide (t.length ≤ 30) then rnP b l [] t else none) := rfl
  have HG : Hid (good b l s = true → (1 ≤ b ∧ b ≤ 400) ∧ l.length ≤ 60 ∧ Pl b l) := fun h => ⟨(good_iff.1 h).1, (good_iff.1 h).2.1, (good_iff.1 h).2.2.1⟩
  generalize prs b l s t = R at *
  obtain ⟨G, hG⟩ : ∃ G, good b l s = G := ⟨_, rfl⟩
  rw [hG] at cG HP HG
  clear hG ha' hx
  have HA : Hid (Exs w a l) := ha
  have HI : Hid (Its w i t) := hi
  clear ha hi
  have hAn : ∀ W, Below w.heap.size w W → RowX W a l.length (gx l) := fun W h => HA.out.below h
  obtain ⟨n, hnl⟩ : ∃ n, l.length = n := ⟨_, rfl⟩
  rw [hnl] at cG hn
  rw [hnl]
  generalize s.length = n' at *
  obtain ⟨D, hD⟩ : ∃ D, w.heap.size = D := ⟨_, rfl⟩
  obtain ⟨W0, hW0⟩ : ∃ W0, w.alloc (.cells #[.int .i64 b, .slice a n ca, .slice a' n' ca'] 24) = W0 := ⟨_, rfl⟩
  have g0 : Below w.heap.size w W0 := by subst hW0; exact below_alloc _ _
  have B1 : W0.heap[D]? = some (.cells #[.int .i64 b, .slice a n ca, .slice a' n' ca'] 24 (0, 0)) := by subst hW0 hD; exact al1 _ _
  have H1 : Hid (W0.heap[D]? = some (.cells #[.int .i64 b, .slice a n ca, .slice a' n' ca'] 24 (0, 0))) := B1
  have z0 := box_lt B1
  obtain ⟨f0, f1, f2, -, -, -⟩ := box3_cells B1
  clear B1
  cases G with
  | false =>
    have hR : R = none := by rw [HP.out]; simp
    subst hR
    go_enter Try.func63, Try.ntmps63
    go_wp2_with fail
    refine (cG _ g0).mono ?_
    rintro e w1 ⟨rfl, b1⟩
    go_wp2
    refine bodyPost_ret (v := .tuple #[.slice none 0 0, .bool false]) (by simp [results, Try.results63, go_sem]) rfl ?_
    exact ⟨by first | exact Below.comp g0 b1 | exact (hD ▸ Below.comp g0 b1), rfl⟩
  | true =>
    obtain ⟨hb, hl60, hPl⟩ := HG.out rfl
    by_cases h30 : (30 : Int) < (t.length : Int)
    · have hR : R = none := by
        rw [HP.out]
        have : decide (t.length ≤ 30) = false := by simp; omega
        rw [this]; simp
      subst hR
      generalize t.length = m at *
      go_enter Try.func63, Try.ntmps63
      go_wp2_with fail
      refine (cG _ g0).mono ?_
      rintro e w1 ⟨rfl, b1⟩
      go_wp2
      refine bodyPost_ret (v := .tuple #[.slice none 0 0, .bool false]) (by simp [results, Try.results63, go_sem]) rfl ?_
      exact ⟨by first | exact Below.comp g0 b1 | exact (hD ▸ Below.comp g0 b1), rfl⟩
    · have hR : R = rnP b l [] t := by
        rw [HP.out]
        have : decide (t.length ≤ 30) = true := by simp; omega
        rw [this]; simp
      have HR : Hid (R = rnP b l [] t) := hR
      have Ht30 : Hid (t.length ≤ 30) := by show t.length ≤ 30; omega
      clear hR HP
      have cM := fun (W : World) pa pc P x h1 h2 h3 h4 h5 => mayPromise_any b a ca a' n' ca' l pa pc P x W hb (by omega) (Pl.inB hPl) h1 h2 h3 h4 h5
      rw [hnl] at cM
      have cD := fun (W : World) pa pc P x h1 h2 => mayBeDone_any pa pc P x W h1 h2
      have HX : Hid (∀ k, k < t.length → (gi t k).x.1 ≤ 9223372036854775807) := fun k hk => by rw [gi_eq hk]; exact hxi _ (List.getElem_mem hk)
      have hmm : ¬ (30 : Int) < (t.length : Int) := h30
      obtain ⟨m, hml⟩ : ∃ m, t.length = m := ⟨_, rfl⟩
      have HRow : Hid (RowI w i m (gi t)) := by rw [← hml]; exact HI.out
      have HDr : Hid (∀ k, k < m → t.drop k = gi t k :: t.drop (k + 1)) := fun k hk => drop_gi (by omega)
      have HTk : Hid (∀ k, k < m → t.take (k + 1) = t.take k ++ [gi t k]) := fun k hk => take_gi (by omega)
      have HLn : Hid (t.drop m = []) := by rw [← hml]; exact List.drop_length
      have HTl : Hid (∀ k, (t.take k).length ≤ k) := fun k => by rw [List.length_take]; exact Nat.min_le_left _ _
      rw [hml] at h30 hmm HX Ht30
      rw [hml]
      clear hxi hPl HG HI
      go_enter Try.func63, Try.ntmps63
      go_wp2_with fail
      refine (cG _ g0).mono ?_
      rintro e w1 ⟨rfl, b1⟩
      have K1 : Hid (w1.heap[D]? = some (.cells #[.int .i64 b, .slice a n ca, .slice a' n' ca'] 24 (0, 0))) := box_on H1.out b1
      have g1 := Below.comp g0 b1
      have z1 := b1.size
      have hz1 : w.heap.size ≤ w1.heap.size := g1.size
      clear hW0 f0 f1 f2
      go_wp2
      go_loopw [19, 6] (fun q sv wr => ∃ (k : Nat) (P : List It), k ≤ m ∧ q = .int .i64 k ∧ OwnI wr w1.heap.size sv P ∧ Hid (Inv b (t.take k) P) ∧ Hid (R = rnP b l P (t.drop k)) ∧ Below w1.heap.size w1 wr) (fun q _ _ => m - (intOf q).toNat)
      case atStart => exact ⟨0, [], Nat.zero_le _, rfl, OwnI.nil _ _, by rw [List.take_zero]; exact Inv.nil b, by rw [List.drop_zero]; exact HR.out, Below.refl _ _⟩
      case round =>
        obtain ⟨k, P, hk, rfl, ho, HV, HQ, hb1⟩ := hrel
        have hbw := Below.comp g1 hb1
        obtain ⟨y, cy, rfl⟩ := owns_form ho
        have HO : Hid (OwnI wr w1.heap.size (.slice y P.length cy) P) := ho
        clear ho
        by_cases hlt : k < m
        · have hPl : P.length ≤ 30 := by
            have h1 := Inv.len HV.out
            have h2 := HTl.out k
            have h3 := Ht30.out
            omega
          obtain ⟨bb, off, rfl, hcell⟩ := (HRow.out.below hbw) (by omega)
          obtain ⟨c0, c1, c2, c3, c4⟩ := hcell k hlt
          clear hcell
          have hdr := HDr.out k hlt
          have hfx := HX.out k hlt
          have htk := HTk.out k hlt
          generalize gi t k = x at c0 c1 c2 c3 c4 hdr hfx htk
          have HQ' : Hid (R = match stP b l P x with | none => none | some P' => rnP b l P' (t.drop (k + 1))) := by
            have h := HQ.out
            rw [hdr] at h
            exact h
          clear hdr HQ
          have HS : Hid (stP b l P x = if mayP b l P x then some (P ++ [x]) else if mayD P x then some (putU P (x.i - 1).toNat x.u) else none) := rfl
          have HI' : Hid (∀ P', stP b l P x = some P' → Inv b (t.take (k + 1)) P') := fun P' h => by
            rw [htk]
            rcases step_same (pl := l) HV.out x with ⟨_, h2⟩ | ⟨_, P2, h2, h3, _⟩
            · rw [h2] at h; cases h
            · rw [h2] at h; cases h; exact h3
          clear htk
          obtain ⟨E, hE⟩ : ∃ E, wr.heap.size = E := ⟨_, rfl⟩
          obtain ⟨W1, hW1⟩ : ∃ W1, wr.alloc (.cells #[.int .i64 x.k, .int .i64 x.i, .int .i64 x.x.1, .int .i64 x.x.2, .int .i64 x.u] 71) = W1 := ⟨_, rfl⟩
          have b2 : Below wr.heap.size wr W1 := by subst hW1; exact below_alloc _ _
          have HE : Hid (W1.heap[E]? = some (.cells #[.int .i64 x.k, .int .i64 x.i, .int .i64 x.x.1, .int .i64 x.x.2, .int .i64 x.u] 71 (0, 0))) := by subst hW1 hE; exact al1 _ _
          have cM' := cM W1 y cy P x (by omega) (Inv.ins HV.out) hfx (hAn _ (Below.comp hbw b2)) (MineI.row (OwnI.own (owns_below HO.out b2)).1)
          have cD' := fun W h => cD W y cy P x (by omega) (MineI.row (OwnI.own (owns_below HO.out h)).1)
          have hjd : Hid (mayD P x = true → ∃ j : Nat, x.i = (j : Int) + 1 ∧ j < P.length ∧ putU P (x.i - 1).toNat x.u = putU P j x.u) := fun h => by
            unfold mayD at h
            simp only [Bool.and_eq_true, decide_eq_true_eq] at h
            have h1 := h.2.2.1
            have h2 := h.2.2.2.1
            refine ⟨(x.i - 1).toNat, by omega, by omega, rfl⟩
          generalize mayP b l P x = u1 at *
          generalize mayD P x = u2 at *
          have sr := src_oneI
          obtain ⟨pk, pi, ⟨px, py⟩, pu⟩ := x
          simp only at c0 c1 c2 c3 c4 hW1 HE
          obtain ⟨d0, d1, d2, -, -, -⟩ := box3_cells (box_on K1.out (Below.comp hb1 b2))
          obtain ⟨e0, e1, e2, e3, e4⟩ := box5_cells HE.out
          have zb := hb1.size
          have hw1 : w1.heap.size ≤ wr.heap.size := zb
          cases u1 with
          | true =>
            have hst : stP b l P ⟨pk, pi, (px, py), pu⟩ = some (P ++ [⟨pk, pi, (px, py), pu⟩]) := by rw [HS.out]; simp
            have hinv := HI'.out _ hst
            have hq : R = rnP b l (P ++ [⟨pk, pi, (px, py), pu⟩]) (t.drop (k + 1)) := by rw [HQ'.out, hst]
            have HN1 : Hid (Inv b (t.take (k + 1)) (P ++ [⟨pk, pi, (px, py), pu⟩])) := hinv
            have HN2 : Hid (R = rnP b l (P ++ [⟨pk, pi, (px, py), pu⟩]) (t.drop (k + 1))) := hq
            clear HS HI' HQ' hst hinv hq hjd cD' cD
            go_wp2_with fail
            refine cM'.mono ?_
            rintro e w3 ⟨rfl, b3⟩
            clear hW1 d0 d1 d2 e0 e1 e2 e3 e4 c0 c1 c2 c3 c4 cM' cM
            obtain ⟨e0, e1, e2, e3, e4⟩ := box5_cells (box_on HE.out b3)
            have own3 : OwnI w3 w1.heap.size (.slice y P.length cy) P := owns_below HO.out (Below.comp b2 b3)
            have z3 : wr.heap.size ≤ w3.heap.size := Nat.le_trans b2.size b3.size
            obtain ⟨W4, hW4⟩ : ∃ W4, w3.alloc (.cells #[.int .i64 pk, .int .i64 pi, .int .i64 px, .int .i64 py, .int .i64 pu] 71) = W4 := ⟨_, rfl⟩
            have b4 : Below w3.heap.size w3 W4 := by subst hW4; exact below_alloc _ _
            have own4 : W4.ownsRow w1.heap.size 71 5 (.slice y P.length cy) P.length (cis P) := owns_below own3 b4
            have sr4 : (1 : Nat) = 0 ∨ ∃ ad, some (⟨w3.heap.size, 0, none⟩ : Addr) = some ad ∧ ∀ j u, (cis [⟨pk, pi, (px, py), pu⟩])[j]? = some u → W4.cell? (ad.add j) = some u := by subst hW4; exact sr w3 ⟨pk, pi, (px, py), pu⟩ _
            have z4 : w1.heap.size ≤ W4.heap.size := Nat.le_trans (Nat.le_trans hw1 z3) b4.size
            have HF : Hid (Below w1.heap.size w1 W4) := Below.comp hb1 (Below.comp b2 (Below.comp b3 b4))
            have HL : Hid (∀ v w, World.ownsRow w w1.heap.size 71 5 v (P.length + 1) (cis P ++ cis [⟨pk, pi, (px, py), pu⟩]) → OwnI w w1.heap.size v (P ++ [⟨pk, pi, (px, py), pu⟩])) := fun v w h => by
              show World.ownsRow w _ _ _ v (P ++ [_]).length (cis (P ++ [_]))
              rw [List.length_append, cis_app]
              exact h
            clear own3 sr HO
            generalize hpn : P.length = pn at *
            clear hpn
            go_wp2_with (at_builtin; refine wpList_append_src rfl _ _ 25 rfl w1.heap.size 71 _ 5 40 Try.underlying25 infoIt rfl (by decide) (.slice y pn cy) pn (cis P) rfl own4 (some ⟨w3.heap.size, 0, none⟩) 1 1 (cis [⟨pk, pi, (px, py), pu⟩]) rfl rfl sr4 (cis_one _) (by omega) (by decide) z4 ?_; intro v5 w5 own5 gr5)
            go_roundw
            case rel => exact ⟨k + 1, P ++ [⟨pk, pi, (px, py), pu⟩], by omega, by go_num, HL.out _ _ own5, HN1, HN2, grown_on' HF.out z4 own4 gr5⟩
            case measure => simp [intOf]; omega
          | false =>
            cases u2 with
            | true =>
              obtain ⟨j, hj1, hj2, hj3⟩ := hjd.out rfl
              simp only at hj1 hj3
              have hst : stP b l P ⟨pk, pi, (px, py), pu⟩ = some (putU P j pu) := by rw [HS.out]; simp only [Bool.false_eq_true, if_false, if_true]; rw [hj3]
              have hinv := HI'.out _ hst
              have hq : R = rnP b l (putU P j pu) (t.drop (k + 1)) := by rw [HQ'.out, hst]
              have HN1 : Hid (Inv b (t.take (k + 1)) (putU P j pu)) := hinv
              have HN2 : Hid (R = rnP b l (putU P j pu) (t.drop (k + 1))) := hq
              have HJ : Hid (pi = (j : Int) + 1) := hj1
              clear HS HI' HQ' hst hinv hq hjd cD hj3 hj1
              go_wp2_with fail
              refine cM'.mono ?_
              rintro e w3 ⟨rfl, b3⟩
              clear hW1 d0 d1 d2 e0 e1 e2 e3 e4 c0 c1 c2 c3 c4 cM' cM
              obtain ⟨e0, e1, e2, e3, e4⟩ := box5_cells (box_on HE.out b3)
              go_wp2_with fail
              refine (cD' _ (Below.comp b2 b3)).mono ?_
              rintro e w4 ⟨rfl, b4⟩
              clear e0 e1 e2 e3 e4
              obtain ⟨e0, e1, e2, e3, e4⟩ := box5_cells (box_on HE.out (Below.comp b3 b4))
              have own4 := owns_below HO.out (Below.comp b2 (Below.comp b3 b4))
              have HW4 : Hid (OwnI w4 w1.heap.size (.slice y P.length cy) P) := own4
              obtain ⟨g, rfl, hg1, hg2, hgc, hgf⟩ := OwnI.open own4 (by omega)
              obtain ⟨v4, hv4⟩ := hgc j hj2
              have hf4 := hgf (j * 5 + 4)
              have ew : IntKind.i64.wrap (pi - 1) = (j : Int) := by have hj1 := HJ.out; rw [wrapI (by omega) (by omega)]; omega
              have hj0' : (0 : Int) ≤ (j : Int) := by omega
              have hj1' : (j : Int) < (P.length : Int) := by omega
              have HF : Hid (Below w1.heap.size w1 w4) := Below.comp hb1 (Below.comp b2 (Below.comp b3 b4))
              clear own4 hgc hgf HO
              generalize hpn : P.length = pn at *
              go_wp2
              go_roundw
              case rel => exact ⟨k + 1, putU P j pu, by omega, by go_num, OwnI.put (by rw [← hpn] at HW4; rw [← hpn]; exact HW4.out) (by omega), HN1, HN2, HF.out.setCell hg1 _⟩
              case measure => simp [intOf]; omega
            | false =>
              have hst : stP b l P ⟨pk, pi, (px, py), pu⟩ = none := by rw [HS.out]; simp
              have hR : R = none := by rw [HQ'.out, hst]
              subst hR
              clear HS HI' HQ' hst hjd cD
              go_wp2_with fail
              refine cM'.mono ?_
              rintro e w3 ⟨rfl, b3⟩
              clear hW1 d0 d1 d2 e0 e1 e2 e3 e4 c0 c1 c2 c3 c4 cM' cM
              obtain ⟨e0, e1, e2, e3, e4⟩ := box5_cells (box_on HE.out b3)
              go_wp2_with fail
              refine (cD' _ (Below.comp b2 b3)).mono ?_
              rintro e w4 ⟨rfl, b4⟩
              have gE : Below w.heap.size w w4 := Below.comp hbw (Below.comp b2 (Below.comp b3 b4))
              go_wp2
              refine bodyPost_ret (v := .tuple #[.slice none 0 0, .bool false]) (by simp [results, Try.results63, go_sem]) rfl ?_
              exact ⟨by first | exact gE | exact (hD ▸ gE), rfl⟩
        · have hkm : k = m := by omega
          subst hkm
          have hR : R = some P := by rw [HQ.out, HLn.out]; rfl
          subst hR
          go_wp2
          refine bodyPost_ret (v := .tuple #[.slice y P.length cy, .bool true]) (by simp [results, Try.results63, go_sem]) rfl ?_
          exact ⟨by first | exact hbw | exact (hD ▸ hbw), y, cy, rfl, owns_mono HO.out (by omega)⟩
end Go.Proofs.Ytpolhigpcllhiaa
