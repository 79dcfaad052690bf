import Derived.Test.YtodidnbghiinkaaJ5
import Derived.Test.YtodidnbghiinkaaKUx
import Derived.Test.YtodidnbghiinkaaQ1
/- The law FnSqueezed. -/
namespace Go.Proofs.Ytodidnbghiinkaa
open Go.ChangeShapes Go.WideShapes Go.ChangeAt Go.RowKit
set_option linter.unusedVariables false
open Tz

attribute [local go_sem] Oper.semAt_some

/-- What a text is made short to is the text again, and has few bytes. -/
theorem sq_back {s : ByteArray} (h : s.size ≤ 600) : (unp (sqA s)).2 = true ∧ usA (sqA s) = s ∧ (sqA s).size ≤ s.size + s.size / 64 + 1 := by
  have e : sqA s = txt (pk (toks s) (toks s).length) := if_pos h
  have hg := toks_good h
  have hu := unp_pk hg
  have ht := (toks_tol s).told
  rw [e]
  refine ⟨by rw [hu], ?_, ?_⟩
  · unfold usA
    rw [hu, if_pos rfl, toks_ex, txt_bt]
  · rw [txt_size]
    have := pk_few' hg
    rw [ht] at this
    exact this
theorem ex_back {s : ByteArray} (h : s.size ≤ 600) : exA (toks s) = s := by rw [exA_yes (toks_good h), toks_ex, txt_bt]
set_option maxRecDepth 20000 in
set_option maxHeartbeats 8000000 in
theorem lawSqueezed (a a' : Option Addr) (n n' cap cap' : Nat) (S S' : Nat → Nat) (w : World) (hn : n ≤ 9223372036854775807) (hn' : n' ≤ 9223372036854775807) (hS : ∀ i, S i < 256) (hS' : ∀ i, S' i < 256) (h : At w a n (byJ S)) (h' : At w a' n' (byJ S')) :
    Calls Try.prog 12 #[.slice a n cap, .slice a' n' cap'] w fun e w' => e = .returned (.bool true) ∧ Below w.heap.size w w' := by
  by_cases hle : 1048576 < wrap64 ((n : Int) + (n' : Int))
  · go_enter Try.func12, Try.ntmps12
    go_wp2
    go_ret
    exact ⟨rfl, Below.refl _ _⟩
  · have cD := drawSq_any a n cap S w hn hS h
    have HCN : Hid (∀ W, Below w.heap.size w W → Calls Try.prog 36 #[.slice a' n' cap'] W fun e w' => (∃ u : ByteArray, e = .returned (.string u) ∧ u.size ≤ 1010) ∧ Below W.heap.size W w') := fun W hb => drawUnp_any a' n' cap' S' W hn' hS' (At.below h' hb)
    clear h h'
    go_enter Try.func12, Try.ntmps12
    go_wp2_with fail
    refine cD.mono ?_
    rintro e w1 ⟨⟨s, rfl, hs⟩, b1⟩
    have cI := fun W => implSq_any s W (by omega)
    have cS := fun W => specSq_any s W (by omega)
    have htt : (!((sqA s).toList == (sqA s).toList)) = false := by simp
    clear cD hle
    by_cases h6 : s.size ≤ 600
    · rw [decide_eq_true h6] at cI cS
      obtain ⟨hq1, hq2, hq3⟩ := sq_back h6
      have cUt := fun W => implUs_any (sqA s) W (by have := sqA_small s; omega)
      rw [hq1, hq2] at cUt
      have cTk := fun W => implTok_any s W (by omega)
      rw [decide_eq_true h6, tkA, if_pos h6] at cTk
      have hlen := toks_len s
      have cEx : Hid (∀ W y c, Tks W y (toks s) → Calls Try.prog 21 #[.slice y (toks s).length c] W fun e w' => e = .returned (.tuple #[.string s, .bool true]) ∧ Below W.heap.size W w') := fun W y c h => by
        have := implExp_any y c (toks s) W (by omega) (toks_few s) h
        rw [ex_back h6, toks_good h6] at this; exact this
      have cGd : Hid (∀ W y c, Tks W y (toks s) → Calls Try.prog 18 #[.slice y (toks s).length c] W fun e w' => e = .returned (.bool true) ∧ Below W.heap.size W w') := fun W y c h => by
        have := implGood_any y c (toks s) W (by omega) (toks_few s) h
        rw [toks_good h6] at this; exact this
      have hss : (!(s.toList == s.toList)) = false := by simp
      have htq := sqA_small s
      generalize sqA s = t at *
      generalize toks s = U at *
      clear hq1 hq2
      go_wp2_with (first
        | (go_at_call 31; refine (cI _).mono ?_; rintro e w2 ⟨rfl, b2⟩)
        | (go_at_call 30; refine (cS _).mono ?_; rintro e w3 ⟨rfl, b3⟩)
        | (go_at_call 33; refine (cUt _).mono ?_; rintro e w4 ⟨rfl, b4⟩))
      have g4 := Below.comp b1 (Below.comp b2 (Below.comp b3 b4))
      refine (cTk _).mono ?_
      rintro e w5 ⟨b5, v5, rfl, O5⟩
      obtain ⟨y5, c5, rfl⟩ := owns_form O5
      have T5 : Hid (Tks w5 y5 U) := OwnT.tks O5
      have g5 := Below.comp g4 b5
      have cEx5 := cEx.out w5 y5 c5 T5.out
      have cGd5 : Hid (∀ W, Below w5.heap.size w5 W → Calls Try.prog 18 #[.slice y5 U.length c5] W fun e w' => e = .returned (.bool true) ∧ Below W.heap.size W w') := fun W h => cGd.out W y5 c5 (RowT.below T5.out h)
      clear O5 cEx cGd cTk cUt cI cS hlen T5
      generalize U.length = m at *
      go_wp2_with fail
      refine cEx5.mono ?_
      rintro e w6 ⟨rfl, b6⟩
      have hdv : ¬ ((s.size : Int) + (s.size : Int) / 64 + 1 < (t.size : Int)) := by omega
      go_wp2_with fail
      refine (cGd5.out _ b6).mono ?_
      rintro e w7 ⟨rfl, b7⟩
      have g7 := Below.comp g5 (Below.comp b6 b7)
      go_wp2_with fail
      have cU := HCN.out w7 g7
      refine cU.mono ?_
      rintro e w8 ⟨⟨u, rfl, hu⟩, b8⟩
      have g8 := g7.trans (b8.mono g7.size)
      have cI := implUnp_any u w8 (by omega)
      have cS := fun W => specUnp_any u W (by omega)
      have cUs := fun W => implUs_any u W (by omega)
      have hsm := unp_small u
      have hY : Hid ((unp u).2 = true → pkA (unp u).1 = u ∧ good (unp u).1 = true ∧ usA u = exA (unp u).1 ∧ Fit u (unp u).1) := fun h => by
        obtain ⟨q1, q2, q3, q4⟩ := unp_good h
        refine ⟨?_, q1, ?_, q3⟩
        · rw [pkA_yes q1]
          apply bt_ext
          rw [bt_txt, upA_pk q4]
        · unfold usA
          rw [if_pos h, exA_yes q1]
      have hNo : Hid ((unp u).2 = false → (unp u).1 = []) := fun h => by
        unfold unp at h ⊢
        split
        · rfl
        · rename_i l hl
          rw [hl] at h
          simp only at h
          split
          · rename_i hg; rw [if_pos hg] at h; cases h
          · rfl
      generalize unp u = R at *
      obtain ⟨L, B⟩ := R
      simp only at cI cS cUs hsm hY hNo
      clear cU
      go_wp2_with fail
      refine cI.mono ?_
      rintro e w9 ⟨b9, v9, rfl, O9⟩
      obtain ⟨y9, c9, rfl⟩ := owns_form O9
      have T9 : Hid (Tks w9 y9 L) := OwnT.tks O9
      have g9 := g8.trans (b9.mono g8.size)
      clear O9 cI
      go_wp2_with fail
      refine (cS _).mono ?_
      rintro e w10 ⟨b10, v10, rfl, O10⟩
      obtain ⟨y10, c10, rfl⟩ := owns_form O10
      have T10 : Hid (Tks w10 y10 L) := OwnT.tks O10
      have T9a : Hid (Tks w10 y9 L) := RowT.below T9.out b10
      have g10 := g9.trans (b10.mono g9.size)
      clear O10 cS
      have hBB : (B != B) = false := by cases B <;> rfl
      have cSm := sameTokens_any y9 y10 L.length c9 c10 (gt L) w10 (by omega) T9a.out T10.out
      cases B with
      | false =>
        have hL0 := hNo.out rfl
        subst hL0
        rw [show (([] : List Tk)).length = 0 from rfl] at cSm ⊢
        clear hY hNo cUs
        go_wp2_with fail
        refine cSm.mono ?_
        rintro e w11 ⟨rfl, b11⟩
        go_wp2_with fail
        go_ret
        exact ⟨rfl, g10.trans (b11.mono g10.size)⟩
      | true =>
        obtain ⟨hp, hgd, hux, hfit⟩ := hY.out rfl
        have cP : Hid (∀ W, Tks W y9 L → Calls Try.prog 27 #[.slice y9 L.length c9] W fun e w' => e = .returned (.tuple #[.string u, .bool true]) ∧ Below W.heap.size W w') := fun W h => by
          have := implPack_any y9 c9 L W (by omega) (Fit.few hfit (by omega)) h
          rw [hp, hgd] at this; exact this
        have cE : Hid (∀ W, Tks W y9 L → Calls Try.prog 21 #[.slice y9 L.length c9] W fun e w' => e = .returned (.tuple #[.string (exA L), .bool true]) ∧ Below W.heap.size W w') := fun W h => by
          have := implExp_any y9 c9 L W (by omega) (Fit.few hfit (by omega)) h
          rw [hgd] at this; exact this
        rw [hux] at cUs
        have hu1 : (u.toList == u.toList) = true := by simp
        have hx1 : ((exA L).toList == (exA L).toList) = true := by simp
        clear hp hgd hux hfit hY hNo
        generalize exA L = X at *
        have T10a : Hid (Tks w10 y9 L) := T9a.out
        obtain ⟨m, hm⟩ : ∃ m, L.length = m := ⟨_, rfl⟩
        rw [hm] at cSm cP cE ⊢
        clear hm
        go_wp2_with fail
        refine cSm.mono ?_
        rintro e w11 ⟨rfl, b11⟩
        have T11 : Hid (Tks w11 y9 L) := RowT.below T10a.out b11
        have g11 := g10.trans (b11.mono g10.size)
        go_wp2_with fail
        refine (cP.out _ T11.out).mono ?_
        rintro e w12 ⟨rfl, b12⟩
        have T12 : Hid (Tks w12 y9 L) := RowT.below T11.out b12
        have g12 := g11.trans (b12.mono g11.size)
        go_wp2_with fail
        refine (cUs _).mono ?_
        rintro e w13 ⟨rfl, b13⟩
        have T13 : Hid (Tks w13 y9 L) := RowT.below T12.out b13
        have g13 := g12.trans (b13.mono g12.size)
        go_wp2_with fail
        refine (cE.out _ T13.out).mono ?_
        rintro e w14 ⟨rfl, b14⟩
        go_wp2_with fail
        go_ret
        exact ⟨rfl, g13.trans (b14.mono g13.size)⟩
    · rw [decide_eq_false h6] at cI cS
      generalize sqA s = t at *
      go_wp2_with (first
        | (go_at_call 31; refine (cI _).mono ?_; rintro e w2 ⟨rfl, b2⟩)
        | (go_at_call 30; refine (cS _).mono ?_; rintro e w3 ⟨rfl, b3⟩))
      have g7 := Below.comp b1 (Below.comp b2 b3)
      have cU := HCN.out w3 g7
      refine cU.mono ?_
      rintro e w8 ⟨⟨u, rfl, hu⟩, b8⟩
      have g8 := g7.trans (b8.mono g7.size)
      have cI := implUnp_any u w8 (by omega)
      have cS := fun W => specUnp_any u W (by omega)
      have cUs := fun W => implUs_any u W (by omega)
      have hsm := unp_small u
      have hY : Hid ((unp u).2 = true → pkA (unp u).1 = u ∧ good (unp u).1 = true ∧ usA u = exA (unp u).1 ∧ Fit u (unp u).1) := fun h => by
        obtain ⟨q1, q2, q3, q4⟩ := unp_good h
        refine ⟨?_, q1, ?_, q3⟩
        · rw [pkA_yes q1]
          apply bt_ext
          rw [bt_txt, upA_pk q4]
        · unfold usA
          rw [if_pos h, exA_yes q1]
      have hNo : Hid ((unp u).2 = false → (unp u).1 = []) := fun h => by
        unfold unp at h ⊢
        split
        · rfl
        · rename_i l hl
          rw [hl] at h
          simp only at h
          split
          · rename_i hg; rw [if_pos hg] at h; cases h
          · rfl
      generalize unp u = R at *
      obtain ⟨L, B⟩ := R
      simp only at cI cS cUs hsm hY hNo
      clear cU
      go_wp2_with fail
      refine cI.mono ?_
      rintro e w9 ⟨b9, v9, rfl, O9⟩
      obtain ⟨y9, c9, rfl⟩ := owns_form O9
      have T9 : Hid (Tks w9 y9 L) := OwnT.tks O9
      have g9 := g8.trans (b9.mono g8.size)
      clear O9 cI
      go_wp2_with fail
      refine (cS _).mono ?_
      rintro e w10 ⟨b10, v10, rfl, O10⟩
      obtain ⟨y10, c10, rfl⟩ := owns_form O10
      have T10 : Hid (Tks w10 y10 L) := OwnT.tks O10
      have T9a : Hid (Tks w10 y9 L) := RowT.below T9.out b10
      have g10 := g9.trans (b10.mono g9.size)
      clear O10 cS
      have hBB : (B != B) = false := by cases B <;> rfl
      have cSm := sameTokens_any y9 y10 L.length c9 c10 (gt L) w10 (by omega) T9a.out T10.out
      cases B with
      | false =>
        have hL0 := hNo.out rfl
        subst hL0
        rw [show (([] : List Tk)).length = 0 from rfl] at cSm ⊢
        clear hY hNo cUs
        go_wp2_with fail
        refine cSm.mono ?_
        rintro e w11 ⟨rfl, b11⟩
        go_wp2_with fail
        go_ret
        exact ⟨rfl, g10.trans (b11.mono g10.size)⟩
      | true =>
        obtain ⟨hp, hgd, hux, hfit⟩ := hY.out rfl
        have cP : Hid (∀ W, Tks W y9 L → Calls Try.prog 27 #[.slice y9 L.length c9] W fun e w' => e = .returned (.tuple #[.string u, .bool true]) ∧ Below W.heap.size W w') := fun W h => by
          have := implPack_any y9 c9 L W (by omega) (Fit.few hfit (by omega)) h
          rw [hp, hgd] at this; exact this
        have cE : Hid (∀ W, Tks W y9 L → Calls Try.prog 21 #[.slice y9 L.length c9] W fun e w' => e = .returned (.tuple #[.string (exA L), .bool true]) ∧ Below W.heap.size W w') := fun W h => by
          have := implExp_any y9 c9 L W (by omega) (Fit.few hfit (by omega)) h
          rw [hgd] at this; exact this
        rw [hux] at cUs
        have hu1 : (u.toList == u.toList) = true := by simp
        have hx1 : ((exA L).toList == (exA L).toList) = true := by simp
        clear hp hgd hux hfit hY hNo
        generalize exA L = X at *
        have T10a : Hid (Tks w10 y9 L) := T9a.out
        obtain ⟨m, hm⟩ : ∃ m, L.length = m := ⟨_, rfl⟩
        rw [hm] at cSm cP cE ⊢
        clear hm
        go_wp2_with fail
        refine cSm.mono ?_
        rintro e w11 ⟨rfl, b11⟩
        have T11 : Hid (Tks w11 y9 L) := RowT.below T10a.out b11
        have g11 := g10.trans (b11.mono g10.size)
        go_wp2_with fail
        refine (cP.out _ T11.out).mono ?_
        rintro e w12 ⟨rfl, b12⟩
        have T12 : Hid (Tks w12 y9 L) := RowT.below T11.out b12
        have g12 := g11.trans (b12.mono g11.size)
        go_wp2_with fail
        refine (cUs _).mono ?_
        rintro e w13 ⟨rfl, b13⟩
        have T13 : Hid (Tks w13 y9 L) := RowT.below T12.out b13
        have g13 := g12.trans (b13.mono g12.size)
        go_wp2_with fail
        refine (cE.out _ T13.out).mono ?_
        rintro e w14 ⟨rfl, b14⟩
        go_wp2_with fail
        go_ret
        exact ⟨rfl, g13.trans (b14.mono g13.size)⟩
end Go.Proofs.Ytodidnbghiinkaa
