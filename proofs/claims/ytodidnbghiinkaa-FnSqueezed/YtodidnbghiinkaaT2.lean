import Derived.Test.YtodidnbghiinkaaT1
import Derived.Test.YtodidnbghiinkaaG1
/- The specification's TokensOf. -/
namespace Go.Proofs.Ytodidnbghiinkaa
open Go.ChangeShapes Go.WideShapes Go.ChangeAt Go.RowKit
set_option linter.unusedVariables false
open Tz

attribute [local go_sem] Oper.semAt_some

set_option maxRecDepth 20000 in
set_option maxHeartbeats 4000000 in
theorem l16Tokens_any (s : ByteArray) (w : World) (hl : s.size ≤ 600) :
    Calls Try.prog 49 #[.string s] w fun e w' => Below w.heap.size w w' ∧ ∃ v, e = .returned v ∧ OwnT w' w.heap.size v (toks s) := by
  obtain ⟨U, hU⟩ : ∃ U, toks s = U := ⟨_, rfl⟩
  rw [hU]
  have HU : Hid _ := hU
  clear hU
  obtain ⟨Z, hZ⟩ : ∃ Z, w.heap.size = Z := ⟨_, rfl⟩
  have B0 : Below Z w w := hZ ▸ Below.refl _ _
  have Z0 : Z ≤ w.heap.size := by omega
  rw [hZ]
  clear hZ
  go_enter Try.func49, Try.ntmps49
  go_wp2
  go_loopw [3, 4] (fun ll ii wr => ∃ (k : Nat) (y : Option Addr) (c : Nat), k ≤ s.size ∧ ii = .int .i64 ((run s k).2 : Nat) ∧ ll = .slice y (run s k).1.length c ∧ Hid (OwnT wr Z (.slice y (run s k).1.length c) (run s k).1) ∧ Below Z w wr ∧ Z ≤ wr.heap.size) (fun _ ii _ => s.size - (intOf ii).toNat)
  case atStart => exact ⟨0, none, 0, Nat.zero_le _, rfl, rfl, OwnT.nil _ _, B0, Z0⟩
  case round =>
    obtain ⟨k, y, c, hk, rfl, rfl, HO, hb, hz⟩ := hrel
    have hle := (run_tol s k).le
    have hrl := run_len s k
    by_cases hlt : (run s k).2 < s.size
    · have HK : Hid (k + 1 ≤ s.size) := run_lt hlt
      have cL := fun W => l16Longest_any s (run s k).2 W (by omega) hle
      have Hfar : Hid _ := run_far (s := s) (k := k) hlt
      have Hmore : Hid _ := run_more1 (s := s) (k := k) hlt
      have Hnew : Hid _ := run_new (s := s) (k := k) hlt
      have Hspec : Hid _ := lgA_spec s (run s k).2 hle
      have Hfit : Hid (∀ i, i < (run s k).1.length → Few (gt (run s k).1 i) ∧ (gt (run s k).1 i).p.size ≤ 64) := run_fit s k
      obtain ⟨N, hN⟩ : ∃ N, run s (k + 1) = N := ⟨_, rfl⟩
      have HN : Hid _ := hN
      rw [hN] at Hfar Hmore Hnew
      obtain ⟨x, hx⟩ : ∃ x, run s k = x := ⟨_, rfl⟩
      rw [hx] at cL Hfar Hmore Hnew Hspec Hfit HO hle hrl hlt ⊢
      obtain ⟨r, hr⟩ : ∃ r, lgA s x.2 = r := ⟨_, rfl⟩
      rw [hr] at cL Hfar Hmore Hnew Hspec
      clear hN hx hr
      obtain ⟨l, A⟩ := x
      obtain ⟨d, n⟩ := r
      simp only at cL Hfar Hmore Hnew Hspec Hfit HO hle hrl hlt ⊢
      have hlt' : (A : Int) < (s.size : Int) := by omega
      by_cases hd : 0 < d
      · obtain ⟨q1, q2, q3, q4, q5, q6⟩ : 1 ≤ d ∧ d ≤ A ∧ d ≤ 255 ∧ 3 ≤ n ∧ n ≤ 66 ∧ A + n ≤ s.size := by
          rcases Hspec.out with h | h
          · simp only [Prod.mk.injEq] at h; omega
          · exact ⟨h.1, h.2.1, h.2.2.1, h.2.2.2.1, h.2.2.2.2.1, h.2.2.2.2.2.1⟩
        have hNf := Hfar.out hd
        have HNf : Hid _ := hNf
        clear Hfar Hmore Hnew Hspec Hfit hNf
        go_wp2_with fail
        refine (cL _).mono ?_
        rintro e w1 ⟨rfl, b1⟩
        have hb1 := hb.trans (b1.mono hz)
        have hz1 := Nat.le_trans hz b1.size
        have own2 : (w1.alloc (.cells #[.string ⟨#[]⟩, .int .i64 (d : Int), .int .i64 (n : Int)] 52)).ownsRow Z 52 3 (.slice y l.length c) l.length (css l) := owns_below (owns_below HO.out b1) (below_alloc _ _)
        have sr := srcT_one w1 ⟨⟨#[]⟩, (d : Int), (n : Int)⟩ 52
        have hb3 : Below Z w (w1.alloc (.cells #[.string ⟨#[]⟩, .int .i64 (d : Int), .int .i64 (n : Int)] 52)) := hb1.trans ((below_alloc _ _).mono hz1)
        have hz3 : Z ≤ (w1.alloc (.cells #[.string ⟨#[]⟩, .int .i64 (d : Int), .int .i64 (n : Int)] 52)).heap.size := Nat.le_trans hz1 (below_alloc _ _).size
        have HL1 : Hid ((l ++ [(⟨⟨#[]⟩, (d : Int), (n : Int)⟩ : Tk)]).length = l.length + 1) := by show _ = _; simp
        have hn0 : (0 : Int) < (n : Int) := by omega
        obtain ⟨m, hml⟩ : ∃ m, l.length = m := ⟨_, rfl⟩
        have Hml : Hid _ := hml
        rw [hml] at own2 hrl HL1 ⊢
        clear hml HO cL
        go_wp2_with (at_builtin; refine wpList_append_src rfl _ _ 28 rfl Z 52 _ 3 32 Try.underlying28 infoTk rfl (by decide) (.slice y m c) m (css l) rfl own2 (some ⟨w1.heap.size, 0, none⟩) 1 1 (css [⟨⟨#[]⟩, (d : Int), (n : Int)⟩]) rfl rfl sr (css_one _) (by omega) (by decide) hz3 ?_; intro v3 w3 own3 gr3; have b3 : Below Z w w3 := grown_on hb3 hz3 own2 gr3; have z3 : Z ≤ w3.heap.size := Nat.le_trans hz3 gr3.size; have O3 : Hid (w3.ownsRow Z 52 3 v3 (m + 1) (css l ++ css [⟨⟨#[]⟩, (d : Int), (n : Int)⟩])) := own3; clear own3 gr3; obtain ⟨y3, c3, e3⟩ := owns_form O3.out; subst e3)
        go_roundw
        case rel => exact ⟨k + 1, y3, c3, HK.out, by rw [HN.out, HNf.out]; go_num, by rw [HN.out, HNf.out, HL1.out], by rw [HN.out, HNf.out, HL1.out]; exact OwnT.snoc (by rw [Hml.out]; exact O3.out), b3, z3⟩
        case measure => simp [intOf]; omega
      · have hd0 : d = 0 := by omega
        have hn0 : n = 0 := by
          rcases Hspec.out with h | h
          · simp only [Prod.mk.injEq] at h; exact h.2
          · omega
        subst hd0 hn0
        have hS1 : Hid ((s.extract A (A + 1)).size = 1) := cut_one hlt
        have cS : ∀ W, (Instr.slice 9 (.string s) (some (.int .i64 (A : Int))) (some (.int .i64 ((A : Int) + 1))) none).run Try.prog W = .ok (.string (s.extract A (A + 1))) W := fun W => by
          have := slice_mid s A (A + 1) (by omega) (by omega) W
          rw [show (((A + 1 : Nat)) : Int) = (A : Int) + 1 by omega] at this
          exact this
        cases hm : mor (lst l) with
        | true =>
          have hNm := Hmore.out hd hm
          have HNm : Hid _ := hNm
          have h0 := mor_ne hm
          obtain ⟨m, hml⟩ : ∃ m, l.length = m + 1 := ⟨l.length - 1, by omega⟩
          have hlst : lst l = gt l m := by unfold lst; rw [hml]; rfl
          obtain ⟨hfew, h64⟩ := Hfit.out m (by omega)
          have cM := fun W => l1In_mor (gt l m) W
          rw [← hlst, hm] at cM
          rw [hlst] at cM
          have HMo : Hid (∀ b, more l b = l.set m ⟨(gt l m).p ++ b, (gt l m).d, (gt l m).n⟩) := fun b => by unfold more; rw [hlst, hml]; rfl
          have Hml : Hid _ := hml
          have hcat : ¬ (9223372036854775807 < (gt l m).p.size + (s.extract A (A + 1)).size) := by rw [hS1.out]; omega
          clear Hfar Hmore Hnew Hspec Hfit hNm hm h0 hlst hd hfew
          have hP : Hid (∀ W, Below Z w W → OwnT W Z (.slice y (m + 1) c) l → ∃ g, y = some ⟨g, 0, none⟩ ∧ TkAt W g (m * 3) (gt l m) ∧ W.frozen? ⟨g, m * 3, none⟩ = false ∧ Z ≤ g ∧ g < W.heap.size ∧ ∀ (q : ByteArray) (W' : World), W'.heap[g]? = (W.setCell ⟨g, m * 3, none⟩ (.string q)).heap[g]? → OwnT W' Z (.slice y (m + 1) c) (l.set m ⟨q, (gt l m).d, (gt l m).n⟩)) := fun W _ h => OwnT.putp h (by rw [Hml.out]; omega)
          have OE : Hid (OwnT wr Z (.slice y (m + 1) c) l) := by show OwnT wr Z (.slice y (m + 1) c) l; rw [← hml]; exact HO.out
          rw [hml] at hrl ⊢
          clear hml HO
          obtain ⟨X, hX⟩ : ∃ X, gt l m = X := ⟨_, rfl⟩
          rw [hX] at cM hcat hP HMo h64
          clear hX
          obtain ⟨p, xd, xn⟩ := X
          simp only at hcat hP HMo cM h64
          obtain ⟨S, hS⟩ : ∃ S, s.extract A (A + 1) = S := ⟨_, rfl⟩
          rw [hS] at cS hcat hS1 HNm
          clear hS
          have ewm : IntKind.i64.wrap ((m : Int) + 1 - 1) = (m : Int) := by rw [wrapI (by omega) (by omega)]; omega
          have hmm : (m : Int) < (m : Int) + 1 := by omega
          go_wp2_with fail
          refine (cL _).mono ?_
          rintro e w1 ⟨rfl, b1⟩
          have hb1 := hb.trans (b1.mono hz)
          have hz1 := Nat.le_trans hz b1.size
          have O1 : Hid (OwnT w1 Z (.slice y (m + 1) c) l) := owns_below OE.out b1
          obtain ⟨g, rfl, ⟨t0, t1, t2⟩, f0, hZg, hgs, hput⟩ := hP.out w1 hb1 O1.out
          simp only at t0 t1 t2
          have HPut : Hid _ := hput
          clear cL hput hP t1 t2 OE O1
          go_wp2_with fail
          refine (cM _).mono ?_
          rintro e W9 ⟨rfl, e9⟩
          subst W9
          go_wp2_with fail
          go_region
          obtain ⟨W8, hW8⟩ : ∃ W8, (w1.setCell ⟨g, m * 3, none⟩ (.string (p ++ S))).drew = W8 := ⟨_, rfl⟩
          have O8 : Hid (OwnT W8 Z (.slice (some ⟨g, 0, none⟩) (m + 1) c) (l.set m ⟨p ++ S, xd, xn⟩)) := by subst hW8; exact HPut.out (p ++ S) _ rfl
          have b8 : Below Z w W8 := by subst hW8; exact (hb1.setCell hZg _).drew
          have z8 : Z ≤ W8.heap.size := Nat.le_trans Z0 b8.size
          rw [hW8]
          clear hW8 HPut
          go_wp2_with fail
          go_roundw
          case rel => exact ⟨k + 1, some ⟨g, 0, none⟩, c, HK.out, by rw [HN.out, HNm.out]; go_num, by rw [HN.out, HNm.out]; simp [more_len, Hml.out], by rw [HN.out, HNm.out]; exact (by show OwnT W8 Z _ (more l S); rw [more_len, Hml.out, HMo.out]; exact O8.out), b8, z8⟩
          case measure => simp [intOf]; omega
        | false =>
          have hNw := Hnew.out hd hm
          have HNw : Hid _ := hNw
          obtain ⟨M, hml⟩ : ∃ M, l.length = M := ⟨_, rfl⟩
          have Hml : Hid _ := hml
          have hMb : M ≤ 1000000 := by omega
          have hcases : M = 0 ∨ ∃ m, M = m + 1 := by
            cases M with
            | zero => exact .inl rfl
            | succ m => exact .inr ⟨m, rfl⟩
          have hMT : Hid (∀ m, M = m + 1 → (∀ W, Below Z w W → OwnT W Z (.slice y M c) l → (∃ g, y = some ⟨g, 0, none⟩ ∧ TkAt W g (m * 3) (gt l m))) ∧ (gt l m).p.size ≤ 64 ∧ ∀ W', Calls Try.prog 38 #[.int .i64 ((gt l m).p.size : Int), .int .i64 1, .int .i64 63] W' fun e w' => e = .returned (.bool false) ∧ w' = W') := fun m e => by
            have hlst : lst l = gt l m := by unfold lst; rw [Hml.out, e]; rfl
            refine ⟨fun W _ h => ?_, (Hfit.out m (by rw [Hml.out]; omega)).2, fun W' => ?_⟩
            · obtain ⟨g, e1, e2, -⟩ := OwnT.putp h (k := m) (by rw [Hml.out]; omega)
              exact ⟨g, e1, e2⟩
            · have h2 := l1In_mor (gt l m) W'
              rw [← hlst, hm] at h2
              rw [← hlst]; exact h2
          obtain ⟨S, hS⟩ : ∃ S, s.extract A (A + 1) = S := ⟨_, rfl⟩
          rw [hS] at cS HNw
          have OE : Hid (OwnT wr Z (.slice y M c) l) := by show OwnT wr Z (.slice y M c) l; rw [← hml]; exact HO.out
          rw [hml] at hrl ⊢
          clear Hfar Hmore Hnew Hspec Hfit hNw hm hS hml HO hd hS1
          rcases hcases with h0 | ⟨m, hMm⟩
          · have ewm : IntKind.i64.wrap ((M : Int) - 1) = -1 := by rw [wrapI (by omega) (by omega)]; omega
            clear h0 hMT
            go_wp2_with fail
            refine (cL _).mono ?_
            rintro e w1 ⟨rfl, b1⟩
            have hb1 := hb.trans (b1.mono hz)
            have hz1 := Nat.le_trans hz b1.size
            have O1 : Hid (OwnT w1 Z (.slice y M c) l) := owns_below OE.out b1
            clear cL OE
            have own2 : (w1.alloc (.cells #[.string S, .int .i64 0, .int .i64 0] 52)).ownsRow Z 52 3 (.slice y M c) M (css l) := by
              have h := owns_below (O1.out : w1.ownsRow Z 52 3 (.slice y M c) l.length (css l)) (below_alloc w1 (.cells #[.string S, .int .i64 0, .int .i64 0] 52))
              rw [Hml.out] at h; exact h
            have sr := srcT_one w1 ⟨S, 0, 0⟩ 52
            have hb3 : Below Z w (w1.alloc (.cells #[.string S, .int .i64 0, .int .i64 0] 52)) := hb1.trans ((below_alloc _ _).mono hz1)
            have hz3 : Z ≤ (w1.alloc (.cells #[.string S, .int .i64 0, .int .i64 0] 52)).heap.size := Nat.le_trans hz1 (below_alloc _ _).size
            have HL1 : Hid ((l ++ [(⟨S, 0, 0⟩ : Tk)]).length = M + 1) := by show _ = _; simp [Hml.out]
            go_wp2_with (at_builtin; refine wpList_append_src rfl _ _ 28 rfl Z 52 _ 3 32 Try.underlying28 infoTk rfl (by decide) (.slice y M c) M (css l) rfl own2 (some ⟨w1.heap.size, 0, none⟩) 1 1 (css [⟨S, 0, 0⟩]) rfl rfl sr (css_one _) (by omega) (by decide) hz3 ?_; intro v3 w3 own3 gr3; have b3 : Below Z w w3 := grown_on hb3 hz3 own2 gr3; have z3 : Z ≤ w3.heap.size := Nat.le_trans hz3 gr3.size; have O3 : Hid (w3.ownsRow Z 52 3 v3 (M + 1) (css l ++ css [⟨S, 0, 0⟩])) := own3; clear own3 gr3; obtain ⟨y3, c3, e3⟩ := owns_form O3.out; subst e3)
            go_roundw
            case rel => exact ⟨k + 1, y3, c3, HK.out, by rw [HN.out, HNw.out]; go_num, by rw [HN.out, HNw.out, HL1.out], by rw [HN.out, HNw.out, HL1.out]; exact OwnT.snoc (by rw [Hml.out]; exact O3.out), b3, z3⟩
            case measure => simp [intOf]; omega
          · obtain ⟨hAt, h64, cM⟩ := hMT.out m hMm
            have hmM : (m : Int) < (M : Int) := by omega
            have ewm : IntKind.i64.wrap ((M : Int) - 1) = (m : Int) := by rw [wrapI (by omega) (by omega)]; omega
            have HMt : Hid (∀ W, Below Z w W → OwnT W Z (.slice y M c) l → ∃ g, y = some ⟨g, 0, none⟩ ∧ TkAt W g (m * 3) (gt l m)) := hAt
            obtain ⟨Y, hY⟩ : ∃ Y, gt l m = Y := ⟨_, rfl⟩
            rw [hY] at cM HMt h64
            obtain ⟨yp, yd, yn⟩ := Y
            simp only at cM h64
            clear hMT hMm hY hAt
            go_wp2_with fail
            refine (cL _).mono ?_
            rintro e w1 ⟨rfl, b1⟩
            have hb1 := hb.trans (b1.mono hz)
            have hz1 := Nat.le_trans hz b1.size
            have O1 : Hid (OwnT w1 Z (.slice y M c) l) := owns_below OE.out b1
            obtain ⟨g0, rfl, ⟨t0, t1, t2⟩⟩ := HMt.out w1 hb1 O1.out
            simp only at t0 t1 t2
            clear cL OE
            go_wp2_with fail
            refine (cM _).mono ?_
            rintro e W9 ⟨rfl, e9⟩
            subst W9
            clear t0 t1 t2 cM
            have own2 : (w1.alloc (.cells #[.string S, .int .i64 0, .int .i64 0] 52)).ownsRow Z 52 3 (.slice (some ⟨g0, 0, none⟩) M c) M (css l) := by
              have h := owns_below (O1.out : w1.ownsRow Z 52 3 (.slice (some ⟨g0, 0, none⟩) M c) l.length (css l)) (below_alloc w1 (.cells #[.string S, .int .i64 0, .int .i64 0] 52))
              rw [Hml.out] at h; exact h
            have sr := srcT_one w1 ⟨S, 0, 0⟩ 52
            have hb3 : Below Z w (w1.alloc (.cells #[.string S, .int .i64 0, .int .i64 0] 52)) := hb1.trans ((below_alloc _ _).mono hz1)
            have hz3 : Z ≤ (w1.alloc (.cells #[.string S, .int .i64 0, .int .i64 0] 52)).heap.size := Nat.le_trans hz1 (below_alloc _ _).size
            have HL1 : Hid ((l ++ [(⟨S, 0, 0⟩ : Tk)]).length = M + 1) := by show _ = _; simp [Hml.out]
            go_wp2_with (at_builtin; refine wpList_append_src rfl _ _ 28 rfl Z 52 _ 3 32 Try.underlying28 infoTk rfl (by decide) (.slice (some ⟨g0, 0, none⟩) M c) M (css l) rfl own2 (some ⟨w1.heap.size, 0, none⟩) 1 1 (css [⟨S, 0, 0⟩]) rfl rfl sr (css_one _) (by omega) (by decide) hz3 ?_; intro v3 w3 own3 gr3; have b3 : Below Z w w3 := grown_on hb3 hz3 own2 gr3; have z3 : Z ≤ w3.heap.size := Nat.le_trans hz3 gr3.size; have O3 : Hid (w3.ownsRow Z 52 3 v3 (M + 1) (css l ++ css [⟨S, 0, 0⟩])) := own3; clear own3 gr3; obtain ⟨y3, c3, e3⟩ := owns_form O3.out; subst e3)
            go_roundw
            case rel => exact ⟨k + 1, y3, c3, HK.out, by rw [HN.out, HNw.out]; go_num, by rw [HN.out, HNw.out, HL1.out], by rw [HN.out, HNw.out, HL1.out]; exact OwnT.snoc (by rw [Hml.out]; exact O3.out), b3, z3⟩
            case measure => simp [intOf]; omega
    · have hUf : (run s k).1 = U := by rw [← HU.out]; exact run_end hk hlt
      have hlt' : ¬ ((run s k).2 : Int) < (s.size : Int) := by omega
      generalize run s k = x at *
      obtain ⟨l, A⟩ := x
      simp only at hUf hlt' HO ⊢
      subst hUf
      obtain ⟨n, hnl⟩ : ∃ n, l.length = n := ⟨_, rfl⟩
      have O1 : Hid (OwnT wr Z (.slice y n c) l) := by show OwnT wr Z (.slice y n c) l; rw [← hnl]; exact HO.out
      rw [hnl]
      clear HO hnl
      go_wp2_with fail
      go_ret
      exact ⟨hb, _, rfl, O1.out⟩
/-- What TokensOf tells. -/
def tkA (s : ByteArray) : List Tk := if s.size ≤ 600 then toks s else []
theorem implTok_any (s : ByteArray) (w : World) (hs : s.size ≤ 9223372036854775807) :
    Calls Try.prog 23 #[.string s] w fun e w' => Below w.heap.size w w' ∧ ∃ v, e = .returned (.tuple #[v, .bool (decide (s.size ≤ 600))]) ∧ OwnT w' w.heap.size v (tkA s) := by
  by_cases h : s.size ≤ 600
  · rw [decide_eq_true h, tkA, if_pos h]
    exact implToks_any s w h
  · rw [decide_eq_false h, tkA, if_neg h]
    have hl' : (600 : Int) < (s.size : Int) := by omega
    have o := OwnT.nil w w.heap.size
    clear h
    go_enter Try.func23, Try.ntmps23
    go_wp2
    go_ret2
    exact ⟨Below.refl _ _, _, rfl, o⟩
theorem specTok_any (s : ByteArray) (w : World) (hs : s.size ≤ 9223372036854775807) :
    Calls Try.prog 22 #[.string s] w fun e w' => Below w.heap.size w w' ∧ ∃ v, e = .returned (.tuple #[v, .bool (decide (s.size ≤ 600))]) ∧ OwnT w' w.heap.size v (tkA s) := by
  by_cases h : s.size ≤ 600
  · rw [decide_eq_true h, tkA, if_pos h]
    have hl' : ¬ (600 : Int) < (s.size : Int) := by omega
    have c1 := l16Tokens_any s w h
    clear h
    generalize toks s = U at *
    go_enter Try.func22, Try.ntmps22
    go_wp2_with fail
    refine c1.mono ?_
    rintro e w1 ⟨b1, v, rfl, o1⟩
    obtain ⟨x, cx, rfl⟩ := owns_form o1
    obtain ⟨n, hnl⟩ : ∃ n, U.length = n := ⟨_, rfl⟩
    have O1 : Hid (OwnT w1 w.heap.size (.slice x n cx) U) := by show OwnT w1 w.heap.size (.slice x n cx) U; rw [← hnl]; exact o1
    rw [hnl]
    clear o1 hnl
    go_wp2_with fail
    go_ret2
    exact ⟨b1, _, rfl, O1.out⟩
  · rw [decide_eq_false h, tkA, if_neg h]
    have hl' : (600 : Int) < (s.size : Int) := by omega
    have o := OwnT.nil w w.heap.size
    clear h
    go_enter Try.func22, Try.ntmps22
    go_wp2
    go_ret2
    exact ⟨Below.refl _ _, _, rfl, o⟩
theorem tkA_small (s : ByteArray) : (tkA s).length ≤ 1000000 := by
  unfold tkA
  split
  · have := toks_len s; omega
  · simp
end Go.Proofs.Ytodidnbghiinkaa
