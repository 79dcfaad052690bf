import Derived.Test.YtodidnbghiinkaaO2
import Derived.Test.YtodidnbghiinkaaU2
import Derived.Test.YtodidnbghiinkaaA3
/- The program's TokensOf. -/
namespace Go.Proofs.Ytodidnbghiinkaa
open Go.ChangeShapes Go.WideShapes Go.ChangeAt Go.RowKit
set_option linter.unusedVariables false
open Tz

attribute [local go_sem] Oper.semAt_some

/-- One step, by its three ways. -/
theorem run_far {s : ByteArray} {k : Nat} (h : (run s k).2 < s.size) (hd : 0 < (lgA s (run s k).2).1) : run s (k + 1) = ((run s k).1 ++ [⟨⟨#[]⟩, ((lgA s (run s k).2).1 : Int), ((lgA s (run s k).2).2 : Int)⟩], (run s k).2 + (lgA s (run s k).2).2) := by
  rw [run, stp, if_pos h, if_pos hd]
theorem run_more1 {s : ByteArray} {k : Nat} (h : (run s k).2 < s.size) (hd : ¬ 0 < (lgA s (run s k).2).1) (hm : mor (lst (run s k).1) = true) : run s (k + 1) = (more (run s k).1 (s.extract (run s k).2 ((run s k).2 + 1)), (run s k).2 + 1) := by
  rw [run, stp, if_pos h, if_neg hd, if_pos hm]
theorem run_new {s : ByteArray} {k : Nat} (h : (run s k).2 < s.size) (hd : ¬ 0 < (lgA s (run s k).2).1) (hm : mor (lst (run s k).1) = false) : run s (k + 1) = ((run s k).1 ++ [⟨s.extract (run s k).2 ((run s k).2 + 1), 0, 0⟩], (run s k).2 + 1) := by
  rw [run, stp, if_pos h, if_neg hd, if_neg (by rw [hm]; simp)]
/-- Tokens on the way have no more than 64 bytes each, and few of all. -/
theorem run_fit (s : ByteArray) (k : Nat) : ∀ i, i < (run s k).1.length → Few (gt (run s k).1 i) ∧ (gt (run s k).1 i).p.size ≤ 64 := fun i hi => by
  have h := okT_n (okA_T (gB_at hi (run_tol s k).good)).1
  exact ⟨⟨by omega, ⟨by omega, by omega⟩, ⟨by omega, by omega⟩⟩, h.2.2.1⟩
set_option maxRecDepth 20000 in
set_option maxHeartbeats 4000000 in
theorem implToks_any (s : ByteArray) (w : World) (hl : s.size ≤ 600) :
    Calls Try.prog 23 #[.string s] w fun e w' => Below w.heap.size w w' ∧ ∃ v, e = .returned (.tuple #[v, .bool true]) ∧ OwnT w' w.heap.size v (toks s) := by
  have hl' : ¬ (600 : Int) < (s.size : Int) := by omega
  obtain ⟨U, hU⟩ : ∃ U, toks s = U := ⟨_, rfl⟩
  rw [hU]
  have HU : Hid _ := hU
  clear hU
  obtain ⟨Z, hZ⟩ : ∃ Z, w.heap.size = Z := ⟨_, rfl⟩
  have B0 : Below Z w w := hZ ▸ Below.refl _ _
  have Z0 : Z ≤ w.heap.size := by omega
  rw [hZ]
  clear hZ
  go_enter Try.func23, Try.ntmps23
  go_wp2
  go_loopw [4, 5] (fun ll ii wr => ∃ (k : Nat) (y : Option Addr) (c : Nat), k ≤ s.size ∧ ii = .int .i64 ((run s k).2 : Nat) ∧ ll = .slice y (run s k).1.length c ∧ Hid (OwnT wr Z (.slice y (run s k).1.length c) (run s k).1) ∧ Below Z w wr ∧ Z ≤ wr.heap.size) (fun _ ii _ => s.size - (intOf ii).toNat)
  case atStart => exact ⟨0, none, 0, Nat.zero_le _, rfl, rfl, OwnT.nil _ _, B0, Z0⟩
  case round =>
    obtain ⟨k, y, c, hk, rfl, rfl, HO, hb, hz⟩ := hrel
    have hle := (run_tol s k).le
    have hrl := run_len s k
    by_cases hlt : (run s k).2 < s.size
    · have HK : Hid (k + 1 ≤ s.size) := run_lt hlt
      have cL := fun W => implLong_yes s (run s k).2 W hl hle
      have Hfar : Hid _ := run_far (s := s) (k := k) hlt
      have Hmore : Hid _ := run_more1 (s := s) (k := k) hlt
      have Hnew : Hid _ := run_new (s := s) (k := k) hlt
      have Hspec : Hid _ := lgA_spec s (run s k).2 hle
      have Hfit : Hid (∀ i, i < (run s k).1.length → Few (gt (run s k).1 i) ∧ (gt (run s k).1 i).p.size ≤ 64) := run_fit s k
      obtain ⟨N, hN⟩ : ∃ N, run s (k + 1) = N := ⟨_, rfl⟩
      have HN : Hid _ := hN
      rw [hN] at Hfar Hmore Hnew
      obtain ⟨x, hx⟩ : ∃ x, run s k = x := ⟨_, rfl⟩
      rw [hx] at cL Hfar Hmore Hnew Hspec Hfit HO hle hrl hlt ⊢
      obtain ⟨r, hr⟩ : ∃ r, lgA s x.2 = r := ⟨_, rfl⟩
      rw [hr] at cL Hfar Hmore Hnew Hspec
      clear hN hx hr
      obtain ⟨l, A⟩ := x
      obtain ⟨d, n⟩ := r
      simp only at cL Hfar Hmore Hnew Hspec Hfit HO hle hrl hlt ⊢
      have hlt' : (A : Int) < (s.size : Int) := by omega
      by_cases hd : 0 < d
      · obtain ⟨q1, q2, q3, q4, q5, q6⟩ : 1 ≤ d ∧ d ≤ A ∧ d ≤ 255 ∧ 3 ≤ n ∧ n ≤ 66 ∧ A + n ≤ s.size := by
          rcases Hspec.out with h | h
          · simp only [Prod.mk.injEq] at h; omega
          · exact ⟨h.1, h.2.1, h.2.2.1, h.2.2.2.1, h.2.2.2.2.1, h.2.2.2.2.2.1⟩
        have hNf := Hfar.out hd
        have HNf : Hid _ := hNf
        clear Hfar Hmore Hnew Hspec Hfit hNf
        go_wp2_with fail
        refine (cL _).mono ?_
        rintro e w1 ⟨rfl, b1⟩
        have hb1 := hb.trans (b1.mono hz)
        have hz1 := Nat.le_trans hz b1.size
        have own2 : (w1.alloc (.cells #[.string ⟨#[]⟩, .int .i64 (d : Int), .int .i64 (n : Int)] 52)).ownsRow Z 52 3 (.slice y l.length c) l.length (css l) := owns_below (owns_below HO.out b1) (below_alloc _ _)
        have sr := srcT_one w1 ⟨⟨#[]⟩, (d : Int), (n : Int)⟩ 52
        have hb3 : Below Z w (w1.alloc (.cells #[.string ⟨#[]⟩, .int .i64 (d : Int), .int .i64 (n : Int)] 52)) := hb1.trans ((below_alloc _ _).mono hz1)
        have hz3 : Z ≤ (w1.alloc (.cells #[.string ⟨#[]⟩, .int .i64 (d : Int), .int .i64 (n : Int)] 52)).heap.size := Nat.le_trans hz1 (below_alloc _ _).size
        have HL1 : Hid ((l ++ [(⟨⟨#[]⟩, (d : Int), (n : Int)⟩ : Tk)]).length = l.length + 1) := by show _ = _; simp
        have hn0 : (0 : Int) < (n : Int) := by omega
        obtain ⟨m, hml⟩ : ∃ m, l.length = m := ⟨_, rfl⟩
        have Hml : Hid _ := hml
        rw [hml] at own2 hrl HL1 ⊢
        clear hml HO cL
        go_wp2_with (at_builtin; refine wpList_append_src rfl _ _ 28 rfl Z 52 _ 3 32 Try.underlying28 infoTk rfl (by decide) (.slice y m c) m (css l) rfl own2 (some ⟨w1.heap.size, 0, none⟩) 1 1 (css [⟨⟨#[]⟩, (d : Int), (n : Int)⟩]) rfl rfl sr (css_one _) (by omega) (by decide) hz3 ?_; intro v3 w3 own3 gr3; have b3 : Below Z w w3 := grown_on hb3 hz3 own2 gr3; have z3 : Z ≤ w3.heap.size := Nat.le_trans hz3 gr3.size; have O3 : Hid (w3.ownsRow Z 52 3 v3 (m + 1) (css l ++ css [⟨⟨#[]⟩, (d : Int), (n : Int)⟩])) := own3; clear own3 gr3; obtain ⟨y3, c3, e3⟩ := owns_form O3.out; subst e3)
        go_roundw
        case rel => exact ⟨k + 1, y3, c3, HK.out, by rw [HN.out, HNf.out]; go_num, by rw [HN.out, HNf.out, HL1.out], by rw [HN.out, HNf.out, HL1.out]; exact OwnT.snoc (by rw [Hml.out]; exact O3.out), b3, z3⟩
        case measure => simp [intOf]; omega
      · have hd0 : d = 0 := by omega
        have hn0 : n = 0 := by
          rcases Hspec.out with h | h
          · simp only [Prod.mk.injEq] at h; exact h.2
          · omega
        subst hd0 hn0
        have hS1 : Hid ((s.extract A (A + 1)).size = 1) := cut_one hlt
        have cS : ∀ W, (Instr.slice 9 (.string s) (some (.int .i64 (A : Int))) (some (.int .i64 ((A : Int) + 1))) none).run Try.prog W = .ok (.string (s.extract A (A + 1))) W := fun W => by
          have := slice_mid s A (A + 1) (by omega) (by omega) W
          rw [show (((A + 1 : Nat)) : Int) = (A : Int) + 1 by omega] at this
          exact this
        cases hm : mor (lst l) with
        | true =>
          have hNm := Hmore.out hd hm
          have HNm : Hid _ := hNm
          have h0 := mor_ne hm
          obtain ⟨m, hml⟩ : ∃ m, l.length = m + 1 := ⟨l.length - 1, by omega⟩
          have hlst : lst l = gt l m := by unfold lst; rw [hml]; rfl
          obtain ⟨hfew, h64⟩ := Hfit.out m (by omega)
          have cM := fun W => takesMore_any (gt l m) W hfew
          rw [← hlst, hm] at cM
          rw [hlst] at cM
          have HMo : Hid (∀ b, more l b = l.set m ⟨(gt l m).p ++ b, (gt l m).d, (gt l m).n⟩) := fun b => by unfold more; rw [hlst, hml]; rfl
          have Hml : Hid _ := hml
          have hcat : ¬ (9223372036854775807 < (gt l m).p.size + (s.extract A (A + 1)).size) := by rw [hS1.out]; omega
          clear Hfar Hmore Hnew Hspec Hfit hNm hm h0 hlst hd hfew h64
          have hP : Hid (∀ W, Below Z w W → OwnT W Z (.slice y (m + 1) c) l → ∃ g, y = some ⟨g, 0, none⟩ ∧ TkAt W g (m * 3) (gt l m) ∧ W.frozen? ⟨g, m * 3, none⟩ = false ∧ Z ≤ g ∧ g < W.heap.size ∧ ∀ (q : ByteArray) (W' : World), W'.heap[g]? = (W.setCell ⟨g, m * 3, none⟩ (.string q)).heap[g]? → OwnT W' Z (.slice y (m + 1) c) (l.set m ⟨q, (gt l m).d, (gt l m).n⟩)) := fun W _ h => OwnT.putp h (by rw [Hml.out]; omega)
          have OE : Hid (OwnT wr Z (.slice y (m + 1) c) l) := by show OwnT wr Z (.slice y (m + 1) c) l; rw [← hml]; exact HO.out
          rw [hml] at hrl ⊢
          clear hml HO
          obtain ⟨X, hX⟩ : ∃ X, gt l m = X := ⟨_, rfl⟩
          rw [hX] at cM hcat hP HMo
          clear hX
          obtain ⟨p, xd, xn⟩ := X
          simp only at hcat hP HMo
          obtain ⟨S, hS⟩ : ∃ S, s.extract A (A + 1) = S := ⟨_, rfl⟩
          rw [hS] at cS hcat hS1 HNm
          clear hS
          have ewm : IntKind.i64.wrap ((m : Int) + 1 - 1) = (m : Int) := by rw [wrapI (by omega) (by omega)]; omega
          have ewm' : IntKind.i64.wrap (((m + 1 : Nat) : Int) - 1) = (m : Int) := by rw [wrapI (by omega) (by omega)]; omega
          have hmm : (m : Int) < (m : Int) + 1 := by omega
          have hne : ¬ ((m : Int) + 1 = 0) := by omega
          go_wp2_with fail
          refine (cL _).mono ?_
          rintro e w1 ⟨rfl, b1⟩
          have hb1 := hb.trans (b1.mono hz)
          have hz1 := Nat.le_trans hz b1.size
          have O1 : Hid (OwnT w1 Z (.slice y (m + 1) c) l) := owns_below OE.out b1
          obtain ⟨g, rfl, ⟨t0, t1, t2⟩, -, -, -, -⟩ := hP.out w1 hb1 O1.out
          simp only at t0 t1 t2
          clear cL
          go_wp2_with fail
          refine (cM _).mono ?_
          rintro e w2 ⟨rfl, b2⟩
          have hb2 := hb1.trans (b2.mono hz1)
          have hz2 := Nat.le_trans hz1 b2.size
          clear t0 t1 t2 cM
          obtain ⟨g', eg, ⟨t0, t1, t2⟩, f0, hZg, hgs, hput⟩ := hP.out w2 hb2 (owns_below O1.out b2)
          have eg' : g = g' := by simp at eg; exact eg
          subst eg'
          have HPut : Hid _ := hput
          simp only at t0 t1 t2
          clear eg hput hP OE O1 t1 t2
          go_wp2_with fail
          go_region
          obtain ⟨W8, hW8⟩ : ∃ W8, (w2.setCell ⟨g, m * 3, none⟩ (.string (p ++ S))).drew = W8 := ⟨_, rfl⟩
          have O8 : Hid (OwnT W8 Z (.slice (some ⟨g, 0, none⟩) (m + 1) c) (l.set m ⟨p ++ S, xd, xn⟩)) := by subst hW8; exact HPut.out (p ++ S) _ rfl
          have b8 : Below Z w W8 := by subst hW8; exact (hb2.setCell hZg _).drew
          have z8 : Z ≤ W8.heap.size := Nat.le_trans Z0 b8.size
          rw [hW8]
          clear hW8 HPut
          go_wp2_with fail
          go_roundw
          case rel => exact ⟨k + 1, some ⟨g, 0, none⟩, c, HK.out, by rw [HN.out, HNm.out]; go_num, by rw [HN.out, HNm.out]; simp [more_len, Hml.out], by rw [HN.out, HNm.out]; exact (by show OwnT W8 Z _ (more l S); rw [more_len, Hml.out, HMo.out]; exact O8.out), b8, z8⟩
          case measure => simp [intOf]; omega
        | false =>
          have hNw := Hnew.out hd hm
          have HNw : Hid _ := hNw
          obtain ⟨M, hml⟩ : ∃ M, l.length = M := ⟨_, rfl⟩
          have Hml : Hid _ := hml
          have HSet : Hid ((l ++ [tk0]).set M ⟨(gt (l ++ [tk0]) M).p ++ s.extract A (A + 1), (gt (l ++ [tk0]) M).d, (gt (l ++ [tk0]) M).n⟩ = l ++ [⟨s.extract A (A + 1), 0, 0⟩]) := by
            show _ = _
            rw [← hml, gt_last, set_last]
            have e : (tk0.p ++ s.extract A (A + 1)) = s.extract A (A + 1) := by apply bt_ext; rw [bt_app]; rfl
            rw [e]; rfl
          have hcat : ¬ (9223372036854775807 < (gt (l ++ [tk0]) M).p.size + (s.extract A (A + 1)).size) := by rw [hS1.out, ← hml, gt_last]; decide
          have hP : Hid (∀ W y5 c5, Below Z w W → W.ownsRow Z 52 3 (.slice y5 (M + 1) c5) (M + 1) (css l ++ css [tk0]) → ∃ g, y5 = some ⟨g, 0, none⟩ ∧ TkAt W g (M * 3) (gt (l ++ [tk0]) M) ∧ W.frozen? ⟨g, M * 3, none⟩ = false ∧ Z ≤ g ∧ g < W.heap.size ∧ ∀ (q : ByteArray) (W' : World), W'.heap[g]? = (W.setCell ⟨g, M * 3, none⟩ (.string q)).heap[g]? → OwnT W' Z (.slice y5 (M + 1) c5) ((l ++ [tk0]).set M ⟨q, (gt (l ++ [tk0]) M).d, (gt (l ++ [tk0]) M).n⟩)) := fun W y5 c5 _ h => OwnT.putp (OwnT.snoc (by rw [Hml.out]; exact h)) (by rw [← Hml.out]; simp)
          have hMb : M ≤ 1000000 := by omega
          have hcases : M = 0 ∨ ∃ m, M = m + 1 := by
            cases M with
            | zero => exact .inl rfl
            | succ m => exact .inr ⟨m, rfl⟩
          have hMT : Hid (∀ m, M = m + 1 → ∀ W, Below Z w W → OwnT W Z (.slice y M c) l → (∃ g, y = some ⟨g, 0, none⟩ ∧ TkAt W g (m * 3) (gt l m)) ∧ ∀ W', Calls Try.prog 47 #[tv (gt l m)] W' fun e w' => e = .returned (.bool false) ∧ Below W'.heap.size W' w') := fun m e W hbW h => by
            have hlst : lst l = gt l m := by unfold lst; rw [Hml.out, e]; rfl
            obtain ⟨g, e1, e2, -⟩ := OwnT.putp h (k := m) (by rw [Hml.out]; omega)
            refine ⟨⟨g, e1, e2⟩, fun W' => ?_⟩
            have h2 := takesMore_any (gt l m) W' (Hfit.out m (by rw [Hml.out]; omega)).1
            rw [← hlst, hm] at h2
            rw [← hlst]; exact h2
          obtain ⟨X, hX⟩ : ∃ X, gt (l ++ [tk0]) M = X := ⟨_, rfl⟩
          rw [hX] at hcat hP HSet
          obtain ⟨p, xd, xn⟩ := X
          simp only at hcat hP HSet
          obtain ⟨S, hS⟩ : ∃ S, s.extract A (A + 1) = S := ⟨_, rfl⟩
          rw [hS] at cS hcat HSet HNw
          have OE : Hid (OwnT wr Z (.slice y M c) l) := by show OwnT wr Z (.slice y M c) l; rw [← hml]; exact HO.out
          rw [hml] at hrl ⊢
          clear Hfar Hmore Hnew Hspec Hfit hNw hm hX hS hml HO hd hS1
          have ewM : IntKind.i64.wrap ((M : Int) + 1 - 1) = (M : Int) := by rw [wrapI (by omega) (by omega)]; omega
          have hMM : (M : Int) < (M : Int) + 1 := by omega
          rcases hcases with h0 | ⟨m, hMm⟩
          · have h0' : ((M : Int) == 0) = true := by simp; omega
            clear h0 hMT
            go_wp2_with fail
            refine (cL _).mono ?_
            rintro e w1 ⟨rfl, b1⟩
            have hb1 := hb.trans (b1.mono hz)
            have hz1 := Nat.le_trans hz b1.size
            have O1 : Hid (OwnT w1 Z (.slice y M c) l) := owns_below OE.out b1
            clear cL OE
            have own2 : (w1.alloc (.cells #[.string ⟨#[]⟩, .int .i64 0, .int .i64 0] 52)).ownsRow Z 52 3 (.slice y M c) M (css l) := by
              have h := owns_below (O1.out : w1.ownsRow Z 52 3 (.slice y M c) l.length (css l)) (below_alloc w1 (.cells #[.string ⟨#[]⟩, .int .i64 0, .int .i64 0] 52))
              rw [Hml.out] at h; exact h
            have sr := srcT_one w1 tk0 52
            have hb3 : Below Z w (w1.alloc (.cells #[.string ⟨#[]⟩, .int .i64 0, .int .i64 0] 52)) := hb1.trans ((below_alloc _ _).mono hz1)
            have hz3 : Z ≤ (w1.alloc (.cells #[.string ⟨#[]⟩, .int .i64 0, .int .i64 0] 52)).heap.size := Nat.le_trans hz1 (below_alloc _ _).size
            go_wp2_with (at_builtin; refine wpList_append_src rfl _ _ 28 rfl Z 52 _ 3 32 Try.underlying28 infoTk rfl (by decide) (.slice y M c) M (css l) rfl own2 (some ⟨w1.heap.size, 0, none⟩) 1 1 (css [tk0]) rfl rfl sr (css_one _) (by omega) (by decide) hz3 ?_; intro v5 w5 own5 gr5; have b5 : Below Z w w5 := grown_on hb3 hz3 own2 gr5; have z5 : Z ≤ w5.heap.size := Nat.le_trans hz3 gr5.size; have O5 : Hid (w5.ownsRow Z 52 3 v5 (M + 1) (css l ++ css [tk0])) := own5; clear own5 gr5; obtain ⟨y5, c5, e5⟩ := owns_form O5.out; subst e5; obtain ⟨g, ey, ⟨t0, t1, t2⟩, f0, hZg, hgs, hput⟩ := hP.out w5 y5 c5 b5 O5.out; subst ey; have HPut : Hid _ := hput; simp only at t0 t1 t2; clear hput hP t1 t2)
            go_region
            obtain ⟨W8, hW8⟩ : ∃ W8, (w5.setCell ⟨g, M * 3, none⟩ (.string (p ++ S))).drew = W8 := ⟨_, rfl⟩
            have O8 : Hid (OwnT W8 Z (.slice (some ⟨g, 0, none⟩) (M + 1) c5) ((l ++ [tk0]).set M ⟨p ++ S, xd, xn⟩)) := by subst hW8; exact HPut.out (p ++ S) _ rfl
            have b8 : Below Z w W8 := by subst hW8; exact (b5.setCell hZg _).drew
            have z8 : Z ≤ W8.heap.size := Nat.le_trans Z0 b8.size
            rw [hW8]
            clear hW8 HPut
            go_wp2_with fail
            go_roundw
            case rel => exact ⟨k + 1, some ⟨g, 0, none⟩, c5, HK.out, by rw [HN.out, HNw.out]; go_num, by rw [HN.out, HNw.out]; simp [Hml.out], by rw [HN.out, HNw.out]; exact (by show OwnT W8 Z _ (l ++ [⟨S, 0, 0⟩]); rw [← HSet.out, List.length_set, List.length_append, Hml.out]; exact O8.out), b8, z8⟩
            case measure => simp [intOf]; omega
          · obtain ⟨-, cM⟩ := hMT.out m hMm wr hb OE.out
            have hmM : (m : Int) < (M : Int) := by omega
            have ewm : IntKind.i64.wrap ((M : Int) - 1) = (m : Int) := by rw [wrapI (by omega) (by omega)]; omega
            have h0' : ((M : Int) == 0) = false := by simp; omega
            have HMt : Hid (∀ W, Below Z w W → OwnT W Z (.slice y M c) l → ∃ g, y = some ⟨g, 0, none⟩ ∧ TkAt W g (m * 3) (gt l m)) := fun W h1 h2 => (hMT.out m hMm W h1 h2).1
            obtain ⟨Y, hY⟩ : ∃ Y, gt l m = Y := ⟨_, rfl⟩
            rw [hY] at cM HMt
            obtain ⟨yp, yd, yn⟩ := Y
            clear hMT hMm hY
            go_wp2_with fail
            refine (cL _).mono ?_
            rintro e w1 ⟨rfl, b1⟩
            have hb1 := hb.trans (b1.mono hz)
            have hz1 := Nat.le_trans hz b1.size
            have O1 : Hid (OwnT w1 Z (.slice y M c) l) := owns_below OE.out b1
            obtain ⟨g0, rfl, ⟨t0, t1, t2⟩⟩ := HMt.out w1 hb1 O1.out
            simp only at t0 t1 t2
            clear cL OE
            go_wp2_with fail
            refine (cM _).mono ?_
            rintro e w2 ⟨rfl, b2⟩
            have hb2 := hb1.trans (b2.mono hz1)
            have hz2 := Nat.le_trans hz1 b2.size
            have O2 : Hid (OwnT w2 Z (.slice (some ⟨g0, 0, none⟩) M c) l) := owns_below O1.out b2
            clear t0 t1 t2 cM O1
            have own2 : (w2.alloc (.cells #[.string ⟨#[]⟩, .int .i64 0, .int .i64 0] 52)).ownsRow Z 52 3 (.slice (some ⟨g0, 0, none⟩) M c) M (css l) := by
              have h := owns_below (O2.out : w2.ownsRow Z 52 3 (.slice (some ⟨g0, 0, none⟩) M c) l.length (css l)) (below_alloc w2 (.cells #[.string ⟨#[]⟩, .int .i64 0, .int .i64 0] 52))
              rw [Hml.out] at h; exact h
            have sr := srcT_one w2 tk0 52
            have hb3 : Below Z w (w2.alloc (.cells #[.string ⟨#[]⟩, .int .i64 0, .int .i64 0] 52)) := hb2.trans ((below_alloc _ _).mono hz2)
            have hz3 : Z ≤ (w2.alloc (.cells #[.string ⟨#[]⟩, .int .i64 0, .int .i64 0] 52)).heap.size := Nat.le_trans hz2 (below_alloc _ _).size
            go_wp2_with (at_builtin; refine wpList_append_src rfl _ _ 28 rfl Z 52 _ 3 32 Try.underlying28 infoTk rfl (by decide) (.slice (some ⟨g0, 0, none⟩) M c) M (css l) rfl own2 (some ⟨w2.heap.size, 0, none⟩) 1 1 (css [tk0]) rfl rfl sr (css_one _) (by omega) (by decide) hz3 ?_; intro v5 w5 own5 gr5; have b5 : Below Z w w5 := grown_on hb3 hz3 own2 gr5; have z5 : Z ≤ w5.heap.size := Nat.le_trans hz3 gr5.size; have O5 : Hid (w5.ownsRow Z 52 3 v5 (M + 1) (css l ++ css [tk0])) := own5; clear own5 gr5; obtain ⟨y5, c5, e5⟩ := owns_form O5.out; subst e5; obtain ⟨g, ey, ⟨t0, t1, t2⟩, f0, hZg, hgs, hput⟩ := hP.out w5 y5 c5 b5 O5.out; subst ey; have HPut : Hid _ := hput; simp only at t0 t1 t2; clear hput hP t1 t2)
            go_region
            obtain ⟨W8, hW8⟩ : ∃ W8, (w5.setCell ⟨g, M * 3, none⟩ (.string (p ++ S))).drew = W8 := ⟨_, rfl⟩
            have O8 : Hid (OwnT W8 Z (.slice (some ⟨g, 0, none⟩) (M + 1) c5) ((l ++ [tk0]).set M ⟨p ++ S, xd, xn⟩)) := by subst hW8; exact HPut.out (p ++ S) _ rfl
            have b8 : Below Z w W8 := by subst hW8; exact (b5.setCell hZg _).drew
            have z8 : Z ≤ W8.heap.size := Nat.le_trans Z0 b8.size
            rw [hW8]
            clear hW8 HPut
            go_wp2_with fail
            go_roundw
            case rel => exact ⟨k + 1, some ⟨g, 0, none⟩, c5, HK.out, by rw [HN.out, HNw.out]; go_num, by rw [HN.out, HNw.out]; simp [Hml.out], by rw [HN.out, HNw.out]; exact (by show OwnT W8 Z _ (l ++ [⟨S, 0, 0⟩]); rw [← HSet.out, List.length_set, List.length_append, Hml.out]; exact O8.out), b8, z8⟩
            case measure => simp [intOf]; omega
    · have hUf : (run s k).1 = U := by rw [← HU.out]; exact run_end hk hlt
      have hlt' : ¬ ((run s k).2 : Int) < (s.size : Int) := by omega
      generalize run s k = x at *
      obtain ⟨l, A⟩ := x
      simp only at hUf hlt' HO ⊢
      subst hUf
      obtain ⟨n, hnl⟩ : ∃ n, l.length = n := ⟨_, rfl⟩
      have O1 : Hid (OwnT wr Z (.slice y n c) l) := by show OwnT wr Z (.slice y n c) l; rw [← hnl]; exact HO.out
      rw [hnl]
      clear HO hnl
      go_wp2_with fail
      go_ret2
      exact ⟨hb, _, rfl, O1.out⟩
end Go.Proofs.Ytodidnbghiinkaa
