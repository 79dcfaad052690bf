import Derived.Test.YtodidnbghiinkaaU2
import Derived.Test.YtodidnbghiinkaaG1
/- The specification's UnpackTokens. -/
namespace Go.Proofs.Ytodidnbghiinkaa
open Go.ChangeShapes Go.WideShapes Go.ChangeAt Go.RowKit
set_option linter.unusedVariables false
open Tz

attribute [local go_sem] Oper.semAt_some

set_option maxRecDepth 20000 in
set_option maxHeartbeats 4000000 in
theorem l16Unpack_any (s : ByteArray) (w : World) (hs12 : s.size ≤ 1200) :
    Calls Try.prog 53 #[.string s] w fun e w' => Below w.heap.size w w' ∧ ∃ v, e = .returned (.tuple #[v, .bool (unp s).2]) ∧ OwnT w' w.heap.size v (unp s).1 := by
  have HZ0 : Hid (rst s 0 = s) := rst_zero s
  obtain ⟨U, hU⟩ : ∃ U, unp s = U := ⟨_, rfl⟩
  rw [hU]
  have HU : Hid _ := hU
  clear hU
  obtain ⟨Z, hZ⟩ : ∃ Z, w.heap.size = Z := ⟨_, rfl⟩
  have B0 : Below Z w w := hZ ▸ Below.refl _ _
  have Z0 : Z ≤ w.heap.size := by omega
  rw [hZ]
  clear hZ
  go_enter Try.func53, Try.ntmps53
  go_wp2
  go_loopw [0, 4] (fun ss ll wr => ∃ (p : Nat) (y : Option Addr) (c : Nat) (l : List Tk), ss = .string (rst s p) ∧ ll = .slice y l.length c ∧ Hid (OwnT wr Z (.slice y l.length c) l) ∧ Hid (Rd s l p) ∧ Below Z w wr ∧ Z ≤ wr.heap.size) (fun ss _ _ => szOf ss)
  case atStart => exact ⟨0, none, 0, [], by rw [HZ0.out], rfl, OwnT.nil _ _, Rd.zero s, B0, Z0⟩
  case round =>
    obtain ⟨p, y, c, l, rfl, rfl, HO, HR, hb, hz⟩ := hrel
    have hp := HR.out.le
    have hrz : (rst s p).size = s.size - p := rst_size hp
    have hll := HR.out.len
    by_cases hlt : p < s.size
    · have HStep : Hid (¬ (rst s p).size < fstL (rst s p) → Rd s (l ++ [fstT (rst s p)]) (p + fstL (rst s p))) := fun h => HR.out.step hlt h
      have HNone : Hid ((rst s p).size < fstL (rst s p) → unp s = ([], false)) := fun h => HR.out.none hlt h
      have HCut : Hid (rst s (p + fstL (rst s p)) = (rst s p).extract (fstL (rst s p)) (rst s p).size) := (rst_rst hp).symm
      have HCS : Hid (¬ (rst s p).size < fstL (rst s p) → ∀ W, (Instr.slice 9 (.string (rst s p)) (some (.int .i64 (fstL (rst s p) : Nat))) none none).run Try.prog W = .ok (.string ((rst s p).extract (fstL (rst s p)) (rst s p).size)) W) := fun h W => slice_end (rst s p) (fstL (rst s p)) (by omega) W
      have hzn : Hid ((rst s (p + fstL (rst s p))).size < (rst s p).size ∨ (rst s p).size < fstL (rst s p)) := by
        have hL2 := fstL_le (rst s p)
        by_cases h : (rst s p).size < fstL (rst s p)
        · exact .inr h
        · exact .inl (by rw [rst_size (by omega)]; omega)
      obtain ⟨r, hr⟩ : ∃ r, rst s p = r := ⟨_, rfl⟩
      rw [hr] at HStep HNone HCut HCS hrz hzn ⊢
      have hr0 : 0 < r.size := by omega
      have hr0' : (0 : Int) < (r.size : Int) := by omega
      have x0 := run_idx' r 0 0 (by omega) hr0
      have hc0 := (ch r 0).toNat_lt
      clear hr
      by_cases h64 : (ch r 0).toNat < 64
      · have hL : fstL r = (ch r 0).toNat + 2 := by unfold fstL; rw [if_pos h64]
        obtain ⟨H, hH⟩ : ∃ H, (ch r 0).toNat = H := ⟨_, rfl⟩
        have h64' : (H : Int) < 64 := by omega
        have ew : IntKind.i64.wrap ((H : Int) + 2) = (H : Int) + 2 := wrapI (by omega) (by omega)
        by_cases hs : r.size < H + 2
        · have hs' : (r.size : Int) < (H : Int) + 2 := by omega
          rw [hH] at x0 hc0 hL h64
          clear hH
          have hUn : U = ([], false) := by rw [← HU.out]; exact HNone.out (by rw [hL]; omega)
          subst hUn
          clear HStep HNone HCut HCS hzn hs hr0 hL h64
          go_wp2_with fail
          go_ret2
          exact ⟨hb, _, rfl, OwnT.nil _ _⟩
        · have hs' : ¬ (r.size : Int) < (H : Int) + 2 := by omega
          have hT : fstT r = ⟨r.extract 1 (H + 2), 0, 0⟩ := by unfold fstT; rw [if_pos h64, hH, if_neg hs]
          rw [hH] at x0 hc0 hL h64
          have cE : ∀ W, (Instr.slice 9 (.string r) (some (.int .i64 1)) (some (.int .i64 ((H : Int) + 2))) none).run Try.prog W = .ok (.string (r.extract 1 (H + 2))) W := fun W => by
            have := slice_mid r 1 (H + 2) (by omega) (by omega) W
            rw [show (((1 : Nat)) : Int) = 1 by rfl, show (((H + 2 : Nat)) : Int) = (H : Int) + 2 by omega] at this
            exact this
          obtain ⟨S, hS⟩ : ∃ S, r.extract 1 (H + 2) = S := ⟨_, rfl⟩
          rw [hS] at hT cE
          clear hS hH
          have hs'F : ¬ r.size < (H + 2) := by omega
          have HLe : Hid (fstL r = (H + 2)) := hL
          have HR1 : Hid _ := HStep.out (by rw [hL]; exact hs'F)
          have cS := HCS.out (by rw [hL]; exact hs'F)
          rw [hT, hL] at HR1
          rw [hL] at cS
          have own2 : (wr.alloc (.cells #[.string S, .int .i64 0, .int .i64 0] 52)).ownsRow Z 52 3 (.slice y l.length c) l.length (css l) := owns_below HO.out (below_alloc _ _)
          have sr := srcT_one wr ⟨S, 0, 0⟩ 52
          have hb3 : Below Z w (wr.alloc (.cells #[.string S, .int .i64 0, .int .i64 0] 52)) := hb.trans ((below_alloc _ _).mono hz)
          have hz3 : Z ≤ (wr.alloc (.cells #[.string S, .int .i64 0, .int .i64 0] 52)).heap.size := Nat.le_trans hz (below_alloc _ _).size
          have hzs : (rst s (p + (H + 2))).size < r.size := by
            have := hzn.out
            rw [hL] at this
            rcases this with h | h
            · exact h
            · exact absurd h hs'F
          have HLs : Hid (rst s (p + (H + 2)) = r.extract (H + 2) r.size) := by have := HCut.out; rw [hL] at this; exact this
          rw [HLs.out] at hzs
          have HL1 : Hid ((l ++ [(⟨S, 0, 0⟩ : Tk)]).length = l.length + 1) := by show _ = _; simp
          have hlen : l.length ≤ 1000000 := by omega
          clear HStep HNone HCut HCS hzn hs'F hr0 HO HR hp hrz hll hlt hT hL HLe h64 hs
          generalize r.extract (H + 2) r.size = r' at *
          obtain ⟨n, hnl⟩ : ∃ n, l.length = n := ⟨_, rfl⟩
          have Hnl : Hid _ := hnl
          rw [hnl] at own2 hlen HL1 ⊢
          clear hnl
          have cS' := cS
          rw [show (((H + 2 : Nat)) : Int) = (H : Int) + 2 by omega] at cS'
          clear cS
          go_wp2_with (at_builtin; refine wpList_append_src rfl _ _ 28 rfl Z 52 _ 3 32 Try.underlying28 infoTk rfl (by decide) (.slice y n c) n (css l) rfl own2 (some ⟨wr.heap.size, 0, none⟩) 1 1 (css [⟨S, 0, 0⟩]) rfl rfl sr (css_one _) (by omega) (by decide) hz3 ?_; intro v3 w3 own3 gr3; have b3 : Below Z w w3 := grown_on hb3 hz3 own2 gr3; have z3 : Z ≤ w3.heap.size := Nat.le_trans hz3 gr3.size; have O3 : Hid (w3.ownsRow Z 52 3 v3 (n + 1) (css l ++ css [⟨S, 0, 0⟩])) := own3; clear own3 gr3; obtain ⟨y3, c3, e3⟩ := owns_form O3.out; subst e3)
          go_roundw
          case rel => exact ⟨p + (H + 2), y3, c3, l ++ [⟨S, 0, 0⟩], by rw [HLs.out], by rw [HL1.out], by rw [HL1.out]; exact OwnT.snoc (by rw [Hnl.out]; exact O3.out), HR1, b3, z3⟩
          case measure => rw [szOf_str, szOf_str]; exact hzs
      · have hL : fstL r = 2 := by unfold fstL; rw [if_neg h64]
        obtain ⟨H, hH⟩ : ∃ H, (ch r 0).toNat = H := ⟨_, rfl⟩
        have h64' : ¬ (H : Int) < 64 := by omega
        by_cases hs : r.size < 2
        · have hs' : (r.size : Int) < 2 := by omega
          rw [hH] at x0 hc0 h64
          clear hH
          have hUn : U = ([], false) := by rw [← HU.out]; exact HNone.out (by rw [hL]; omega)
          subst hUn
          clear HStep HNone HCut HCS hzn hs hr0 hL h64
          go_wp2_with fail
          go_ret2
          exact ⟨hb, _, rfl, OwnT.nil _ _⟩
        · have hs' : ¬ (r.size : Int) < 2 := by omega
          obtain ⟨K, hK⟩ : ∃ K, (ch r 1).toNat = K := ⟨_, rfl⟩
          obtain ⟨M, hM⟩ : ∃ M, H - 61 = M := ⟨_, rfl⟩
          have hT : fstT r = ⟨⟨#[]⟩, (K : Int), (M : Int)⟩ := by unfold fstT; rw [if_neg h64, if_neg hs, hH, hK, hM]
          rw [hH] at x0 hc0 h64
          have x1 := run_idx' r 1 1 (by omega) (by omega)
          have hc1 := (ch r 1).toNat_lt
          rw [hK] at x1 hc1
          have ew2 : IntKind.i64.wrap ((H : Int) - 64) = (H : Int) - 64 := wrapI (by omega) (by omega)
          have ew3 : IntKind.i64.wrap ((H : Int) - 64 + 3) = (M : Int) := by rw [wrapI (by omega) (by omega)]; omega
          clear hH hK hM
          have hs'F : ¬ r.size < 2 := by omega
          have HLe : Hid (fstL r = 2) := hL
          have HR1 : Hid _ := HStep.out (by rw [hL]; exact hs'F)
          have cS := HCS.out (by rw [hL]; exact hs'F)
          rw [hT, hL] at HR1
          rw [hL] at cS
          have own2 : (wr.alloc (.cells #[.string ⟨#[]⟩, .int .i64 (K : Int), .int .i64 (M : Int)] 52)).ownsRow Z 52 3 (.slice y l.length c) l.length (css l) := owns_below HO.out (below_alloc _ _)
          have sr := srcT_one wr ⟨⟨#[]⟩, (K : Int), (M : Int)⟩ 52
          have hb3 : Below Z w (wr.alloc (.cells #[.string ⟨#[]⟩, .int .i64 (K : Int), .int .i64 (M : Int)] 52)) := hb.trans ((below_alloc _ _).mono hz)
          have hz3 : Z ≤ (wr.alloc (.cells #[.string ⟨#[]⟩, .int .i64 (K : Int), .int .i64 (M : Int)] 52)).heap.size := Nat.le_trans hz (below_alloc _ _).size
          have hzs : (rst s (p + 2)).size < r.size := by
            have := hzn.out
            rw [hL] at this
            rcases this with h | h
            · exact h
            · exact absurd h hs'F
          have HLs : Hid (rst s (p + 2) = r.extract 2 r.size) := by have := HCut.out; rw [hL] at this; exact this
          rw [HLs.out] at hzs
          have HL1 : Hid ((l ++ [(⟨⟨#[]⟩, (K : Int), (M : Int)⟩ : Tk)]).length = l.length + 1) := by show _ = _; simp
          have hlen : l.length ≤ 1000000 := by omega
          clear HStep HNone HCut HCS hzn hs'F hr0 HO HR hp hrz hll hlt hT hL HLe h64 hs
          generalize r.extract 2 r.size = r' at *
          obtain ⟨n, hnl⟩ : ∃ n, l.length = n := ⟨_, rfl⟩
          have Hnl : Hid _ := hnl
          rw [hnl] at own2 hlen HL1 ⊢
          clear hnl
          have cS2 : ∀ W, (Instr.slice 9 (.string r) (some (.int .i64 2)) none none).run Try.prog W = .ok (.string r') W := cS
          clear cS
          go_wp2_with (at_builtin; refine wpList_append_src rfl _ _ 28 rfl Z 52 _ 3 32 Try.underlying28 infoTk rfl (by decide) (.slice y n c) n (css l) rfl own2 (some ⟨wr.heap.size, 0, none⟩) 1 1 (css [⟨⟨#[]⟩, (K : Int), (M : Int)⟩]) rfl rfl sr (css_one _) (by omega) (by decide) hz3 ?_; intro v3 w3 own3 gr3; have b3 : Below Z w w3 := grown_on hb3 hz3 own2 gr3; have z3 : Z ≤ w3.heap.size := Nat.le_trans hz3 gr3.size; have O3 : Hid (w3.ownsRow Z 52 3 v3 (n + 1) (css l ++ css [⟨⟨#[]⟩, (K : Int), (M : Int)⟩])) := own3; clear own3 gr3; obtain ⟨y3, c3, e3⟩ := owns_form O3.out; subst e3)
          go_roundw
          case rel => exact ⟨p + 2, y3, c3, l ++ [⟨⟨#[]⟩, (K : Int), (M : Int)⟩], by rw [HLs.out], by rw [HL1.out], by rw [HL1.out]; exact OwnT.snoc (by rw [Hnl.out]; exact O3.out), HR1, b3, z3⟩
          case measure => rw [szOf_str, szOf_str]; exact hzs
    · have hr0 : (rst s p).size = 0 := by omega
      have hr := empty_of hr0
      have hUf : U = if good l = true then (l, true) else ([], false) := by rw [← HU.out]; exact HR.out.fin hlt
      have cG := specGood_any y c l wr (by omega) (Fit.few HR.out.fit (by omega)) (OwnT.tks HO.out)
      rw [hr]
      clear hr0 hr hrz hp hlt hll
      cases hg : good l with
      | false =>
        rw [hg] at cG
        rw [if_neg (by rw [hg]; simp)] at hUf
        subst hUf
        clear HR
        generalize l.length = n at *
        go_wp2_with fail
        refine cG.mono ?_
        rintro e w1 ⟨rfl, b1⟩
        go_wp2_with fail
        go_ret2
        exact ⟨hb.trans (b1.mono hz), _, rfl, OwnT.nil _ _⟩
      | true =>
        rw [hg] at cG
        rw [if_pos hg] at hUf
        subst hUf
        clear HR
        obtain ⟨n, hnl⟩ : ∃ n, l.length = n := ⟨_, rfl⟩
        rw [hnl] at cG HO ⊢
        clear hnl
        go_wp2_with fail
        refine cG.mono ?_
        rintro e w1 ⟨rfl, b1⟩
        go_wp2_with fail
        go_ret2
        exact ⟨hb.trans (b1.mono hz), _, rfl, owns_below HO.out b1⟩
theorem specUnp_any (s : ByteArray) (w : World) (hs63 : s.size ≤ 9223372036854775807) :
    Calls Try.prog 28 #[.string s] w fun e w' => Below w.heap.size w w' ∧ ∃ v, e = .returned (.tuple #[v, .bool (unp s).2]) ∧ OwnT w' w.heap.size v (unp s).1 := by
  by_cases hlong : 1200 < s.size
  · have hl' : (1200 : Int) < (s.size : Int) := by omega
    rw [unp_long (by omega)]
    have o := OwnT.nil w w.heap.size
    clear hlong
    go_enter Try.func28, Try.ntmps28
    go_wp2
    go_ret2
    exact ⟨Below.refl _ _, _, rfl, o⟩
  · have hl' : ¬ (1200 : Int) < (s.size : Int) := by omega
    have c1 := l16Unpack_any s w (by omega)
    clear hlong
    generalize unp s = U at *
    obtain ⟨U1, U2⟩ := U
    simp only at c1 ⊢
    go_enter Try.func28, Try.ntmps28
    go_wp2_with fail
    refine c1.mono ?_
    rintro e w1 ⟨b1, v, rfl, o1⟩
    obtain ⟨x, cx, rfl⟩ := owns_form o1
    obtain ⟨n, hnl⟩ : ∃ n, U1.length = n := ⟨_, rfl⟩
    have O1 : Hid (OwnT w1 w.heap.size (.slice x n cx) U1) := by show OwnT w1 w.heap.size (.slice x n cx) U1; rw [← hnl]; exact o1
    rw [hnl]
    clear o1 hnl
    go_wp2_with fail
    go_ret2
    exact ⟨b1, _, rfl, O1.out⟩
end Go.Proofs.Ytodidnbghiinkaa
