import Derived.Test.YtodidnbghiinkaaU1
import Derived.Test.YtodidnbghiinkaaE3
/- The program's UnpackTokens. -/
namespace Go.Proofs.Ytodidnbghiinkaa
open Go.ChangeShapes Go.WideShapes Go.ChangeAt Go.RowKit
set_option linter.unusedVariables false
open Tz

attribute [local go_sem] Oper.semAt_some

/-- How long a text is that a value holds. -/
def szOf (v : Value) : Nat := match v with
  | .string s => s.size
  | _ => 0
theorem szOf_str (s : ByteArray) : szOf (.string s) = s.size := rfl
theorem Fit.few {s : ByteArray} {l : List Tk} (h : Fit s l) (hs : s.size ≤ 1000000) : ∀ i, i < l.length → Few (gt l i) := fun i hi => by
  obtain ⟨h1, h2, h3, h4, h5⟩ := h i hi
  exact ⟨by omega, ⟨by omega, by omega⟩, ⟨by omega, by omega⟩⟩
theorem OwnT.tks {w : World} {B : Nat} {a : Option Addr} {n c : Nat} {l : List Tk} (h : OwnT w B (.slice a n c) l) : Tks w a l := MineT.row (OwnT.own h).1
theorem OwnT.snoc {w : World} {B : Nat} {v : Value} {l : List Tk} {x : Tk} (h : w.ownsRow B 52 3 v (l.length + 1) (css l ++ css [x])) : OwnT w B v (l ++ [x]) := by
  show w.ownsRow B 52 3 v (l ++ [x]).length (css (l ++ [x]))
  rw [List.length_append, List.length_singleton, css_app]
  exact h
set_option maxRecDepth 20000 in
set_option maxHeartbeats 4000000 in
theorem implUnp_any (s : ByteArray) (w : World) (hs63 : s.size ≤ 9223372036854775807) :
    Calls Try.prog 29 #[.string s] w fun e w' => Below w.heap.size w w' ∧ ∃ v, e = .returned (.tuple #[v, .bool (unp s).2]) ∧ OwnT w' w.heap.size v (unp s).1 := by
  by_cases hlong : 610 < s.size
  · have hl' : (610 : Int) < (s.size : Int) := by omega
    rw [unp_long hlong]
    have o := OwnT.nil w w.heap.size
    clear hlong
    go_enter Try.func29, Try.ntmps29
    go_wp2
    go_ret2
    exact ⟨Below.refl _ _, _, rfl, o⟩
  · have hl' : ¬ (610 : Int) < (s.size : Int) := by omega
    have HZ0 : Hid (rst s 0 = s) := rst_zero s
    obtain ⟨U, hU⟩ : ∃ U, unp s = U := ⟨_, rfl⟩
    rw [hU]
    have HU : Hid _ := hU
    clear hU
    obtain ⟨Z, hZ⟩ : ∃ Z, w.heap.size = Z := ⟨_, rfl⟩
    have B0 : Below Z w w := hZ ▸ Below.refl _ _
    have Z0 : Z ≤ w.heap.size := by omega
    rw [hZ]
    clear hZ
    go_enter Try.func29, Try.ntmps29
    go_wp2
    go_loopw [0, 4] (fun ss ll wr => ∃ (p : Nat) (y : Option Addr) (c : Nat) (l : List Tk), ss = .string (rst s p) ∧ ll = .slice y l.length c ∧ Hid (OwnT wr Z (.slice y l.length c) l) ∧ Hid (Rd s l p) ∧ Below Z w wr ∧ Z ≤ wr.heap.size) (fun ss _ _ => szOf ss)
    case atStart => exact ⟨0, none, 0, [], by rw [HZ0.out], rfl, OwnT.nil _ _, Rd.zero s, B0, Z0⟩
    case round =>
      obtain ⟨p, y, c, l, rfl, rfl, HO, HR, hb, hz⟩ := hrel
      have hp := HR.out.le
      have hrz : (rst s p).size = s.size - p := rst_size hp
      have hll := HR.out.len
      by_cases hlt : p < s.size
      · have cF := fun W => firstToken_any (rst s p) W (by omega) (by omega)
        have hL2 := fstL_le (rst s p)
        have HStep : Hid (¬ (rst s p).size < fstL (rst s p) → Rd s (l ++ [fstT (rst s p)]) (p + fstL (rst s p))) := fun h => HR.out.step hlt h
        have HNone : Hid ((rst s p).size < fstL (rst s p) → unp s = ([], false)) := fun h => HR.out.none hlt h
        have HCut : Hid (rst s (p + fstL (rst s p)) = (rst s p).extract (fstL (rst s p)) (rst s p).size) := (rst_rst hp).symm
        have HCS : Hid (¬ (rst s p).size < fstL (rst s p) → ∀ W, (Instr.slice 9 (.string (rst s p)) (some (.int .i64 (fstL (rst s p) : Nat))) none none).run Try.prog W = .ok (.string ((rst s p).extract (fstL (rst s p)) (rst s p).size)) W) := fun h W => slice_end (rst s p) (fstL (rst s p)) (by omega) W
        have hzn : Hid ((rst s (p + fstL (rst s p))).size < (rst s p).size ∨ (rst s p).size < fstL (rst s p)) := by
          by_cases h : (rst s p).size < fstL (rst s p)
          · exact .inr h
          · exact .inl (by rw [rst_size (by omega)]; omega)
        obtain ⟨r, hr⟩ : ∃ r, rst s p = r := ⟨_, rfl⟩
        rw [hr] at cF hL2 HStep HNone HCut HCS hrz hzn ⊢
        have hr0 : ¬ r.size = 0 := by omega
        obtain ⟨hn1, hn2⟩ := nonempty_of hr0
        obtain ⟨x, hx⟩ : ∃ x, fstT r = x := ⟨_, rfl⟩
        obtain ⟨L, hLL⟩ : ∃ L, fstL r = L := ⟨_, rfl⟩
        rw [hx, hLL] at cF HStep
        rw [hLL] at hL2 HNone HCut HCS hzn
        clear hx hLL hr
        obtain ⟨xp, xd, xn⟩ := x
        go_wp2_with fail
        refine (cF _).mono ?_
        rintro e w1 ⟨rfl, b1⟩
        have hb1 := hb.trans (b1.mono hz)
        have hz1 := Nat.le_trans hz b1.size
        obtain ⟨W2, hW2⟩ : ∃ W2, w1.alloc (.cells #[.string xp, .int .i64 xd, .int .i64 xn] 52) = W2 := ⟨_, rfl⟩
        have q1 : Below w1.heap.size w1 W2 := by subst hW2; exact below_alloc _ _
        have HB2 : W2.heap[w1.heap.size]? = some (.cells #[.string xp, .int .i64 xd, .int .i64 xn] 52 (0, 0)) := by subst hW2; exact al1 _ _
        obtain ⟨d0, d1, d2, -, -, -⟩ := box3_cells HB2
        have hb2 := hb1.trans (q1.mono hz1)
        have hz2 := Nat.le_trans hz1 q1.size
        clear cF HB2
        by_cases hs : r.size < L
        · have hs' : (r.size : Int) < (L : Int) := by omega
          have hUn : U = ([], false) := by rw [← HU.out]; exact HNone.out hs
          subst hUn
          clear HStep HNone HCut HCS hzn hs hr0
          go_wp2_with fail
          go_ret2
          exact ⟨hb2, _, rfl, OwnT.nil _ _⟩
        · have hs' : ¬ (r.size : Int) < (L : Int) := by omega
          have cS := HCS.out hs
          have HR1 : Hid _ := HStep.out hs
          have own2 : (W2.alloc (.cells #[.string xp, .int .i64 xd, .int .i64 xn] 52)).ownsRow Z 52 3 (.slice y l.length c) l.length (css l) := owns_below (owns_below HO.out (b1.trans (q1.mono b1.size))) (below_alloc _ _)
          have sr := srcT_one W2 ⟨xp, xd, xn⟩ 52
          have hb3 : Below Z w (W2.alloc (.cells #[.string xp, .int .i64 xd, .int .i64 xn] 52)) := hb2.trans ((below_alloc _ _).mono hz2)
          have hz3 : Z ≤ (W2.alloc (.cells #[.string xp, .int .i64 xd, .int .i64 xn] 52)).heap.size := Nat.le_trans hz2 (below_alloc _ _).size
          have hzs : (rst s (p + L)).size < r.size := by
            rcases hzn.out with h | h
            · exact h
            · exact absurd h hs
          rw [HCut.out] at hzs
          have HL1 : Hid ((l ++ [(⟨xp, xd, xn⟩ : Tk)]).length = l.length + 1) := by show _ = _; simp
          have hlen : l.length ≤ 1000000 := by omega
          have HLs : Hid (rst s (p + L) = r.extract L r.size) := HCut.out
          clear HStep HNone HCut HCS hzn hs hr0 HO HR hp hrz hll hlt hL2
          generalize r.extract L r.size = r' at *
          obtain ⟨n, hnl⟩ : ∃ n, l.length = n := ⟨_, rfl⟩
          have Hnl : Hid _ := hnl
          rw [hnl] at own2 hlen HL1 ⊢
          clear hnl
          go_wp2_with (at_builtin; refine wpList_append_src rfl _ _ 28 rfl Z 52 _ 3 32 Try.underlying28 infoTk rfl (by decide) (.slice y n c) n (css l) rfl own2 (some ⟨W2.heap.size, 0, none⟩) 1 1 (css [⟨xp, xd, xn⟩]) rfl rfl sr (css_one _) (by omega) (by decide) hz3 ?_; intro v3 w3 own3 gr3; have b3 : Below Z w w3 := grown_on hb3 hz3 own2 gr3; have z3 : Z ≤ w3.heap.size := Nat.le_trans hz3 gr3.size; have O3 : Hid (w3.ownsRow Z 52 3 v3 (n + 1) (css l ++ css [⟨xp, xd, xn⟩])) := own3; clear own3 gr3; obtain ⟨y3, c3, e3⟩ := owns_form O3.out; subst e3)
          go_roundw
          case rel => exact ⟨p + L, y3, c3, l ++ [⟨xp, xd, xn⟩], by rw [HLs.out], by rw [HL1.out], by rw [HL1.out]; exact OwnT.snoc (by rw [Hnl.out]; exact O3.out), HR1, b3, z3⟩
          case measure => rw [szOf_str, szOf_str]; exact hzs
      · have hr0 : (rst s p).size = 0 := by omega
        have hr := empty_of hr0
        have hUf : U = if good l = true then (l, true) else ([], false) := by rw [← HU.out]; exact HR.out.fin hlt
        have cG := implGood_any y c l wr (by omega) (Fit.few HR.out.fit (by omega)) (OwnT.tks HO.out)
        rw [hr]
        clear hr0 hr hrz hp hlt hll
        cases hg : good l with
        | false =>
          rw [hg] at cG
          rw [if_neg (by rw [hg]; simp)] at hUf
          subst hUf
          clear HR
          generalize l.length = n at *
          go_wp2_with fail
          refine cG.mono ?_
          rintro e w1 ⟨rfl, b1⟩
          go_wp2_with fail
          go_ret2
          exact ⟨hb.trans (b1.mono hz), _, rfl, OwnT.nil _ _⟩
        | true =>
          rw [hg] at cG
          rw [if_pos hg] at hUf
          subst hUf
          clear HR
          obtain ⟨n, hnl⟩ : ∃ n, l.length = n := ⟨_, rfl⟩
          rw [hnl] at cG HO ⊢
          clear hnl
          go_wp2_with fail
          refine cG.mono ?_
          rintro e w1 ⟨rfl, b1⟩
          go_wp2_with fail
          go_ret2
          exact ⟨hb.trans (b1.mono hz), _, rfl, owns_below HO.out b1⟩
end Go.Proofs.Ytodidnbghiinkaa
