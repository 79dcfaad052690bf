import Derived.Test.YtggkpcgjmanelaaH3
import Derived.Test.YtggkpcgjmanelaaB2
/- FromTo, the specification's. -/
namespace Go.Proofs.Ytggkpcgjmanelaa
open Go.ChangeShapes Go.WideShapes Go.ChangeAt Go.RowKit
set_option linter.unusedVariables false
open Bt

attribute [local go_sem] Oper.semAt_some

/-- The keys from one on and below another. -/
def ftL (fr to : Int) (l : List Int) : List Int := l.filter fun x => decide (fr ≤ x) && decide (x < to)
theorem ftL_len (fr to : Int) (l : List Int) : (ftL fr to l).length ≤ l.length := List.length_filter_le _ _
theorem ftL_snoc (fr to : Int) (l : List Int) (x : Int) : ftL fr to (l ++ [x]) = ftL fr to l ++ (if fr ≤ x ∧ x < to then [x] else []) := by
  simp only [ftL, List.filter_append, List.filter_cons, List.filter_nil]
  congr 1
  by_cases h : fr ≤ x ∧ x < to
  · simp [h.1, h.2]
  · rw [if_neg h, if_neg (by simpa using fun h1 => by omega)]
theorem gi_take1 {l : List Int} {q : Nat} (h : q < l.length) : l.take (q + 1) = l.take q ++ [gi l q] := by
  rw [List.take_succ_eq_append_getElem h]
  simp [gi, h]
/-- What FromTo answers. -/
def fOf (fr to : Int) (o : Option Tr) : List Int := match o with | none => [] | some t => ftL fr to (flat t)
theorem specFrom_few (o : Option Tr) (fr to : Int) (h : ∀ t, o = some t → (flat t).length ≤ 200) : (fOf fr to o).length ≤ 200 := by
  cases o with
  | none => simp [fOf]
  | some t => exact Nat.le_trans (ftL_len _ _ _) (h t rfl)
set_option maxHeartbeats 4000000 in
theorem specFrom_any (N : List Nd) (a : Option Addr) (cap : Nat) (root : Int) (fr to : Int) (o : Option Tr) (w : World) (hN : Nodes w a N) (hn : N.length ≤ 1048576) (hbk : bk N N.length ≤ 1048576) (ho : ∀ t, o = some t ↔ Is N root t) :
    Calls Try.prog 22 #[tv a N.length cap root, .int .i64 fr, .int .i64 to] w fun e w' => Below w.heap.size w w' ∧ ∃ u, e = .returned (.tuple #[u, .bool o.isSome]) ∧ IntV w' u (fOf fr to o) := by
  have cR := fun W h => l7Of_any N a cap root o W h hn hbk ho
  have q0 := below_alloc w (.cells #[.slice a N.length cap, .int .i64 root] 27)
  go_enter Try.func22, Try.ntmps22
  go_wp2_with fail
  refine (cR _ (hN.below q0)).mono ?_
  rintro e w1 ⟨b1, x, n, c, x', n', c', rfl, hv⟩
  have g1 := Below.comp q0 b1
  have q1 := below_alloc w1 (.cells #[.slice x n c, .slice x' n' c'] 67)
  cases o with
  | none =>
    simp only [Option.isSome_none]
    go_wp2_with fail
    go_ret2
    exact ⟨Below.comp g1 q1, _, rfl, none, 0, rfl, Nat.le_refl _, fun h => absurd rfl h⟩
  | some t =>
    have hs := (ho t).1 rfl
    obtain ⟨hwf, hfl⟩ := is_small hs
    have hsn := (hv t rfl).below q1
    have cK := l7Keys_any 20 _ t _ hsn hwf (by omega)
    simp only [Option.isSome_some]
    have HF : Hid (fOf fr to (some t) = ftL fr to (flat t)) := rfl
    clear hs hwf hsn hv cR hN ho
    generalize flat t = L at *
    go_wp2_with fail
    refine cK.mono ?_
    rintro e w2 ⟨b2, u, rfl, au, cu, rfl, hu1, hu2⟩
    have g2 := Below.comp g1 (Below.comp q1 b2)
    have Hu : Hid (Ints w2 au L) := hu2
    clear hu2 cK
    go_wp2_with fail
    go_loopw [10, 23] (fun out i wr => ∃ (q : Nat), q ≤ L.length ∧ i = .int .i64 q ∧ OwnI wr w2.heap.size out (ftL fr to (L.take q)) ∧ Below w2.heap.size w2 wr) (fun _ i _ => L.length - (intOf i).toNat)
    case atStart => exact ⟨0, Nat.zero_le _, rfl, OwnI.nil _ _, Below.refl _ _⟩
    case round =>
      obtain ⟨q, hq, rfl, hown, hb⟩ := hrel
      by_cases hlt : q < L.length
      · obtain ⟨ub, uo, rfl, hcell⟩ := Hu.out (by omega)
        have k0 : wr.cell? ⟨ub, uo + q, none⟩ = some (iv (gi L q)) := cell_on (hcell q hlt) hb
        have hsn := ftL_snoc fr to (L.take q) (gi L q)
        rw [← gi_take1 hlt] at hsn
        have hal : (ftL fr to (L.take q)).length ≤ 200 := Nat.le_trans (ftL_len _ _ _) (by rw [List.length_take]; omega)
        have zr : w2.heap.size ≤ wr.heap.size := hb.size
        have Hsn : Hid _ := hsn
        clear hsn hcell
        generalize gi L q = x at *
        obtain ⟨acc, hacc⟩ : ∃ acc, ftL fr to (L.take q) = acc := ⟨_, rfl⟩
        rw [hacc] at hown hal Hsn
        clear hacc
        obtain ⟨o3, c3, rfl⟩ := owns_form hown
        by_cases h1 : fr ≤ x
        · by_cases h2 : x < to
          · have own1 := owns_below hown (below_alloc wr (.cells #[iv x] 3))
            have za : w2.heap.size ≤ (wr.alloc (.cells #[iv x] 3)).heap.size := Nat.le_trans zr (below_alloc _ _).size
            clear hown
            go_wp2_with (at_builtin; refine wpList_append_src rfl _ _ 23 rfl w2.heap.size 3 _ 1 8 Try.underlying23 info3 rfl (by decide) (.slice o3 acc.length c3) acc.length (cis acc) rfl own1 (some ⟨wr.heap.size, 0, none⟩) 1 1 [iv x] rfl rfl (src_new wr (iv x) 3) (by simp [Value.oneCell']) (by omega) (by decide) za ?_; intro v4 w4 own4 gr4; have b4 : Below w2.heap.size w2 w4 := (hb.alloc (by omega) _).trans (Grown.below gr4 za (owns_ge own1)); clear own1)
            go_roundw
            case rel => exact ⟨q + 1, by omega, by go_num, by rw [Hsn.out, if_pos ⟨h1, h2⟩]; simpa [OwnI, cis] using own4, b4⟩
            case measure => simp [intOf]; omega
          · go_wp2_with fail
            go_roundw
            case rel => exact ⟨q + 1, by omega, by go_num, by rw [Hsn.out, if_neg (fun h => h2 h.2), List.append_nil]; exact hown, hb⟩
            case measure => simp [intOf]; omega
        · go_wp2_with fail
          go_roundw
          case rel => exact ⟨q + 1, by omega, by go_num, by rw [Hsn.out, if_neg (fun h => h1 h.1), List.append_nil]; exact hown, hb⟩
          case measure => simp [intOf]; omega
      · have hqn : q = L.length := by omega
        have hT : L.take q = L := by rw [hqn]; exact List.take_length
        rw [hT, ← HF.out] at hown
        clear hT
        obtain ⟨o3, c3, eo⟩ := owns_form hown
        subst eo
        go_wp2
        go_ret2
        exact ⟨g2.trans (hb.mono g2.size), _, rfl, hown.ints⟩
end Go.Proofs.Ytggkpcgjmanelaa
