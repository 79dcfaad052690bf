import Derived.Test.YtgipopkjjhehlaaDoorW2
namespace Go.Proofs.YtgipopkjjhehlaaDoor
open Go.ChangeShapes Go.WideShapes Go.ChangeAt Go.RowKit
set_option linter.unusedVariables false
open GF

/-- Pairs that can be read. -/
def AtP (w : World) (a : Option Addr) (n : Nat) (f g : Nat → Nat) : Prop :=
  n ≠ 0 → ∃ b, a = some ⟨b, 0, none⟩ ∧ ∀ i, i < n → w.cell? ⟨b, i * 2, none⟩ = some (.int .u8 (f i : Int)) ∧ w.cell? ⟨b, i * 2 + 1, none⟩ = some (.int .u8 (g i : Int))
theorem Mine.prs {w : World} {B C : Nat} {e : TypeId} {n : Nat} {a : Option Addr} {f g : Nat → Nat} (h : Mine w B C e n a (prs n f g)) : AtP w a n f g := by
  intro hn
  rcases h with h | ⟨b, c, g1, g2, h3, h4, h5⟩
  · exact absurd h hn
  · exact ⟨b, h3, fun i hi => ⟨cell_of_block h4 (h5 i hi).1, cell_of_block h4 (h5 i hi).2⟩⟩
theorem AtP.below {w w' : World} {a : Option Addr} {n : Nat} {f g : Nat → Nat} (h : AtP w a n f g) (hb : Below w.heap.size w w') : AtP w' a n f g := by
  intro hn
  obtain ⟨b, e, hc⟩ := h hn
  exact ⟨b, e, fun i hi => ⟨cell_on (hc i hi).1 hb, cell_on (hc i hi).2 hb⟩⟩

set_option maxHeartbeats 2000000 in
theorem implCheck_any (a : Option Addr) (n cap : Nat) (D : Nat → ByteArray) (P Q : ByteArray) (w : World) (hn : n ≤ 1048576) (hP : P.size ≤ 9223372036854775807) (hQ : Q.size ≤ 9223372036854775807) (hD : ∀ i, i < n → (D i).size ≤ 9223372036854775807) (hc : At w a n fun i => .string (D i)) (ht : Tab w) (hz0 : 0 < w.heap.size) :
    Calls Tryd.prog 9 #[sv a n cap P Q] w fun e w' => e = .returned (chkV n D P Q) ∧ Below w.heap.size w w' := by
  obtain ⟨c0, c1, c2⟩ := new3 w (.slice a n cap) (.string P) (.string Q) 26
  have b0 := below_alloc w (.cells #[.slice a n cap, .string P, .string Q] 26)
  have hsp := implGood_any a n cap D P Q _ hn hP hQ hD (hc.below b0)
  unfold sv chkV
  cases hg : goodB n D P Q
  · rw [hg] at hsp
    go_enter Tryd.func9, Tryd.ntmps9
    go_wp2_with fail
    refine hsp.mono ?_
    rintro e w1 ⟨rfl, b1⟩
    go_wp2
    refine bodyPost_ret (v := .tuple #[.bool false, .bool false]) (by simp [results, Tryd.results9, go_sem]) rfl ⟨rfl, Below.comp b0 b1⟩
  · rw [hg] at hsp
    obtain ⟨hn1, hn2, hL, _, hQP⟩ := goodB_spec hg
    have hri := right_iff (n := n) (D := D) hQP
    have HRI : Hid _ := hri
    have HQP : Hid _ := hQP
    clear hri hQP
    go_enter Tryd.func9, Tryd.ntmps9
    go_wp2_with fail
    refine hsp.mono ?_
    rintro e w1 ⟨rfl, b1⟩
    have g1 := Below.comp b0 b1
    replace c0 := cell_on c0 b1
    replace c1 := cell_on c1 b1
    replace c2 := cell_on c2 b1
    clear hsp b1
    go_wp2_with fail
    refine (sumsOf_any a n cap D P Q _ hg (hc.below g1) (ht.below g1 hz0) (by have := g1.size; omega)).mono ?_
    rintro e w2 ⟨b2, x, cx, rfl, mx⟩
    have g2 := Below.comp g1 b2
    have hx : AtP w2 x P.size (fun k => sp n (dby D k) (bb P k)) (fun k => sq' n (dby D k) (bb Q k)) := mx.prs
    clear mx b2 g1 c0 c1 c2
    go_wp2
    generalize hLL : P.size = L at *
    go_loopw [12] (fun i wr => ∃ (k : Nat), k ≤ L ∧ i = .int .i64 k ∧ (∀ j, j < k → sp n (dby D j) (bb P j) = 0 ∧ sq' n (dby D j) (bb Q j) = 0) ∧ Below w2.heap.size w2 wr) (fun i _ => L - (intOf i).toNat)
    case atStart => exact ⟨0, Nat.zero_le _, rfl, fun j hj => absurd hj (by omega), Below.refl _ _⟩
    case round =>
      obtain ⟨k, hk, rfl, hall, hb⟩ := hrel
      by_cases hlt : k < L
      · have hlt' : (k : Int) < (L : Int) := by omega
        obtain ⟨bx, rfl, hcs⟩ := (hx.below hb) (by omega)
        obtain ⟨p0, p1⟩ := hcs k hlt
        have hsl : sp n (dby D k) (bb P k) < 256 := sp_lt (dby_lt D k) (bb_lt _ _)
        have hql : sq' n (dby D k) (bb Q k) < 256 := sq_lt' (dby_lt D k) (bb_lt _ _)
        clear hcs hx
        generalize hSP : sp n (dby D k) (bb P k) = u at *
        generalize hSQ : sq' n (dby D k) (bb Q k) = v at *
        by_cases huv : u = 0 ∧ v = 0
        · obtain ⟨rfl, rfl⟩ := huv
          go_wp2
          go_roundw
          case rel =>
            refine ⟨k + 1, by omega, by go_num, fun j hj => ?_, hb.alloc hb.size _⟩
            by_cases e : j = k
            · rw [e]; exact ⟨hSP, hSQ⟩
            · exact hall j (by omega)
          case measure => simp [intOf]; omega
        · have hr : rightB n D P Q = false := by
            cases h : rightB n D P Q
            · rfl
            · have := HRI.out.1 h k (by omega)
              rw [hSP, hSQ] at this
              exact absurd this huv
          have HR : Hid _ := hr
          clear hr
          by_cases hu : u = 0
          · subst hu
            have hv : ¬ (v : Int) = 0 := by omega
            have hv' : ((v : Int) == 0) = false := by simpa using hv
            go_wp2
            refine bodyPost_ret (v := .tuple #[.bool false, .bool true]) (by simp [results, Tryd.results9, go_sem]) rfl ⟨by rw [HR.out], (Below.comp g2 hb).alloc (by have := g2.size; have := hb.size; omega) _⟩
          · have hv : ¬ (u : Int) = 0 := by omega
            have hv' : ((u : Int) == 0) = false := by simpa using hv
            go_wp2
            refine bodyPost_ret (v := .tuple #[.bool false, .bool true]) (by simp [results, Tryd.results9, go_sem]) rfl ⟨by rw [HR.out], (Below.comp g2 hb).alloc (by have := g2.size; have := hb.size; omega) _⟩
      · have hr : rightB n D P Q = true := HRI.out.2 fun j hj => hall j (by omega)
        have HR : Hid _ := hr
        clear hr
        have hlt' : ¬ (k : Int) < (L : Int) := by omega
        go_wp2
        refine bodyPost_ret (v := .tuple #[.bool true, .bool true]) (by simp [results, Tryd.results9, go_sem]) rfl ⟨by rw [HR.out], Below.comp g2 hb⟩
end Go.Proofs.YtgipopkjjhehlaaDoor
