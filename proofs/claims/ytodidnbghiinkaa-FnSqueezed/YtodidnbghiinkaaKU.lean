import Derived.Test.YtodidnbghiinkaaL1
import Derived.Test.YtodidnbghiinkaaO1
/- The law of UnpackTokens, over what both sides tell. -/
namespace Go.Proofs.Ytodidnbghiinkaa
open Go.ChangeShapes Go.WideShapes Go.ChangeAt Go.RowKit
set_option linter.unusedVariables false
open Tz

attribute [local go_sem] Oper.semAt_some

theorem mine_onUnpackTokens {w w' : World} {B C : Nat} {e : TypeId} {n : Nat} {a : Option Addr} {p : Array Value → Prop} (h : Mine w B C e n a p) (hb : Below w.heap.size w w') : Mine w' B C e n a p :=
  h.out (Out.of_below (B := 0) (C := 0) hb) (.inr (Nat.zero_le _))
set_option maxHeartbeats 4000000 in
theorem lawUnpackTokens_of (s : ByteArray) (L : List Tk) (X : Bool) (w : World) (hl : s.size ≤ 9223372036854775807) (hL : L.length ≤ 1000000)
    (cP : ∀ W, Calls Try.prog 28 #[.string s] W fun e w' => Below W.heap.size W w' ∧ ∃ u, e = .returned (.tuple #[u, .bool X]) ∧ OwnT w' W.heap.size u L)
    (cI : ∀ W, Calls Try.prog 29 #[.string s] W fun e w' => Below W.heap.size W w' ∧ ∃ u, e = .returned (.tuple #[u, .bool X]) ∧ OwnT w' W.heap.size u L) :
    Calls Try.prog 8 #[.string s] w fun e w' => e = .returned (.bool true) ∧ Below w.heap.size w w' := by
  by_cases h : s.size ≤ 1048576
  · have hle : ¬ (1048576 : Int) < (s.size : Int) := by omega
    have hX : (X != X) = false := by cases X <;> rfl
    have cQ := fun W x c x' c' h h' => eqTokenS_same x x' L.length c c' (gt L) W (by omega) h h'
    have cK := fun B C W x c h => markTokenS_any B C x L.length c (gt L) 1 W (by omega) (by omega) h
    have cH := fun W x c h => heldTokenS_any x L.length c 1 W (by omega) (by omega) h
    have hJ0 : decide ((((1 + L.length * 3 : Nat)) : Int) < 0) = false := by simp; omega
    have hJJ : ((((1 + L.length * 3 : Nat)) : Int) != ((1 + L.length * 3 : Nat) : Int)) = false := by simp
    generalize (((1 + L.length * 3 : Nat)) : Int) = J at *
    rw [show (((1 : Nat)) : Int) = 1 from rfl] at *
    go_enter Try.func8, Try.ntmps8
    go_wp2_with fail
    refine (cP _).mono ?_
    rintro e w3 ⟨b3, ev, rfl, he0⟩
    obtain ⟨ea, ec, rfl, hec, he⟩ := OwnT.form he0
    have HE : Hid (RowT w3 ea L.length (gt L)) := MineT.row he
    clear he he0 cP
    go_wp2_with fail
    refine (cI _).mono ?_
    rintro e w5 ⟨b5, gv, rfl, hg0⟩
    obtain ⟨ga, gc, rfl, hgc, hgm⟩ := OwnT.form hg0
    have HG5 : Hid (MineT w5 w3.heap.size w5.heap.size ga L.length (gt L)) := hgm
    have E5 : Hid (RowT w5 ea L.length (gt L)) := RowT.below HE.out b5
    have I5 : Hid (RowT w5 ga L.length (gt L)) := MineT.row hgm
    have g5 := Below.comp b3 b5
    clear hg0 hgm hgc hec
    go_wp2_with fail
    refine (cQ _ ga gc ea ec I5.out E5.out).mono ?_
    rintro e w10 ⟨rfl, b10⟩
    have g10 := Below.comp g5 b10
    have G10 : Hid (MineT w10 w3.heap.size w5.heap.size ga L.length (gt L)) := mine_onUnpackTokens HG5.out b10
    have n10 : Below w3.heap.size w3 w10 := Below.comp b5 b10
    go_wp2_with fail
    refine (cK w3.heap.size w5.heap.size _ ga gc G10.out).mono ?_
    rintro e w11 ⟨rfl, o11, G11⟩
    have n11 : Below w3.heap.size w3 w11 := n10.trans (o11.below n10.size)
    have g11 : Below w.heap.size w w11 := Below.comp b3 n11
    have I11 : Hid (RowT w11 ga L.length (mks 1)) := MineT.row G11
    have E11 : Hid (RowT w11 ea L.length (gt L)) := RowT.below HE.out n11
    clear G11
    go_wp2_with fail
    refine (cH _ ga gc I11.out).mono ?_
    rintro e w12 ⟨rfl, b12⟩
    have g12 := Below.comp g11 b12
    have E12 : Hid (RowT w12 ea L.length (gt L)) := RowT.below E11.out b12
    go_wp2_with fail
    refine (cI _).mono ?_
    rintro e w14 ⟨b14, gv', rfl, hg'⟩
    obtain ⟨a1, c1, rfl, -, i14⟩ := OwnT.form hg'
    have E14 : Hid (RowT w14 ea L.length (gt L)) := RowT.below E12.out b14
    have I14 : Hid (RowT w14 a1 L.length (gt L)) := MineT.row i14
    clear hg' i14
    go_wp2_with fail
    refine (cQ _ a1 c1 ea ec I14.out E14.out).mono ?_
    rintro e w15 ⟨rfl, b15⟩
    have b1115 := Below.comp b14 b15
    go_wp2_with fail
    refine (cH _ ga gc (RowT.below I11.out (Below.comp b12 b1115))).mono ?_
    rintro e w16 ⟨rfl, b16⟩
    go_wp2_with fail
    go_ret
    exact ⟨rfl, Below.comp g12 (Below.comp b1115 b16)⟩
  · have h' : (1048576 : Int) < (s.size : Int) := by omega
    go_enter Try.func8, Try.ntmps8
    go_wp2
    go_ret
    exact ⟨rfl, Below.refl _ _⟩
end Go.Proofs.Ytodidnbghiinkaa
