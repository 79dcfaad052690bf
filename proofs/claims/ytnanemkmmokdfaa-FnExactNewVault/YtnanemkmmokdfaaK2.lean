import Derived.Test.YtnanemkmmokdfaaD1
import Derived.Test.YtnanemkmmokdfaaL4s
/- The law of PiecesOf. -/
namespace Go.Proofs.Ytnanemkmmokdfaa
open Go.ChangeShapes Go.WideShapes Go.ChangeAt Go.RowKit
set_option linter.unusedVariables false
open Hd

attribute [local go_sem] Oper.semAt_some

theorem Mine.on {w w' : World} {B C : Nat} {e : TypeId} {n : Nat} {a : Option Addr} {p : Array Value → Prop} (h : Mine w B C e n a p) (hb : Below w.heap.size w w') : Mine w' B C e n a p :=
  h.out (Out.of_below (B := 0) (C := 0) hb) (.inr (Nat.zero_le _))
theorem mine_at {w : World} {B C n : Nat} {a : Option Addr} {S : Nat → ByteArray} (h : Mine w B C 9 n a (strs n S)) : At w a n fun i => .string (S i) := by
  intro hn
  rcases h with h0 | ⟨b, c, -, -, rfl, h4, h5⟩
  · exact absurd h0 hn
  · exact ⟨b, 0, rfl, fun i hi => by rw [Nat.zero_add]; exact cell_of_block h4 (h5 i hi)⟩
theorem own_mine {w : World} {B : Nat} {v : Value} {l : List ByteArray} (h : OwnS w B v l) : ∃ a c, v = .slice a l.length c ∧ Mine w B w.heap.size 9 l.length a (strs l.length (gs l)) ∧ Strs w a l := by
  obtain ⟨a, c, e, -, hs⟩ := OwnS.strs h
  refine ⟨a, c, e, ?_, hs⟩
  rcases h.2 with ⟨rfl, h2⟩ | ⟨g, cap, cur, rfl, hb, hg, hc, hm, hcs, ht⟩
  · exact .inl h2
  · simp only [Value.slice.injEq] at e
    refine .inr ⟨g, cur, hb, box_lt hg, e.1.symm, hg, fun i hi => ?_⟩
    have k := css_at hi
    rw [← ht, List.getElem?_take, if_pos (by omega)] at k
    simpa using k
theorem Strs.on {w w' : World} {a : Option Addr} {l : List ByteArray} (h : Strs w a l) (hb : Below w.heap.size w w') : Strs w' a l := At.below h hb
set_option maxHeartbeats 4000000 in
theorem lawStrs_of (s : ByteArray) (L : List ByteArray) (X : Bool) (w : World) (hl : s.size ≤ 9223372036854775807) (hL : L.length ≤ 1000000)
    (cP : ∀ W, Calls Try.prog 23 #[.string s] W fun e w' => Below W.heap.size W w' ∧ ∃ u, e = .returned (.tuple #[u, .bool X]) ∧ OwnS w' W.heap.size u L)
    (cI : ∀ W, Calls Try.prog 24 #[.string s] W fun e w' => Below W.heap.size W w' ∧ ∃ u, e = .returned (.tuple #[u, .bool X]) ∧ OwnS w' W.heap.size u L) :
    Calls Try.prog 6 #[.string s] w fun e w' => e = .returned (.bool true) ∧ Below w.heap.size w w' := by
  by_cases h : s.size ≤ 1048576
  · have hle : ¬ (1048576 : Int) < (s.size : Int) := by omega
    have hX : (X != X) = false := by cases X <;> rfl
    have cQ := fun W x c x' c' h h' => eqStringS_any x x' L.length c c' (gs L) W (by omega) h h'
    have cK := fun B C W x c h => markStringS_any B C x L.length c (gs L) 1 W (by omega) (by omega) h
    have cH := fun W x c h => heldStringS_any x L.length c 1 W (by omega) (by omega) h
    have hJ0 : decide ((((1 + L.length : Nat)) : Int) < 0) = false := by simp; omega
    have hJJ : ((((1 + L.length : Nat)) : Int) != ((1 + L.length : Nat) : Int)) = false := by simp
    generalize (((1 + L.length : Nat)) : Int) = J at *
    rw [show (((1 : Nat)) : Int) = 1 from rfl] at *
    go_enter Try.func6, Try.ntmps6
    go_wp2_with fail
    refine (cP _).mono ?_
    rintro e w3 ⟨b3, ev, rfl, he0⟩
    obtain ⟨ea, ec, rfl, hec, he⟩ := OwnS.strs he0
    have HE : Hid (Strs w3 ea L) := he
    clear he he0 cP
    go_wp2_with fail
    refine (cI _).mono ?_
    rintro e w5 ⟨b5, gv, rfl, hg0⟩
    obtain ⟨ga, gc, rfl, hgm, hgs⟩ := own_mine hg0
    have HG5 : Hid (Mine w5 w3.heap.size w5.heap.size 9 L.length ga (strs L.length (gs L))) := hgm
    have E5 : Hid (Strs w5 ea L) := Strs.on HE.out b5
    have I5 : Hid (Strs w5 ga L) := hgs
    have g5 := Below.comp b3 b5
    clear hg0 hgm hgs
    go_wp2_with fail
    refine (cQ _ ga gc ea ec I5.out E5.out).mono ?_
    rintro e w10 ⟨rfl, b10⟩
    have g10 := Below.comp g5 b10
    have G10 : Hid (Mine w10 w3.heap.size w5.heap.size 9 L.length ga (strs L.length (gs L))) := Mine.on HG5.out b10
    have n10 : Below w3.heap.size w3 w10 := Below.comp b5 b10
    go_wp2_with fail
    refine (cK w3.heap.size w5.heap.size _ ga gc G10.out).mono ?_
    rintro e w11 ⟨rfl, o11, G11⟩
    have n11 : Below w3.heap.size w3 w11 := n10.trans (o11.below n10.size)
    have g11 : Below w.heap.size w w11 := Below.comp b3 n11
    have I11 : Hid (At w11 ga L.length fun i => .string (mk 1 i)) := mine_at G11
    have E11 : Hid (Strs w11 ea L) := Strs.on HE.out n11
    clear G11
    go_wp2_with fail
    refine (cH _ ga gc I11.out).mono ?_
    rintro e w12 ⟨rfl, b12⟩
    have g12 := Below.comp g11 b12
    have E12 : Hid (Strs w12 ea L) := Strs.on E11.out b12
    go_wp2_with fail
    refine (cI _).mono ?_
    rintro e w14 ⟨b14, gv', rfl, hg'⟩
    obtain ⟨a1, c1, rfl, -, i14⟩ := OwnS.strs hg'
    have E14 : Hid (Strs w14 ea L) := Strs.on E12.out b14
    have I14 : Hid (Strs w14 a1 L) := i14
    clear hg' i14
    go_wp2_with fail
    refine (cQ _ a1 c1 ea ec I14.out E14.out).mono ?_
    rintro e w15 ⟨rfl, b15⟩
    have b1115 := Below.comp b14 b15
    go_wp2_with fail
    refine (cH _ ga gc (At.below I11.out (Below.comp b12 b1115))).mono ?_
    rintro e w16 ⟨rfl, b16⟩
    go_wp2_with fail
    go_ret
    exact ⟨rfl, Below.comp g12 (Below.comp b1115 b16)⟩
  · have h' : (1048576 : Int) < (s.size : Int) := by omega
    go_enter Try.func6, Try.ntmps6
    go_wp2
    go_ret
    exact ⟨rfl, Below.refl _ _⟩

theorem lawPiecesOf (s : ByteArray) (w : World) (hl : s.size ≤ 9223372036854775807) :
    Calls Try.prog 6 #[.string s] w fun e w' => e = .returned (.bool true) ∧ Below w.heap.size w w' :=
  lawStrs_of s (paR s) _ w hl (by have := paR_len s; omega) (fun W => specPieces_any s W hl) (fun W => implPieces_any s W hl)
end Go.Proofs.Ytnanemkmmokdfaa
