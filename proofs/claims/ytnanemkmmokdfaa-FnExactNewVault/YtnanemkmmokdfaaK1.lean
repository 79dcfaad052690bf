import Derived.Test.YtnanemkmmokdfaaC2
import Derived.Test.YtnanemkmmokdfaaL5
/- CutsOf on both sides; its law. -/
namespace Go.Proofs.Ytnanemkmmokdfaa
open Go.ChangeShapes Go.WideShapes Go.ChangeAt Go.RowKit
set_option linter.unusedVariables false
open Hd

attribute [local go_sem] Oper.semAt_some

/-- What CutsOf tells. -/
def cuR (s : ByteArray) : List Int := if s.size ≤ 400 then cuts s else []
theorem cuR_len (s : ByteArray) : (cuR s).length ≤ 400 := by
  unfold cuR
  split
  · have := cuts_len s; omega
  · simp
theorem implCuts_any (s : ByteArray) (w : World) (hl : s.size ≤ 9223372036854775807) :
    Calls Try.prog 19 #[.string s] w fun e w' => Below w.heap.size w w' ∧ ∃ u, e = .returned (.tuple #[u, .bool (decide (s.size ≤ 400))]) ∧ OwnI w' w.heap.size u (cuR s) := by
  unfold cuR
  by_cases h : s.size ≤ 400
  · rw [decide_eq_true h, if_pos h]
    exact implCuts_yes s w h
  · rw [decide_eq_false h, if_neg h]
    have h1 : (400 : Int) < (s.size : Int) := by omega
    go_enter Try.func19, Try.ntmps19
    go_wp2
    go_ret2
    exact ⟨Below.refl _ _, _, rfl, OwnI.nil _ _⟩
theorem specCuts_any (s : ByteArray) (w : World) (hl : s.size ≤ 9223372036854775807) :
    Calls Try.prog 18 #[.string s] w fun e w' => Below w.heap.size w w' ∧ ∃ u, e = .returned (.tuple #[u, .bool (decide (s.size ≤ 400))]) ∧ OwnI w' w.heap.size u (cuR s) := by
  unfold cuR
  by_cases h : s.size ≤ 400
  · rw [decide_eq_true h, if_pos h]
    have c := l15Cuts_any s w h
    have h1 : ¬ (400 : Int) < (s.size : Int) := by omega
    generalize cuts s = L at *
    go_enter Try.func18, Try.ntmps18
    go_wp2_with fail
    refine c.mono ?_
    rintro e w1 ⟨b1, u, rfl, ho⟩
    have HO : Hid (OwnI w1 w.heap.size u L) := ho
    clear ho
    go_wp2_with fail
    go_ret2
    exact ⟨b1, _, rfl, HO.out⟩
  · rw [decide_eq_false h, if_neg h]
    have h1 : (400 : Int) < (s.size : Int) := by omega
    go_enter Try.func18, Try.ntmps18
    go_wp2
    go_ret2
    exact ⟨Below.refl _ _, _, rfl, OwnI.nil _ _⟩
theorem mark_out {l : List Int} {g B C : Nat} {w w' : World} (h : if l = [] then w' = w else Out g (g + 1) w w') (hg : l ≠ [] → B ≤ g ∧ g < C) : Out B C w w' := by
  by_cases hz : l = []
  · rw [if_pos hz] at h; subst h; exact Out.refl _ _ _
  · rw [if_neg hz] at h; obtain ⟨h1, h2⟩ := hg hz; exact h.mono h1 h2
theorem IB.within {w : World} {B C : Nat} {v : Value} {l : List Int} {g : Nat} (h : IB w B C v l g) : l ≠ [] → B ≤ g ∧ g < C := by
  obtain ⟨a, c, e, hc, hr⟩ := h
  exact fun hn => by obtain ⟨-, r2, r3, -⟩ := hr hn; exact ⟨r2, r3⟩
theorem IB.at_ {w : World} {B C : Nat} {a : Option Addr} {n c : Nat} {l : List Int} {g : Nat} (h : IB w B C (.slice a n c) l g) : Ints w a l := by
  obtain ⟨a1, c1, e1, -, h1⟩ := h.ints
  simp only [Value.slice.injEq] at e1
  obtain ⟨rfl, -, rfl⟩ := e1
  exact h1
set_option maxHeartbeats 4000000 in
theorem lawInts_of (s : ByteArray) (L : List Int) (X : Bool) (w : World) (hl : s.size ≤ 9223372036854775807) (hL : L.length ≤ 1000000)
    (cP : ∀ W, Calls Try.prog 18 #[.string s] W fun e w' => Below W.heap.size W w' ∧ ∃ u, e = .returned (.tuple #[u, .bool X]) ∧ OwnI w' W.heap.size u L)
    (cI : ∀ W, Calls Try.prog 19 #[.string s] W fun e w' => Below W.heap.size W w' ∧ ∃ u, e = .returned (.tuple #[u, .bool X]) ∧ OwnI w' W.heap.size u L) :
    Calls Try.prog 5 #[.string s] w fun e w' => e = .returned (.bool true) ∧ Below w.heap.size w w' := by
  by_cases h : s.size ≤ 1048576
  · have hle : ¬ (1048576 : Int) < (s.size : Int) := by omega
    have hX : (X != X) = false := by cases X <;> rfl
    have cQ := fun W x c x' c' h h' => eqIntS_same x x' c c' L W (by omega) h h'
    have cK := fun B C g W x c h => markIntS_any B C g x c L 1 W (by omega) h
    have cH := fun W x c h => heldIntS_any x c L.length 1 W (by omega) h
    have hJ0 : decide ((((1 + L.length : Nat)) : Int) < 0) = false := by simp; omega
    have hJJ : ((((1 + L.length : Nat)) : Int) != ((1 + L.length : Nat) : Int)) = false := by simp
    generalize (((1 + L.length : Nat)) : Int) = J at *
    rw [show (((1 : Nat)) : Int) = 1 from rfl] at *
    go_enter Try.func5, Try.ntmps5
    go_wp2_with fail
    refine (cP _).mono ?_
    rintro e w3 ⟨b3, ev, rfl, he0⟩
    obtain ⟨ea, ec, rfl, hec, he⟩ := OwnI.ints he0
    have HE : Hid (Ints w3 ea L) := he
    clear he he0 cP
    go_wp2_with fail
    refine (cI _).mono ?_
    rintro e w5 ⟨b5, gv, rfl, hg0⟩
    obtain ⟨gg, hg⟩ := OwnI.ib hg0
    obtain ⟨ga, gc, rfl, -, -⟩ := id hg
    have HG5 : Hid (IB w5 w3.heap.size w5.heap.size (.slice ga L.length gc) L gg) := hg
    have E5 : Hid (Ints w5 ea L) := HE.out.below b5
    have I5 : Hid (Ints w5 ga L) := hg.at_
    have g5 := Below.comp b3 b5
    clear hg hg0
    go_wp2_with fail
    refine (cQ _ ga gc ea ec I5.out E5.out).mono ?_
    rintro e w10 ⟨rfl, b10⟩
    have g10 := Below.comp g5 b10
    have G10 : Hid (IB w10 w3.heap.size w5.heap.size (.slice ga L.length gc) L gg) := HG5.out.below b10
    have n10 : Below w3.heap.size w3 w10 := Below.comp b5 b10
    go_wp2_with fail
    refine (cK w3.heap.size w5.heap.size gg _ ga gc G10.out).mono ?_
    rintro e w11 ⟨rfl, hm, G11⟩
    have o11 : Out w3.heap.size w5.heap.size w10 w11 := mark_out hm G10.out.within
    have n11 : Below w3.heap.size w3 w11 := n10.trans (o11.below n10.size)
    have g11 : Below w.heap.size w w11 := Below.comp b3 n11
    have I11 : Hid (Ints w11 ga (mkl 1 L.length)) := G11.at_
    have E11 : Hid (Ints w11 ea L) := HE.out.below n11
    clear hm G11
    go_wp2_with fail
    refine (cH _ ga gc I11.out).mono ?_
    rintro e w12 ⟨rfl, e12⟩
    subst w12
    go_wp2_with fail
    refine (cI _).mono ?_
    rintro e w14 ⟨b14, gv', rfl, hg'⟩
    obtain ⟨a1, c1, rfl, -, i14⟩ := OwnI.ints hg'
    have E14 : Hid (Ints w14 ea L) := E11.out.below b14
    have I14 : Hid (Ints w14 a1 L) := i14
    clear hg' i14
    go_wp2_with fail
    refine (cQ _ a1 c1 ea ec I14.out E14.out).mono ?_
    rintro e w15 ⟨rfl, b15⟩
    have b1115 := Below.comp b14 b15
    go_wp2_with fail
    refine (cH _ ga gc (I11.out.below b1115)).mono ?_
    rintro e w16 ⟨rfl, e16⟩
    subst w16
    go_wp2_with fail
    go_ret
    exact ⟨rfl, Below.comp g11 b1115⟩
  · have h' : (1048576 : Int) < (s.size : Int) := by omega
    go_enter Try.func5, Try.ntmps5
    go_wp2
    go_ret
    exact ⟨rfl, Below.refl _ _⟩
theorem lawCutsOf (s : ByteArray) (w : World) (hl : s.size ≤ 9223372036854775807) :
    Calls Try.prog 5 #[.string s] w fun e w' => e = .returned (.bool true) ∧ Below w.heap.size w w' :=
  lawInts_of s (cuR s) _ w hl (by have := cuR_len s; omega) (fun W => specCuts_any s W hl) (fun W => implCuts_any s W hl)
end Go.Proofs.Ytnanemkmmokdfaa
