import Derived.Test.YtjalhfpjiakhoaaQ3
namespace Go.Proofs.Ytjalhfpjiakhoaa
open Go.ChangeShapes Go.WideShapes Go.ChangeAt Go.RowKit
set_option linter.unusedVariables false

/-- What a function that answers a list of numbers and a bool leaves. -/
def IntRes (w w' : World) (e : Ending) (ok : Bool) (L : List Int) : Prop :=
  Below w.heap.size w w' ∧ ∃ x cx, e = .returned (.tuple #[.slice x L.length cx, .bool ok]) ∧ Mine w' w.heap.size w'.heap.size 3 L.length x (ints L.length (getI L))
def diL (n m : Nat) (S : Nat → ByteArray) (T : Nat → Int) (U : Nat → ByteArray) : List Int := bif goodB n m S T U then dL T m else []
theorem diL_len {n m : Nat} {S : Nat → ByteArray} {T : Nat → Int} {U : Nat → ByteArray} : (diL n m S T U).length ≤ 32 := by
  unfold diL
  cases goodB n m S T U
  · simp
  · exact dL_len T m

set_option maxHeartbeats 1600000 in
theorem specDirty_any (a a' : Option Addr) (n m ca ca' : Nat) (S : Nat → ByteArray) (T : Nat → Int) (U : Nat → ByteArray) (w : World) (hn : n ≤ 1048576) (hm : m ≤ 1048576)
    (ha : At w a n fun i => .string (S i)) (ha' : At2 w a' m T U) (hs : ∀ i, i < n → (S i).size ≤ 9223372036854775807) (hs' : ∀ i, i < m → (U i).size ≤ 9223372036854775807) :
    Calls Try.prog 42 #[.agg #[.slice a n ca, .slice a' m ca']] w fun e w' => IntRes w w' e (goodB n m S T U) (diL n m S T U) := by
  have h0 : ∀ o1, Below w.heap.size w (w.alloc o1) := fun o1 => below_alloc _ _
  cases hg : goodB n m S T U
  · have e1 : diL n m S T U = [] := by simp [diL, hg]
    rw [e1]
    go_enter Try.func42, Try.ntmps42
    go_wp2_with (go_at_call 18; refine (specGood_any a a' n m ca ca' S T U _ hn hm (ha.below (h0 _)) (ha'.below (h0 _)) hs hs').mono ?_; rintro e w1 ⟨rfl, b1⟩)
    exact bodyPost_ret (v := .tuple #[.slice none 0 0, .bool false]) (by simp [results, Try.results42, go_sem]) rfl ⟨Below.comp (h0 _) b1, none, 0, rfl, .inl rfl⟩
  · have e1 : diL n m S T U = dL T m := by simp [diL, hg]
    rw [e1]
    obtain ⟨q1, q2, q3, q4, q5⟩ := goodB_spec hg
    have Q5 : Hid _ := q5
    clear e1 q4 q5
    go_enter Try.func42, Try.ntmps42
    go_wp2_with fail
    refine (specGood_any a a' n m ca ca' S T U _ hn hm (ha.below (h0 _)) (ha'.below (h0 _)) hs hs').mono ?_
    rintro e w1 ⟨rfl, b1⟩
    have g := Below.comp (h0 _) b1
    have c1 : w1.cell? ⟨w.heap.size, 1, none⟩ = some (.slice a' m ca') := cell_on (cell_new1 w _ _ _) b1
    have s1 : w.heap.size + 1 ≤ w1.heap.size := by have := b1.size; simpa using this
    clear b1 h0
    go_wp2
    clear hg
    have D0 : Hid _ := dL_zero T
    go_loopw [4, 13] (fun v i wr => ∃ (k : Nat), k ≤ m ∧ i = .int .i64 k ∧ wr.ownsRow w1.heap.size 3 1 v (dL T k).length (intL (dL T k)) ∧ Below w1.heap.size w1 wr) (fun _ i _ => m - (intOf i).toNat)
    case atStart => exact ⟨0, Nat.zero_le _, rfl, by rw [D0.out]; exact World.ownsRow_nil _ _ _ _, Below.refl _ _⟩
    case round =>
      obtain ⟨k, hkm, rfl, hown, hb⟩ := hrel
      by_cases hlt : k < m
      · obtain ⟨b, off, rfl, hcell⟩ := (ha'.below (Below.comp g hb)) (by omega)
        obtain ⟨hck, hck2⟩ := hcell k hlt
        obtain ⟨f1, f2, f3⟩ := fitB_spec (Q5.out k hlt)
        obtain ⟨t, ht⟩ : ∃ t : Nat, T k = t := ⟨(T k).toNat, by omega⟩
        rw [ht] at hck
        obtain ⟨A, R, hAR, hA, hR, hput⟩ := dL_put T k t ht (by omega)
        have hll := dL_len T k
        have hlt' : (k : Int) < (m : Int) := by omega
        have hsz := hb.size
        rw [hAR] at hown hll
        have KP : Hid _ := fun o => l1Put_any A R (t : Int) u4 w1.heap.size (wr.alloc o) hA hR (by rw [List.length_append] at hll; omega) (by simp; omega) (hown.alloc o)
        have HP : Hid _ := hput
        clear hcell hown hA hR hput ht hAR f1 f2 f3
        go_wp2_with fail
        refine (KP.out _).mono ?_
        rintro e w2 ⟨b2, v2, rfl, hown2⟩
        have HO : Hid _ := hown2
        clear hown2
        go_wp2
        go_roundw
        case rel => exact ⟨k + 1, by omega, by go_num, by rw [← HP.out]; exact HO.out, (hb.alloc hsz _).trans (b2.mono (by simp; omega))⟩
        case measure => simp [intOf]; omega
      · have hkm : k = m := by omega
        subst hkm
        obtain ⟨x, cx, hv⟩ := owns_form hown
        subst hv
        have mk := owns_ints rfl hown
        have HO : Hid _ := mk
        clear hown mk
        go_wp2
        exact bodyPost_ret (v := .tuple #[.slice x (dL T k).length cx, .bool true]) (by simp [results, Try.results42, go_sem]) rfl ⟨Below.comp g hb, x, cx, rfl, Mine.mono HO.out (by omega) (Nat.le_refl _)⟩
end Go.Proofs.Ytjalhfpjiakhoaa
