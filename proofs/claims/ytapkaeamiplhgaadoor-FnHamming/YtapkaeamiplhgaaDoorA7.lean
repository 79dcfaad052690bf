import Derived.Test.YtapkaeamiplhgaaDoorA6
namespace Go.Proofs.YtapkaeamiplhgaaDoor
open Go.ChangeShapes Go.WideShapes Go.ChangeAt Go.RowKit
set_option linter.unusedVariables false
open Ham

def heB (n : Int) : Bool := decide (0 ≤ n ∧ n ≤ 255)
def heN (n : Int) : Int := if 0 ≤ n ∧ n ≤ 255 then ((enc n.toNat : Nat) : Int) else 0
def hdB (n : Int) : Bool := decide (0 ≤ n ∧ n < 8192)
def hdN (n : Int) : Int := if 0 ≤ n ∧ n < 8192 then ((decN n.toNat : Nat) : Int) else 0
def hdC (n : Int) : Int := if 0 ≤ n ∧ n < 8192 then ((decC n.toNat : Nat) : Int) else 0
theorem he_in {n : Nat} (h : n < 256) : heB (n : Int) = true ∧ heN (n : Int) = ((enc n : Nat) : Int) := by
  have h' : 0 ≤ (n : Int) ∧ (n : Int) ≤ 255 := by omega
  unfold heB heN
  rw [decide_eq_true h', if_pos h', Int.toNat_natCast]; exact ⟨rfl, rfl⟩
theorem he_out {n : Int} (h : ¬ (0 ≤ n ∧ n ≤ 255)) : heB n = false ∧ heN n = 0 := by
  unfold heB heN
  rw [decide_eq_false h, if_neg h]; exact ⟨rfl, rfl⟩
theorem hd_in {n : Nat} (h : n < 8192) : hdB (n : Int) = true ∧ hdN (n : Int) = ((decN n : Nat) : Int) ∧ hdC (n : Int) = ((decC n : Nat) : Int) := by
  have h' : 0 ≤ (n : Int) ∧ (n : Int) < 8192 := by omega
  unfold hdB hdN hdC
  rw [decide_eq_true h', if_pos h', if_pos h', Int.toNat_natCast]; exact ⟨rfl, rfl, rfl⟩
theorem hd_out {n : Int} (h : ¬ (0 ≤ n ∧ n < 8192)) : hdB n = false ∧ hdN n = 0 ∧ hdC n = 0 := by
  unfold hdB hdN hdC
  rw [decide_eq_false h, if_neg h, if_neg h]; exact ⟨rfl, rfl, rfl⟩

theorem implHE_any (n : Int) (w : World) (ht : Tab w) :
    Calls Tryd.prog 5 #[.int .i64 n] w fun e w' => e = .returned (.tuple #[.int .i64 (heN n), .bool (heB n)]) ∧ Below w.heap.size w w' := by
  by_cases h : 0 ≤ n ∧ n ≤ 255
  · obtain ⟨m, rfl⟩ : ∃ m : Nat, n = (m : Int) := ⟨n.toNat, by omega⟩
    have hm : m < 256 := by omega
    rw [(he_in hm).1, (he_in hm).2]
    exact implEnc_any m w hm ht
  · rw [(he_out h).1, (he_out h).2]
    by_cases h1 : n < 0
    · clear h
      go_enter Tryd.func5, Tryd.ntmps5
      go_wp2
      go_ret2
      exact ⟨rfl, Below.refl _ _⟩
    · have h2 : (255 : Int) < n := by omega
      clear h
      go_enter Tryd.func5, Tryd.ntmps5
      go_wp2
      go_ret2
      exact ⟨rfl, Below.refl _ _⟩
theorem specHE_any (n : Int) (w : World) :
    Calls Tryd.prog 6 #[.int .i64 n] w fun e w' => e = .returned (.tuple #[.int .i64 (heN n), .bool (heB n)]) ∧ Below w.heap.size w w' := by
  by_cases h : 0 ≤ n ∧ n ≤ 255
  · obtain ⟨m, rfl⟩ : ∃ m : Nat, n = (m : Int) := ⟨n.toNat, by omega⟩
    have hm : m < 256 := by omega
    rw [(he_in hm).1, (he_in hm).2]
    have hin := l1In_t (m : Int) 0 255 w h.1 h.2
    clear h
    go_enter Tryd.func6, Tryd.ntmps6
    go_wp2_with fail
    refine hin.mono ?_
    rintro e w1 ⟨rfl, rfl⟩
    go_wp2_with fail
    refine (l4Encode_any m _ hm).mono ?_
    rintro e w2 ⟨rfl, g⟩
    go_wp2
    go_ret2
    exact ⟨rfl, g⟩
  · rw [(he_out h).1, (he_out h).2]
    have hin := l1In_f n 0 255 w h
    clear h
    go_enter Tryd.func6, Tryd.ntmps6
    go_wp2_with fail
    refine hin.mono ?_
    rintro e w1 ⟨rfl, rfl⟩
    go_wp2
    go_ret2
    exact ⟨rfl, Below.refl _ _⟩
theorem l4Word_any (n : Int) (w : World) :
    Calls Tryd.prog 25 #[.int .i64 n] w fun e w' => e = .returned (.bool (hdB n)) ∧ w' = w := by
  by_cases h : 0 ≤ n ∧ n < 8192
  · have hb : hdB n = true := decide_eq_true h
    rw [hb]
    have hin := l1In_t n 0 8191 w h.1 (by omega)
    clear h
    go_enter Tryd.func25, Tryd.ntmps25
    go_wp2_with fail
    refine hin.mono ?_
    rintro e w1 ⟨rfl, rfl⟩
    go_wp2
    go_ret
    exact ⟨rfl, rfl⟩
  · have hb : hdB n = false := decide_eq_false h
    rw [hb]
    have hin := l1In_f n 0 8191 w (by omega)
    clear h
    go_enter Tryd.func25, Tryd.ntmps25
    go_wp2_with fail
    refine hin.mono ?_
    rintro e w1 ⟨rfl, rfl⟩
    go_wp2
    go_ret
    exact ⟨rfl, rfl⟩
theorem specHD_any (n : Int) (w : World) :
    Calls Tryd.prog 11 #[.int .i64 n] w fun e w' => e = .returned (.tuple #[.int .i64 (hdN n), .int .i64 (hdC n), .bool (hdB n)]) ∧ Below w.heap.size w w' := by
  have hin := l4Word_any n w
  by_cases h : 0 ≤ n ∧ n < 8192
  · obtain ⟨m, rfl⟩ : ∃ m : Nat, n = (m : Int) := ⟨n.toNat, by omega⟩
    have hm : m < 8192 := by omega
    obtain ⟨e1, e2, e3⟩ := hd_in hm
    rw [e1] at hin
    rw [e1, e2, e3]
    clear h e1 e2 e3
    go_enter Tryd.func11, Tryd.ntmps11
    go_wp2_with fail
    refine hin.mono ?_
    rintro e w1 ⟨rfl, rfl⟩
    go_wp2_with fail
    refine (l4Decode_any m _ hm).mono ?_
    rintro e w2 ⟨rfl, g⟩
    go_wp2
    go_ret3
    exact ⟨rfl, g⟩
  · obtain ⟨e1, e2, e3⟩ := hd_out h
    rw [e1] at hin
    rw [e1, e2, e3]
    clear h e1 e2 e3
    go_enter Tryd.func11, Tryd.ntmps11
    go_wp2_with fail
    refine hin.mono ?_
    rintro e w1 ⟨rfl, rfl⟩
    go_wp2
    go_ret3
    exact ⟨rfl, Below.refl _ _⟩
theorem implHD_any (n : Int) (w : World) (ht : Tab w) :
    Calls Tryd.prog 7 #[.int .i64 n] w fun e w' => e = .returned (.tuple #[.int .i64 (hdN n), .int .i64 (hdC n), .bool (hdB n)]) ∧ Below w.heap.size w w' := by
  by_cases h : 0 ≤ n ∧ n < 8192
  · obtain ⟨m, rfl⟩ : ∃ m : Nat, n = (m : Int) := ⟨n.toNat, by omega⟩
    have hm : m < 8192 := by omega
    obtain ⟨e1, e2, e3⟩ := hd_in hm
    rw [e1, e2, e3]
    exact implDec_any m w hm ht
  · obtain ⟨e1, e2, e3⟩ := hd_out h
    have hin := isWord_any n w
    rw [decide_eq_false h] at hin
    rw [e1, e2, e3]
    clear h e1 e2 e3
    go_enter Tryd.func7, Tryd.ntmps7
    go_wp2_with fail
    refine hin.mono ?_
    rintro e w1 ⟨rfl, rfl⟩
    go_wp2
    go_ret3
    exact ⟨rfl, Below.refl _ _⟩

end Go.Proofs.YtapkaeamiplhgaaDoor
