import Derived.Test.YthioomihpfmlmaaM2
import Derived.Test.YthioomihpfmlmaaQ3
import Derived.Test.YthioomihpfmlmaaA4
/- The program: an inode whose names are as said. -/
namespace Go.Proofs.Ythioomihpfmlmaa
open Go.ChangeShapes Go.WideShapes Go.ChangeAt Go.RowKit
set_option linter.unusedVariables false
open Hd

attribute [local go_sem] Oper.semAt_some

set_option maxHeartbeats 1000000 in
theorem allAreB_any (a : Option Addr) (l : List Nm) (cap : Nat) (f : Nat) (pre : Array Value) (cap' : Array Value) (p : Nm → Bool) (w : World) (hn : l.length ≤ 9223372036854775807) (hc : Nms w a l)
    (hcf : ∀ (args : Array Value) (u : World), (callFunc f args).run Try.prog u = .ok (.enter f args) u)
    (hp : ∀ i W, i < l.length → Below w.heap.size w W → Calls Try.prog f (pre.push (nv (gm l i)) ++ cap') W fun e W' => e = .returned (.bool (p (gm l i))) ∧ Below W.heap.size W W') :
    Calls Try.prog 42 #[.slice a l.length cap, .func (.func f) pre cap'] w fun e w' => Tel e (∀ i, i < l.length → p (gm l i) = true) ∧ Below w.heap.size w w' := by
  unfold Nms at hc
  have Hc : Hid _ := hc
  have Hp : Hid _ := hp
  clear hc hp
  obtain ⟨n, hln⟩ : ∃ n, l.length = n := ⟨_, rfl⟩
  rw [hln] at hn Hc Hp ⊢
  clear hln
  go_enter Try.func42, Try.ntmps42
  go_wp2
  go_loopw [9] (fun i wr => ∃ (k : Nat), k ≤ n ∧ i = .int .i64 k ∧ Hid (∀ i, i < k → p (gm l i) = true) ∧ Below w.heap.size w wr) (fun i _ => n - (intOf i).toNat)
  case atStart => exact ⟨0, Nat.zero_le _, rfl, fun i hi => absurd hi (by omega), Below.refl _ _⟩
  case round =>
    obtain ⟨k, hk, rfl, HI, hb⟩ := hrel
    by_cases hlt : k < n
    · obtain ⟨b, off, rfl, hcell⟩ := Hc.out (by omega)
      obtain ⟨k0, k1⟩ := (hcell k hlt).below hb
      clear hcell Hc
      have cp := fun W h => Hp.out k W hlt h
      obtain ⟨r, hr⟩ : ∃ r, p (gm l k) = r := ⟨_, rfl⟩
      have HR : Hid _ := hr
      rw [hr] at cp
      clear hr
      unfold nv at cp
      generalize (gm l k).nm = s at *
      generalize (gm l k).fl = fl at *
      go_wp2_with fail
      refine (cp _ (Below.comp hb (below_alloc _ _))).mono ?_
      rintro e w1 ⟨rfl, b1⟩
      have g1 := Below.comp hb (Below.comp (below_alloc _ _) b1)
      clear k0 k1 cp
      cases r with
      | true =>
        go_wp2_with fail
        go_roundw
        case rel => exact ⟨k + 1, by omega, by go_num, fun i hi => by by_cases e : i = k; (· subst e; exact HR.out); (· exact HI.out i (by omega)), g1⟩
        case measure => simp [intOf]; omega
      | false =>
        go_wp2_with fail
        go_ret
        exact ⟨Tel.no rfl (fun h => by have := h k hlt; rw [HR.out] at this; cases this), g1⟩
    · go_wp2
      go_ret
      exact ⟨Tel.yes rfl (fun i hi => HI.out i (by omega)), hb⟩
/-- A name means an inode. -/
def isT (n : Nat) (x : Nm) : Bool := isN x.nm && (decide (0 < x.fl) && decide (x.fl < n))
theorem means_any (n D : Nat) (x : Nm) (w : World) (hs : x.nm.size ≤ 9223372036854775807) (hD : w.cell? ⟨D, 0, none⟩ = some (.int .i64 (n : Int))) :
    Calls Try.prog 40 #[nv x, .pointer (some ⟨D, 0, none⟩)] w fun e w' => e = .returned (.bool (isT n x)) ∧ Below w.heap.size w w' := by
  obtain ⟨s, f⟩ := x
  have c := fun W => isName_any s W hs
  unfold isT nv
  simp only at c ⊢
  obtain ⟨W0, hW0⟩ : ∃ W0, w.alloc (.cells #[.string s, .int .i64 f] 49) = W0 := ⟨_, rfl⟩
  have q0 : Below w.heap.size w W0 := by subst hW0; exact below_alloc _ _
  have hD0 := cell_on hD q0
  obtain ⟨n0, n1, -, -⟩ := box2_cells (show W0.heap[w.heap.size]? = some (.cells #[.string s, .int .i64 f] 49 (0, 0)) by subst hW0; exact al1 _ _)
  cases hN : isN s with
  | false =>
    rw [hN] at c
    simp only [Bool.false_and]
    go_enter Try.func40, Try.ntmps40
    go_wp2_with (go_at_call 41; refine (c _).mono ?_; rintro e w' ⟨rfl, hww⟩; rw [hww])
    go_ret
    exact ⟨rfl, q0⟩
  | true =>
    rw [hN] at c
    simp only [Bool.true_and]
    cases h0 : decide (0 < f) with
    | false =>
      simp only [Bool.false_and]
      go_enter Try.func40, Try.ntmps40
      go_wp2_with (go_at_call 41; refine (c _).mono ?_; rintro e w' ⟨rfl, hww⟩; rw [hww])
      go_ret
      exact ⟨rfl, q0⟩
    | true =>
      simp only [Bool.true_and]
      generalize hz : decide (f < (n : Int)) = z
      go_enter Try.func40, Try.ntmps40
      go_wp2_with (go_at_call 41; refine (c _).mono ?_; rintro e w' ⟨rfl, hww⟩; rw [hww])
      go_ret
      exact ⟨rfl, q0⟩
theorem isT_iff {n : Nat} {x : Nm} : isT n x = true ↔ isN x.nm = true ∧ 1 ≤ x.fl ∧ x.fl < n := by
  unfold isT
  rw [Bool.and_eq_true, Bool.and_eq_true, decide_eq_true_eq, decide_eq_true_eq]
  constructor
  · rintro ⟨a, b, c⟩; exact ⟨a, by omega, c⟩
  · rintro ⟨a, b, c⟩; exact ⟨a, by omega, c⟩
set_option maxHeartbeats 1000000 in
theorem hasGood_any (n : Nat) (x : Ino) (a : Option Addr) (c : Nat) (w : World) (hf : FewN x.ns) (ha : Nms w a x.ns) :
    Calls Try.prog 28 #[.agg #[.bool x.dr, .int .i64 x.lk, .slice a x.ns.length c], .int .i64 (n : Int)] w fun e w' => Tel e (okN n x) ∧ Below w.heap.size w w' := by
  obtain ⟨dr, lk, l⟩ := x
  simp only at ha hf ⊢
  obtain ⟨s, hs⟩ : ∃ s, w.heap.size = s := ⟨_, rfl⟩
  obtain ⟨W0, hW0⟩ : ∃ W0, (w.alloc (.cells #[.bool dr, .int .i64 lk, .slice a l.length c] 43)).alloc (.cells #[.int .i64 (n : Int)] 3) = W0 := ⟨_, rfl⟩
  have q0 : Below w.heap.size w W0 := by subst hW0; exact ba2 _ _ _
  obtain ⟨B1, B2⟩ : W0.heap[s]? = some (.cells #[.bool dr, .int .i64 lk, .slice a l.length c] 43 (0, 0)) ∧ W0.heap[s + 1]? = some (.cells #[.int .i64 (n : Int)] 3 (0, 0)) := by subst hW0 hs; exact al2 _ _ _
  obtain ⟨i0, i1, i2, -, -, -⟩ := box3_cells B1
  obtain ⟨j0, -⟩ := box1_cells B2
  have H1 : Hid _ := B1
  clear B1 B2
  have hl20 := hf.1
  have HOK : Hid (okN n ⟨dr, lk, l⟩ ↔ (∀ i, i < l.length → isT n (gm l i) = true) ∧ (∀ i, i < l.length → 0 < i → les (gm l (i - 1)).nm (gm l i).nm = true) ∧ (dr = true ∨ l.length = 0) ∧ l.length ≤ 20) := by
    show _ ↔ _
    unfold okN okM
    simp only
    constructor
    · rintro ⟨h1, h2, h3⟩
      exact ⟨fun i hi => isT_iff.2 ⟨(h1 i hi).1, (h1 i hi).2.1, (h1 i hi).2.2.1⟩, fun i hi => (h1 i hi).2.2.2, by rcases h2 with h | h; (· exact .inl h); (· exact .inr (by rw [h]; rfl)), h3⟩
    · rintro ⟨h1, h2, h3, h4⟩
      exact ⟨fun i hi => ⟨(isT_iff.1 (h1 i hi)).1, (isT_iff.1 (h1 i hi)).2.1, (isT_iff.1 (h1 i hi)).2.2, h2 i hi⟩, by rcases h3 with h | h; (· exact .inl h); (· exact .inr (List.eq_nil_of_length_eq_zero h)), h4⟩
  have cA := allAreB_any a l c 40 #[] #[.pointer (some ⟨s + 1, 0, none⟩)] (isT n) W0 hf.1 (ha.below q0) (fun args u => enters_of Try.func40 (by kernel_rfl) rfl args u) (fun i W hi hW => means_any n (s + 1) (gm l i) W (hf.2 i hi) (cell_on j0 hW))
  have cR := fun W h => areRising_any a l c W hf.1 h
  have HN : Hid (Nms W0 a l) := ha.below q0
  have HL : Hid (l.length = l.length) := rfl
  clear ha hf
  generalize hln : l.length = m at *
  have hcs : 20 < m ∨ (¬ 20 < m ∧ ¬ m = 0 ∧ dr = false) ∨ (¬ 20 < m ∧ ¬ m = 0 ∧ dr = true) ∨ (m = 0 ∧ dr = true) ∨ (m = 0 ∧ dr = false) := by cases dr <;> simp <;> omega
  rcases hcs with h | ⟨h, h', rfl⟩ | ⟨h, h', rfl⟩ | ⟨rfl, rfl⟩ | ⟨rfl, rfl⟩
  · have h1 : decide ((20 : Int) < (m : Int)) = true := by simp; omega
    have HNo : Hid (¬ okN n ⟨dr, lk, l⟩) := fun q => absurd (HOK.out.1 q).2.2.2 (by omega)
    clear h
    go_enter Try.func28, Try.ntmps28
    go_wp2
    go_ret
    exact ⟨Tel.no rfl HNo.out, by first | exact q0 | exact hs ▸ q0⟩
  · have h1 : decide ((20 : Int) < (m : Int)) = false := by simp; omega
    have h2 : decide ((0 : Int) < (m : Int)) = true := by simp; omega
    have HNo : Hid (¬ okN n ⟨false, lk, l⟩) := fun q => by rcases (HOK.out.1 q).2.2.1 with e | e; (· cases e); (· exact h' e)
    clear h
    go_enter Try.func28, Try.ntmps28
    go_wp2
    go_ret
    exact ⟨Tel.no rfl HNo.out, by first | exact q0 | exact hs ▸ q0⟩
  all_goals
    first
    | (have h1 : decide ((20 : Int) < (m : Int)) = false := by simp; omega)
    | skip
    have HOK2 : Hid _ := HOK.out.trans (⟨fun q => ⟨q.1, q.2.1⟩, fun q => ⟨q.1, q.2, by simp, by omega⟩⟩ : _ ↔ ((∀ i, i < _ → isT n (gm l i) = true) ∧ (∀ i, i < _ → 0 < i → les (gm l (i - 1)).nm (gm l i).nm = true)))
    clear HOK hln
    go_enter Try.func28, Try.ntmps28
    go_wp2_with fail
    refine cA.mono ?_
    rintro e w1 ⟨⟨r, rfl, hr⟩, b1⟩
    have HR : Hid _ := hr
    have g1 := Below.comp q0 b1
    clear hr i0 i1 i2 j0 cA hW0
    obtain ⟨i0, i1, i2, -, -, -⟩ := box3_cells (box_on H1.out b1)
    cases r with
    | false =>
      go_wp2_with fail
      go_ret
      exact ⟨Tel.no rfl (fun q => by have := HR.out.2 (HOK2.out.1 q).1; cases this), by first | exact g1 | exact hs ▸ g1⟩
    | true =>
      have cR' := cR w1 (HN.out.below b1)
      clear cR
      go_wp2_with fail
      refine cR'.mono ?_
      rintro e w2 ⟨⟨r2, rfl, hr2⟩, b2⟩
      have HR2 : Hid _ := hr2
      clear hr2 i0 i1 i2 cR'
      go_wp2_with fail
      go_ret
      exact ⟨⟨r2, rfl, HR2.out.trans ⟨fun q => HOK2.out.2 ⟨HR.out.1 (by first | rfl | trivial), q⟩, fun q => (HOK2.out.1 q).2⟩⟩, by first | exact Below.comp g1 b2 | exact hs ▸ Below.comp g1 b2⟩
end Go.Proofs.Ythioomihpfmlmaa
