import Derived.Test.YtpafeophdgnkmaaSy0
import Derived.Test.YtpafeophdgnkmaaA1
import Derived.Test.YtpafeophdgnkmaaX1
/- Room of one extent at most: addBetween, joinAll, sizesOf and roomWith of it. -/
namespace Go.Proofs.Ytpafeophdgnkmaa
open Go.ChangeShapes Go.WideShapes Go.ChangeAt Go.RowKit
set_option linter.unusedVariables false
open Room

attribute [local go_sem] Oper.semAt_some

def btn (f t : Int) : List Ex := if f = t then [] else [(f, wrap64 (t - f))]
theorem btn_len (f t : Int) : (btn f t).length ≤ 1 := by unfold btn; split <;> simp
theorem addBtwNil_any (f t : Int) (w : World) :
    Calls Try.prog 12 #[.slice none 0 0, .int .i64 f, .int .i64 t] w fun e w' => Below w.heap.size w w' ∧ ∃ x c, e = .returned (.slice x (btn f t).length c) ∧ OwnR w' w.heap.size (.slice x (btn f t).length c) (btn f t) := by
  have h : OwnR w w.heap.size (.slice none 0 0) [] := OwnR.nil _ _
  by_cases e : f = t
  · rw [show btn f t = [] from if_pos e]
    have HO : Hid (OwnR w w.heap.size (.slice none 0 0) []) := h
    clear h
    subst e
    go_enter Try.func12, Try.ntmps12
    go_wp2
    go_ret
    exact ⟨Below.refl _ _, none, 0, rfl, HO.out⟩
  · rw [show btn f t = [(f, wrap64 (t - f))] from if_neg e]
    have e' : (f == t) = false := by simp [e]
    obtain ⟨d, hd⟩ : ∃ d, d = wrap64 (t - f) := ⟨_, rfl⟩
    subst hd
    have own1 := owns_below h (below_alloc w (.cells #[.int .i64 f, .int .i64 (wrap64 (t - f))] 36))
    have sr := src_one w f (wrap64 (t - f)) 36
    clear h e
    have hz : w.heap.size ≤ (w.alloc (.cells #[.int .i64 f, .int .i64 (wrap64 (t - f))] 36)).heap.size := by simp
    go_enter Try.func12, Try.ntmps12
    go_wp2_with (at_builtin; refine wpList_append_src rfl _ _ 22 rfl w.heap.size 36 _ 2 16 Try.underlying22 info31 rfl (by decide) (.slice none 0 0) 0 (cxs []) rfl own1 (some ⟨w.heap.size, 0, none⟩) 1 1 (cxs [(f, wrap64 (t - f))]) rfl rfl sr (cxs_one _) (by omega) (by decide) hz ?_; intro v1 w1 own2 gr1; obtain ⟨x1, c1, e1⟩ := owns_form own2; subst e1)
    go_ret
    exact ⟨Grown.below (grown_alloc gr1) (Nat.le_refl _) (fun k hk => by cases hk), x1, c1, rfl, own2⟩
/-- A row of one extent at most, joined: as it was. -/
theorem joinFew_any (a : Option Addr) (c : Nat) (L : List Ex) (w : World) (hL : L.length ≤ 1) (ha : Exs w a L) :
    Calls Try.prog 24 #[.slice a L.length c, .func (.func 25) #[] #[]] w fun e w' => Below w.heap.size w w' ∧ ∃ v, e = .returned v ∧ OwnR w' w.heap.size v L := by
  have HJ : Hid (∀ k, k < L.length → L.take (k + 1) = [gx L k] ∧ L.take k = [] ∧ k = 0) := fun k hk => by
    match L, hL with
    | [], _ => exact absurd hk (by simp)
    | [x], _ => obtain rfl : k = 0 := by simpa using hk
                exact ⟨rfl, rfl, rfl⟩
  have HE : Hid (L.take L.length = L) := by show _ = _; rw [List.take_length]
  have H0 : Hid (L.take 0 = []) := rfl
  obtain ⟨J, hJ⟩ : ∃ J : Nat → List Ex, (fun k => L.take k) = J := ⟨_, rfl⟩
  have hJ' : ∀ k, L.take k = J k := fun k => by rw [← hJ]
  simp only [hJ'] at HJ HE H0
  clear hJ hJ'
  unfold Exs at ha
  generalize gx L = f at *
  generalize L.length = n at *
  obtain ⟨Z, hZ⟩ : ∃ Z, w.heap.size = Z := ⟨_, rfl⟩
  go_enter Try.func24, Try.ntmps24
  go_wp2
  go_loopw [13, 5] (fun i o wr => ∃ (k : Nat) (v : Value), k ≤ n ∧ i = .int .i64 k ∧ v = o ∧ Hid (OwnR wr Z v (J k)) ∧ Below Z w wr ∧ Z ≤ wr.heap.size) (fun i _ _ => n - (intOf i).toNat)
  case atStart => exact ⟨0, _, Nat.zero_le _, rfl, rfl, by rw [H0.out]; exact OwnR.nil _ _, Below.refl _ _, by omega⟩
  case round =>
    obtain ⟨k, v, hk, rfl, rfl, HO, hb, hz⟩ := hrel
    have hbW : Below w.heap.size w wr := hZ ▸ hb
    by_cases hlt : k < n
    · obtain ⟨bb, off, rfl, hcell⟩ := (ha.below hbW) (by omega)
      obtain ⟨k0, k1⟩ := hcell k hlt
      clear hcell
      obtain ⟨hst, hs0, -⟩ := HJ.out k hlt
      generalize f k = x at *
      obtain ⟨p, q⟩ := x
      simp only at k0 k1
      obtain ⟨W1, hW1⟩ : ∃ W1, wr.alloc (.cells #[.int .i64 p, .int .i64 q] 36) = W1 := ⟨_, rfl⟩
      obtain ⟨E, hE⟩ : ∃ E, wr.heap.size = E := ⟨_, rfl⟩
      have b1 : Below wr.heap.size wr W1 := by subst hW1; exact below_alloc _ _
      have HE1 : Hid (W1.heap[E]? = some (.cells #[.int .i64 p, .int .i64 q] 36 (0, 0))) := by subst hW1 hE; exact al1 _ _
      obtain ⟨e0, e1, -, -⟩ := box2_cells HE1.out
      have own1 : OwnR W1 Z v (J k) := owns_below HO.out b1
      have z1 : Z ≤ W1.heap.size := Nat.le_trans hz b1.size
      have g1 : Below Z w W1 := hb.trans (b1.mono hz)
      rw [hs0] at own1
      obtain ⟨x, c2, rfl⟩ := owns_form own1
      have own2 := owns_below own1 (below_alloc W1 (.cells #[.int .i64 p, .int .i64 q] 36))
      have sr := src_one W1 p q 36
      have z2 : Z ≤ (W1.alloc (.cells #[.int .i64 p, .int .i64 q] 36)).heap.size := by simp; omega
      have HOw : Hid (OwnR W1 Z (.slice x 0 c2) []) := own1
      have HST : Hid _ := hst
      clear own1 hst hs0
      simp only [List.length_nil] at *
      go_wp2_with (at_builtin; refine wpList_append_src rfl _ _ 22 rfl Z 36 _ 2 16 Try.underlying22 info31 rfl (by decide) (.slice x 0 c2) 0 (cxs []) rfl own2 (some ⟨W1.heap.size, 0, none⟩) 1 1 (cxs [(p, q)]) rfl rfl sr (cxs_one _) (by omega) (by decide) z2 ?_; intro v2 w2 own3 gr2'; have gr2 := grown_alloc gr2'; have b2 : Below Z w w2 := g1.trans (Grown.below gr2 z1 (owns_ge HOw.out)); have z3 : Z ≤ w2.heap.size := Nat.le_trans z1 gr2.size; have HO3 : Hid (w2.ownsRow Z 36 2 v2 (0 + 1) (cxs [] ++ cxs [(p, q)])) := own3; clear gr2 gr2' own3)
      go_roundw
      case rel => exact ⟨k + 1, _, by omega, by go_num, rfl, by rw [HST.out]; exact HO3.out, b2, z3⟩
      case measure => simp [intOf]; omega
    · obtain rfl : k = n := by omega
      have HO2 : Hid (OwnR wr Z v L) := by rw [HE.out] at HO; exact HO
      have HB : Hid (Below w.heap.size w wr) := hbW
      clear HO
      go_wp2
      go_ret
      exact ⟨HB.out, _, rfl, hZ ▸ HO2.out⟩
theorem sizesFew_any (a : Option Addr) (ca : Nat) (L : List Ex) (w : World) (hL : L.length ≤ 1) (ha : Exs w a L) :
    Calls Try.prog 26 #[.slice a L.length ca] w fun e w' => Below w.heap.size w w' ∧ ∃ y cy, e = .returned (.slice y L.length cy) ∧ Own w' w.heap.size w'.heap.size y L := by
  have c66 := copyList_any a ca L w (by omega) ha
  obtain ⟨E, hE⟩ : ∃ E, w.heap.size = E := ⟨_, rfl⟩
  have c67 : ∀ W c, W.heap[E]? = some (.cells c 36 (0, 0)) → exsN L.length (gx L) c → Calls Try.prog 22 #[.slice (some ⟨E, 0, none⟩) L.length L.length, .func (.func 42) #[] #[]] W fun e w' => e = .returned (.tuple #[]) ∧ Out E (E + 1) W w' ∧ ∃ c', w'.heap[E]? = some (.cells c' 36 (0, 0)) ∧ exsN L.length (gx L) c' := by
    intro W c h1 h2
    match L, hL with
    | [], _ => exact (sortNone _ _ _ W).mono fun e w' ⟨he, hw⟩ => by subst hw; exact ⟨he, Out.refl _ _ _, c, h1, h2⟩
    | [x], _ => exact sortOneS x E 1 W c h1 h2
  rw [hE] at c66
  have HE : Hid _ := hE
  clear hE ha
  have HQ : Hid (∀ (w' : World) c', w'.heap[E]? = some (.cells c' 36 (0, 0)) → exsN L.length (gx L) c' → Own w' E w'.heap.size (some ⟨E, 0, none⟩) L) := fun w' c' h1 h2 => .inr ⟨E, c', Nat.le_refl _, box_lt h1, rfl, h1, h2⟩
  generalize gx L = f at *
  generalize L.length = n at *
  go_enter Try.func26, Try.ntmps26
  go_wp2_with fail
  refine c66.mono ?_
  rintro e w1 ⟨g1, rfl, c, hc1, hc2⟩
  have HC : Hid _ := hc1
  clear hc1 c66
  go_wp2_with fail
  refine (c67 _ c HC.out hc2).mono ?_
  rintro e w2 ⟨rfl, o2, c', x2, x3⟩
  have HX2 : Hid _ := x2
  clear x2
  have g2 : Below w.heap.size w w2 := (HE.out.symm ▸ g1 : Below w.heap.size w w1).trans (HE.out.symm ▸ (o2.below (by have := box_lt HC.out; omega)))
  go_wp2
  go_ret
  exact ⟨by first | exact g2 | exact (HE.out ▸ g2), _, _, rfl, by have := HQ.out w2 c' HX2.out x3; first | exact this | (rw [HE.out]; exact this)⟩
end Go.Proofs.Ytpafeophdgnkmaa
