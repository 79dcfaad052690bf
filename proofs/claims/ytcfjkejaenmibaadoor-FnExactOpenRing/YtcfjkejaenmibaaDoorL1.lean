import Derived.Test.YtcfjkejaenmibaaDoorB2
import Derived.Lib.QuietBelow
/- What the laws do with rows of slots: copy, compare, mark, hold. -/
namespace Go.Proofs.YtcfjkejaenmibaaDoor
open Go.ChangeShapes Go.WideShapes Go.ChangeAt Go.RowKit
set_option linter.unusedVariables false
open Lg

attribute [local go_sem] Oper.semAt_some

def mdg : Nat → Nat → List UInt8 → List UInt8
  | 0, _, acc => acc
  | f + 1, k, acc => if k = 0 then acc else mdg f (k / 10) ((48 + UInt8.ofNat (k % 10)) :: acc)
def mkText (k : Nat) : ByteArray := ⟨(109 :: mdg k k []).toArray⟩
theorem str_cons (d : UInt8) (l : List UInt8) : ((⟨#[d]⟩ : ByteArray) ++ ⟨l.toArray⟩) = ⟨(d :: l).toArray⟩ := by
  apply ByteArray.ext
  simp
set_option maxHeartbeats 400000 in
theorem markText_any (K : Nat) (w : World) (h0 : 1 ≤ K) (h1 : K ≤ 1000000000) :
    Calls Tryd.prog 60 #[.int .i64 K] w fun e w' => e = .returned (.string (mkText K)) ∧ Below w.heap.size w w' := by
  have HM : Hid (mkText K = ⟨(109 :: mdg K K []).toArray⟩) := rfl
  generalize mkText K = r at HM ⊢
  go_enter Tryd.func60, Tryd.ntmps60
  go_wp2
  go_loopw [0, 3] (fun i o wr => ∃ (k f : Nat) (l : List UInt8), i = .int .i64 k ∧ o = .string ⟨l.toArray⟩ ∧ k ≤ f ∧ k ≤ K ∧ l.length + f ≤ K ∧ mdg f k l = mdg K K [] ∧ Below w.heap.size w wr) (fun i _ _ => (intOf i).toNat)
  case atStart => exact ⟨K, K, [], rfl, rfl, Nat.le_refl _, Nat.le_refl _, by simp, rfl, Below.refl _ _⟩
  case round =>
    obtain ⟨k, f, l, rfl, rfl, hf, hkK, hl, hd, hb⟩ := hrel
    have HD : Hid _ := hd
    clear hd
    by_cases hk : 0 < k
    · have hk' : (0 : Int) < (k : Int) := by omega
      have hconv : ∀ (wx : World), (convert 80 9 (.slice (some ⟨wx.heap.size, 0, none⟩) 1 1)).run Tryd.prog (wx.alloc (.cells #[.int .u8 (48 + (k : Int) % 10)] 5)) = .ok (.string ⟨#[UInt8.ofNat (48 + k % 10)]⟩) (wx.alloc (.cells #[.int .u8 (48 + (k : Int) % 10)] 5)) := fun wx =>
        run_convert_bytes_back (P := Tryd.prog) (wx.alloc (.cells #[.int .u8 (48 + (k : Int) % 10)] 5)) 80 9 5 ⟨wx.heap.size, 0, none⟩ 1 [UInt8.ofNat (48 + k % 10)] Tryd.underlying80 Tryd.underlying5 Tryd.underlying9 (fun j hj => by
          have hj0 : j = 0 := by simp at hj; omega
          subst hj0
          simp [go_sem, Addr.add]
          omega)
      have hl' : l.length ≤ 1000000000 := by omega
      go_wp2
      go_roundw
      case rel =>
        refine ⟨k / 10, f - 1, (48 + UInt8.ofNat (k % 10)) :: l, by go_num, congrArg Value.string (str_cons _ _), by omega, by omega, by simp; omega, ?_, Below.comp hb (below_alloc _ _)⟩
        have hd := HD.out
        obtain ⟨f', rfl⟩ : ∃ f', f = f' + 1 := ⟨f - 1, by omega⟩
        rw [← hd]
        show _ = mdg (f' + 1) k l
        rw [mdg, if_neg (by omega)]
        rfl
      case measure => simp [intOf]; omega
    · have hk0 : k = 0 := by omega
      subst hk0
      have hd : l = mdg K K [] := by
        rw [← HD.out]
        cases f with
        | zero => rfl
        | succ f => rw [mdg, if_pos rfl]
      have hl' : l.length ≤ 1000000000 := by omega
      have HD' : Hid _ := hd
      clear hd HD
      go_wp2
      go_ret
      refine ⟨?_, hb⟩
      rw [HM.out, ← HD'.out]
      exact congrArg (fun x => Ending.returned (Value.string x)) (str_cons _ _)
set_option maxHeartbeats 1000000 in
theorem toSlotS_any (a : Option Addr) (n cap : Nat) (g : Nat → Sl) (w : World) (hn : n ≤ 1048576) (hc : RowS w a n g) :
    Calls Tryd.prog 37 #[.slice a n cap] w fun e w' => Below w.heap.size w w' ∧ ∃ a', e = .returned (.slice a' n n) ∧ MineS w' w.heap.size w'.heap.size a' n g := by
  have hmk := make_any (P := Tryd.prog) 22 41 _ 4 40 Tryd.underlying22 infoSl .i64 .i64 n (by omega) (by omega)
  go_enter Tryd.func37, Tryd.ntmps37
  go_wp2
  go_loopw [4] (fun i wr => ∃ (k : Nat) (c : Array Value), k ≤ n ∧ i = .int .i64 k ∧ wr.heap[w.heap.size]? = some (.cells c 41 (0, 0)) ∧ c.size = n * 4 ∧ slsN k g c ∧ Below w.heap.size w wr) (fun i _ => n - (intOf i).toNat)
  case atStart => exact ⟨0, _, Nat.zero_le _, rfl, heap_alloc_new w _, by simp [size_made], fun i hi => absurd hi (by simp), (Below.refl _ _).alloc (Nat.le_refl _) _⟩
  case round =>
    obtain ⟨k, c, hk, rfl, hB, hcs, hst, hb⟩ := hrel
    by_cases hlt : k < n
    · obtain ⟨b, off, rfl, hcell⟩ := (hc.below hb) (by omega)
      obtain ⟨k0, k1, k2, k3⟩ := hcell k hlt
      clear hcell hc
      have HB : Hid (wr.heap[w.heap.size]? = some (.cells c 41 (0, 0))) := hB
      clear hB
      generalize hx : g k = x at k0 k1 k2 k3
      have HX : Hid _ := hx
      clear hx
      obtain ⟨pc, pt, pd, ps⟩ := x
      simp only at k0 k1 k2 k3
      go_wp2_with (go_at_call 22; refine (toSlot_any ⟨pc, pt, pd, ps⟩ _).mono ?_; rintro e w1 ⟨rfl, b1⟩; have HB1 : Hid (w1.heap[w.heap.size]? = some (.cells c 41 (0, 0))) := box_on HB.out b1; obtain ⟨⟨v0, g0⟩, ⟨v1, g1⟩, ⟨v2, g2⟩, ⟨v3, g3⟩, f0, f1, f2, f3⟩ := cells4 HB1.out (n := n) (k := k) (by omega) hlt)
      go_roundw
      case rel => exact ⟨k + 1, _, by omega, by go_num, block_set (block_set (block_set (block_set HB1.out))), by simpa using hcs, slsN_put (p := ⟨pc, pt, pd, ps⟩) hst (by omega) hlt HX.out, ((((Below.comp hb b1).setCell (by simp) _).setCell (by simp) _).setCell (by simp) _).setCell (by simp) _⟩
      case measure => simp [intOf]; omega
    · go_wp2
      go_ret
      have hkn : k = n := by omega
      subst hkn
      exact ⟨hb, _, rfl, .inr ⟨_, c, Nat.le_refl _, (Array.getElem?_eq_some_iff.1 hB).1, rfl, hB, hst⟩⟩
set_option maxHeartbeats 1000000 in
/-- Two rows compared: they are the same ones. -/
theorem eqSlotS_same (a a' : Option Addr) (n cap cap' : Nat) (g : Nat → Sl) (w : World) (hn : n ≤ 9223372036854775807) (hc : RowS w a n g) (hc' : RowS w a' n g) :
    Calls Tryd.prog 39 #[.slice a n cap, .slice a' n cap'] w fun e w' => e = .returned (.bool true) ∧ Below w.heap.size w w' := by
  go_enter Tryd.func39, Tryd.ntmps39
  go_wp2
  go_loopw [5] (fun i wr => ∃ (k : Nat), k ≤ n ∧ i = .int .i64 k ∧ Below w.heap.size w wr) (fun i _ => n - (intOf i).toNat)
  case atStart => exact ⟨0, Nat.zero_le _, rfl, Below.refl _ _⟩
  case round =>
    obtain ⟨k, hk, rfl, hb⟩ := hrel
    by_cases hlt : k < n
    · obtain ⟨b, off, rfl, hcell⟩ := (hc.below hb) (by omega)
      obtain ⟨b', off', rfl, hcell'⟩ := (hc'.below hb) (by omega)
      obtain ⟨k0, k1, k2, k3⟩ := hcell k hlt
      obtain ⟨k0', k1', k2', k3'⟩ := hcell' k hlt
      have hlt' : (k : Int) < (n : Int) := by omega
      clear hcell hc hcell' hc'
      generalize g k = x at k0 k1 k2 k3 k0' k1' k2' k3'
      obtain ⟨pc, pt, pd, ps⟩ := x
      simp only at k0 k1 k2 k3 k0' k1' k2' k3'
      have SB : Hid (∀ W, Below wr.heap.size wr W → W.cell? ⟨b, off + k * 4, none⟩ = some (.int .i64 pc) ∧ W.cell? ⟨b, off + k * 4 + 1, none⟩ = some (.int .i64 pt) ∧ W.cell? ⟨b, off + k * 4 + 2, none⟩ = some (.string pd) ∧ W.cell? ⟨b, off + k * 4 + 3, none⟩ = some (.int .i64 ps) ∧ W.cell? ⟨b', off' + k * 4, none⟩ = some (.int .i64 pc) ∧ W.cell? ⟨b', off' + k * 4 + 1, none⟩ = some (.int .i64 pt) ∧ W.cell? ⟨b', off' + k * 4 + 2, none⟩ = some (.string pd) ∧ W.cell? ⟨b', off' + k * 4 + 3, none⟩ = some (.int .i64 ps) ∧ Below wr.heap.size wr W) := fun W g => ⟨cell_on k0 g, cell_on k1 g, cell_on k2 g, cell_on k3 g, cell_on k0' g, cell_on k1' g, cell_on k2' g, cell_on k3' g, g⟩
      clear k0 k1 k2 k3 k0' k1' k2' k3'
      go_wp2
      go_region_held3 (fun W => W.cell? ⟨b, off + k * 4, none⟩ = some (.int .i64 pc) ∧ W.cell? ⟨b, off + k * 4 + 1, none⟩ = some (.int .i64 pt) ∧ W.cell? ⟨b, off + k * 4 + 2, none⟩ = some (.string pd) ∧ W.cell? ⟨b, off + k * 4 + 3, none⟩ = some (.int .i64 ps) ∧ W.cell? ⟨b', off' + k * 4, none⟩ = some (.int .i64 pc) ∧ W.cell? ⟨b', off' + k * 4 + 1, none⟩ = some (.int .i64 pt) ∧ W.cell? ⟨b', off' + k * 4 + 2, none⟩ = some (.string pd) ∧ W.cell? ⟨b', off' + k * 4 + 3, none⟩ = some (.int .i64 ps) ∧ Below wr.heap.size wr W)
        ((refine SB.out _ ?_; first | assumption | exact Below.drew (Below.refl _ _)))
        (first
        | (go_at_call 63; obtain ⟨-, -, -, -, -, -, -, -, hw0⟩ := ‹_ ∧ _ ∧ _ ∧ _ ∧ _ ∧ _ ∧ _ ∧ _ ∧ Below wr.heap.size wr _›; refine (eqSlot_any ⟨pc, pt, pd, ps⟩ _).mono ?_; rintro e w1 ⟨rfl, g1⟩; have g2 := Below.comp hw0 g1))
      all_goals go_wp2
      go_roundw
      case rel => exact ⟨k + 1, by omega, by go_num, Below.comp hb (by assumption)⟩
      case measure => simp [intOf]; omega
    · go_wp2
      go_ret
      exact ⟨rfl, hb⟩
/-- The marks. -/
def mks (k : Nat) : Nat → Sl := fun i => ⟨((k + i * 4 : Nat) : Int), ((k + i * 4 + 1 : Nat) : Int), mkText (k + i * 4 + 2), ((k + i * 4 + 3 : Nat) : Int)⟩
set_option maxHeartbeats 2000000 in
theorem markSlotS_any (B C : Nat) (a : Option Addr) (n cap : Nat) (f : Nat → Sl) (k : Nat) (w : World) (hk1 : 1 ≤ k) (hkn : k + n * 4 ≤ 100000000) (hm : MineS w B C a n f) :
    Calls Tryd.prog 40 #[.slice a n cap, .int .i64 k] w fun e w' => e = .returned (.int .i64 ((k + n * 4 : Nat) : Int)) ∧ Out B C w w' ∧ MineS w' B C a n (mks k) := by
  rcases hm with h0 | ⟨b, c0, hb1, hb2, rfl, hB0, hS0⟩
  · subst h0
    go_enter Tryd.func40, Tryd.ntmps40
    go_wp2
    refine wp_loop_rounds 1 ?_
    rw [rounds_succ]
    go_wp2
    go_ret
    exact ⟨by simp, Out.refl _ _ _, .inl rfl⟩
  · have hsz : n * 4 ≤ c0.size := by
      by_cases h0 : n = 0
      · omega
      · have := (Array.getElem?_eq_some_iff.1 (hS0 (n - 1) (by omega)).2.2.2).1
        omega
    have HB0 : Hid _ := hB0
    clear hB0
    go_enter Tryd.func40, Tryd.ntmps40
    go_wp2
    go_loopw [1, 5] (fun kk i wr => ∃ (q : Nat) (c : Array Value), q ≤ n ∧ kk = .int .i64 ((k + q * 4 : Nat) : Int) ∧ i = .int .i64 q ∧ wr.heap[b]? = some (.cells c 41 (0, 0)) ∧ n * 4 ≤ c.size ∧ Hid (slsN q (mks k) c) ∧ Out B C w wr) (fun _ i _ => n - (intOf i).toNat)
    case atStart => exact ⟨0, c0, Nat.zero_le _, rfl, rfl, HB0.out, hsz, fun i hi => absurd hi (by omega), Out.refl _ _ _⟩
    case round =>
      obtain ⟨q, c, hq, rfl, rfl, hB, hcs, hst, ho⟩ := hrel
      by_cases hlt : q < n
      · obtain ⟨⟨v0, g0⟩, ⟨v1, g1⟩, ⟨v2, g2⟩, ⟨v3, g3⟩, f0, f1, f2, f3⟩ := cells4 hB hcs hlt
        have HB : Hid _ := hB
        clear hB
        have cT := fun W => markText_any (k + q * 4 + 2) W (by omega) (by omega)
        have e1 : IntKind.i64.wrap (((k + q * 4 : Nat) : Int) + 1) = ((k + q * 4 + 1 : Nat) : Int) := by rw [wrapI (by omega) (by omega)]; omega
        have e2 : IntKind.i64.wrap (((k + q * 4 + 1 : Nat) : Int) + 1) = ((k + q * 4 + 2 : Nat) : Int) := by rw [wrapI (by omega) (by omega)]; omega
        have e3 : IntKind.i64.wrap (((k + q * 4 + 2 : Nat) : Int) + 1) = ((k + q * 4 + 3 : Nat) : Int) := by rw [wrapI (by omega) (by omega)]; omega
        have e4 : IntKind.i64.wrap (((k + q * 4 + 3 : Nat) : Int) + 1) = ((k + (q + 1) * 4 : Nat) : Int) := by rw [wrapI (by omega) (by omega)]; omega
        have em : Hid (mks k q = ⟨((k + q * 4 : Nat) : Int), ((k + q * 4 + 1 : Nat) : Int), mkText (k + q * 4 + 2), ((k + q * 4 + 3 : Nat) : Int)⟩) := rfl
        generalize mkText (k + q * 4 + 2) = T at *
        generalize hk0 : ((k + q * 4 : Nat) : Int) = K0 at *
        generalize hk1 : ((k + q * 4 + 1 : Nat) : Int) = K1 at *
        generalize hk2 : ((k + q * 4 + 2 : Nat) : Int) = K2 at *
        generalize hk3 : ((k + q * 4 + 3 : Nat) : Int) = K3 at *
        generalize hk4 : ((k + (q + 1) * 4 : Nat) : Int) = K4 at *
        have H4 : Hid _ := hk4
        clear hk0 hk1 hk2 hk3 hk4
        obtain ⟨W1, hW1⟩ : ∃ W1, (wr.setCell ⟨b, q * 4, none⟩ (.int .i64 K0)).setCell ⟨b, q * 4 + 1, none⟩ (.int .i64 K1) = W1 := ⟨_, rfl⟩
        have HB1 : Hid (W1.heap[b]? = some (.cells ((c.setIfInBounds (q * 4) (.int .i64 K0)).setIfInBounds (q * 4 + 1) (.int .i64 K1)) 41 (0, 0))) := by subst hW1; exact block_set (block_set HB.out)
        have o1 : Out B C w W1 := by subst hW1; exact (ho.setCell hb1 hb2 _ _).setCell hb1 hb2 _ _
        go_wp2_with fail
        refine (cT _).mono ?_
        rintro e w2 ⟨rfl, b2⟩
        have HB2 : Hid (w2.heap[b]? = some (.cells ((c.setIfInBounds (q * 4) (.int .i64 K0)).setIfInBounds (q * 4 + 1) (.int .i64 K1)) 41 (0, 0))) := box_on HB1.out b2
        clear g0 g1 g2 g3 f0 f1 f2 f3 hW1
        obtain ⟨-, -, ⟨v2, g2⟩, ⟨v3, g3⟩, -, -, f2, f3⟩ := cells4 (n := n) HB2.out (by simpa using hcs) hlt
        go_wp2
        go_roundw
        case rel =>
          refine ⟨q + 1, _, by omega, by rw [H4.out], by go_num, block_set (block_set HB2.out), by simpa using hcs, slsN_put (p := ⟨K0, K1, T, K3⟩) hst.out hcs hlt em.out, (((o1.trans (Out.of_below b2)).setCell hb1 hb2 _ _).setCell hb1 hb2 _ _)⟩
        case measure => simp [intOf]; omega
      · have hqn : q = n := by omega
        subst hqn
        go_wp2
        go_ret
        exact ⟨rfl, ho, .inr ⟨b, c, hb1, hb2, rfl, hB, hst.out⟩⟩
set_option maxHeartbeats 2000000 in
theorem heldSlotS_any (a : Option Addr) (n cap : Nat) (k : Nat) (w : World) (hk1 : 1 ≤ k) (hkn : k + n * 4 ≤ 100000000) (hc : RowS w a n (mks k)) :
    Calls Tryd.prog 47 #[.slice a n cap, .int .i64 k] w fun e w' => e = .returned (.int .i64 ((k + n * 4 : Nat) : Int)) ∧ Below w.heap.size w w' := by
  have Hc : Hid _ := hc
  clear hc
  go_enter Tryd.func47, Tryd.ntmps47
  go_wp2
  go_loopw [1, 5] (fun kk i wr => ∃ (q : Nat), q ≤ n ∧ kk = .int .i64 ((k + q * 4 : Nat) : Int) ∧ i = .int .i64 q ∧ Below w.heap.size w wr) (fun _ i _ => n - (intOf i).toNat)
  case atStart => exact ⟨0, Nat.zero_le _, rfl, rfl, Below.refl _ _⟩
  case round =>
    obtain ⟨q, hq, rfl, rfl, hb⟩ := hrel
    by_cases hlt : q < n
    · obtain ⟨b, off, rfl, hcell⟩ := (RowS.below Hc.out hb) (by omega)
      obtain ⟨k0, k1, k2, k3⟩ := hcell q hlt
      simp only [mks] at k0 k1 k2 k3
      have cT := fun W => markText_any (k + q * 4 + 2) W (by omega) (by omega)
      have e1 : IntKind.i64.wrap (((k + q * 4 : Nat) : Int) + 1) = ((k + q * 4 + 1 : Nat) : Int) := by rw [wrapI (by omega) (by omega)]; omega
      have e2 : IntKind.i64.wrap (((k + q * 4 + 1 : Nat) : Int) + 1) = ((k + q * 4 + 2 : Nat) : Int) := by rw [wrapI (by omega) (by omega)]; omega
      have e3 : IntKind.i64.wrap (((k + q * 4 + 2 : Nat) : Int) + 1) = ((k + q * 4 + 3 : Nat) : Int) := by rw [wrapI (by omega) (by omega)]; omega
      have e4 : IntKind.i64.wrap (((k + q * 4 + 3 : Nat) : Int) + 1) = ((k + (q + 1) * 4 : Nat) : Int) := by rw [wrapI (by omega) (by omega)]; omega
      have hlt' : (q : Int) < (n : Int) := by omega
      clear hcell Hc
      generalize mkText (k + q * 4 + 2) = T at *
      generalize hk0 : ((k + q * 4 : Nat) : Int) = K0 at *
      generalize hk1 : ((k + q * 4 + 1 : Nat) : Int) = K1 at *
      generalize hk2 : ((k + q * 4 + 2 : Nat) : Int) = K2 at *
      generalize hk3 : ((k + q * 4 + 3 : Nat) : Int) = K3 at *
      generalize hk4 : ((k + (q + 1) * 4 : Nat) : Int) = K4 at *
      have H4 : Hid _ := hk4
      clear hk0 hk1 hk2 hk3 hk4
      have g0 : ∀ d os, (Go.Sort.grow (redrawn wr d) os).cell? ⟨b, off + q * 4 + 2, none⟩ = some (.string T) := cell_regrown k2
      have c1 : ∀ d os, Calls Tryd.prog 60 #[.int .i64 K2] (Go.Sort.grow (redrawn wr d) os) fun e w'' => e = .returned (.string T) ∧ ∃ p : Regrown, w'' = Go.Sort.grow (redrawn wr p.d) p.os := fun d os => Calls.regrown_of (cT _)
      have eT : (!(T.toList == T.toList)) = false := by simp
      have eK : (K3 != K3) = false := by simp
      have eK0 : (K0 != K0) = false := by simp
      have eK1 : (K1 != K1) = false := by simp
      have HK3 : Hid _ := k3
      clear k2 k3
      go_wp2
      refine wp_region_quiet_below (by kernel_rfl) (by kernel_rfl) ?_
      repeat (go_big_quiet_step (with_reducible exact c1 _ _))
      refine wpQuiet_nil ?_
      intro _ hw'
      obtain ⟨⟨dq', osq⟩, hw''⟩ := hw'
      subst hw''
      have b8 := below_regrown wr dq' osq
      have h1' := cell_on HK3.out b8
      clear c1 g0 cT
      generalize Go.Sort.grow (redrawn wr dq') osq = w8 at *
      go_wp2
      go_roundw
      case rel => exact ⟨q + 1, by omega, by rw [H4.out], by go_num, Below.comp hb b8⟩
      case measure => simp [intOf]; omega
    · have hqn : q = n := by omega
      subst hqn
      go_wp2
      go_ret
      exact ⟨rfl, hb⟩
end Go.Proofs.YtcfjkejaenmibaaDoor
