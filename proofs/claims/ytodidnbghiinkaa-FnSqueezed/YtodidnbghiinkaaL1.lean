import Derived.Test.YtodidnbghiinkaaB2
import Derived.Lib.QuietBelow
/- What the laws do with rows of tokens: copy, compare, mark, hold. -/
namespace Go.Proofs.Ytodidnbghiinkaa
open Go.ChangeShapes Go.WideShapes Go.ChangeAt Go.RowKit
set_option linter.unusedVariables false
open Tz

attribute [local go_sem] Oper.semAt_some

def mdg : Nat → Nat → List UInt8 → List UInt8
  | 0, _, acc => acc
  | f + 1, k, acc => if k = 0 then acc else mdg f (k / 10) ((48 + UInt8.ofNat (k % 10)) :: acc)
def mkText (k : Nat) : ByteArray := ⟨(109 :: mdg k k []).toArray⟩
theorem str_cons (d : UInt8) (l : List UInt8) : ((⟨#[d]⟩ : ByteArray) ++ ⟨l.toArray⟩) = ⟨(d :: l).toArray⟩ := by
  apply ByteArray.ext
  simp
set_option maxHeartbeats 400000 in
theorem markText_any (K : Nat) (w : World) (h0 : 1 ≤ K) (h1 : K ≤ 1000000000) :
    Calls Try.prog 50 #[.int .i64 K] w fun e w' => e = .returned (.string (mkText K)) ∧ Below w.heap.size w w' := by
  have HM : Hid (mkText K = ⟨(109 :: mdg K K []).toArray⟩) := rfl
  generalize mkText K = r at HM ⊢
  go_enter Try.func50, Try.ntmps50
  go_wp2
  go_loopw [0, 3] (fun i o wr => ∃ (k f : Nat) (l : List UInt8), i = .int .i64 k ∧ o = .string ⟨l.toArray⟩ ∧ k ≤ f ∧ k ≤ K ∧ l.length + f ≤ K ∧ mdg f k l = mdg K K [] ∧ Below w.heap.size w wr) (fun i _ _ => (intOf i).toNat)
  case atStart => exact ⟨K, K, [], rfl, rfl, Nat.le_refl _, Nat.le_refl _, by simp, rfl, Below.refl _ _⟩
  case round =>
    obtain ⟨k, f, l, rfl, rfl, hf, hkK, hl, hd, hb⟩ := hrel
    have HD : Hid _ := hd
    clear hd
    by_cases hk : 0 < k
    · have hk' : (0 : Int) < (k : Int) := by omega
      have hconv : ∀ (wx : World), (convert 39 9 (.slice (some ⟨wx.heap.size, 0, none⟩) 1 1)).run Try.prog (wx.alloc (.cells #[.int .u8 (48 + (k : Int) % 10)] 5)) = .ok (.string ⟨#[UInt8.ofNat (48 + k % 10)]⟩) (wx.alloc (.cells #[.int .u8 (48 + (k : Int) % 10)] 5)) := fun wx =>
        run_convert_bytes_back (P := Try.prog) (wx.alloc (.cells #[.int .u8 (48 + (k : Int) % 10)] 5)) 39 9 5 ⟨wx.heap.size, 0, none⟩ 1 [UInt8.ofNat (48 + k % 10)] Try.underlying39 Try.underlying5 Try.underlying9 (fun j hj => by
          have hj0 : j = 0 := by simp at hj; omega
          subst hj0
          simp [go_sem, Addr.add]
          omega)
      have hl' : l.length ≤ 1000000000 := by omega
      go_wp2
      go_roundw
      case rel =>
        refine ⟨k / 10, f - 1, (48 + UInt8.ofNat (k % 10)) :: l, by go_num, congrArg Value.string (str_cons _ _), by omega, by omega, by simp; omega, ?_, Below.comp hb (below_alloc _ _)⟩
        have hd := HD.out
        obtain ⟨f', rfl⟩ : ∃ f', f = f' + 1 := ⟨f - 1, by omega⟩
        rw [← hd]
        show _ = mdg (f' + 1) k l
        rw [mdg, if_neg (by omega)]
        rfl
      case measure => simp [intOf]; omega
    · have hk0 : k = 0 := by omega
      subst hk0
      have hd : l = mdg K K [] := by
        rw [← HD.out]
        cases f with
        | zero => rfl
        | succ f => rw [mdg, if_pos rfl]
      have hl' : l.length ≤ 1000000000 := by omega
      have HD' : Hid _ := hd
      clear hd HD
      go_wp2
      go_ret
      refine ⟨?_, hb⟩
      rw [HM.out, ← HD'.out]
      exact congrArg (fun x => Ending.returned (Value.string x)) (str_cons _ _)
set_option maxHeartbeats 1000000 in
theorem toTokenS_any (a : Option Addr) (n cap : Nat) (g : Nat → Tk) (w : World) (hn : n ≤ 1048576) (hc : RowT w a n g) :
    Calls Try.prog 17 #[.slice a n cap] w fun e w' => Below w.heap.size w w' ∧ ∃ a', e = .returned (.slice a' n n) ∧ MineT w' w.heap.size w'.heap.size a' n g := by
  have hmk := make_any (P := Try.prog) 28 52 _ 3 32 Try.underlying28 infoTk .i64 .i64 n (by omega) (by omega)
  go_enter Try.func17, Try.ntmps17
  go_wp2
  go_loopw [4] (fun i wr => ∃ (k : Nat) (c : Array Value), k ≤ n ∧ i = .int .i64 k ∧ wr.heap[w.heap.size]? = some (.cells c 52 (0, 0)) ∧ c.size = n * 3 ∧ tksN k g c ∧ Below w.heap.size w wr) (fun i _ => n - (intOf i).toNat)
  case atStart => exact ⟨0, _, Nat.zero_le _, rfl, heap_alloc_new w _, by simp [size_made], fun i hi => absurd hi (by simp), (Below.refl _ _).alloc (Nat.le_refl _) _⟩
  case round =>
    obtain ⟨k, c, hk, rfl, hB, hcs, hst, hb⟩ := hrel
    by_cases hlt : k < n
    · obtain ⟨b, off, rfl, hcell⟩ := (hc.below hb) (by omega)
      obtain ⟨k0, k1, k2⟩ := hcell k hlt
      clear hcell hc
      have HB : Hid (wr.heap[w.heap.size]? = some (.cells c 52 (0, 0))) := hB
      clear hB
      generalize hx : g k = x at k0 k1 k2
      have HX : Hid _ := hx
      clear hx
      obtain ⟨pp, pd, pn⟩ := x
      simp only at k0 k1 k2
      go_wp2_with (go_at_call 43; refine (toToken_any ⟨pp, pd, pn⟩ _).mono ?_; rintro e w1 ⟨rfl, b1⟩; have HB1 : Hid (w1.heap[w.heap.size]? = some (.cells c 52 (0, 0))) := box_on HB.out b1; obtain ⟨⟨v0, g0⟩, ⟨v1, g1⟩, ⟨v2, g2⟩, f0, f1, f2⟩ := cells3 HB1.out (n := n) (k := k) (by omega) hlt)
      go_roundw
      case rel => exact ⟨k + 1, _, by omega, by go_num, block_set (block_set (block_set HB1.out)), by simpa using hcs, tksN_put (x := ⟨pp, pd, pn⟩) hst (by omega) hlt HX.out, (((Below.comp hb b1).setCell (by simp) _).setCell (by simp) _).setCell (by simp) _⟩
      case measure => simp [intOf]; omega
    · go_wp2
      go_ret
      have hkn : k = n := by omega
      subst hkn
      exact ⟨hb, _, rfl, .inr ⟨_, c, Nat.le_refl _, (Array.getElem?_eq_some_iff.1 hB).1, rfl, hB, hst⟩⟩
set_option maxHeartbeats 1000000 in
/-- Two rows compared: they are the same ones. -/
theorem eqTokenS_same (a a' : Option Addr) (n cap cap' : Nat) (g : Nat → Tk) (w : World) (hn : n ≤ 9223372036854775807) (hc : RowT w a n g) (hc' : RowT w a' n g) :
    Calls Try.prog 19 #[.slice a n cap, .slice a' n cap'] w fun e w' => e = .returned (.bool true) ∧ Below w.heap.size w w' := by
  go_enter Try.func19, Try.ntmps19
  go_wp2
  go_loopw [5] (fun i wr => ∃ (k : Nat), k ≤ n ∧ i = .int .i64 k ∧ Below w.heap.size w wr) (fun i _ => n - (intOf i).toNat)
  case atStart => exact ⟨0, Nat.zero_le _, rfl, Below.refl _ _⟩
  case round =>
    obtain ⟨k, hk, rfl, hb⟩ := hrel
    by_cases hlt : k < n
    · obtain ⟨b, off, rfl, hcell⟩ := (hc.below hb) (by omega)
      obtain ⟨b', off', rfl, hcell'⟩ := (hc'.below hb) (by omega)
      obtain ⟨k0, k1, k2⟩ := hcell k hlt
      obtain ⟨k0', k1', k2'⟩ := hcell' k hlt
      have hlt' : (k : Int) < (n : Int) := by omega
      clear hcell hc hcell' hc'
      generalize g k = x at k0 k1 k2 k0' k1' k2'
      obtain ⟨pp, pd, pn⟩ := x
      simp only at k0 k1 k2 k0' k1' k2'
      have SB : Hid (∀ W, Below wr.heap.size wr W → W.cell? ⟨b, off + k * 3, none⟩ = some (.string pp) ∧ W.cell? ⟨b, off + k * 3 + 1, none⟩ = some (.int .i64 pd) ∧ W.cell? ⟨b, off + k * 3 + 2, none⟩ = some (.int .i64 pn) ∧ W.cell? ⟨b', off' + k * 3, none⟩ = some (.string pp) ∧ W.cell? ⟨b', off' + k * 3 + 1, none⟩ = some (.int .i64 pd) ∧ W.cell? ⟨b', off' + k * 3 + 2, none⟩ = some (.int .i64 pn) ∧ Below wr.heap.size wr W) := fun W g => ⟨cell_on k0 g, cell_on k1 g, cell_on k2 g, cell_on k0' g, cell_on k1' g, cell_on k2' g, g⟩
      clear k0 k1 k2 k0' k1' k2'
      go_wp2
      go_region_held3 (fun W => W.cell? ⟨b, off + k * 3, none⟩ = some (.string pp) ∧ W.cell? ⟨b, off + k * 3 + 1, none⟩ = some (.int .i64 pd) ∧ W.cell? ⟨b, off + k * 3 + 2, none⟩ = some (.int .i64 pn) ∧ W.cell? ⟨b', off' + k * 3, none⟩ = some (.string pp) ∧ W.cell? ⟨b', off' + k * 3 + 1, none⟩ = some (.int .i64 pd) ∧ W.cell? ⟨b', off' + k * 3 + 2, none⟩ = some (.int .i64 pn) ∧ Below wr.heap.size wr W)
        ((refine SB.out _ ?_; first | assumption | exact Below.drew (Below.refl _ _)))
        (first
        | (go_at_call 44; obtain ⟨-, -, -, -, -, -, hw0⟩ := ‹_ ∧ _ ∧ _ ∧ _ ∧ _ ∧ _ ∧ Below wr.heap.size wr _›; refine (eqToken_any ⟨pp, pd, pn⟩ _).mono ?_; rintro e w1 ⟨rfl, g1⟩; have g2 := Below.comp hw0 g1))
      all_goals go_wp2
      go_roundw
      case rel => exact ⟨k + 1, by omega, by go_num, Below.comp hb (by assumption)⟩
      case measure => simp [intOf]; omega
    · go_wp2
      go_ret
      exact ⟨rfl, hb⟩
/-- The marks. -/
def mks (k : Nat) : Nat → Tk := fun i => ⟨mkText (k + i * 3), ((k + i * 3 + 1 : Nat) : Int), ((k + i * 3 + 2 : Nat) : Int)⟩
set_option maxHeartbeats 2000000 in
theorem markTokenS_any (B C : Nat) (a : Option Addr) (n cap : Nat) (f : Nat → Tk) (k : Nat) (w : World) (hk1 : 1 ≤ k) (hkn : k + n * 3 ≤ 100000000) (hm : MineT w B C a n f) :
    Calls Try.prog 24 #[.slice a n cap, .int .i64 k] w fun e w' => e = .returned (.int .i64 ((k + n * 3 : Nat) : Int)) ∧ Out B C w w' ∧ MineT w' B C a n (mks k) := by
  rcases hm with h0 | ⟨b, c0, hb1, hb2, rfl, hB0, hS0⟩
  · subst h0
    go_enter Try.func24, Try.ntmps24
    go_wp2
    refine wp_loop_rounds 1 ?_
    rw [rounds_succ]
    go_wp2
    go_ret
    exact ⟨by simp, Out.refl _ _ _, .inl rfl⟩
  · have hsz : n * 3 ≤ c0.size := by
      by_cases h0 : n = 0
      · omega
      · have := (Array.getElem?_eq_some_iff.1 (hS0 (n - 1) (by omega)).2.2).1
        omega
    have HB0 : Hid _ := hB0
    clear hB0
    go_enter Try.func24, Try.ntmps24
    go_wp2
    go_loopw [1, 5] (fun kk i wr => ∃ (q : Nat) (c : Array Value), q ≤ n ∧ kk = .int .i64 ((k + q * 3 : Nat) : Int) ∧ i = .int .i64 q ∧ wr.heap[b]? = some (.cells c 52 (0, 0)) ∧ n * 3 ≤ c.size ∧ Hid (tksN q (mks k) c) ∧ Out B C w wr) (fun _ i _ => n - (intOf i).toNat)
    case atStart => exact ⟨0, c0, Nat.zero_le _, rfl, rfl, HB0.out, hsz, fun i hi => absurd hi (by omega), Out.refl _ _ _⟩
    case round =>
      obtain ⟨q, c, hq, rfl, rfl, hB, hcs, hst, ho⟩ := hrel
      by_cases hlt : q < n
      · have HB : Hid _ := hB
        clear hB
        have cT := fun W => markText_any (k + q * 3) W (by omega) (by omega)
        have e1 : IntKind.i64.wrap (((k + q * 3 : Nat) : Int) + 1) = ((k + q * 3 + 1 : Nat) : Int) := by rw [wrapI (by omega) (by omega)]; omega
        have e2 : IntKind.i64.wrap (((k + q * 3 + 1 : Nat) : Int) + 1) = ((k + q * 3 + 2 : Nat) : Int) := by rw [wrapI (by omega) (by omega)]; omega
        have e3 : IntKind.i64.wrap (((k + q * 3 + 2 : Nat) : Int) + 1) = ((k + (q + 1) * 3 : Nat) : Int) := by rw [wrapI (by omega) (by omega)]; omega
        have em : Hid (mks k q = ⟨mkText (k + q * 3), ((k + q * 3 + 1 : Nat) : Int), ((k + q * 3 + 2 : Nat) : Int)⟩) := rfl
        generalize mkText (k + q * 3) = T at *
        generalize hk0 : ((k + q * 3 : Nat) : Int) = K0 at *
        generalize hk1 : ((k + q * 3 + 1 : Nat) : Int) = K1 at *
        generalize hk2 : ((k + q * 3 + 2 : Nat) : Int) = K2 at *
        generalize hk3 : ((k + (q + 1) * 3 : Nat) : Int) = K3 at *
        have H3 : Hid _ := hk3
        clear hk0 hk1 hk2 hk3
        go_wp2_with fail
        refine (cT _).mono ?_
        rintro e w2 ⟨rfl, b2⟩
        have HB2 : Hid (w2.heap[b]? = some (.cells c 52 (0, 0))) := box_on HB.out b2
        obtain ⟨⟨v0, g0⟩, ⟨v1, g1⟩, ⟨v2, g2⟩, f0, f1, f2⟩ := cells3 (n := n) HB2.out hcs hlt
        go_wp2
        go_roundw
        case rel =>
          refine ⟨q + 1, _, by omega, by rw [H3.out], by go_num, block_set (block_set (block_set HB2.out)), by simpa using hcs, tksN_put (x := ⟨T, K1, K2⟩) hst.out hcs hlt em.out, ((((ho.trans (Out.of_below b2)).setCell hb1 hb2 _ _).setCell hb1 hb2 _ _).setCell hb1 hb2 _ _)⟩
        case measure => simp [intOf]; omega
      · have hqn : q = n := by omega
        subst hqn
        go_wp2
        go_ret
        exact ⟨rfl, ho, .inr ⟨b, c, hb1, hb2, rfl, hB, hst.out⟩⟩
set_option maxHeartbeats 2000000 in
theorem heldTokenS_any (a : Option Addr) (n cap : Nat) (k : Nat) (w : World) (hk1 : 1 ≤ k) (hkn : k + n * 3 ≤ 100000000) (hc : RowT w a n (mks k)) :
    Calls Try.prog 25 #[.slice a n cap, .int .i64 k] w fun e w' => e = .returned (.int .i64 ((k + n * 3 : Nat) : Int)) ∧ Below w.heap.size w w' := by
  have Hc : Hid _ := hc
  clear hc
  go_enter Try.func25, Try.ntmps25
  go_wp2
  go_loopw [1, 5] (fun kk i wr => ∃ (q : Nat), q ≤ n ∧ kk = .int .i64 ((k + q * 3 : Nat) : Int) ∧ i = .int .i64 q ∧ Below w.heap.size w wr) (fun _ i _ => n - (intOf i).toNat)
  case atStart => exact ⟨0, Nat.zero_le _, rfl, rfl, Below.refl _ _⟩
  case round =>
    obtain ⟨q, hq, rfl, rfl, hb⟩ := hrel
    by_cases hlt : q < n
    · obtain ⟨b, off, rfl, hcell⟩ := (RowT.below Hc.out hb) (by omega)
      obtain ⟨k0, k1, k2⟩ := hcell q hlt
      simp only [mks] at k0 k1 k2
      have cT := fun W => markText_any (k + q * 3) W (by omega) (by omega)
      have e1 : IntKind.i64.wrap (((k + q * 3 : Nat) : Int) + 1) = ((k + q * 3 + 1 : Nat) : Int) := by rw [wrapI (by omega) (by omega)]; omega
      have e2 : IntKind.i64.wrap (((k + q * 3 + 1 : Nat) : Int) + 1) = ((k + q * 3 + 2 : Nat) : Int) := by rw [wrapI (by omega) (by omega)]; omega
      have e3 : IntKind.i64.wrap (((k + q * 3 + 2 : Nat) : Int) + 1) = ((k + (q + 1) * 3 : Nat) : Int) := by rw [wrapI (by omega) (by omega)]; omega
      have hlt' : (q : Int) < (n : Int) := by omega
      clear hcell Hc
      generalize mkText (k + q * 3) = T at *
      generalize hk0 : ((k + q * 3 : Nat) : Int) = K0 at *
      generalize hk1 : ((k + q * 3 + 1 : Nat) : Int) = K1 at *
      generalize hk2 : ((k + q * 3 + 2 : Nat) : Int) = K2 at *
      generalize hk3 : ((k + (q + 1) * 3 : Nat) : Int) = K3 at *
      have H3 : Hid _ := hk3
      clear hk0 hk1 hk2 hk3
      have g0 : ∀ d os, (Go.Sort.grow (redrawn wr d) os).cell? ⟨b, off + q * 3, none⟩ = some (.string T) := cell_regrown k0
      have c1 : ∀ d os, Calls Try.prog 50 #[.int .i64 K0] (Go.Sort.grow (redrawn wr d) os) fun e w'' => e = .returned (.string T) ∧ ∃ p : Regrown, w'' = Go.Sort.grow (redrawn wr p.d) p.os := fun d os => Calls.regrown_of (cT _)
      have eT : (!(T.toList == T.toList)) = false := by simp
      have eK1 : (K1 != K1) = false := by simp
      have eK2 : (K2 != K2) = false := by simp
      have HK1 : Hid _ := k1
      have HK2 : Hid _ := k2
      clear k0 k1 k2
      go_wp2
      refine wp_region_quiet_below (by kernel_rfl) (by kernel_rfl) ?_
      repeat (go_big_quiet_step (with_reducible exact c1 _ _))
      refine wpQuiet_nil ?_
      intro _ hw'
      obtain ⟨⟨dq', osq⟩, hw''⟩ := hw'
      subst hw''
      have b8 := below_regrown wr dq' osq
      have h1' := cell_on HK1.out b8
      have h2' := cell_on HK2.out b8
      clear c1 g0 cT
      generalize Go.Sort.grow (redrawn wr dq') osq = w8 at *
      go_wp2
      go_roundw
      case rel => exact ⟨q + 1, by omega, by rw [H3.out], by go_num, Below.comp hb b8⟩
      case measure => simp [intOf]; omega
    · have hqn : q = n := by omega
      subst hqn
      go_wp2
      go_ret
      exact ⟨rfl, hb⟩
end Go.Proofs.Ytodidnbghiinkaa
