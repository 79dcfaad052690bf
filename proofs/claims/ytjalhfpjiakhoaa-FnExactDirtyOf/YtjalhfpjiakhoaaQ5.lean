import Derived.Test.YtjalhfpjiakhoaaQ4
import Derived.Deep.MidRow
namespace Go.Proofs.Ytjalhfpjiakhoaa
open Go.ChangeShapes Go.WideShapes Go.ChangeAt Go.RowKit
set_option linter.unusedVariables false

def zeros32 : Array Value := #[.bool false, .bool false, .bool false, .bool false, .bool false, .bool false, .bool false, .bool false, .bool false, .bool false, .bool false, .bool false, .bool false, .bool false, .bool false, .bool false, .bool false, .bool false, .bool false, .bool false, .bool false, .bool false, .bool false, .bool false, .bool false, .bool false, .bool false, .bool false, .bool false, .bool false, .bool false, .bool false]
theorem zeros32_bools (T : Nat → Int) : bools 32 (dP T 0) zeros32 := by
  have h : ∀ j, dP T 0 j = false := fun j => decide_eq_false (by rintro ⟨i, hi, _⟩; omega)
  have h2 : ∀ j, j < 32 → zeros32[j]? = some (.bool false) := fun j hj => by rw [show zeros32 = Array.replicate 32 (.bool false) from rfl]; simp [hj]
  intro j hj
  rw [h2 j hj, h j]
theorem bools_set {T : Nat → Int} {k t : Nat} {c : Array Value} (hs : c.size = 32) (h : bools 32 (dP T k) c) (ht : T k = t) (h32 : t < 32) : bools 32 (dP T (k + 1)) (c.setIfInBounds t (.bool true)) := by
  intro j hj
  rw [dP_succ, ht]
  by_cases e : j = t
  · subst e; rw [set_at (by omega)]; simp
  · rw [set_ne e, h j hj]
    have : decide ((t : Int) = (j : Int)) = false := by simp; omega
    rw [this, Bool.or_false]
theorem size81 : (Try.prog.info? 81).map (·.size) = some 32 := by kernel_rfl
theorem run_index81 (c : Array Value) (q : Nat) (b : Bool) (hq : q < 32) (hc : c[q]? = some (.bool b)) (w : World) : (Instr.index 81 (.agg c) (.int .i64 q)).run Try.prog w = .ok (.bool b) w := by
  obtain ⟨i0, hi, hz0, hz1, hz2⟩ := info_parts info4
  simp [Instr.index, asIntOf, run_underlying Try.underlying81, sizeOf, typeInfo, hi, hz1, part, hc]
  intro h
  omega
theorem castL_len (K : Nat → Bool) (k : Nat) : (castL (kidx K k)).length ≤ k := by unfold castL; rw [List.length_map]; exact kidx_len K k
theorem castL_more (K : Nat → Bool) (k : Nat) (h : K k = true) : castL (kidx K (k + 1)) = castL (kidx K k) ++ [(k : Int)] := by rw [kidx_succ, h]; simp [castL]
theorem castL_same (K : Nat → Bool) (k : Nat) (h : K k = false) : castL (kidx K (k + 1)) = castL (kidx K k) := by rw [kidx_same K k h]

set_option maxHeartbeats 1600000 in
theorem implDirty_any (a a' : Option Addr) (n m ca ca' : Nat) (S : Nat → ByteArray) (T : Nat → Int) (U : Nat → ByteArray) (w : World) (hn : n ≤ 1048576) (hm : m ≤ 1048576)
    (ha : At w a n fun i => .string (S i)) (ha' : At2 w a' m T U) (hs : ∀ i, i < n → (S i).size ≤ 9223372036854775807) (hs' : ∀ i, i < m → (U i).size ≤ 9223372036854775807) :
    Calls Try.prog 43 #[.agg #[.slice a n ca, .slice a' m ca']] w fun e w' => IntRes w w' e (goodB n m S T U) (diL n m S T U) := by
  have h0 : ∀ o1, Below w.heap.size w (w.alloc o1) := fun o1 => below_alloc _ _
  cases hg : goodB n m S T U
  · have e1 : diL n m S T U = [] := by simp [diL, hg]
    rw [e1]
    go_enter Try.func43, Try.ntmps43
    go_wp2_with (go_at_call 20; refine (implGood_any a a' n m ca ca' S T U _ hn hm (ha.below (h0 _)) (ha'.below (h0 _)) hs hs').mono ?_; rintro e w1 ⟨rfl, b1⟩)
    exact bodyPost_ret (v := .tuple #[.slice none 0 0, .bool false]) (by simp [results, Try.results43, go_sem]) rfl ⟨Below.comp (h0 _) b1, none, 0, rfl, .inl rfl⟩
  · have e1 : diL n m S T U = dL T m := by simp [diL, hg]
    rw [e1]
    obtain ⟨q1, q2, q3, q4, q5⟩ := goodB_spec hg
    have Q5 : Hid _ := q5
    clear e1 q4 q5
    go_enter Try.func43, Try.ntmps43
    go_wp2_with fail
    refine (implGood_any a a' n m ca ca' S T U _ hn hm (ha.below (h0 _)) (ha'.below (h0 _)) hs hs').mono ?_
    rintro e w1 ⟨rfl, b1⟩
    have g := Below.comp (h0 _) b1
    have c1 : w1.cell? ⟨w.heap.size, 1, none⟩ = some (.slice a' m ca') := cell_on (cell_new1 w _ _ _) b1
    have s1 : w.heap.size + 1 ≤ w1.heap.size := by have := b1.size; simpa using this
    have C1 : ∀ o, (w1.alloc o).cell? ⟨w.heap.size, 1, none⟩ = some (.slice a' m ca') := fun o => hold_on c1
    clear b1 h0
    go_wp2
    clear hg
    have e32 : (#[.bool false, .bool false, .bool false, .bool false, .bool false, .bool false, .bool false, .bool false, .bool false, .bool false, .bool false, .bool false, .bool false, .bool false, .bool false, .bool false, .bool false, .bool false, .bool false, .bool false, .bool false, .bool false, .bool false, .bool false, .bool false, .bool false, .bool false, .bool false, .bool false, .bool false, .bool false, .bool false] : Array Value) = zeros32 := rfl
    rw [e32]
    clear e32
    obtain ⟨W, hW⟩ : ∃ W, W = w1.alloc (.cells zeros32 81) := ⟨_, rfl⟩
    have rW : W.heap[w1.heap.size]? = some (.cells zeros32 81 (0, 0)) := by rw [hW]; exact block_new rfl
    have gW : Below w.heap.size w W := by rw [hW]; exact Below.comp g (below_alloc _ _)
    have sW : W.heap.size = w1.heap.size + 1 := by rw [hW]; simp
    rw [← hW]
    have RW : Hid _ := rW
    have SW : Hid _ := sW
    clear hW C1 c1 g rW sW
    generalize w1.heap.size = D at *
    go_loopw [16] (fun i wr => ∃ (k : Nat) (c : Array Value), k ≤ m ∧ i = .int .i64 k ∧ wr.heap[D]? = some (.cells c 81 (0, 0)) ∧ c.size = 32 ∧ bools 32 (dP T k) c ∧ Below D W wr) (fun i _ => m - (intOf i).toNat)
    case atStart => exact ⟨0, _, Nat.zero_le _, rfl, RW.out, rfl, zeros32_bools T, Below.refl _ _⟩
    case round =>
      obtain ⟨k, c, hk, rfl, hB, hcs, hst, hb⟩ := hrel
      have hgr := gW.trans (hb.mono (by omega))
      by_cases hlt : k < m
      · obtain ⟨b, off, rfl, hcell⟩ := (ha'.below hgr) (by omega)
        obtain ⟨hck, hck2⟩ := hcell k hlt
        obtain ⟨f1, f2, f3⟩ := fitB_spec (Q5.out k hlt)
        obtain ⟨t, ht⟩ : ∃ t : Nat, T k = t := ⟨(T k).toNat, by omega⟩
        rw [ht] at hck
        have ht32 : t < 32 := by omega
        have ht32' : (t : Int) < 32 := by omega
        have hlt' : (k : Int) < (m : Int) := by omega
        have x0 : wr.cell? ⟨D, t, none⟩ = some (.bool (dP T k t)) := cell_of_block hB (hst t ht32)
        have X0 : ∀ o, (wr.alloc o).cell? ⟨D, t, none⟩ = some (.bool (dP T k t)) := fun o => hold_on x0
        have hDl := lt_of_cell x0
        have X1 : ∀ o, (wr.alloc o).frozen? ⟨D, t, none⟩ = false := fun o => ((below_alloc wr o).frozen (p := ⟨D, t, none⟩) hDl).trans (free_of_block hB)
        have HB : Hid _ := hB
        have HT : Hid _ := ht
        clear hcell hB x0 ht f1 f2 f3
        go_wp2
        go_roundw
        case rel => exact ⟨k + 1, _, by omega, by go_num, block_old (block_set HB.out), by simpa using hcs, bools_set hcs hst HT.out ht32, (hb.setCell (by simp) _).alloc (by simp; omega) _⟩
        case measure => simp [intOf]; omega
      · have hkn : k = m := by omega
        subst hkn
        have hrng : wr.rangeAt D 0 c.toList := fun j v hv => by rw [Nat.zero_add]; exact cell_of_block hB (by simpa using hv)
        have HRG : Hid _ := hrng
        clear hrng
        have HB : Hid _ := hB
        have HST : Hid _ := hst
        clear hst hB
        go_wp2_with (refine wpList_load_mid rfl 81 (.tmp 4) rfl D 0 rfl c.toList _ HRG.out Try.underlying81 rfl (by rw [size81]; simp [hcs]) ?_)
        obtain ⟨wo, hwo⟩ : ∃ wo, wo = wr := ⟨_, rfl⟩
        subst hwo
        have K0 : Hid (castL (kidx (dP T k) 0) = []) := rfl
        clear HRG HB
        go_loopw [7, 25] (fun v i w2 => ∃ (q : Nat), q ≤ 32 ∧ i = .int .i64 q ∧ w2.ownsRow wo.heap.size 3 1 v (castL (kidx (dP T k) q)).length (intL (castL (kidx (dP T k) q))) ∧ Below wo.heap.size wo w2) (fun _ i _ => 32 - (intOf i).toNat)
        case atStart => exact ⟨0, Nat.zero_le _, rfl, by rw [K0.out]; exact World.ownsRow_nil _ _ _ _, Below.refl _ _⟩
        case round =>
          obtain ⟨q, hq, rfl, hown, hb2⟩ := hrel
          by_cases hlt : q < 32
          · have hcq := HST.out q hlt
            have hlt' : (q : Int) < 32 := by omega
            have hlen := castL_len (dP T k) q
            have hsz := hb2.size
            have HO : Hid _ := hown
            clear hown
            cases hK : dP T k q
            · rw [hK] at hcq
              have hidx := run_index81 c q _ hlt hcq
              have HK : Hid _ := hK
              clear hK
              go_wp2
              go_roundw
              case rel => exact ⟨q + 1, by omega, by go_num, by rw [castL_same _ _ HK.out]; exact HO.out, hb2⟩
              case measure => simp [intOf]; omega
            · rw [hK] at hcq
              have hidx := run_index81 c q _ hlt hcq
              have HK : Hid _ := hK
              clear hK
              go_wp2_with (at_builtin; first
               | (refine wpList_append_src rfl (.tmp 30) (.tmp 32) 61 rfl wo.heap.size 3 _ 1 8 Try.underlying61 info3 rfl (by decide) u7 (castL (kidx (dP T k) q)).length (intL (castL (kidx (dP T k) q))) rfl (World.ownsRow.alloc HO.out _) (some ⟨wr.heap.size, 0, none⟩) 1 1 (intL [(q : Int)]) rfl rfl (.inr ⟨_, rfl, ?_⟩) (intL_one _) ?_ (by omega) ?_ ?_
                  · exact new_one _ _ _
                  · omega
                  · simp; omega
                  intro v3 w3 hown3 hgrow3
                  have b3 : Below wo.heap.size wr w3 := ((below_alloc wr (.cells #[.int .i64 (q : Int)] 3)).mono hsz).trans (Grown.below hgrow3 (by simp; omega) (fun r hr => (World.ownsRow.lt HO.out r hr).1))
                  rw [intL_append] at hown3
                  have HO3 : Hid _ := hown3
                  clear hown3 hgrow3))
              go_roundw
              case rel => exact ⟨q + 1, by omega, by go_num, owns_cast HO3.out (castL_more _ _ HK.out).symm, hb2.trans b3⟩
              case measure => simp [intOf]; omega
          · have hq32 : q = 32 := by omega
            subst hq32
            obtain ⟨x, cx, hv⟩ := owns_form hown
            subst hv
            have mk := owns_ints rfl hown
            have HO : Hid _ := mk
            clear hown mk
            go_wp2
            exact bodyPost_ret (v := .tuple #[.slice x (dL T k).length cx, .bool true]) (by simp [results, Try.results43, go_sem, dL]) rfl ⟨Below.comp hgr hb2, x, cx, rfl, Mine.mono HO.out (by have := hgr.size; omega) (Nat.le_refl _)⟩
end Go.Proofs.Ytjalhfpjiakhoaa
