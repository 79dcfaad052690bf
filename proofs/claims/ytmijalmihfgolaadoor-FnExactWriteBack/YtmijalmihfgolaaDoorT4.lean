import Derived.Test.YtmijalmihfgolaaDoorT3
import Derived.Lib.AppendStr
/- The text of a transaction: the program's side. -/
namespace Go.Proofs.YtmijalmihfgolaaDoor
open Go.ChangeShapes Go.WideShapes Go.ChangeAt Go.RowKit
set_option linter.unusedVariables false
open Tx

attribute [local go_sem] Oper.semAt_some

/-- Bytes as they lie in a row. -/
def bv (L : List UInt8) : List Value := L.map fun b => .int .u8 (b.toNat : Int)
theorem bv_len (L : List UInt8) : (bv L).length = L.length := by simp [bv]
theorem bv_app (L M : List UInt8) : bv (L ++ M) = bv L ++ bv M := by simp [bv]
theorem bv_one (L : List UInt8) : ∀ u ∈ bv L, u.oneCell' = true := by
  intro v hv
  simp only [bv, List.mem_map] at hv
  obtain ⟨b, _, rfl⟩ := hv
  rfl
theorem bv_str (u : ByteArray) : Go.Lib.strCells u = bv u.data.toList := by
  simp [Go.Lib.strCells, bv]
abbrev OwnB (w : World) (B : Nat) (v : Value) (L : List UInt8) : Prop := w.ownsRow B 5 1 v L.length (bv L)
theorem info5 : (Tryd.prog.info? 5).map (fun i => (i.zero, i.size, i.bytes)) = some (some (.int .u8 0), 1, 1) := by kernel_rfl
theorem own_new1 (w : World) (x : Value) (e : TypeId) : (w.alloc (.cells #[x] e)).ownsRow w.heap.size e 1 (.slice (some ⟨w.heap.size, 0, none⟩) 1 1) 1 [x] := ⟨by simp, .inr ⟨w.heap.size, 1, #[x], rfl, Nat.le_refl _, al1 _ _, Nat.le_refl _, by decide, by simp, by simp⟩⟩
theorem owns_lt {w : World} {B : Nat} {e : TypeId} {size n : Nat} {v : Value} {xs : List Value} (h : w.ownsRow B e size v n xs) : ∀ g, v.ownBlock = some g → g < w.heap.size := fun g hg => by
  obtain ⟨_, cs, hc⟩ := own_row h g hg
  exact box_lt hc
/-- A box that lies behind all that was there stays as a row grows. -/
theorem keep_box {w W w' : World} {B : Nat} {e : TypeId} {size n : Nat} {v : Value} {xs : List Value} {b : Nat} {o : Obj} (h : w.ownsRow B e size v n xs) (hg : W.grownBy w' v.ownBlock) (hb : w.heap.size ≤ b) (hB : W.heap[b]? = some o) : w'.heap[b]? = some o :=
  (hg.block b (box_lt hB) (fun e1 => by have := owns_lt h b e1.symm; omega)).trans hB
theorem OwnB.at {w : World} {B : Nat} {v : Value} {L : List UInt8} (h : OwnB w B v L) : ∃ x c, v = .slice x L.length c ∧ At w x L.length (fun i => .int .u8 ((L.getD i 0).toNat : Int)) := by
  by_cases h0 : L.length = 0
  · obtain ⟨x, c, e⟩ := owns_form h
    exact ⟨x, c, e, fun h => absurd h0 h⟩
  · obtain ⟨g, cap, cur, e, hb, hg, hsz, hcell⟩ := owns_mine h h0
    refine ⟨_, _, e, fun _ => ⟨g, 0, rfl, fun i hi => ?_⟩⟩
    rw [Nat.zero_add]
    refine cell_of_block hg ?_
    rw [hcell i (by omega)]
    simp [bv, hi]
theorem OwnB.conv {w : World} {B : Nat} {v : Value} {L : List UInt8} (h : OwnB w B v L) (h0 : L.length ≠ 0) : (convert 98 9 v).run Tryd.prog w = .ok (.string ⟨L.toArray⟩) w := by
  obtain ⟨x, c, rfl, ha⟩ := h.at
  obtain ⟨b, off, rfl, hc⟩ := ha h0
  exact run_convert_bytes_back (P := Tryd.prog) w 98 9 5 ⟨b, off, none⟩ c L Tryd.underlying98 Tryd.underlying5 Tryd.underlying9 (fun j hj => by
    rw [addN]
    have := hc j hj
    simpa [hj] using this)

set_option maxHeartbeats 800000 in
theorem xorOf_any (a : Option Addr) (c : Nat) (L : List UInt8) (w : World) (hl : L.length ≤ 1048576) (ha : At w a L.length (fun i => .int .u8 ((L.getD i 0).toNat : Int))) :
    Calls Tryd.prog 106 #[.slice a L.length c] w fun e w' => e = .returned (.int .u8 ((xr L : Nat) : Int)) ∧ w' = w := by
  go_enter Tryd.func106, Tryd.ntmps106
  go_wp2
  go_loop [3, 8] (fun x i => ∃ (q : Nat), q ≤ L.length ∧ i = .int .i64 q ∧ x = .int .u8 ((xr (L.take q) : Nat) : Int)) (fun _ i => L.length - (intOf i).toNat)
  case atStart => exact ⟨0, Nat.zero_le _, rfl, by simp [xr]⟩
  case round =>
    obtain ⟨q, hq, rfl, rfl⟩ := hrel
    by_cases hlt : q < L.length
    · obtain ⟨b, off, rfl, hcell⟩ := ha (by omega)
      have hck : w.cell? ⟨b, off + q, none⟩ = some (.int .u8 ((L.getD q 0).toNat : Int)) := hcell q hlt
      have hlt' : (q : Int) < (L.length : Int) := by omega
      have hx := u8_xor (xr_256 (L.take q)) (UInt8.toNat_lt (L.getD q 0))
      have e : xr (L.take (q + 1)) = xr (L.take q) ^^^ (L.getD q 0).toNat := by rw [List.take_succ_eq_append_getElem hlt, xr_snoc]; simp [hlt]
      have HE : Hid _ := e
      generalize (L.getD q 0).toNat = bq at *
      generalize xr (L.take q) = xq at *
      have HX : Hid _ := hx
      clear hcell hx e
      go_wp2
      go_round
      case rel => exact ⟨q + 1, by omega, by go_num, by rw [HX.out, HE.out]⟩
      case measure => simp [intOf]; omega
    · have hqn : q = L.length := by omega
      subst hqn
      go_wp2
      go_ret
      exact ⟨by simp, rfl⟩

set_option maxRecDepth 20000 in
set_option maxHeartbeats 4000000 in
theorem implText_any (a : Option Addr) (c : Nat) (l : List Wr) (w : World) (hl : l.length ≤ 9223372036854775807) (hs : Few l) (ha : RowW w a l) :
    Calls Tryd.prog 103 #[.slice a l.length c] w fun e w' => e = .returned (.tuple #[.string (bif txB 32 l then tx l else ⟨#[]⟩), .bool (txB 32 l)]) ∧ Below w.heap.size w w' := by
  have cT := isTxn_any a c l 32 w (Nat.le_refl _) hl hs ha
  obtain ⟨ok, hok⟩ : ∃ ok, txB 32 l = ok := ⟨_, rfl⟩
  rw [hok] at cT ⊢
  cases ok with
  | false =>
    go_enter Tryd.func103, Tryd.ntmps103
    go_wp2_with (go_at_call 59; refine cT.mono ?_; rintro e w1 ⟨rfl, b1⟩)
    go_ret2
    exact ⟨rfl, b1⟩
  | true =>
    obtain ⟨h1, h8, hall⟩ := txB_iff.1 hok
    have HR : Hid (tx l = ⟨(bts l.length l ++ [UInt8.ofNat (xr (bts l.length l))]).toArray⟩) := rfl
    have HF : Hid (∀ i, i < l.length → fit 32 (gw l i) = true) := fun i hi => (hall i hi).1
    simp only [cond_true]
    generalize tx l = R at HR ⊢
    clear hall hok hl hs
    have hl256 : ((l.length : Int)) < 256 := by omega
    obtain ⟨i5, hi5, hz5, hs5, hb5⟩ := info_parts info5
    go_enter Tryd.func103, Tryd.ntmps103
    go_wp2_with fail
    refine cT.mono ?_
    rintro e w1 ⟨rfl, b1⟩
    have HS : Hid _ := At2.below ha b1
    clear cT ha
    go_wp2_with fail
    have H0 : Hid (OwnB (w1.alloc (.cells #[.int .u8 (l.length : Int)] 5)) w1.heap.size (.slice (some ⟨w1.heap.size, 0, none⟩) 1 1) (bts l.length (l.take 0))) := by
      have := own_new1 w1 (.int .u8 (l.length : Int)) 5
      have e : bv (bts l.length (l.take 0)) = [.int .u8 (l.length : Int)] := by simp [bts, bv]; omega
      rw [OwnB, e]
      exact this
    go_loopw [4, 16] (fun v i wr => ∃ (k : Nat) (L : List UInt8), k ≤ l.length ∧ i = .int .i64 k ∧ OwnB wr w1.heap.size v L ∧ L = bts l.length (l.take k) ∧ Below w1.heap.size w1 wr) (fun _ i _ => l.length - (intOf i).toNat)
    case atStart => exact ⟨0, _, Nat.zero_le _, rfl, H0.out, rfl, below_alloc _ _⟩
    case round =>
      obtain ⟨k, L, hk, rfl, hO, hL, hb⟩ := hrel
      have hLl : L.length = 1 + k * 9 := by rw [hL, bts_len HF.out k hk]
      have HL : Hid _ := hL
      have HO : Hid _ := hO
      have HLl : Hid _ := hLl
      obtain ⟨x, xc, hx⟩ := owns_form hO
      subst hx
      have hL100 : L.length ≤ 100 := by omega
      clear hL hO H0 hLl
      by_cases hlt : k < l.length
      · obtain ⟨b, off, rfl, hcell⟩ := (At2.below HS.out hb) (by omega)
        obtain ⟨hck, hck2⟩ := hcell k hlt
        obtain ⟨f1, f2, f3⟩ := fit_iff.1 (HF.out k hlt)
        obtain ⟨t, ht⟩ : ∃ t : Nat, Tl l k = t := ⟨(Tl l k).toNat, by unfold Tl; omega⟩
        have ht' : (gw l k).s = t := ht
        have hu : (Ul l k).size = 8 := f3
        have ho : one (gw l k) = [UInt8.ofNat t] ++ (Ul l k).data.toList := by rw [one, ht']; rfl
        have HO1 : Hid _ := ho
        have HU : Hid ((Ul l k).size = 8) := hu
        have hlt' : (k : Int) < (l.length : Int) := by omega
        have ht32 : t < 32 := by omega
        have ht256 : (t : Int) < 256 := by omega
        rw [ht] at hck
        have hsz : w1.heap.size ≤ wr.heap.size := hb.size
        generalize Ul l k = u at *
        have own1 : Hid _ := World.ownsRow.alloc (World.ownsRow.alloc HO.out (.cells #[.int .i64 (t : Int), .string u] 63)) (.cells #[.int .u8 (t : Int)] 5)
        have src : Hid (1 = 0 ∨ ∃ ad, some (⟨wr.heap.size + 1, 0, none⟩ : Addr) = some ad ∧ ∀ j v, (bv [UInt8.ofNat t])[j]? = some v → ((wr.alloc (.cells #[.int .i64 (t : Int), .string u] 63)).alloc (.cells #[.int .u8 (t : Int)] 5)).cell? (ad.add j) = some v) := by
          have e : bv [UInt8.ofNat t] = [.int .u8 (t : Int)] := by simp [bv]; omega
          have := new_one (wr.alloc (.cells #[.int .i64 (t : Int), .string u] 63)) (.int .u8 (t : Int)) 5
          rw [sz1] at this
          exact .inr ⟨_, rfl, by rw [e]; exact this⟩
        have hbx : Hid (((wr.alloc (.cells #[.int .i64 (t : Int), .string u] 63)).alloc (.cells #[.int .u8 (t : Int)] 5)).heap[wr.heap.size]? = some (.cells #[.int .i64 (t : Int), .string u] 63 (0, 0))) := (al2 wr _ _).1
        have hba : Hid _ := ba2 wr (.cells #[.int .i64 (t : Int), .string u] 63) (.cells #[.int .u8 (t : Int)] 5)
        have hz2 : w1.heap.size ≤ ((wr.alloc (.cells #[.int .i64 (t : Int), .string u] 63)).alloc (.cells #[.int .u8 (t : Int)] 5)).heap.size := by simp; omega
        have HM : Hid (L.length + 1 + u.size ≤ maxLen ∧ L.length + 1 + u.size ≤ 140737488355328) := by rw [HU.out]; unfold maxLen; exact ⟨by omega, by omega⟩
        clear hcell f1 f2 f3 ht ht' ho hu
        go_wp2_with (first
          | (at_builtin; refine wpList_append_src rfl _ _ 98 rfl w1.heap.size 5 _ 1 1 Tryd.underlying98 info5 rfl (by decide) (.slice x L.length xc) L.length (bv L) rfl own1.out (some ⟨wr.heap.size + 1, 0, none⟩) 1 1 (bv [UInt8.ofNat t]) rfl rfl src.out (bv_one _) (by omega) (by decide) hz2 ?_; intro v2 w2 own2 gr2; have hB2 := keep_box HO.out gr2 (Nat.le_refl _) hbx.out; obtain ⟨y1, y2, _⟩ := box2_cells hB2; have g2 : Hid _ := grown_on (hb.trans (hba.out.mono hsz)) hz2 own1.out gr2; have O2 : Hid _ := own2; obtain ⟨x2, c2, e2⟩ := owns_form own2; subst e2; clear hB2 own2 gr2)
          | (at_builtin; refine Go.Lib.wpList_append_own_string _ rfl _ _ 98 9 rfl w1.heap.size 5 i5 Tryd.underlying98 Tryd.underlying9 hi5 hz5 hs5 hb5 (.slice x2 (L.length + 1) c2) (L.length + 1) (bv L ++ bv [UInt8.ofNat t]) rfl O2.out u rfl HM.out.1 HM.out.2 g2.out.size ?_; intro v3 w3 own3 gr3 _; have g3 : Hid _ := grown_on g2.out g2.out.size O2.out gr3; have O3 : Hid _ := own3; clear own3 gr3))
        go_roundw
        case rel =>
          refine ⟨k + 1, L ++ one (gw l k), by omega, by go_num, ?_, by rw [bts_succ hlt, HL.out], g3.out⟩
          have e1 : (L ++ one (gw l k)).length = L.length + 1 + u.size := by
            rw [List.length_append, HO1.out, List.length_append, Array.length_toList]
            show L.length + (1 + u.data.size) = L.length + 1 + u.data.size
            omega
          have e2 : bv (L ++ one (gw l k)) = bv L ++ bv [UInt8.ofNat t] ++ Go.Lib.strCells u := by rw [bv_str, HO1.out, bv_app, bv_app, List.append_assoc]
          rw [OwnB, e1, e2]
          exact O3.out
        case measure => simp [intOf]; omega
      · have hkn : k = l.length := by omega
        subst hkn
        have hL2 : L = bts l.length l := by rw [HL.out, List.take_length]
        have HL2 : Hid _ := hL2
        obtain ⟨x', c', e', hat⟩ := OwnB.at HO.out
        cases e'
        have cX := xorOf_any x xc L wr (by omega) hat
        have hx256 := xr_256 L
        have HX : Hid (xr (bts l.length l) = xr L) := congrArg xr hL2.symm
        have ex : bv [UInt8.ofNat (xr L)] = [.int .u8 ((xr L : Nat) : Int)] := by simp [bv]; omega
        have own1 : Hid _ := World.ownsRow.alloc HO.out (.cells #[.int .u8 ((xr L : Nat) : Int)] 5)
        have src : Hid (1 = 0 ∨ ∃ ad, some (⟨wr.heap.size, 0, none⟩ : Addr) = some ad ∧ ∀ j v, (bv [UInt8.ofNat (xr L)])[j]? = some v → (wr.alloc (.cells #[.int .u8 ((xr L : Nat) : Int)] 5)).cell? (ad.add j) = some v) := by
          have := new_one wr (.int .u8 ((xr L : Nat) : Int)) 5
          exact .inr ⟨_, rfl, by rw [ex]; exact this⟩
        have hsz : w1.heap.size ≤ wr.heap.size := hb.size
        have hz2 : w1.heap.size ≤ (wr.alloc (.cells #[.int .u8 ((xr L : Nat) : Int)] 5)).heap.size := by simp; omega
        generalize xr L = X at *
        clear hL2 HL hat ex
        go_wp2_with (first
          | (go_at_call 106; refine cX.mono ?_; rintro e w2 ⟨rfl, h2⟩; replace h2 := h2.symm; subst h2)
          | (at_builtin; refine wpList_append_src rfl _ _ 98 rfl w1.heap.size 5 _ 1 1 Tryd.underlying98 info5 rfl (by decide) (.slice x L.length xc) L.length (bv L) rfl own1.out (some ⟨wr.heap.size, 0, none⟩) 1 1 (bv [UInt8.ofNat X]) rfl rfl src.out (bv_one _) (by omega) (by decide) hz2 ?_; intro v2 w2 own2 gr2; have g2 : Hid _ := grown_on (hb.trans ((below_alloc wr _).mono hsz)) hz2 own1.out gr2; have O2 : OwnB w2 w1.heap.size v2 (L ++ [UInt8.ofNat X]) := (by rw [OwnB, List.length_append, bv_app]; exact own2); have hcv := OwnB.conv O2 (by simp); clear own2 gr2 O2))
        go_ret2
        refine ⟨?_, Below.comp b1 g2.out⟩
        rw [HR.out, HX.out, ← HL2.out]
        rfl

end Go.Proofs.YtmijalmihfgolaaDoor
