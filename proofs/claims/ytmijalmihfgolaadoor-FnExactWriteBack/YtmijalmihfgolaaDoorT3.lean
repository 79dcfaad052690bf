import Derived.Test.YtmijalmihfgolaaDoorT2
/- The text of a transaction: the specification's side. -/
namespace Go.Proofs.YtmijalmihfgolaaDoor
open Go.ChangeShapes Go.WideShapes Go.ChangeAt Go.RowKit
set_option linter.unusedVariables false
open Tx

attribute [local go_sem] Oper.semAt_some

theorem conv1 (t : Nat) (ht : t < 256) (wx : World) : (convert 98 9 (.slice (some ⟨wx.heap.size, 0, none⟩) 1 1)).run Tryd.prog (wx.alloc (.cells #[.int .u8 (t : Int)] 5)) = .ok (.string ⟨#[UInt8.ofNat t]⟩) (wx.alloc (.cells #[.int .u8 (t : Int)] 5)) :=
  run_convert_bytes_back (P := Tryd.prog) (wx.alloc (.cells #[.int .u8 (t : Int)] 5)) 98 9 5 ⟨wx.heap.size, 0, none⟩ 1 [UInt8.ofNat t] Tryd.underlying98 Tryd.underlying5 Tryd.underlying9 (fun j hj => by
    have hj0 : j = 0 := by simp at hj; omega
    subst hj0
    simp [go_sem, Addr.add]
    omega)

theorem str_app (L M : List UInt8) : ((⟨L.toArray⟩ : ByteArray) ++ ⟨M.toArray⟩) = ⟨(L ++ M).toArray⟩ := by
  apply ByteArray.ext
  simp
theorem str_of (u : ByteArray) : u = ⟨u.data.toList.toArray⟩ := by
  apply ByteArray.ext
  simp
theorem one_app (t : Nat) (u : ByteArray) : ((⟨#[UInt8.ofNat t]⟩ : ByteArray) ++ u) = ⟨(UInt8.ofNat t :: u.data.toList).toArray⟩ := by
  apply ByteArray.ext
  simp
theorem u8_xor {a b : Nat} (ha : a < 256) (hb : b < 256) : bits .xor .u8 (a : Int) (b : Int) = ((a ^^^ b : Nat) : Int) := u8_xor_nat a b ha hb

set_option maxHeartbeats 2000000 in
theorem l11Text_any (a : Option Addr) (c : Nat) (l : List Wr) (w : World) (hl : txB 32 l = true) (ha : RowW w a l) :
    Calls Tryd.prog 55 #[.slice a l.length c] w fun e w' => e = .returned (.string (tx l)) ∧ Below w.heap.size w w' := by
  obtain ⟨h1, h8, hall⟩ := txB_iff.1 hl
  have HALL : Hid _ := hall
  have HR : Hid (tx l = ⟨(bts l.length l ++ [UInt8.ofNat (xr (bts l.length l))]).toArray⟩) := rfl
  have HF : Hid (∀ i, i < l.length → fit 32 (gw l i) = true) := fun i hi => (hall i hi).1
  generalize tx l = R at HR ⊢
  clear hall hl
  have hc0 := conv1 l.length (by omega)
  have hl256 : ((l.length : Int)) < 256 := by omega
  go_enter Tryd.func55, Tryd.ntmps55
  go_wp2
  clear hc0
  go_loopw [3, 15] (fun s i wr => ∃ (k : Nat) (L : List UInt8), k ≤ l.length ∧ i = .int .i64 k ∧ s = .string ⟨L.toArray⟩ ∧ L = bts l.length (l.take k) ∧ Below w.heap.size w wr) (fun _ i _ => l.length - (intOf i).toNat)
  case atStart => exact ⟨0, [UInt8.ofNat l.length], Nat.zero_le _, rfl, rfl, by simp [bts], below_alloc _ _⟩
  case round =>
    obtain ⟨k, L, hk, rfl, rfl, hL, hb⟩ := hrel
    have hLl : L.length ≤ 100 := by rw [hL, bts_len HF.out k hk]; omega
    have HL : Hid _ := hL
    clear hL
    by_cases hlt : k < l.length
    · obtain ⟨b, off, rfl, hcell⟩ := (ha.below hb) (by omega)
      obtain ⟨hck, hck2⟩ := hcell k hlt
      obtain ⟨f1, f2, f3⟩ := fit_iff.1 (HF.out k hlt)
      obtain ⟨t, ht⟩ : ∃ t : Nat, Tl l k = t := ⟨(Tl l k).toNat, by unfold Tl; omega⟩
      have ht' : (gw l k).s = t := ht
      have hu : (Ul l k).size = 8 := f3
      have HO : Hid (one (gw l k) = UInt8.ofNat t :: (Ul l k).data.toList) := by rw [Hid, one, ht']; rfl
      have hlt' : (k : Int) < (l.length : Int) := by omega
      have ht32 : t < 32 := by omega
      have ht256 : (t : Int) < 256 := by omega
      have hc1 : ∀ o, (convert 98 9 (.slice (some ⟨wr.heap.size + 1, 0, none⟩) 1 1)).run Tryd.prog ((wr.alloc o).alloc (.cells #[.int .u8 (t : Int)] 5)) = .ok (.string ⟨#[UInt8.ofNat t]⟩) ((wr.alloc o).alloc (.cells #[.int .u8 (t : Int)] 5)) := fun o => by have := conv1 t (by omega) (wr.alloc o); rwa [sz1] at this
      rw [ht] at hck
      clear hcell f1 f2 f3 ht ht'
      go_wp2
      go_roundw
      case rel =>
        refine ⟨k + 1, L ++ one (gw l k), by omega, by go_num, ?_, by rw [bts_succ hlt, HL.out], Below.comp (Below.comp hb (below_alloc _ _)) (below_alloc _ _)⟩
        rw [one_app, str_app, HO.out]
      case measure => simp [intOf]; omega
    · have hkn : k = l.length := by omega
      subst hkn
      have hL2 : L = bts l.length l := by rw [HL.out, List.take_length]
      have HL2 : Hid _ := hL2
      clear hL2
      clear HL
      go_wp2
      go_loopw [6, 7] (fun x i w2 => ∃ (q : Nat), q ≤ L.length ∧ i = .int .i64 q ∧ x = .int .u8 ((xr (L.take q) : Nat) : Int) ∧ Below w.heap.size w w2) (fun _ i _ => L.length - (intOf i).toNat)
      case atStart => exact ⟨0, Nat.zero_le _, rfl, by simp [xr], hb⟩
      case round =>
        obtain ⟨q, hq, rfl, rfl, hb2⟩ := hrel
        by_cases hlq : q < L.length
        · have hlq' : (q : Int) < (L.length : Int) := by omega
          have hx := u8_xor (xr_256 (L.take q)) (UInt8.toNat_lt L[q])
          have HX : Hid _ := hx
          clear hx
          go_wp2
          go_roundw
          case rel =>
            refine ⟨q + 1, by omega, by go_num, ?_, hb2⟩
            have e : xr (L.take (q + 1)) = xr (L.take q) ^^^ (L[q]).toNat := by rw [List.take_succ_eq_append_getElem hlq, xr_snoc]
            rw [e]
            exact congrArg (Value.int IntKind.u8) HX.out
          case measure => simp [intOf]; omega
        · have hqn : q = L.length := by omega
          subst hqn
          have hc2 := conv1 (xr L) (xr_256 _)
          go_wp2
          go_ret
          refine ⟨?_, Below.comp hb2 (below_alloc _ _)⟩
          rw [HR.out, ← HL2.out]
          exact congrArg (fun x => Ending.returned (Value.string x)) (str_app _ _)
end Go.Proofs.YtmijalmihfgolaaDoor
