import Derived.Test.YtodidnbghiinkaaF1
import Derived.Test.YtodidnbghiinkaaE3
/- The program's PackTokens. -/
namespace Go.Proofs.Ytodidnbghiinkaa
open Go.ChangeShapes Go.WideShapes Go.ChangeAt Go.RowKit
set_option linter.unusedVariables false
open Tz

attribute [local go_sem] Oper.semAt_some

/-- What PackTokens tells. -/
def pkA (l : List Tk) : ByteArray := if good l = true then txt (pk l l.length) else ⟨#[]⟩
theorem pkA_yes {l : List Tk} (h : good l = true) : pkA l = txt (pk l l.length) := if_pos h
theorem pkA_no {l : List Tk} (h : good l = false) : pkA l = ⟨#[]⟩ := if_neg (by rw [h]; simp)
theorem good_both {l : List Tk} (h : good l = true) : gB l l.length = true ∧ tl l l.length ≤ 600 := by unfold good at h; simpa using h
theorem pk_small {l : List Tk} {k : Nat} (h : good l = true) (hk : k ≤ l.length) : (pk l k).length ≤ 610 := by
  obtain ⟨h1, h2⟩ := good_both h
  have h3 := tl_le (l := l) hk
  have := pk_few l k (gB_le hk h1)
  split at this <;> omega
theorem OwnB.ne {w : World} {B : Nat} {v : Value} {l : List UInt8} (h : OwnB w B v l) : v.ownBlock ≠ some w.heap.size := fun e => by
  have := (World.ownsRow.lt (w := w) h _ e).2
  omega
set_option maxRecDepth 20000 in
set_option maxHeartbeats 4000000 in
theorem implPack_any (a : Option Addr) (c : Nat) (l : List Tk) (w : World) (hn : l.length ≤ 1048576) (hf : ∀ i, i < l.length → Few (gt l i)) (ha : Tks w a l) :
    Calls Try.prog 27 #[.slice a l.length c] w fun e w' => e = .returned (.tuple #[.string (pkA l), .bool (good l)]) ∧ Below w.heap.size w w' := by
  have cG := implGood_any a c l w hn hf ha
  cases hG : good l with
  | false =>
    rw [hG] at cG
    rw [pkA_no hG]
    generalize l.length = n at *
    go_enter Try.func27, Try.ntmps27
    go_wp2_with fail
    refine cG.mono ?_
    rintro e w1 ⟨rfl, b1⟩
    go_wp2_with fail
    go_ret2
    exact ⟨rfl, b1⟩
  | true =>
    rw [hG] at cG
    rw [pkA_yes hG]
    have HR : Hid (Tks w a l) := ha
    have HF : Hid (∀ i, i < l.length → Few (gt l i)) := hf
    have HA : Hid (∀ k, k < l.length → okT (gt l k) = true ∧ (pk l k).length ≤ 610) := fun k hk => ⟨(okA_T (gB_at hk (good_both hG).1)).1, pk_small hG (by omega)⟩
    clear ha hf hG
    obtain ⟨X, hX⟩ : ∃ X, txt (pk l l.length) = X := ⟨_, rfl⟩
    rw [hX]
    have HX : Hid _ := hX
    clear hX
    obtain ⟨N, hN⟩ : ∃ N, l.length = N := ⟨_, rfl⟩
    have HRow : Hid (RowT w a N (gt l)) := by show RowT w a N (gt l); rw [← hN]; exact HR.out
    rw [hN] at hn HF HA HX cG ⊢
    clear hN HR
    have hN63 : N ≤ 9223372036854775807 := by omega
    obtain ⟨Z, hZ⟩ : ∃ Z, w.heap.size = Z := ⟨_, rfl⟩
    have HRb : Hid (∀ W, Below Z w W → RowT W a N (gt l)) := fun W h => RowT.below HRow.out (hZ ▸ h)
    have Z0 : Z ≤ w.heap.size := by omega
    rw [hZ] at cG ⊢
    clear hZ HRow
    go_enter Try.func27, Try.ntmps27
    go_wp2_with fail
    refine cG.mono ?_
    rintro e w1 ⟨rfl, b1⟩
    clear cG
    have z1 : Z ≤ w1.heap.size := Nat.le_trans Z0 b1.size
    go_wp2_with fail
    go_loopw [4, 12] (fun tt ii wr => ∃ (k : Nat) (y2 : Option Addr) (c2 : Nat), k ≤ N ∧ ii = .int .i64 k ∧ tt = .slice y2 (pk l k).length c2 ∧ Hid (OwnB wr Z (.slice y2 (pk l k).length c2) (pk l k)) ∧ Below Z w wr ∧ Z ≤ wr.heap.size) (fun _ ii _ => N - (intOf ii).toNat)
    case atStart => exact ⟨0, none, 0, by omega, rfl, rfl, OwnB.nil _ _, b1, z1⟩
    case round =>
      obtain ⟨k, y2, c2, hk, rfl, rfl, HO, hb, hz⟩ := hrel
      clear b1 z1
      by_cases hlt : k < N
      · obtain ⟨b, off, rfl, hcell⟩ := (HRb.out _ hb) (by omega)
        obtain ⟨k0, k1, k2⟩ := hcell k hlt
        have hfx := HF.out k hlt
        obtain ⟨hT, h610⟩ := HA.out k hlt
        have hlt' : (k : Int) < (N : Int) := by omega
        have hzb : b < wr.heap.size := lt_of_cell k0
        obtain ⟨x, hx⟩ : ∃ x, gt l k = x := ⟨_, rfl⟩
        have HP : Hid (pk l (k + 1) = pk l k ++ pk1 x) := by show _ = _; rw [pk, hx]
        rw [hx] at k0 k1 k2 hfx hT
        obtain ⟨p, d, n⟩ := x
        simp only at k0 k1 k2
        obtain ⟨hp63, hd63, hn63⟩ := hfx
        simp only at hp63 hd63 hn63
        obtain ⟨D, hD⟩ : ∃ D, wr.heap.size = D := ⟨_, rfl⟩
        obtain ⟨W0, hW0⟩ : ∃ W0, wr.alloc (.cells #[.string p, .int .i64 d, .int .i64 n] 52) = W0 := ⟨_, rfl⟩
        have q1 : Below wr.heap.size wr W0 := by subst hW0; exact below_alloc _ _
        have HB0 : Hid (W0.heap[D]? = some (.cells #[.string p, .int .i64 d, .int .i64 n] 52 (0, 0))) := by subst hW0 hD; exact al1 _ _
        obtain ⟨c0, c1, c2', -, -, -⟩ := box3_cells HB0.out
        clear hcell hx
        obtain ⟨P, hP⟩ : ∃ P, pk l k = P := ⟨_, rfl⟩
        rw [hP] at HO HP h610 ⊢
        clear hP
        have hbW : Below Z w W0 := hb.trans (q1.mono hz)
        have hzW : Z ≤ W0.heap.size := Nat.le_trans hz q1.size
        have OE0 : Hid (OwnB W0 Z (.slice y2 P.length c2) P) := owns_below HO.out q1
        have hne := OwnB.ne OE0.out
        have HNE : Hid _ := hne
        clear HO hne
        by_cases h0 : p.size = 0
        · have hnb : 3 ≤ n ∧ n ≤ 66 ∧ 1 ≤ d ∧ d ≤ 255 := by
            unfold okT at hT; rw [if_pos h0] at hT; simp at hT; omega
          obtain ⟨hh, hd5⟩ : ∃ (hh : UInt8) , (hh.toNat : Int) = 61 + n := ⟨UInt8.ofNat (61 + n.toNat), by simp; omega⟩
          obtain ⟨db, hdb⟩ : ∃ (db : UInt8), (db.toNat : Int) = d := ⟨UInt8.ofNat d.toNat, by simp; omega⟩
          have hpk : Hid (pk1 ⟨p, d, n⟩ = hh :: [db]) := by
            show _ = _
            unfold pk1
            rw [if_pos h0]
            have e1 : hh = UInt8.ofNat (61 + n.toNat) := by
              rw [← UInt8.ofNat_toNat (x := hh)]; congr 1; have := hh.toNat_lt; omega
            have e2 : db = UInt8.ofNat d.toNat := by
              rw [← UInt8.ofNat_toNat (x := db)]; congr 1; have := db.toNat_lt; omega
            rw [← e1, ← e2]
          obtain rfl := empty_of h0
          have ehl := hh.toNat_lt
          have edl := db.toNat_lt
          have ew1 : IntKind.i64.wrap (64 + n) = 64 + n := wrapI (by omega) (by omega)
          have ew2 : IntKind.i64.wrap (64 + n - 3) = (hh.toNat : Int) := by rw [wrapI (by omega) (by omega)]; omega
          have ed : d % 256 = (db.toNat : Int) := by omega
          have hS : Src (W0.alloc (.cells #[.int .u8 db.toNat] 5)) W0.heap.size [db] := ⟨_, _, _, al1 _ _, fun j u hj => by simpa [bys] using hj⟩
          have b9 := below_alloc W0 (.cells #[.int .u8 db.toNat] 5)
          have cW : ∀ cp, Calls Try.prog 52 #[.slice y2 P.length c2, .int .i64 (hh.toNat : Int), .slice (some ⟨W0.heap.size, 0, none⟩) 1 cp] (W0.alloc (.cells #[.int .u8 db.toNat] 5)) fun e w' => Below Z (W0.alloc (.cells #[.int .u8 db.toNat] 5)) w' ∧ ∃ v', e = .returned v' ∧ OwnB w' Z v' (P ++ hh :: [db]) := fun cp => withPiece_any _ P [db] hh W0.heap.size cp Z _ (owns_below OE0.out b9) (Nat.le_trans hzW b9.size) (by omega) (by simp) hS HNE.out
          have hb9 : Below Z w (W0.alloc (.cells #[.int .u8 db.toNat] 5)) := hbW.trans (b9.mono hzW)
          have hz9 : Z ≤ (W0.alloc (.cells #[.int .u8 db.toNat] 5)).heap.size := Nat.le_trans hzW b9.size
          rw [← hpk.out, ← HP.out] at cW
          clear h0 hT hd5 hdb hS b9 ehl edl hnb
          generalize hh.toNat = hv at *
          go_wp2_with fail
          refine (cW _).mono ?_
          rintro e w5 ⟨b5, v5, rfl, O5⟩
          obtain ⟨y5, c5, rfl⟩ := owns_form O5
          have O6 : Hid (OwnB w5 Z (.slice y5 (pk l (k + 1)).length c5) (pk l (k + 1))) := O5
          have HL : Hid ((pk l (k + 1)).length = (pk l (k + 1)).length) := rfl
          clear O5 cW
          go_wp2_with fail
          go_roundw
          case rel => exact ⟨k + 1, y5, c5, by omega, by go_num, rfl, O6.out, hb9.trans b5, Nat.le_trans hz9 b5.size⟩
          case measure => simp [intOf]; omega
        · obtain ⟨hn1, hn2⟩ := nonempty_of h0
          have hps : 1 ≤ p.size ∧ p.size ≤ 64 := by
            unfold okT at hT; rw [if_neg h0] at hT; simp at hT; omega
          obtain ⟨hh, hd5⟩ : ∃ (hh : UInt8) , (hh.toNat : Int) = (p.size : Int) - 1 := ⟨UInt8.ofNat (p.size - 1), by simp; omega⟩
          have hpk : Hid (pk1 ⟨p, d, n⟩ = hh :: bt p) := by
            show _ = _
            unfold pk1
            rw [if_neg h0]
            have e1 : hh = UInt8.ofNat (p.size - 1) := by
              rw [← UInt8.ofNat_toNat (x := hh)]; congr 1; have := hh.toNat_lt; omega
            rw [← e1]
          have ehl := hh.toNat_lt
          have ew2 : IntKind.i64.wrap ((p.size : Int) - 1) = (hh.toNat : Int) := by rw [wrapI (by omega) (by omega)]; omega
          obtain ⟨cp, z, W2, cc, hcv, b9, hW2, hbys⟩ := bytes_of p W0
          have hS : Src W2 W0.heap.size (bt p) := ⟨_, _, _, hW2, hbys⟩
          have cW : Calls Try.prog 52 #[.slice y2 P.length c2, .int .i64 (hh.toNat : Int), .slice (some ⟨W0.heap.size, 0, none⟩) p.size cp] W2 fun e w' => Below Z W2 w' ∧ ∃ v', e = .returned v' ∧ OwnB w' Z v' (P ++ hh :: bt p) := withPiece_any _ P (bt p) hh W0.heap.size cp Z _ (owns_below OE0.out b9) (Nat.le_trans hzW b9.size) (by omega) (by rw [bt_len]; omega) hS HNE.out
          have hb9 : Below Z w W2 := hbW.trans (b9.mono hzW)
          have hz9 : Z ≤ W2.heap.size := Nat.le_trans hzW b9.size
          rw [← hpk.out, ← HP.out] at cW
          clear h0 hT hd5 hS ehl hps hW2 hbys
          generalize hh.toNat = hv at *
          go_wp2_with fail
          refine cW.mono ?_
          rintro e w5 ⟨b5, v5, rfl, O5⟩
          obtain ⟨y5, c5, rfl⟩ := owns_form O5
          have O6 : Hid (OwnB w5 Z (.slice y5 (pk l (k + 1)).length c5) (pk l (k + 1))) := O5
          clear O5 cW
          go_wp2_with fail
          go_roundw
          case rel => exact ⟨k + 1, y5, c5, by omega, by go_num, rfl, O6.out, hb9.trans b5, Nat.le_trans hz9 b5.size⟩
          case measure => simp [intOf]; omega
      · have hkN : k = N := by omega
        have hXt : X = txt (pk l k) := by rw [hkN, HX.out]
        clear hkN
        have hlt' : ¬ (k : Int) < (N : Int) := by omega
        have cv := OwnB.conv HO.out
        rw [← hXt] at cv
        clear hXt
        generalize (pk l k).length = T at *
        go_wp2_with fail
        go_ret2
        exact ⟨rfl, hb⟩
end Go.Proofs.Ytodidnbghiinkaa
