import Derived.Test.YtodidnbghiinkaaF2
/- The specification's PackTokens. -/
namespace Go.Proofs.Ytodidnbghiinkaa
open Go.ChangeShapes Go.WideShapes Go.ChangeAt Go.RowKit
set_option linter.unusedVariables false
open Tz

attribute [local go_sem] Oper.semAt_some

theorem conv_one (w : World) (b : UInt8) : (convert 39 9 (.slice (some ⟨w.heap.size, 0, none⟩) 1 1)).run Try.prog (w.alloc (.cells #[.int .u8 b.toNat] 5)) = .ok (.string (txt [b])) (w.alloc (.cells #[.int .u8 b.toNat] 5)) :=
  run_convert_bytes_back (P := Try.prog) _ 39 9 5 ⟨w.heap.size, 0, none⟩ 1 [b] Try.underlying39 Try.underlying5 Try.underlying9 (fun j hj => by
    have hj0 : j = 0 := by simp at hj; omega
    subst hj0
    simp [go_sem, Addr.add])
theorem conv_two (w : World) (b c : UInt8) : (convert 39 9 (.slice (some ⟨w.heap.size, 0, none⟩) 2 2)).run Try.prog (w.alloc (.cells #[.int .u8 b.toNat, .int .u8 c.toNat] 5)) = .ok (.string (txt [b, c])) (w.alloc (.cells #[.int .u8 b.toNat, .int .u8 c.toNat] 5)) :=
  run_convert_bytes_back (P := Try.prog) _ 39 9 5 ⟨w.heap.size, 0, none⟩ 2 [b, c] Try.underlying39 Try.underlying5 Try.underlying9 (fun j hj => by
    have hj0 : j = 0 ∨ j = 1 := by simp at hj; omega
    rcases hj0 with rfl | rfl <;> simp [go_sem, Addr.add])
theorem txt_app (l m : List UInt8) : txt l ++ txt m = txt (l ++ m) := by
  apply bt_ext
  rw [bt_app, bt_txt, bt_txt, bt_txt]
set_option maxRecDepth 20000 in
set_option maxHeartbeats 4000000 in
theorem l16Pack_any (a : Option Addr) (c : Nat) (l : List Tk) (w : World) (hn : l.length ≤ 1048576) (hf : ∀ i, i < l.length → Few (gt l i)) (hG : good l = true) (ha : Tks w a l) :
    Calls Try.prog 51 #[.slice a l.length c] w fun e w' => e = .returned (.string (txt (pk l l.length))) ∧ Below w.heap.size w w' := by
  have HR : Hid (Tks w a l) := ha
  have HF : Hid (∀ i, i < l.length → Few (gt l i)) := hf
  have HA : Hid (∀ k, k < l.length → okT (gt l k) = true ∧ (pk l k).length ≤ 610) := fun k hk => ⟨(okA_T (gB_at hk (good_both hG).1)).1, pk_small hG (by omega)⟩
  clear ha hf hG
  obtain ⟨X, hX⟩ : ∃ X, txt (pk l l.length) = X := ⟨_, rfl⟩
  rw [hX]
  have HX : Hid _ := hX
  clear hX
  obtain ⟨N, hN⟩ : ∃ N, l.length = N := ⟨_, rfl⟩
  have HRow : Hid (RowT w a N (gt l)) := by show RowT w a N (gt l); rw [← hN]; exact HR.out
  rw [hN] at hn HF HA HX ⊢
  clear hN HR
  have hN63 : N ≤ 9223372036854775807 := by omega
  go_enter Try.func51, Try.ntmps51
  go_wp2
  go_loopw [3, 8] (fun tt ii wr => ∃ (k : Nat), k ≤ N ∧ ii = .int .i64 k ∧ tt = .string (txt (pk l k)) ∧ Below w.heap.size w wr) (fun _ ii _ => N - (intOf ii).toNat)
  case atStart => exact ⟨0, by omega, rfl, rfl, Below.refl _ _⟩
  case round =>
    obtain ⟨k, hk, rfl, rfl, hb⟩ := hrel
    by_cases hlt : k < N
    · obtain ⟨b, off, rfl, hcell⟩ := (RowT.below HRow.out hb) (by omega)
      obtain ⟨k0, k1, k2⟩ := hcell k hlt
      have hfx := HF.out k hlt
      obtain ⟨hT, h610⟩ := HA.out k hlt
      have hlt' : (k : Int) < (N : Int) := by omega
      have hzb : b < wr.heap.size := lt_of_cell k0
      obtain ⟨x, hx⟩ : ∃ x, gt l k = x := ⟨_, rfl⟩
      have HP : Hid (pk l (k + 1) = pk l k ++ pk1 x) := by show _ = _; rw [pk, hx]
      rw [hx] at k0 k1 k2 hfx hT
      obtain ⟨p, d, n⟩ := x
      simp only at k0 k1 k2
      obtain ⟨hp63, hd63, hn63⟩ := hfx
      simp only at hp63 hd63 hn63
      obtain ⟨D, hD⟩ : ∃ D, wr.heap.size = D := ⟨_, rfl⟩
      obtain ⟨W0, hW0⟩ : ∃ W0, wr.alloc (.cells #[.string p, .int .i64 d, .int .i64 n] 52) = W0 := ⟨_, rfl⟩
      have q1 : Below wr.heap.size wr W0 := by subst hW0; exact below_alloc _ _
      have HB0 : Hid (W0.heap[D]? = some (.cells #[.string p, .int .i64 d, .int .i64 n] 52 (0, 0))) := by subst hW0 hD; exact al1 _ _
      obtain ⟨c0, c1, c2', -, -, -⟩ := box3_cells HB0.out
      clear hcell hx
      obtain ⟨P, hP⟩ : ∃ P, pk l k = P := ⟨_, rfl⟩
      rw [hP] at HP h610 ⊢
      clear hP
      have hbW := Below.comp hb q1
      by_cases h0 : p.size = 0
      · have hnb : 3 ≤ n ∧ n ≤ 66 ∧ 1 ≤ d ∧ d ≤ 255 := by
          unfold okT at hT; rw [if_pos h0] at hT; simp at hT; omega
        obtain ⟨hh, hd5⟩ : ∃ (hh : UInt8) , (hh.toNat : Int) = 61 + n := ⟨UInt8.ofNat (61 + n.toNat), by simp; omega⟩
        obtain ⟨db, hdb⟩ : ∃ (db : UInt8), (db.toNat : Int) = d := ⟨UInt8.ofNat d.toNat, by simp; omega⟩
        have hpk : Hid (pk1 ⟨p, d, n⟩ = [hh, db]) := by
          show _ = _
          unfold pk1
          rw [if_pos h0]
          have e1 : hh = UInt8.ofNat (61 + n.toNat) := by
            rw [← UInt8.ofNat_toNat (x := hh)]; congr 1; have := hh.toNat_lt; omega
          have e2 : db = UInt8.ofNat d.toNat := by
            rw [← UInt8.ofNat_toNat (x := db)]; congr 1; have := db.toNat_lt; omega
          rw [← e1, ← e2]
        obtain rfl := empty_of h0
        have ehl := hh.toNat_lt
        have edl := db.toNat_lt
        have ew1 : IntKind.i64.wrap (64 + n) = 64 + n := wrapI (by omega) (by omega)
        have ew2 : IntKind.i64.wrap (64 + n - 3) = (hh.toNat : Int) := by rw [wrapI (by omega) (by omega)]; omega
        have em := byte_mod hh
        have ed : d % 256 = (db.toNat : Int) := by omega
        have cv := conv_two W0 hh db
        have b9 := below_alloc W0 (.cells #[.int .u8 hh.toNat, .int .u8 db.toNat] 5)
        have hcat : ¬ (9223372036854775807 < (txt P).size + (txt [hh, db]).size) := by rw [txt_size, txt_size]; simp; omega
        have HS : Hid (txt (pk l (k + 1)) = txt P ++ txt [hh, db]) := by show _ = _; rw [HP.out, hpk.out, txt_app]
        have hb9 := Below.comp hbW b9
        clear h0 hT hd5 hdb b9 ehl edl hnb HP hpk q1 hbW
        generalize txt [hh, db] = S2 at *
        generalize txt P = S1 at *
        generalize hh.toNat = hv at *
        go_wp2_with fail
        go_roundw
        case rel => exact ⟨k + 1, by omega, by go_num, by rw [HS.out], hb9⟩
        case measure => simp [intOf]; omega
      · obtain ⟨hn1, hn2⟩ := nonempty_of h0
        have hps : 1 ≤ p.size ∧ p.size ≤ 64 := by
          unfold okT at hT; rw [if_neg h0] at hT; simp at hT; omega
        obtain ⟨hh, hd5⟩ : ∃ (hh : UInt8) , (hh.toNat : Int) = (p.size : Int) - 1 := ⟨UInt8.ofNat (p.size - 1), by simp; omega⟩
        have hpk : Hid (pk1 ⟨p, d, n⟩ = hh :: bt p) := by
          show _ = _
          unfold pk1
          rw [if_neg h0]
          have e1 : hh = UInt8.ofNat (p.size - 1) := by
            rw [← UInt8.ofNat_toNat (x := hh)]; congr 1; have := hh.toNat_lt; omega
          rw [← e1]
        have ehl := hh.toNat_lt
        have ew2 : IntKind.i64.wrap ((p.size : Int) - 1) = (hh.toNat : Int) := by rw [wrapI (by omega) (by omega)]; omega
        have em := byte_mod hh
        have cv := conv_one W0 hh
        have b9 := below_alloc W0 (.cells #[.int .u8 hh.toNat] 5)
        have c0b := cell_on c0 b9
        have hc1 : ¬ (9223372036854775807 < (txt [hh]).size + p.size) := by rw [txt_size]; simp; omega
        have hcat : ¬ (9223372036854775807 < (txt P).size + (txt [hh] ++ p).size) := by rw [ByteArray.size_append, txt_size, txt_size]; simp; omega
        have HS : Hid (txt (pk l (k + 1)) = txt P ++ (txt [hh] ++ p)) := by
          show _ = _
          rw [HP.out, hpk.out]
          apply bt_ext
          rw [bt_app, bt_app, bt_txt, bt_txt, bt_txt]; rfl
        have hb9 := Below.comp hbW b9
        clear h0 hT hd5 ehl hps b9 HP hpk q1 hbW
        generalize txt [hh] = S2 at *
        generalize txt P = S1 at *
        generalize hh.toNat = hv at *
        go_wp2_with fail
        go_roundw
        case rel => exact ⟨k + 1, by omega, by go_num, by rw [HS.out], hb9⟩
        case measure => simp [intOf]; omega
    · have hkN : k = N := by omega
      have hXt : X = txt (pk l k) := by rw [hkN, HX.out]
      clear hkN
      subst hXt
      have hlt' : ¬ (k : Int) < (N : Int) := by omega
      go_wp2_with fail
      go_ret
      exact ⟨rfl, hb⟩
theorem specPack_any (a : Option Addr) (c : Nat) (l : List Tk) (w : World) (hn : l.length ≤ 1048576) (hf : ∀ i, i < l.length → Few (gt l i)) (ha : Tks w a l) :
    Calls Try.prog 26 #[.slice a l.length c] w fun e w' => e = .returned (.tuple #[.string (pkA l), .bool (good l)]) ∧ Below w.heap.size w w' := by
  have c1 := specGood_any a c l w hn hf ha
  cases hG : good l with
  | false =>
    rw [hG] at c1
    rw [pkA_no hG]
    generalize l.length = n at *
    go_enter Try.func26, Try.ntmps26
    go_wp2_with fail
    refine c1.mono ?_
    rintro e w1 ⟨rfl, b1⟩
    go_wp2_with fail
    go_ret2
    exact ⟨rfl, b1⟩
  | true =>
    rw [hG] at c1
    have c2 : Hid (∀ W, Below w.heap.size w W → Calls Try.prog 51 #[.slice a l.length c] W fun e w' => e = .returned (.string (txt (pk l l.length))) ∧ Below W.heap.size W w') := fun W h => l16Pack_any a c l W hn hf hG (RowT.below ha h)
    rw [pkA_yes hG]
    generalize txt (pk l l.length) = X at *
    generalize l.length = n at *
    go_enter Try.func26, Try.ntmps26
    go_wp2_with fail
    refine c1.mono ?_
    rintro e w1 ⟨rfl, b1⟩
    go_wp2_with fail
    refine (c2.out _ b1).mono ?_
    rintro e w2 ⟨rfl, b2⟩
    go_wp2_with fail
    go_ret2
    exact ⟨rfl, Below.comp b1 b2⟩
end Go.Proofs.Ytodidnbghiinkaa
