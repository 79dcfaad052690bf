import Derived.Test.YtfphffbclpmobaaP2
/- The specification: a text looked for in a row of pieces. -/
namespace Go.Proofs.Ytfphffbclpmobaa
open Go.ChangeShapes Go.WideShapes Go.ChangeAt Go.RowKit
set_option linter.unusedVariables false
open Hd

attribute [local go_sem] Oper.semAt_some

theorem bt_inj {a b : ByteArray} (h : bt a = bt b) : a = b := by
  obtain ⟨⟨x⟩⟩ := a
  obtain ⟨⟨y⟩⟩ := b
  simp only [bt] at h
  rw [h]
theorem eqs_is (a b : ByteArray) : (a.toList == b.toList) = decide (a = b) := by
  rw [ByteArray.toList_eq, ByteArray.toList_eq, Bool.eq_iff_iff, beq_iff_eq, decide_eq_true_eq]
  exact ⟨bt_inj, fun h => by rw [h]⟩
set_option maxHeartbeats 1000000 in
theorem l15At_any (a : Option Addr) (l : List Nm) (n cap : Nat) (s : ByteArray) (w : World) (hn : n ≤ 1048576) (hnl : n ≤ l.length) (hc : Nms w a l) :
    Calls Try.prog 30 #[.slice a n cap, .string s] w fun e w' => (∃ r : Int, e = .returned (.int .i64 r) ∧ AtR l n s r) ∧ Below w.heap.size w w' := by
  have Hc : Hid (n ≠ 0 → ∃ b off, a = some ⟨b, off, none⟩ ∧ ∀ i, i < n → NmAt w b (off + i * 2) (gm l i)) := fun h => by
    obtain ⟨b, off, e, hh⟩ := hc (by omega)
    exact ⟨b, off, e, fun i hi => hh i (by omega)⟩
  clear hc hnl
  go_enter Try.func30, Try.ntmps30
  go_wp2
  go_loopw [9] (fun i wr => ∃ (q : Nat), q ≤ n ∧ i = .int .i64 (q : Int) ∧ Hid (∀ j, j < q → (gm l j).nm ≠ s) ∧ Below w.heap.size w wr) (fun i _ => n - (intOf i).toNat)
  case atStart => exact ⟨0, Nat.zero_le _, rfl, fun j h => absurd h (by omega), Below.refl _ _⟩
  case round =>
    obtain ⟨q, hq, rfl, HN, hb⟩ := hrel
    by_cases hlt : q < n
    · obtain ⟨b, off, rfl, hcell⟩ := Hc.out (by omega)
      obtain ⟨k0, k1⟩ := (hcell q hlt).below hb
      have hqn : (q : Int) < (n : Int) := by omega
      have eE := eqs_is (gm l q).nm s
      have HE : Hid (decide ((gm l q).nm = s) = true ↔ (gm l q).nm = s) := by show _ ↔ _; simp
      obtain ⟨o, ho⟩ : ∃ o, decide ((gm l q).nm = s) = o := ⟨_, rfl⟩
      rw [ho] at eE HE
      clear ho hcell Hc
      have HQ : Hid ((gm l q).nm = (gm l q).nm) := rfl
      generalize (gm l q).fl = f at k1
      generalize hx : (gm l q).nm = t at k0 eE
      have HX : Hid _ := hx
      clear hx HQ
      obtain ⟨W1, hW1⟩ : ∃ W1, wr.alloc (.cells #[.string t, .int .i64 f] 46) = W1 := ⟨_, rfl⟩
      have b1 : Below wr.heap.size wr W1 := by subst hW1; exact below_alloc _ _
      obtain ⟨u0, u1, -, -⟩ := box2_cells (show W1.heap[wr.heap.size]? = some (.cells #[.string t, .int .i64 f] 46 (0, 0)) by subst hW1; exact al1 _ _)
      have hb1 := Below.comp hb b1
      cases o with
      | true =>
        go_wp2
        go_ret
        exact ⟨⟨_, rfl, .inr ⟨q, rfl, hlt, by first | exact HE.out.1 rfl | exact HE.out.1 trivial, HN.out⟩⟩, hb1⟩
      | false =>
        go_wp2
        go_roundw
        case rel => exact ⟨q + 1, by omega, by go_num, fun j hj => by
            by_cases e : j = q
            · subst e; exact fun h => by first | (have := HE.out.2 h; cases this) | exact HE.out h | exact HE.out.2 h
            · exact HN.out j (by omega), hb1⟩
        case measure => simp [intOf]; omega
    · have hqk : q = n := by omega
      subst hqk
      go_wp2
      go_ret
      exact ⟨⟨_, rfl, .inl ⟨rfl, HN.out⟩⟩, hb⟩
end Go.Proofs.Ytfphffbclpmobaa
