import Derived.Test.YtodidnbghiinkaaP3
/- Packed tokens are read as they were. -/
namespace Go.Proofs.Ytodidnbghiinkaa.Tz
set_option linter.unusedVariables false

theorem tk_eta {x : Tk} {p : ByteArray} {d n : Int} (h1 : x.p = p) (h2 : x.d = d) (h3 : x.n = n) : x = ⟨p, d, n⟩ := by
  obtain ⟨a, b, c⟩ := x
  simp only at h1 h2 h3
  rw [h1, h2, h3]
theorem pk1_len {x : Tk} (h : okT x = true) : 2 ≤ (pk1 x).length := by
  unfold pk1
  split
  · simp
  · rename_i h0
    simp; omega
theorem pk_two {l : List Tk} : ∀ {k : Nat}, k ≤ l.length → gB l k = true → 2 * k ≤ (pk l k).length
  | 0, _, _ => Nat.zero_le _
  | k + 1, hk, h => by
    rw [gB, Bool.and_eq_true] at h
    have ih := pk_two (l := l) (k := k) (by omega) h.1
    have := pk1_len (okA_T h.2).1
    rw [pk, List.length_append]; omega
/-- The bytes of all tokens are those of the first, of one, and of the rest. -/
theorem pk_split (l : List Tk) (k : Nat) : ∀ n, k + 1 ≤ n → ∃ R, pk l n = pk l k ++ pk1 (gt l k) ++ R
  | 0, h => by omega
  | n + 1, h => by
    by_cases e : n = k
    · subst e; exact ⟨[], by rw [pk]; simp⟩
    · obtain ⟨R, hR⟩ := pk_split l k n (by omega)
      exact ⟨R ++ pk1 (gt l n), by rw [pk, hR]; simp [List.append_assoc]⟩
theorem take_snocT {l : List Tk} {k : Nat} (h : k < l.length) : l.take (k + 1) = l.take k ++ [gt l k] := by
  rw [List.take_succ_eq_append_getElem h, gt_eq h]
theorem upr_pk_back {l : List Tk} (hg : good l = true) : ∀ k, k ≤ l.length → upr (txt (pk l l.length)) k = some (l.take k, (pk l k).length)
  | 0, _ => by simp [upr, pk]
  | k + 1, hk => by
    have hgB : gB l l.length = true := by unfold good at hg; simp at hg; exact hg.1
    have hA := gB_at (show k < l.length by omega) hgB
    have hT := (okA_T hA).1
    have ih := upr_pk_back hg k (by omega)
    obtain ⟨R, hR⟩ := pk_split l k l.length (by omega)
    obtain ⟨s, hs⟩ : ∃ s, txt (pk l l.length) = s := ⟨_, rfl⟩
    have hbs : bt s = pk l k ++ pk1 (gt l k) ++ R := by rw [← hs, bt_txt, hR]
    have hsz : s.size = (pk l k).length + (pk1 (gt l k)).length + R.length := by rw [← bt_len s, hbs]; simp [List.length_append]; omega
    rw [hs] at ih ⊢
    have h2 := pk1_len hT
    rw [upr, ih, Option.bind_some, ups]
    simp only
    rw [if_pos (show (pk l k).length < s.size by omega), take_snocT (by omega), pk]
    obtain ⟨p, hp⟩ : ∃ p, (pk l k).length = p := ⟨_, rfl⟩
    have hch : ∀ j, j < (pk1 (gt l k)).length → ch s (p + j) = (pk1 (gt l k)).getD j 0 := fun j hj => by
      unfold ch
      rw [hbs, List.getD_eq_getElem?_getD, List.getElem?_append_left (by simp; omega), List.getElem?_append_right (by omega), hp, Nat.add_sub_cancel_left, List.getD_eq_getElem?_getD]
    have hc0 : ch s p = (pk1 (gt l k)).getD 0 0 := hch 0 (by omega)
    rw [hp] at hsz ⊢
    rw [List.length_append, hp]
    by_cases h0 : (gt l k).p.size = 0
    · have e1 : pk1 (gt l k) = [UInt8.ofNat (61 + (gt l k).n.toNat), UInt8.ofNat (gt l k).d.toNat] := by unfold pk1; rw [if_pos h0]
      have hb : 3 ≤ (gt l k).n ∧ (gt l k).n ≤ 66 ∧ 1 ≤ (gt l k).d ∧ (gt l k).d ≤ 255 := by
        unfold okT at hT; rw [if_pos h0] at hT; simp at hT; omega
      have hc1 : ch s (p + 1) = UInt8.ofNat (gt l k).d.toNat := by rw [hch 1 (by omega), e1]; rfl
      have hc0' : ch s p = UInt8.ofNat (61 + (gt l k).n.toNat) := by rw [hc0, e1]; rfl
      have n0 : (ch s p).toNat = 61 + (gt l k).n.toNat := by rw [hc0']; simp; omega
      have n1 : (ch s (p + 1)).toNat = (gt l k).d.toNat := by rw [hc1]; simp; omega
      have l2 : (pk1 (gt l k)).length = 2 := by rw [e1]; rfl
      rw [if_neg (by omega), if_neg (by omega), n0, n1, l2]
      have ex : gt l k = ⟨⟨#[]⟩, (((gt l k).d.toNat : Nat) : Int), ((61 + (gt l k).n.toNat - 61 : Nat) : Int)⟩ := by
        have hp0 : (gt l k).p = ⟨#[]⟩ := by
          apply bt_ext
          have : (bt (gt l k).p).length = 0 := h0
          rw [List.eq_nil_of_length_eq_zero this]
        exact tk_eta hp0 (by omega) (by omega)
      rw [← ex]
    · have e1 : pk1 (gt l k) = UInt8.ofNat ((gt l k).p.size - 1) :: bt (gt l k).p := by unfold pk1; rw [if_neg h0]
      have hb : (gt l k).p.size ≤ 64 ∧ (gt l k).d = 0 ∧ (gt l k).n = 0 := by
        unfold okT at hT; rw [if_neg h0] at hT; simp at hT; exact ⟨hT.1.1, hT.1.2, hT.2⟩
      have hc0' : ch s p = UInt8.ofNat ((gt l k).p.size - 1) := by rw [hc0, e1]; rfl
      have n0 : (ch s p).toNat = (gt l k).p.size - 1 := by rw [hc0']; simp; omega
      have l2 : (pk1 (gt l k)).length = (gt l k).p.size + 1 := by rw [e1]; simp
      rw [if_pos (by omega), n0, if_neg (by omega), l2]
      have hcut : s.extract (p + 1) (p + ((gt l k).p.size - 1) + 2) = (gt l k).p := by
        apply bt_ext
        rw [bt_cut, hbs, e1, show p + ((gt l k).p.size - 1) + 2 = p + ((gt l k).p.size + 1) by omega]
        have e2 : (pk l k ++ UInt8.ofNat ((gt l k).p.size - 1) :: bt (gt l k).p ++ R).take (p + ((gt l k).p.size + 1)) = pk l k ++ UInt8.ofNat ((gt l k).p.size - 1) :: bt (gt l k).p := by
          have : p + ((gt l k).p.size + 1) = (pk l k ++ UInt8.ofNat ((gt l k).p.size - 1) :: bt (gt l k).p).length := by simp [hp]
          rw [this, List.take_left]
        rw [e2, show p + 1 = (pk l k ++ [UInt8.ofNat ((gt l k).p.size - 1)]).length by simp [hp], show pk l k ++ UInt8.ofNat ((gt l k).p.size - 1) :: bt (gt l k).p = (pk l k ++ [UInt8.ofNat ((gt l k).p.size - 1)]) ++ bt (gt l k).p by simp, List.drop_left]
      rw [hcut]
      have ex : gt l k = ⟨(gt l k).p, 0, 0⟩ := by
        exact tk_eta rfl hb.2.1 hb.2.2
      rw [← ex, show p + ((gt l k).p.size - 1) + 2 = p + ((gt l k).p.size + 1) by omega]
/-- What is packed is read again. -/
theorem unp_pk {l : List Tk} (hg : good l = true) : unp (txt (pk l l.length)) = (l, true) := by
  have hgB : gB l l.length = true := by unfold good at hg; simp at hg; exact hg.1
  have h := upr_pk_back hg l.length (Nat.le_refl _)
  have h2 := pk_two (l := l) (Nat.le_refl _) hgB
  have hup := upA_end h (by simp only; rw [txt_size]; omega) (by rw [txt_size]; omega)
  simp only [List.take_length] at hup
  unfold unp
  rw [hup]
  simp only
  rw [if_pos hg]
end Go.Proofs.Ytodidnbghiinkaa.Tz
