import Derived.Test.YtfphffbclpmobaaM7
/- Dropping a file, pure: the uses that are left, the pieces that stay, their new numbers. -/
namespace Go.Proofs.Ytfphffbclpmobaa
open Go.ChangeShapes Go.WideShapes Go.ChangeAt Go.RowKit Go.Maps
set_option linter.unusedVariables false
open Hd

/-- One use less of a piece; of all parts' pieces. -/
def ds1 (P : List Nm) (i : Nat) : List Nm := P.set i ⟨(gm P i).nm, (gm P i).fl - 1⟩
def dsL (P : List Nm) (l : List Int) : List Nm := l.foldl (fun P x => ds1 P x.toNat) P
theorem dsL_snoc (P : List Nm) (l : List Int) (x : Int) : dsL P (l ++ [x]) = ds1 (dsL P l) x.toNat := by simp [dsL, List.foldl_append]
theorem dsL_len : ∀ (l : List Int) (P : List Nm), (dsL P l).length = P.length
  | [], P => rfl
  | x :: l, P => by show (dsL (ds1 P x.toNat) l).length = _; rw [dsL_len l, ds1, List.length_set]
theorem ds1_at {P : List Nm} {i j : Nat} (hj : j < P.length) : (gm (ds1 P i) j).nm = (gm P j).nm ∧ (gm (ds1 P i) j).fl = (gm P j).fl - if i = j then 1 else 0 := by
  unfold ds1
  rw [gm_set hj]
  by_cases e : i = j
  · subst e; rw [if_pos rfl, if_pos rfl]; exact ⟨rfl, rfl⟩
  · rw [if_neg e, if_neg e]; exact ⟨rfl, by omega⟩
theorem dsL_at : ∀ (l : List Int) (P : List Nm) {j : Nat}, j < P.length → (∀ x, x ∈ l → 0 ≤ x) → (gm (dsL P l) j).nm = (gm P j).nm ∧ (gm (dsL P l) j).fl = (gm P j).fl - (l.count (j : Int) : Nat)
  | [], P, j, hj, _ => by simp [dsL]
  | x :: l, P, j, hj, h0 => by
    have e : dsL P (x :: l) = dsL (ds1 P x.toNat) l := rfl
    obtain ⟨h1, h2⟩ := dsL_at l (ds1 P x.toNat) (j := j) (by rw [ds1, List.length_set]; exact hj) (fun y hy => h0 y (List.mem_cons_of_mem _ hy))
    obtain ⟨k1, k2⟩ := ds1_at (i := x.toNat) hj
    have hx := h0 x (by simp)
    rw [e, h1, h2, k1, k2, List.count_cons]
    refine ⟨rfl, ?_⟩
    by_cases q : x.toNat = j
    · have q' : (x == (j : Int)) = true := by simp; omega
      rw [if_pos q, q', if_pos rfl]; omega
    · have q' : (x == (j : Int)) = false := by simp; omega
      rw [if_neg q, q', if_neg (by simp)]; omega
theorem dis_pair {L : List Nm} : Dis L ↔ L.Pairwise fun x y => x.nm ≠ y.nm := by
  rw [List.pairwise_iff_getElem]
  constructor
  · intro h i j hi hj hij
    have := h j i hij hj
    rwa [gm_eq' (show i < L.length by omega), gm_eq' hj] at this
  · intro h i j hji hi
    have := h j i (by omega) hi hji
    rw [gm_eq' (show j < L.length by omega), gm_eq' hi]
    exact this
theorem dsL_dis {P : List Nm} (hd : Dis P) (l : List Int) (h0 : ∀ x, x ∈ l → 0 ≤ x) : Dis (dsL P l) := fun i j hji hi => by
  rw [dsL_len] at hi
  rw [(dsL_at l P (show j < P.length by omega) h0).1, (dsL_at l P hi h0).1]
  exact hd i j hji hi
/-- The pieces that stay, and a piece's new number. -/
def kp (P : List Nm) : List Nm := P.filter fun x => decide (x.fl ≠ 0)
def plc (P : List Nm) (k : Nat) : Nat := (kp (P.take k)).length
theorem livF_nm : ∀ (P : List Nm) (k : Nat), (livF k P).map toNm = kp P
  | [], k => rfl
  | x :: P, k => by
    rw [livF_cons, kp, List.filter_cons]
    by_cases h : x.fl = 0
    · rw [if_pos h, if_neg (by simp [h]), livF_nm P (k + 1)]; rfl
    · rw [if_neg h, if_pos (by simp [h]), List.map_cons, livF_nm P (k + 1)]; rfl
theorem kp_le (P : List Nm) : (kp P).length ≤ P.length := List.length_filter_le _ _
theorem livF_len (P : List Nm) (k : Nat) : (livF k P).length = (kp P).length := by rw [← livF_nm P k, List.length_map]
theorem plc_succ {P : List Nm} {k : Nat} (h : k < P.length) : plc P (k + 1) = plc P k + if (gm P k).fl = 0 then 0 else 1 := by
  unfold plc kp
  rw [List.take_succ_eq_append_getElem h, List.filter_append, List.length_append, gm_eq' h]
  by_cases e : P[k].fl = 0 <;> simp [e]
theorem kp_succ {P : List Nm} {k : Nat} (h : k < P.length) : kp (P.take (k + 1)) = kp (P.take k) ++ if (gm P k).fl = 0 then [] else [gm P k] := by
  unfold kp
  rw [List.take_succ_eq_append_getElem h, List.filter_append, gm_eq' h]
  by_cases e : P[k].fl = 0 <;> simp [e]
theorem kp_at {P : List Nm} {k : Nat} (h : k < P.length) (hk : (gm P k).fl ≠ 0) : plc P k < (kp P).length ∧ gm (kp P) (plc P k) = gm P k := by
  have e : kp P = kp (P.take k) ++ gm P k :: kp (P.drop (k + 1)) := by
    have e1 : P = P.take k ++ P[k] :: P.drop (k + 1) := by rw [← List.drop_eq_getElem_cons h, List.take_append_drop]
    have : kp P = kp (P.take k ++ P[k] :: P.drop (k + 1)) := by rw [← e1]
    rw [this]
    unfold kp
    rw [List.filter_append, List.filter_cons, gm_eq' h, if_pos (by rw [gm_eq' h] at hk; simpa using hk)]
  have hl : plc P k = (kp (P.take k)).length := rfl
  rw [hl]
  refine ⟨by rw [e]; simp, ?_⟩
  rw [e]
  simp [gm]
theorem kp_dis {P : List Nm} (hd : Dis P) : Dis (kp P) := dis_pair.2 ((dis_pair.1 hd).filter _)
/-- Two files' parts are among all. -/
theorem tf_two {F : List (List Int)} {f j i : Nat} (hne : j ≠ f) : ∀ m, (if f < m then (gf F f).count (i : Int) else 0) + (if j < m then (gf F j).count (i : Int) else 0) ≤ tf F m i
  | 0 => by simp
  | m + 1 => by
    have ih := tf_two (F := F) (i := i) hne m
    rw [tf]
    by_cases h1 : f = m
    · subst h1
      rw [if_neg (by omega)] at ih
      rw [if_pos (by omega)]
      by_cases h2 : j < f
      · rw [if_pos h2] at ih; rw [if_pos (by omega)]; omega
      · rw [if_neg (by omega)]; omega
    · by_cases h2 : j = m
      · subst h2
        rw [if_neg (show ¬ j < j by omega)] at ih
        rw [if_pos (show j < j + 1 by omega)]
        by_cases h3 : f < j
        · rw [if_pos h3] at ih; rw [if_pos (by omega)]; omega
        · rw [if_neg (by omega)]; omega
      · have e1 : (if f < m + 1 then (gf F f).count (i : Int) else 0) = if f < m then (gf F f).count (i : Int) else 0 := by by_cases h : f < m <;> simp [h] <;> omega
        have e2 : (if j < m + 1 then (gf F j).count (i : Int) else 0) = if j < m then (gf F j).count (i : Int) else 0 := by by_cases h : j < m <;> simp [h] <;> omega
        rw [e1, e2]
        omega
theorem tf_one {F : List (List Int)} {f i : Nat} : ∀ m, f < m → (gf F f).count (i : Int) ≤ tf F m i
  | 0, h => by omega
  | m + 1, h => by
    rw [tf]
    by_cases e : f = m
    · subst e; omega
    · have := tf_one (F := F) (f := f) (i := i) m (by omega); omega
/-- What DropFile leaves. -/
def drV (u : Va) (f : Nat) : Va := ⟨kp (dsL u.pc (gf u.fs f)), (u.fs.eraseIdx f).map fun l => l.map fun y => (plc (dsL u.pc (gf u.fs f)) y.toNat : Int)⟩
theorem gv_dis {u : Va} (hg : GV u) : Dis u.pc := fun i j hji hi => (hg.2.2 i hi).2.1 j hji
theorem gv_pos {u : Va} (hg : GV u) {f : Nat} (hf : f < u.fs.length) : ∀ x, x ∈ gf u.fs f → 0 ≤ x := fun x hx => (fOk_mem (hg.2.1 f hf) x hx).1
/-- Uses that are left: none below zero, and one at least where a file that stays has a part. -/
theorem dr_fl {u : Va} (hg : GV u) {f : Nat} (hf : f < u.fs.length) {i : Nat} (hi : i < u.pc.length) : 0 ≤ (gm (dsL u.pc (gf u.fs f)) i).fl ∧ ∀ j, j < u.fs.length → j ≠ f → (i : Int) ∈ gf u.fs j → 1 ≤ (gm (dsL u.pc (gf u.fs f)) i).fl := by
  have h1 := (dsL_at (gf u.fs f) u.pc hi (gv_pos hg hf)).2
  have h2 := (hg.2.2 i hi).2.2.1
  have h3 := tf_one (F := u.fs) (f := f) (i := i) u.fs.length hf
  refine ⟨by rw [h1, h2]; omega, fun j hj hne hm => ?_⟩
  have h4 := tf_two (F := u.fs) (i := i) hne u.fs.length
  rw [if_pos hf, if_pos hj] at h4
  have h5 : 1 ≤ (gf u.fs j).count (i : Int) := List.count_pos_iff.2 hm
  rw [h1, h2]; omega
/-- On the way: the piece of the next part has a use yet. -/
theorem dr_way {u : Va} (hg : GV u) {f : Nat} (hf : f < u.fs.length) {k : Nat} (hk : k < (gf u.fs f).length) : (gi (gf u.fs f) k).toNat < u.pc.length ∧ 1 ≤ (gm (dsL u.pc ((gf u.fs f).take k)) (gi (gf u.fs f) k).toNat).fl ∧ (gm (dsL u.pc ((gf u.fs f).take k)) (gi (gf u.fs f) k).toNat).fl ≤ 1000000 := by
  obtain ⟨p1, p2⟩ := (hg.2.1 f hf).1 k hk
  obtain ⟨i, hi⟩ : ∃ i : Nat, gi (gf u.fs f) k = (i : Int) := ⟨(gi (gf u.fs f) k).toNat, by omega⟩
  rw [hi]
  rw [hi] at p2
  have hiP : i < u.pc.length := by omega
  have h1 := (dsL_at ((gf u.fs f).take k) u.pc hiP (fun x hx => gv_pos hg hf x (List.mem_of_mem_take hx))).2
  have h2 := (hg.2.2 i hiP).2.2.1
  have h3 := tf_one (F := u.fs) (f := f) (i := i) u.fs.length hf
  have h4 : pn (gf u.fs f) (k + 1) i = pn (gf u.fs f) k i + 1 := by rw [pn_succ hk, if_pos hi]
  have h5 : pn (gf u.fs f) (k + 1) i ≤ (gf u.fs f).count (i : Int) := by unfold pn; exact (List.take_sublist _ _).count_le _
  have h6 : pn (gf u.fs f) k i = ((gf u.fs f).take k).count (i : Int) := rfl
  have h7 : tf u.fs u.fs.length i ≤ 1000000 := by
    have h8 := tf_le u.fs u.fs.length i
    have h9 : kk u.fs u.fs.length ≤ 200 * u.fs.length := by
      have : ∀ m, m ≤ u.fs.length → kk u.fs m ≤ 200 * m := by
        intro m
        induction m with
        | zero => intro _; exact Nat.le_refl _
        | succ m ih => intro hm; rw [kk]; have := ih (by omega); have := (hg.2.1 m (by omega)).2; omega
      exact this _ (Nat.le_refl _)
    have := hg.1.2
    omega
  simp only [Int.toNat_natCast]
  rw [h1, h2]
  exact ⟨hiP, by omega, by omega⟩
/-- Both sides' steps, all of them. -/
theorem dr_rep {u : Va} (hg : GV u) {f : Nat} (hf : f < u.fs.length) : ∀ k, k ≤ (gf u.fs f).length → RepZ (drL (oG u) ((txs u.pc (gf u.fs f)).take k)) (dsL u.pc ((gf u.fs f).take k))
  | 0, _ => RepZ.of (good_rep hg) (good_num hg) (fun i hi => (hg.2.2 i hi).2.2.2)
  | k + 1, hk => by
    have ih := dr_rep hg hf k (by omega)
    obtain ⟨h1, h2, h3⟩ := dr_way hg hf (k := k) (by omega)
    have hz : ∀ x, x ∈ (gf u.fs f).take k → 0 ≤ x := fun x hx => gv_pos hg hf x (List.mem_of_mem_take hx)
    have hs := ih.step (dsL_dis (gv_dis hg) _ hz) (i := (gi (gf u.fs f) k).toNat) (by rw [dsL_len]; exact h1) h2
    have e1 : (txs u.pc (gf u.fs f)).take (k + 1) = (txs u.pc (gf u.fs f)).take k ++ [(gm u.pc (gi (gf u.fs f) k).toNat).nm] := by
      rw [List.take_succ_eq_append_getElem (by rw [txs_len]; omega), ← gs_eq, txs_at _ (by omega)]
    have e2 : (gf u.fs f).take (k + 1) = (gf u.fs f).take k ++ [gi (gf u.fs f) k] := by
      rw [List.take_succ_eq_append_getElem (by omega), gi_eq (by omega)]
    rw [e1, e2, drL_snoc, dsL_snoc]
    rw [(dsL_at _ u.pc h1 hz).1] at hs
    have e3 : ds1 (dsL u.pc ((gf u.fs f).take k)) (gi (gf u.fs f) k).toNat = (dsL u.pc ((gf u.fs f).take k)).set (gi (gf u.fs f) k).toNat ⟨(gm u.pc (gi (gf u.fs f) k).toNat).nm, (gm (dsL u.pc ((gf u.fs f).take k)) (gi (gf u.fs f) k).toNat).fl - 1⟩ := by
      unfold ds1; rw [(dsL_at _ u.pc h1 hz).1]
    rw [e3]
    exact hs
theorem dr_look {u : Va} (hg : GV u) {f : Nat} (hf : f < u.fs.length) {k : Nat} (hk : k < (gf u.fs f).length) : ∃ p q, (drL (oG u) ((txs u.pc (gf u.fs f)).take k)).1 (gs (txs u.pc (gf u.fs f)) k) = some (p, q) ∧ 1 ≤ q ∧ q ≤ 1000000 := by
  have ih := dr_rep hg hf k (by omega)
  obtain ⟨h1, h2, h3⟩ := dr_way hg hf hk
  have hz : ∀ x, x ∈ (gf u.fs f).take k → 0 ≤ x := fun x hx => gv_pos hg hf x (List.mem_of_mem_take hx)
  refine ⟨_, _, (ih.1.2 _ _ _).2 (livF_mem.2 ⟨⟨(gi (gf u.fs f) k).toNat, by rw [dsL_len]; exact h1, ?_, rfl⟩, by simp only; omega⟩), h2, h3⟩
  rw [txs_at _ hk, ← (dsL_at _ u.pc h1 hz).1]
/-- The program's files, numbered anew, are the specification's. -/
theorem dr_files {u : Va} (hg : GV u) {f : Nat} (hf : f < u.fs.length) : clF (kp (dsL u.pc (gf u.fs f))) ((fsT u).eraseIdx f) = (drV u f).fs := by
  have hd := dsL_dis (gv_dis hg) _ (gv_pos hg hf)
  have e1 : (fsT u).eraseIdx f = (u.fs.eraseIdx f).map (txs u.pc) := by
    unfold fsT
    apply List.ext_getElem?
    intro i
    simp only [List.getElem?_eraseIdx, List.getElem?_map]
    split <;> rfl
  unfold clF drV
  rw [e1, List.map_map]
  simp only
  refine List.map_congr_left fun l hl => ?_
  obtain ⟨i, hi, rfl⟩ := List.getElem_of_mem hl
  have hmem : ∃ j, j < u.fs.length ∧ j ≠ f ∧ (u.fs.eraseIdx f)[i] = gf u.fs j := by
    rw [List.length_eraseIdx, if_pos hf] at hi
    rw [List.getElem_eraseIdx]
    split
    · exact ⟨i, by omega, by omega, by rw [gf_eq (by omega)]⟩
    · exact ⟨i + 1, by omega, by omega, by rw [gf_eq (by omega)]⟩
  obtain ⟨j, hj, hne, hji⟩ := hmem
  rw [hji]
  show (txs u.pc (gf u.fs j)).map _ = _
  unfold txs
  rw [List.map_map]
  refine List.map_congr_left fun x hx => ?_
  obtain ⟨h0, hn⟩ := fOk_mem (hg.2.1 j hj) x hx
  have hxP : x.toNat < u.pc.length := by omega
  have hx' : ((x.toNat : Nat) : Int) = x := by omega
  have hfl := (dr_fl hg hf hxP).2 j hj hne (by rw [hx']; exact hx)
  obtain ⟨k1, k2⟩ := kp_at (P := dsL u.pc (gf u.fs f)) (k := x.toNat) (by rw [dsL_len]; exact hxP) (by omega)
  show nuF _ _ (gm u.pc x.toNat).nm = _
  rw [← (dsL_at (gf u.fs f) u.pc hxP (gv_pos hg hf)).1, ← k2]
  exact nuF_at (kp_dis hd) _ k1 (Nat.le_refl _)
end Go.Proofs.Ytfphffbclpmobaa
