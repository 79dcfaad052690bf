import Derived.Test.YtdbmdblghlfjfaaP8
/- What is written: pieces marked, put back between what lies ahead and what lies behind. -/
namespace Go.Proofs.Ytdbmdblghlfjfaa
open Mp
set_option linter.unusedVariables false

def wrP (p : Pc) : Pc := ⟨p.f, p.n, p.a, false⟩
def wrL (l : List Pc) : List Pc := l.map wrP
def wtL (f e : Int) (l : List Pc) : List Pc := cutA f l ++ wrL (cutA e (cutB f l)) ++ cutB e (cutB f l)
def spL (f e : Int) (l : List Pc) : List Pc := (wrL (innL f e l)).foldl putP (outL f e l)
theorem pw_tri {R : Pc → Pc → Prop} {l : List Pc} (h : l.Pairwise R) {p q : Pc} (hp : p ∈ l) (hq : q ∈ l) : p = q ∨ R p q ∨ R q p := by
  obtain ⟨i, hi, rfl⟩ := List.getElem_of_mem hp
  obtain ⟨j, hj, rfl⟩ := List.getElem_of_mem hq
  rcases Nat.lt_trichotomy i j with e | e | e
  · exact .inr (.inl (List.pairwise_iff_getElem.1 h i j hi hj e))
  · subst e; exact .inl rfl
  · exact .inr (.inr (List.pairwise_iff_getElem.1 h j i hj hi e))
theorem ovD_sub {p q p' q' : Pc} (h : ovD p q = false) (h1 : Sub p' p) (h2 : Sub q' q) : ovD p' q' = false := by
  unfold Sub at h1 h2
  unfold ovD at *
  simp at *
  omega
theorem mem_cutA {f : Int} {l : List Pc} (h : ∀ p, p ∈ l → pok p) {y : Pc} (hy : y ∈ cutA f l) : ∃ p, p ∈ l ∧ Sub y p ∧ y.f + y.n ≤ f := by
  unfold cutA at hy
  obtain ⟨p, hp, hy⟩ := List.mem_flatMap.1 hy
  exact ⟨p, hp, (ahd_sub (t := f) (h p hp)).1 y hy⟩
theorem mem_cutB {f : Int} {l : List Pc} (h : ∀ p, p ∈ l → pok p) {y : Pc} (hy : y ∈ cutB f l) : ∃ p, p ∈ l ∧ Sub y p ∧ f ≤ y.f := by
  unfold cutB at hy
  obtain ⟨p, hp, hy⟩ := List.mem_flatMap.1 hy
  exact ⟨p, hp, (bhd_sub (t := f) (h p hp)).1 y hy⟩
theorem cut_ris {f : Int} {l : List Pc} (h : Gd l) {y x : Pc} (hy : y ∈ cutA f l) (hx : x ∈ cutB f l) : Ris y x := by
  obtain ⟨p, hp, sp, e1⟩ := mem_cutA h.1 hy
  obtain ⟨q, hq, sq, e2⟩ := mem_cutB h.1 hx
  refine ⟨by omega, ?_⟩
  rcases pw_tri h.2 hp hq with e | e | e
  · subst e
    unfold Sub at sp sq
    unfold ovD
    simp
    omega
  · exact ovD_sub e.2.1 sp sq
  · rw [ovD_comm]; exact ovD_sub e.2.1 sq sp
theorem ris_sub {y q x : Pc} (hy : pok y) (h : Ris y q) (s : Sub x q) : Ris y x := by
  refine ⟨by have := h.1; unfold Sub at s; omega, ovD_sub h.2 (Sub.refl hy) s⟩
theorem gd_ris {l : List Pc} (h : Gd l) : l.Pairwise Ris := h.2.imp fun q => ⟨q.1, q.2.1⟩
theorem wr_ris {l : List Pc} (h : l.Pairwise Ris) : (wrL l).Pairwise Ris := by
  unfold wrL
  rw [List.pairwise_map]
  exact h
theorem mem_wr {l : List Pc} {x : Pc} (h : x ∈ wrL l) : ∃ y, y ∈ l ∧ x = wrP y := by
  unfold wrL at h
  obtain ⟨y, h1, h2⟩ := List.mem_map.1 h
  exact ⟨y, h1, h2.symm⟩
theorem wt_ris {f e : Int} {l : List Pc} (h : Gd l) : (∀ q, q ∈ wtL f e l → pok q) ∧ (wtL f e l).Pairwise Ris := by
  have gA := h.cutA (t := f)
  have gB := h.cutB (t := f)
  have gI := gB.cutA (t := e)
  have gH := gB.cutB (t := e)
  unfold wtL
  refine ⟨fun q hq => ?_, ?_⟩
  · rcases List.mem_append.1 hq with hq | hq
    · rcases List.mem_append.1 hq with hq | hq
      · exact gA.1 q hq
      · obtain ⟨y, hy, rfl⟩ := mem_wr hq
        exact gI.1 y hy
    · exact gH.1 q hq
  · rw [List.pairwise_append, List.pairwise_append]
    refine ⟨⟨gd_ris gA, wr_ris (gd_ris gI), fun y hy x hx => ?_⟩, gd_ris gH, fun y hy x hx => ?_⟩
    · obtain ⟨x', hx', rfl⟩ := mem_wr hx
      obtain ⟨q, hq, sq, -⟩ := mem_cutA gB.1 hx'
      have r : Ris y x' := ris_sub (gA.1 y hy) (cut_ris h hy hq) sq
      exact r
    · rcases List.mem_append.1 hy with hy | hy
      · obtain ⟨q, hq, sq, -⟩ := mem_cutB gB.1 hx
        exact ris_sub (gA.1 y hy) (cut_ris h hy hq) sq
      · obtain ⟨y', hy', rfl⟩ := mem_wr hy
        have r : Ris y' x := cut_ris gB hy' hx
        exact r
theorem put_mid {Y B : List Pc} {x : Pc} (h1 : ∀ y, y ∈ Y → y.f < x.f) (h2 : ∀ b, b ∈ B → ¬ b.f < x.f) : putP (Y ++ B) x = Y ++ [x] ++ B := by
  have e : lbF x.f (Y ++ B) = Y.length := lbF_first (by simp) (fun i hi => by
    rw [gp_eq (by simp; omega), List.getElem_append_left hi]
    exact h1 _ (List.getElem_mem hi)) (fun h => by
    rw [gp_eq h, List.getElem_append_right (Nat.le_refl _)]
    exact h2 _ (List.getElem_mem _))
  unfold putP
  rw [e, List.take_left, List.drop_left]
theorem put_fold : ∀ {X Y B : List Pc}, (∀ q, q ∈ Y ++ X ++ B → pok q) → (Y ++ X ++ B).Pairwise Ris → X.foldl putP (Y ++ B) = Y ++ X ++ B
  | [], Y, B, _, _ => by simp
  | x :: X, Y, B, ho, h => by
    have hx := ho x (by simp)
    unfold pok at hx
    have e : putP (Y ++ B) x = Y ++ [x] ++ B := put_mid (fun y hy => by
      rw [List.append_assoc, List.pairwise_append] at h
      have := (h.2.2 y hy x (by simp)).1
      have hy := ho y (by simp [hy])
      unfold pok at hy
      omega) (fun b hb => by
      rw [List.append_assoc, List.pairwise_append] at h
      have h3 := h.2.1
      rw [List.cons_append, List.pairwise_cons] at h3
      have := (h3.1 b (by simp [hb])).1
      omega)
    rw [List.foldl_cons, e]
    have := put_fold (X := X) (Y := Y ++ [x]) (B := B) (by simpa using ho) (by simpa using h)
    rw [this]
    simp
theorem len_fold : ∀ {X Y : List Pc}, (X.foldl putP Y).length = Y.length + X.length
  | [], Y => rfl
  | x :: X, Y => by rw [List.foldl_cons, len_fold, len_putP, List.length_cons]; omega
theorem sp_all {f e : Int} (hfe : f ≤ e) {l : List Pc} (h : Gd l) : (∀ q, q ∈ spL f e l → pok q) ∧ jnP (spL f e l) = jnP (wtL f e l) ∧ Gd (jnP (wtL f e l)) := by
  have hw := wt_ris (f := f) (e := e) h
  have hg := (jn_gd _ hw.1 hw.2).1
  have hin := innL_cut (f := f) (e := e) hfe (l := l) h.1
  by_cases hlt : f < e
  · have hs : spL f e l = wtL f e l := by
      unfold spL wtL
      rw [← outL_cut hlt h.rs, ← hin]
      exact put_fold hw.1 hw.2
    rw [hs]
    exact ⟨hw.1, rfl, hg⟩
  · obtain rfl : f = e := by omega
    have h0 : cutA f (cutB f l) = [] := (all_behind (t := f) (l := cutB f l) (fun q hq => by
      obtain ⟨p, hp, s, hf⟩ := mem_cutB h.1 hq
      unfold Sub at s
      exact ⟨by omega, s.1⟩)).1
    have hs : spL f f l = l := by
      unfold spL
      rw [← hin, h0, outL_none]
      rfl
    have hj : jnP (wtL f f l) = l := by
      unfold wtL
      rw [h0, cutB_twice h.1]
      have := join_back (f := f) h
      simpa [wrL] using this
    rw [hs, hj]
    exact ⟨h.1, jnP_gd h, h⟩
theorem sz_le {e : Int} : ∀ {l : List Pc} {lo : Int}, (l.Pairwise fun p q => p.f + p.n ≤ q.f) → (∀ p, p ∈ l → lo ≤ p.f ∧ p.f + p.n ≤ e ∧ 0 ≤ p.n) → lo ≤ e → szN l ≤ e - lo
  | [], lo, _, _, h => by simp [szN]; omega
  | p :: l, lo, hp, ha, h => by
    rw [List.pairwise_cons] at hp
    have h1 := ha p (by simp)
    have := sz_le (l := l) (lo := p.f + p.n) hp.2 (fun q hq => ⟨hp.1 q hq, (ha q (by simp [hq])).2⟩) h1.2.1
    unfold szN
    omega
theorem sz_inn {f e : Int} (hfe : f ≤ e) {l : List Pc} (h : Gd l) : szN (innL f e l) ≤ e - f := by
  rw [← innL_cut (f := f) (e := e) hfe (l := l) h.1]
  have gB := h.cutB (t := f)
  have gI := gB.cutA (t := e)
  refine sz_le gI.rs.2 (fun p hp => ?_) hfe
  obtain ⟨q, hq, s, he⟩ := mem_cutA gB.1 hp
  obtain ⟨-, -, -, hf⟩ := mem_cutB h.1 hq
  unfold Sub at s
  exact ⟨by omega, he, by omega⟩
end Go.Proofs.Ytdbmdblghlfjfaa
