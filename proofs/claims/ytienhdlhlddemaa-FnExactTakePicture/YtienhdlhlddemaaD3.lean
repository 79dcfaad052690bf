import Derived.Test.YtienhdlhlddemaaD2
/- The specification: each cell at one level alone. -/
namespace Go.Proofs.Ytienhdlhlddemaa.Hd
set_option linter.unusedVariables false

theorem lvs_m1 (L : List Ce) (l : Nat) (a : List Int) : lvs L l a (-1) = some a := by
  cases l <;> (unfold lvs; rfl)
theorem lvs_nat {L : List Ce} {l q : Nat} {a : List Int} : lvs L l a (q : Int) =
    if gi a q ≠ 0 ∧ gi a q ≠ (l : Int) then none else if gi a q = (l : Int) then some a else (gc L q).kd.foldlM (lvs L (l - 1)) (a.set q (l : Int)) := by
  cases l with
  | zero =>
    unfold lvs
    rw [if_neg (by omega), Int.toNat_natCast]
    by_cases h : gi a q = 0
    · rw [if_pos h, if_neg (by omega), if_pos (by omega)]
    · rw [if_neg h, if_pos ⟨h, by simpa using h⟩]
  | succ l =>
    conv => lhs; unfold lvs
    rw [if_neg (by omega), Int.toNat_natCast]
    rfl
/-- Cells that were met have kids that were met. -/
def Clo (L : List Ce) (V : Nat → Prop) : Prop := ∀ j, j < L.length → V j → ∀ x, x ∈ (gc L j).kd → x = -1 ∨ (inR L.length x ∧ V x.toNat)
/-- What a going down leaves met. -/
def CLeft (L : List Ce) (s s' : List Int) : Prop := (∀ j, gi s j ≠ 0 → gi s' j ≠ 0) ∧ ∀ j, gi s j = 0 → gi s' j ≠ 0 → ∀ x, x ∈ (gc L j).kd → x = -1 ∨ (inR L.length x ∧ gi s' x.toNat ≠ 0)
theorem CLeft.trans {L : List Ce} {a b c : List Int} (h : CLeft L a b) (k : CLeft L b c) : CLeft L a c := by
  refine ⟨fun j hj => k.1 j (h.1 j hj), fun j hj hj' x hx => ?_⟩
  by_cases e : gi b j = 0
  · exact k.2 j e hj' x hx
  · rcases h.2 j hj e x hx with r | ⟨r1, r2⟩
    · exact .inl r
    · exact .inr ⟨r1, k.1 _ r2⟩
theorem clo_foldM {L : List Ce} {l : Nat} (h : ∀ s k s', Nn s → s.length = L.length → deep L l s k = some s' → CLeft L s s' ∧ (k = -1 ∨ (inR L.length k ∧ gi s' k.toNat ≠ 0))) :
    ∀ (K s s' : List Int), Nn s → s.length = L.length → K.foldlM (deep L l) s = some s' → CLeft L s s' ∧ ∀ x, x ∈ K → x = -1 ∨ (inR L.length x ∧ gi s' x.toNat ≠ 0) := by
  intro K
  induction K with
  | nil => intro s s' _ _ e; simp at e; subst e; exact ⟨⟨fun _ h => h, fun j h h' => absurd h h'⟩, by simp⟩
  | cons k K ih =>
    intro s s' hs hl e
    rw [List.foldlM_cons] at e
    cases e1 : deep L l s k with
    | none => rw [e1] at e; simp at e
    | some s1 =>
      rw [e1] at e
      obtain ⟨g1, g2⟩ := h s k s1 hs hl e1
      have hm := deep_mt L l s k s1 hs hl e1
      obtain ⟨k1, k2⟩ := ih s1 s' (hm ▸ mt_nn L l s k hs) (deep_len hs hl e1) e
      refine ⟨g1.trans k1, fun x hx => ?_⟩
      rcases List.mem_cons.1 hx with r | r
      · subst r
        rcases g2 with r | ⟨r1, r2⟩
        · exact .inl r
        · exact .inr ⟨r1, k1.1 _ r2⟩
      · exact k2 x r
theorem deep_clo (L : List Ce) : ∀ l s k s', Nn s → s.length = L.length → deep L l s k = some s' → CLeft L s s' ∧ (k = -1 ∨ (inR L.length k ∧ gi s' k.toNat ≠ 0)) := by
  intro l
  induction l with
  | zero => intro s k s' _ _ h; simp [deep] at h
  | succ l ih =>
    intro s k s' hs hl h
    by_cases e : k = -1
    · subst e; rw [deep_m1] at h; simp at h; subst h; exact ⟨⟨fun _ h => h, fun j h h' => absurd h h'⟩, .inl rfl⟩
    by_cases hr : inR L.length k
    · obtain ⟨q, rfl⟩ : ∃ q : Nat, k = q := ⟨k.toNat, by have := hr.1; omega⟩
      have hq : q < L.length := by have := hr.2; omega
      rw [deep_nat hq hl] at h
      have h0 := hs q
      have hg : gi (s.set q (gi s q + 1)) q = gi s q + 1 := gi_set (by omega)
      have hne : ∀ j, gi s j ≠ 0 → gi (s.set q (gi s q + 1)) j ≠ 0 := fun j hj => by
        by_cases ej : q = j
        · subst ej; omega
        · rw [gi_set_ne ej]; exact hj
      have hold : ∀ j, gi s j = 0 → gi (s.set q (gi s q + 1)) j ≠ 0 → j = q := fun j h1 h2 => by
        by_cases ej : q = j
        · exact ej.symm
        · rw [gi_set_ne ej] at h2; exact absurd h1 h2
      have hnn : Nn (s.set q (gi s q + 1)) := by have := hs.inc (k := (q : Int)); exact this
      have hin : inR L.length (q : Int) := hr
      split at h
      · rename_i h1
        simp at h; subst h
        refine ⟨⟨hne, fun j a b x hx => ?_⟩, .inr ⟨hin, by rw [Int.toNat_natCast]; omega⟩⟩
        have := hold j a b
        subst this
        omega
      · split at h
        · split at h
          · rename_i hk
            simp at h; subst h
            refine ⟨⟨hne, fun j a b x hx => ?_⟩, .inr ⟨hin, by rw [Int.toNat_natCast]; omega⟩⟩
            have := hold j a b
            subst this
            rw [hk.1] at hx
            simp at hx
          · simp at h
        · split at h
          · simp at h
          · rename_i s2 e2
            split at h
            · simp at h
              subst h
              obtain ⟨g1, g2⟩ := clo_foldM ih _ _ _ hnn (by simpa using hl) e2
              refine ⟨⟨fun j hj => g1.1 j (hne j hj), fun j a b x hx => ?_⟩, .inr ⟨hin, by rw [Int.toNat_natCast]; exact g1.1 q (by omega)⟩⟩
              by_cases e3 : gi (s.set q (gi s q + 1)) j = 0
              · exact g1.2 j e3 b x hx
              · have := hold j a e3
                subst this
                exact g2 x hx
            · simp at h
    · rw [deep_out e hr] at h; simp at h
theorem lvs_foldlen {L : List Ce} {l : Nat} (h : ∀ a k a', lvs L l a k = some a' → a'.length = a.length) : ∀ (K a a' : List Int), K.foldlM (lvs L l) a = some a' → a'.length = a.length := by
  intro K
  induction K with
  | nil => intro a a' e; simp at e; rw [e]
  | cons k K ih =>
    intro a a' e
    rw [List.foldlM_cons] at e
    cases e1 : lvs L l a k with
    | none => rw [e1] at e; simp at e
    | some a1 => rw [e1] at e; rw [ih a1 a' e, h a k a1 e1]
theorem lvs_len (L : List Ce) : ∀ l a k a', lvs L l a k = some a' → a'.length = a.length := by
  intro l
  induction l with
  | zero =>
    intro a k a' h
    unfold lvs at h
    split at h
    · simp at h; rw [h]
    · split at h
      · simp at h; rw [h]
      · simp at h
  | succ l ih =>
    intro a k a' h
    unfold lvs at h
    split at h
    · simp at h; rw [h]
    · split at h
      · simp at h
      · split at h
        · simp at h; rw [h]
        · rw [lvs_foldlen ih _ _ _ h]; simp
end Go.Proofs.Ytienhdlhlddemaa.Hd
namespace Go.Proofs.Ytienhdlhlddemaa
open Go.ChangeShapes Go.WideShapes Go.ChangeAt Go.RowKit
set_option linter.unusedVariables false
open Hd

attribute [local go_sem] Oper.semAt_some

theorem deep_any {c : Co} {K : Nat} (hK : ∀ i, i < c.cs.length → (gc c.cs i).kd.length ≤ K) (hlf : ∀ i, i < c.cs.length → (gc c.cs i).lf.size ≤ 9223372036854775807) (hKm : K ≤ 1048576) (w0 : World) (v : Value) (hc : CowAt w0 v c) (hn : c.cs.length ≤ 80) :
    ∀ (l : Nat), 1 ≤ l → l ≤ 3 → ∀ (k : Int) (s : List Int) (g : Nat) (w : World), w0.heap.size ≤ g → Below w0.heap.size w0 w → Row w g s → s.length = c.cs.length → Nn s → (∀ y, gi s y + TT K l ≤ 4611686018427387904) →
      Calls Try.prog 32 #[v, .int .i64 k, .int .i64 (l : Int), .slice (some ⟨g, 0, none⟩) c.cs.length c.cs.length] w (DeepR (deep c.cs l s k) g w) := by
  intro l
  induction l with
  | zero => intro h; omega
  | succ l ih =>
    intro _ h3 k s g w hg hb hs hsl hnn hm
    have := deep_step hK hlf hKm w0 v hc hn l (by omega) (fun h0 => ih (by omega) (by omega)) k s g w hg hb hs hsl hnn hm
    exact this
set_option maxHeartbeats 2000000 in
theorem lvs_step {c : Co} {K : Nat} (hK : ∀ i, i < c.cs.length → (gc c.cs i).kd.length ≤ K) (hKm : K ≤ 1048576) (w0 : World) (v : Value) (hc : CowAt w0 v c) (hn : c.cs.length ≤ 80) {V : Nat → Prop} (hV : Clo c.cs V) (l : Nat) (hl3 : l ≤ 3)
    (IH : l ≠ 0 → ∀ (k : Int) (s : List Int) (g : Nat) (w : World), w0.heap.size ≤ g → Below w0.heap.size w0 w → Row w g s → s.length = c.cs.length → (k = -1 ∨ (inR c.cs.length k ∧ V k.toNat)) →
      Calls Try.prog 33 #[v, .int .i64 k, .int .i64 ((l : Int) - 1), .slice (some ⟨g, 0, none⟩) c.cs.length c.cs.length] w (DeepR (lvs c.cs (l - 1) s k) g w))
    (k : Int) (s : List Int) (g : Nat) (w : World) (hg : w0.heap.size ≤ g) (hb : Below w0.heap.size w0 w) (hs : Row w g s) (hsl : s.length = c.cs.length) (hr : k = -1 ∨ (inR c.cs.length k ∧ V k.toNat)) :
    Calls Try.prog 33 #[v, .int .i64 k, .int .i64 (l : Int), .slice (some ⟨g, 0, none⟩) c.cs.length c.cs.length] w (DeepR (lvs c.cs l s k) g w) := by
  obtain ⟨a, ca, a', ca', rfl, -, -, hI, -⟩ := hc
  obtain ⟨W0, hW0⟩ : ∃ W0, w.alloc (.cells #[.slice a c.cs.length ca, .slice a' c.rs.length ca', .int .i64 c.lv] 29) = W0 := ⟨_, rfl⟩
  have q0 : Below w.heap.size w W0 := by subst hW0; exact below_alloc _ _
  have hb0 : Below w0.heap.size w0 W0 := hb.trans (q0.mono hb.size)
  have hgw := hs.lt
  have H1 : Hid (W0.heap[w.heap.size]? = some (.cells #[.slice a c.cs.length ca, .slice a' c.rs.length ca', .int .i64 c.lv] 29 (0, 0))) := by subst hW0; exact al1 _ _
  obtain ⟨i0, i1, i2⟩ := box3_one H1.out
  have HS : Hid (Row W0 g s) := hs.below q0
  unfold kv at *
  have HIH : Hid _ := IH
  have Hsl : Hid (s.length = c.cs.length) := hsl
  clear IH
  rcases hr with hr | ⟨hr, hVk⟩
  · subst hr
    rw [lvs_m1]
    clear hsl
    go_enter Try.func33, Try.ntmps33
    go_wp2
    go_ret
    exact ⟨Out.of_below q0, .inr ⟨s, rfl, rfl, HS.out⟩⟩
  obtain ⟨q, rfl⟩ : ∃ q : Nat, k = q := ⟨k.toNat, by have := hr.1; omega⟩
  have hq : q < c.cs.length := by have := hr.2; omega
  rw [Int.toNat_natCast] at hVk
  have hk1' : ((q : Int) == -1) = false := by simp
  have HO : Hid (lvs c.cs l s (q : Int) = _) := lvs_nat
  generalize lvs c.cs l s (q : Int) = oo at HO ⊢
  obtain ⟨s0, f0⟩ := HS.out.cell (i := q) (by omega)
  have hkn : (q : Int) < (c.cs.length : Int) := by omega
  have hVq : Hid _ := hV q hq hVk
  obtain ⟨b, off, rfl, hcell⟩ := hI (by omega)
  obtain ⟨ka, kc, k0', k1', k2', k3, -⟩ := hcell q hq
  have HKd : Hid (∀ W, Below w0.heap.size w0 W → Ints W ka (gc c.cs q).kd) := fun W h => k3.below h
  have HK2 : Hid (∀ W, Below w0.heap.size w0 W → W.cell? ⟨b, off + q * 3 + 2, none⟩ = some (.slice ka (gc c.cs q).kd.length kc)) := fun W h => cell_on k2' h
  have hKq := hK q hq
  have HBW : Hid (∀ wr, Out g (g + 1) w wr → Below w0.heap.size w0 wr) := fun wr ho => hb.trans ((ho.below (by omega)).mono hg)
  have hs1l : Hid ((s.set q (l : Int)).length = c.cs.length) := by show _ = _; simpa using hsl
  clear hcell hI hK hsl hr k0' k1' k2' k3 hVk hV
  generalize hz : gi s q = z at *
  have Hz : Hid _ := hz
  clear hz
  by_cases h1 : z ≠ 0 ∧ z ≠ (l : Int)
  · have HO1 : Hid _ := HO.out
    rw [if_pos h1] at HO1
    clear HO
    obtain ⟨h2, h3⟩ := h1
    have e2 : (z == 0) = false := by simpa using h2
    have e3 : (z == (l : Int)) = false := by simpa using h3
    have e4 : (z != 0) = true := by simpa using h2
    have e5 : (z != (l : Int)) = true := by simpa using h3
    go_enter Try.func33, Try.ntmps33
    go_wp2
    go_ret
    exact ⟨Out.of_below q0, .inl ⟨HO1.out, rfl⟩⟩
  · by_cases h2 : z = (l : Int)
    · have HO1 : Hid _ := HO.out
      rw [if_neg h1, if_pos h2] at HO1
      clear HO
      subst h2
      clear h1
      by_cases hl0 : l = 0
      · subst hl0
        go_enter Try.func33, Try.ntmps33
        go_wp2
        go_ret
        exact ⟨Out.of_below q0, .inr ⟨s, HO1.out, rfl, HS.out⟩⟩
      · have hl0' : ((l : Int) == 0) = false := by simpa using hl0
        have hl0'' : ((l : Int) != 0) = true := by simpa using hl0
        go_enter Try.func33, Try.ntmps33
        go_wp2
        go_ret
        exact ⟨Out.of_below q0, .inr ⟨s, HO1.out, rfl, HS.out⟩⟩
    · have HO1 : Hid _ := HO.out
      rw [if_neg h1, if_neg h2] at HO1
      clear HO
      have hz0 : z = 0 := by
        by_cases e : z = 0
        · exact e
        · exact absurd ⟨e, h2⟩ h1
      subst hz0
      have hl0 : l ≠ 0 := by omega
      have HI : Hid _ := HIH.out hl0
      have hl0' : ((0 : Int) == (l : Int)) = false := by simp; omega
      have hl1 : 1 ≤ (l : Int) := by omega
      have hl3' : (l : Int) ≤ 3 := by omega
      clear h1 h2 hl0
      obtain ⟨W2, hW2⟩ : ∃ W2, W0.setCell ⟨g, q, none⟩ (.int .i64 (l : Int)) = W2 := ⟨_, rfl⟩
      have o2 : Out g (g + 1) W0 W2 := by subst hW2; exact out_setCell _ _ _ _
      have HS2 : Hid (Row W2 g (s.set q (l : Int))) := by subst hW2; exact HS.out.set _ _
      have o02 : Out g (g + 1) w W2 := (Out.of_below q0).trans o2
      have hb2 : Below w0.heap.size w0 W2 := HBW.out _ o02
      have H2 : Hid (W2.heap[w.heap.size]? = _) := box_out H1.out o2 (by omega)
      obtain ⟨j0, j1, j2⟩ := box3_one H2.out
      have k2 := HK2.out W2 hb2
      generalize s.set q (l : Int) = s1 at *
      generalize (gc c.cs q).kd = kd at *
      generalize hN : c.cs.length = n at *
      have HN : Hid _ := hN
      clear hN
      generalize hkl : kd.length = m at *
      have Hkl : Hid _ := hkl
      clear hkl HK2
      go_enter Try.func33, Try.ntmps33
      go_wp2
      clear hW0 hW2 i0 i1 i2 j0 j1 j2 s0 f0 k2
      go_loopw [43] (fun s43 wr => ∃ (j : Nat) (si : List Int), j ≤ m ∧ s43 = .int .i64 j ∧ Hid ((kd.take j).foldlM (lvs c.cs (l - 1)) s1 = some si) ∧ Hid (Row wr g si) ∧ Out g (g + 1) W2 wr) (fun s43 _ => m - (intOf s43).toNat)
      case atStart => exact ⟨0, s1, Nat.zero_le _, rfl, rfl, HS2.out, Out.refl _ _ _⟩
      case round =>
        obtain ⟨j, si, hj, rfl, HF, HR, ho⟩ := hrel
        have how := o02.trans ho
        obtain ⟨y0, y1, y2⟩ := box3_one (box_out H2.out ho (by omega))
        by_cases hlt : j < m
        · obtain ⟨kb, ko, rfl, hcc⟩ := HKd.out wr (HBW.out _ how) (by have := Hkl.out; omega)
          have hj' : j < kd.length := by rw [Hkl.out]; exact hlt
          have c0 : wr.cell? ⟨kb, ko + j, none⟩ = some (.int .i64 (gi kd j)) := hcc j hj'
          clear hcc
          have t1 : Hid (si.length = n) := by show _ = _; rw [lvs_foldlen (lvs_len _ _) _ _ _ HF.out]; exact hs1l.out
          have hVx := hVq.out (gi kd j) (by rw [gi_eq hj']; exact List.getElem_mem _)
          have cD := fun W h1 h2 => HI.out (gi kd j) si g W hg h1 h2 t1.out hVx
          have HF1 : Hid ((kd.take (j + 1)).foldlM (lvs c.cs (l - 1)) s1 = lvs c.cs (l - 1) si (gi kd j)) := by
            show _ = _
            rw [foldM_take hj', HF.out]; rfl
          have HN1 : Hid (lvs c.cs (l - 1) si (gi kd j) = none → kd.foldlM (lvs c.cs (l - 1)) s1 = none) := fun h => foldM_none hj' HF.out h
          clear hVx
          generalize hX : gi kd j = x at *
          clear hX
          go_wp2_with fail
          refine (cD _ (HBW.out _ how) HR.out).mono ?_
          rintro e w1 ⟨ho1, (⟨hno, rfl⟩ | ⟨s', hyes, rfl, hR1⟩)⟩
          · go_wp2_with fail
            go_ret
            have e0 := HO1.out
            rw [HN1.out hno] at e0
            exact ⟨how.trans ho1, .inl ⟨e0, rfl⟩⟩
          · go_wp2_with fail
            go_roundw
            case rel => exact ⟨j + 1, s', by omega, by go_num, by rw [HF1.out]; exact hyes, hR1, ho.trans ho1⟩
            case measure => simp [intOf]; omega
        · have hjm : j = m := by omega
          subst hjm
          have hfin : kd.take j = kd := List.take_of_length_le (by rw [Hkl.out]; exact Nat.le_refl _)
          rw [hfin] at HF
          have HO2 : Hid (oo = some si) := by rw [HF.out] at HO1; exact HO1.out
          clear hfin HO1
          go_wp2
          go_ret
          exact ⟨how, .inr ⟨si, HO2.out, rfl, HR.out⟩⟩
theorem lvs_any {c : Co} {K : Nat} (hK : ∀ i, i < c.cs.length → (gc c.cs i).kd.length ≤ K) (hKm : K ≤ 1048576) (w0 : World) (v : Value) (hc : CowAt w0 v c) (hn : c.cs.length ≤ 80) {V : Nat → Prop} (hV : Clo c.cs V) :
    ∀ (l : Nat), l ≤ 3 → ∀ (k : Int) (s : List Int) (g : Nat) (w : World), w0.heap.size ≤ g → Below w0.heap.size w0 w → Row w g s → s.length = c.cs.length → (k = -1 ∨ (inR c.cs.length k ∧ V k.toNat)) →
      Calls Try.prog 33 #[v, .int .i64 k, .int .i64 (l : Int), .slice (some ⟨g, 0, none⟩) c.cs.length c.cs.length] w (DeepR (lvs c.cs l s k) g w) := by
  intro l
  induction l with
  | zero => intro h; exact lvs_step hK hKm w0 v hc hn hV 0 (by omega) (fun h => absurd rfl h)
  | succ l ih =>
    intro h3
    refine lvs_step hK hKm w0 v hc hn hV (l + 1) h3 (fun _ => ?_)
    have := ih (by omega)
    rw [show ((l + 1 : Nat) : Int) - 1 = (l : Int) by omega]
    exact this
end Go.Proofs.Ytienhdlhlddemaa
