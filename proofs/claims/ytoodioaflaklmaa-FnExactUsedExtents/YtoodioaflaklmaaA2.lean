import Derived.Test.YtoodioaflaklmaaA1
/- What is used: the model's list. -/
namespace Go.Proofs.Ytoodioaflaklmaa
open Go.ChangeShapes Go.WideShapes Go.ChangeAt Go.RowKit
set_option linter.unusedVariables false
open Room

attribute [local go_sem] Oper.semAt_some

set_option maxHeartbeats 1000000 in
theorem specUsed_any (b : Int) (a : Option Addr) (ca : Nat) (a' : Option Addr) (ca' : Nat) (l s : List Ex) (w : World) (hb0 : -9223372036854775808 ≤ b) (hb1 : b ≤ 9223372036854775807) (hn : l.length ≤ 1048576) (hn' : s.length ≤ 1048576) (hx : ∀ x, x ∈ l → x.1 ≤ 9223372036854775807) (ha : Exs w a l) (ha' : Exs w a' s) :
    Calls Try.prog 28 #[fv b a l.length ca a' s.length ca'] w fun e w' => Below w.heap.size w w' ∧ ∃ x c, e = .returned (.tuple #[.slice x (used b l s).length c, .bool (good b l s)]) ∧ Own w' w.heap.size w'.heap.size x (used b l s) := by
  obtain ⟨D, hD⟩ : ∃ D, w.heap.size = D := ⟨_, rfl⟩
  obtain ⟨W0, hW0⟩ : ∃ W0, w.alloc (.cells #[.int .i64 b, .slice a l.length ca, .slice a' s.length ca'] 29) = W0 := ⟨_, rfl⟩
  have g0 : Below w.heap.size w W0 := by subst hW0; exact below_alloc _ _
  have B1 : W0.heap[D]? = some (.cells #[.int .i64 b, .slice a l.length ca, .slice a' s.length ca'] 29 (0, 0)) := by subst hW0 hD; exact al1 _ _
  have HB : Hid _ := B1
  obtain ⟨i0, i1, i2, -, -, -⟩ := box3_cells B1
  clear B1
  have cg := specGood_any b a ca a' ca' l s W0 hb0 hb1 hn hn' (ha.below g0) (ha'.below g0)
  obtain ⟨r, hr⟩ : ∃ r, good b l s = r := ⟨_, rfl⟩
  rw [hr] at cg ⊢
  cases r with
  | false =>
    rw [show used b l s = [] by simp [used, hr]]
    generalize l.length = n at *
    generalize s.length = n' at *
    go_enter Try.func28, Try.ntmps28
    go_wp2_with (go_at_call 11; refine cg.mono ?_; rintro e w1 ⟨rfl, b1⟩)
    go_ret2
    exact ⟨by first | exact Below.comp g0 b1 | exact (hD ▸ Below.comp g0 b1), none, 0, rfl, .inl rfl⟩
  | true =>
    have hg := good_iff.1 hr
    have hbb := hg.1
    have hPl := hg.2.2.1
    have hl60 := hg.2.1
    have HR : Hid (used b l s = usd b 0 [] l) := by show _ = _; simp [used, hr]
    generalize used b l s = R at *
    have Ha : Hid (Exs w a l) := ha
    have HPl : Hid _ := hPl
    clear hg hx ha ha' hr hPl hn
    go_enter Try.func28, Try.ntmps28
    go_wp2_with fail
    refine cg.mono ?_
    rintro e w1 ⟨rfl, b1⟩
    clear cg hW0 i0 i1 i2
    have H1 : Hid (w1.heap[D]? = _) := box_on HB.out b1
    obtain ⟨i0, i1, i2, -, -, -⟩ := box3_cells H1.out
    have g1 := Below.comp g0 b1
    obtain ⟨Z, hZ⟩ : ∃ Z, w1.heap.size = Z := ⟨_, rfl⟩
    go_wp2
    clear i0 i1 i2
    go_loopw [14, 5, 4] (fun i q o wr => ∃ (k : Nat) (F : Int) (acc : List Ex) (x : Option Addr) (c : Nat), k ≤ l.length ∧ i = .int .i64 k ∧ q = .int .i64 F ∧ o = .slice x acc.length c ∧ acc.length ≤ k ∧ Hid (OwnR wr Z (.slice x acc.length c) acc) ∧ 0 ≤ F ∧ F ≤ b ∧ Hid ((∀ y, y ∈ l.drop k → F ≤ y.1) ∧ Pl b (l.drop k) ∧ usd b 0 [] l = usd b F acc (l.drop k)) ∧ Below Z w1 wr ∧ Z ≤ wr.heap.size) (fun i _ _ _ => l.length - (intOf i).toNat)
    case atStart => exact ⟨0, 0, [], none, 0, Nat.zero_le _, rfl, rfl, rfl, by simp, OwnR.nil _ _, by omega, by omega, ⟨fun y hy => (HPl.out.ins y (by simpa using hy)).1, HPl.out, rfl⟩, Below.refl _ _, by omega⟩
    case round =>
      obtain ⟨k, F, acc, x, c, hk, rfl, rfl, rfl, hal, HO, hF0, hF1, HU, hb, hz⟩ := hrel
      have hbW : Below w1.heap.size w1 wr := hZ ▸ hb
      by_cases hlt : k < l.length
      · have hd := drop_gx hlt
        have hy := HU.out.1 (gx l k) (by rw [hd]; simp)
        have hyi := HU.out.2.1.ins (gx l k) (by rw [hd]; simp)
        have hrise : ∀ y, y ∈ l.drop (k + 1) → fin (gx l k) ≤ y.1 := fun y hy' => by
          have hp := HU.out.2.1.rise
          rw [hd] at hp
          have := (List.pairwise_cons.1 hp).1 y hy'
          omega
        have hpl' : Pl b (l.drop (k + 1)) := by have := HU.out.2.1; rw [hd] at this; exact this.tl
        have hu : usd b 0 [] l = usd b (fin (gx l k)) (acc ++ btw F (gx l k).1) (l.drop (k + 1)) := by rw [HU.out.2.2, hd]; rfl
        obtain ⟨bb, off, rfl, hcell⟩ := (Ha.out.below (Below.comp g1 hbW)) (by omega)
        obtain ⟨k0, k1⟩ := hcell k hlt
        clear hcell hd
        have HU2 : Hid _ := And.intro hrise (And.intro hpl' hu)
        clear hrise hpl' hu
        generalize gx l k = y at *
        obtain ⟨p, q⟩ := y
        simp only at k0 k1 hy hyi
        have hfin : fin (p, q) = p + q := rfl
        rw [hfin] at hyi
        obtain ⟨E, hE⟩ : ∃ E, wr.heap.size = E := ⟨_, rfl⟩
        obtain ⟨W1, hW1⟩ : ∃ W1, wr.alloc (.cells #[.int .i64 p, .int .i64 q] 41) = W1 := ⟨_, rfl⟩
        have bE : Below wr.heap.size wr W1 := by subst hW1; exact below_alloc _ _
        have HE : Hid (W1.heap[E]? = some (.cells #[.int .i64 p, .int .i64 q] 41 (0, 0))) := by subst hW1 hE; exact al1 _ _
        obtain ⟨e0, e1, -, -⟩ := box2_cells HE.out
        have own1 : OwnR W1 Z (.slice x acc.length c) acc := owns_below HO.out bE
        have hob : ∀ j, (Value.slice x acc.length c).ownBlock = some j → j < E := fun j hj => by
          rcases HO.out.2 with ⟨h1, _⟩ | ⟨g, cap, cur, h1, _, hg, _⟩
          · rw [h1] at hj; simp [Value.ownBlock] at hj
          · rw [h1] at hj
            simp [Value.ownBlock] at hj
            have := box_lt hg
            omega
        have z1 : Z ≤ W1.heap.size := Nat.le_trans hz bE.size
        have hob' : some E ≠ (Value.slice x acc.length c).ownBlock := fun h => by have := hob E h.symm; omega
        clear hob
        have hlen : (acc ++ btw F p).length ≤ k + 1 := by have := btw_len F p; simp; omega
        by_cases hFp : F < p
        · have eb : btw F p = [(F, p - F)] := if_neg (by omega)
          have own1a := owns_below own1 (below_alloc W1 (.cells #[.int .i64 F, .int .i64 (p - F)] 41))
          have sr := src_one W1 F (p - F) 41
          have z1a : Z ≤ (W1.alloc (.cells #[.int .i64 F, .int .i64 (p - F)] 41)).heap.size := by simp; omega
          have HOw : Hid (OwnR W1 Z (.slice x acc.length c) acc) := own1
          have HZ1 : Hid (w1.heap.size = Z) := hZ
          have el : (acc ++ btw F p).length = acc.length + 1 := by rw [eb]; simp
          have ec : cxs (acc ++ btw F p) = cxs acc ++ cxs [(F, p - F)] := by rw [eb, cxs_app]
          have HL : Hid _ := And.intro el ec
          clear own1 hZ eb el ec
          generalize hq : acc.length = na at *
          have HQ : Hid _ := hq
          clear hq
          go_wp2_with (at_builtin; refine wpList_append_src rfl _ _ 27 rfl Z 41 _ 2 16 Try.underlying27 info31 rfl (by decide) (.slice x na c) na (cxs acc) rfl own1a (some ⟨W1.heap.size, 0, none⟩) 1 1 (cxs [(F, p - F)]) rfl rfl sr (cxs_one _) (by omega) (by decide) z1a ?_; intro v2 w2 own2 gr2'; obtain ⟨x2, c2, e2⟩ := owns_form own2; subst e2; have gr2 := grown_alloc gr2'; have bE2 : w2.heap[E]? = some (.cells #[.int .i64 p, .int .i64 q] 41 (0, 0)) := (gr2.block E (box_lt HE.out) hob').trans HE.out; obtain ⟨e0', e1', -, -⟩ := box2_cells bE2; have HO2 : Hid (w2.ownsRow Z 41 2 (.slice x2 (na + 1) c2) (na + 1) (cxs acc ++ cxs [(F, p - F)])) := own2; have b2 : Below Z w1 w2 := (hb.trans (bE.mono hz)).trans (Grown.below gr2 z1 (owns_ge HOw.out)); have z2 : Z ≤ w2.heap.size := Nat.le_trans z1 gr2.size; clear gr2 gr2' own2 bE2)
          go_roundw
          case rel => exact ⟨k + 1, p + q, acc ++ btw F p, x2, c2, by omega, by go_num, rfl, by rw [HL.out.1], hlen, by show OwnR _ _ _ _; unfold OwnR; rw [HL.out.1, HL.out.2]; exact HO2.out, by omega, by omega, HU2, b2, z2⟩
          case measure => simp [intOf]; omega
        · have eb : btw F p = [] := if_pos (by omega)
          have HOw : Hid (OwnR W1 Z (.slice x acc.length c) acc) := own1
          have HZ1 : Hid (w1.heap.size = Z) := hZ
          have HEb : Hid _ := eb
          clear own1 hZ eb
          go_wp2
          go_roundw
          case rel => exact ⟨k + 1, p + q, acc ++ btw F p, x, c, by omega, by go_num, rfl, by rw [HEb.out, List.append_nil], hlen, by show OwnR _ _ _ _; rw [HEb.out, List.append_nil]; exact HOw.out, by omega, by omega, HU2, hb.trans (bE.mono hz), z1⟩
          case measure => simp [intOf]; omega
      · have hkn : k = l.length := by omega
        have hu : R = acc ++ btw F b := by rw [HR.out, HU.out.2.2, hkn, List.drop_length]; rfl
        clear HR
        obtain ⟨i0, i1, i2, -, -, -⟩ := box3_cells (box_on H1.out hbW)
        by_cases hFb : F < b
        · have eb : btw F b = [(F, b - F)] := if_neg (by omega)
          have own1a := owns_below HO.out (below_alloc wr (.cells #[.int .i64 F, .int .i64 (b - F)] 41))
          have sr := src_one wr F (b - F) 41
          have z1a : Z ≤ (wr.alloc (.cells #[.int .i64 F, .int .i64 (b - F)] 41)).heap.size := by simp; omega
          have HO' : Hid (OwnR wr Z (.slice x acc.length c) acc) := HO.out
          have el : (acc ++ btw F b).length = acc.length + 1 := by rw [eb]; simp
          have ec : cxs (acc ++ btw F b) = cxs acc ++ cxs [(F, b - F)] := by rw [eb, cxs_app]
          have HL : Hid _ := And.intro el ec
          have HZ1 : Hid (w1.heap.size = Z) := hZ
          clear HU HO hkn eb el ec hZ
          subst hu
          generalize hq : acc.length = na at *
          go_wp2_with (at_builtin; refine wpList_append_src rfl _ _ 27 rfl Z 41 _ 2 16 Try.underlying27 info31 rfl (by decide) (.slice x na c) na (cxs acc) rfl own1a (some ⟨wr.heap.size, 0, none⟩) 1 1 (cxs [(F, b - F)]) rfl rfl sr (cxs_one _) (by omega) (by decide) z1a ?_; intro v2 w2 own2 gr2'; obtain ⟨x2, c2, e2⟩ := owns_form own2; subst e2; have gr2 := grown_alloc gr2'; have b2 : Below Z w1 w2 := hb.trans (Grown.below gr2 hz (owns_ge HO'.out)); have HO2 : Hid (w2.ownsRow Z 41 2 (.slice x2 (na + 1) c2) (na + 1) (cxs acc ++ cxs [(F, b - F)])) := own2; clear own2 gr2 gr2')
          go_ret2
          have own3 : OwnR w2 Z (.slice x2 (na + 1) c2) (acc ++ btw F b) := by unfold OwnR; rw [HL.out.1, HL.out.2]; exact HO2.out
          refine ⟨by first | exact Below.comp g1 (HZ1.out ▸ b2) | exact (hD ▸ Below.comp g1 (HZ1.out ▸ b2)), x2, c2, by rw [HL.out.1]; rfl, (own3.own.1).mono ?_ (Nat.le_refl _)⟩
          have := g1.size
          have := HZ1.out
          omega
        · have eb : btw F b = [] := if_pos (by omega)
          have HO' : Hid (OwnR wr Z (.slice x acc.length c) acc) := HO.out
          have HZ1 : Hid (w1.heap.size = Z) := hZ
          rw [eb, List.append_nil] at hu
          subst hu
          clear HU HO hkn eb hZ
          go_wp2
          go_ret2
          have hB : Below w.heap.size w wr := Below.comp g1 (HZ1.out ▸ hb)
          have hO : Own wr w.heap.size wr.heap.size x R := (HO'.out.own.1).mono (by have := g1.size; have := HZ1.out; omega) (Nat.le_refl _)
          rw [hD] at hB hO
          exact ⟨hB, x, ⟨c, rfl⟩, hO⟩
end Go.Proofs.Ytoodioaflaklmaa
