import Derived.Test.YtoodioaflaklmaaG5s
/- What is used: the model's list, and the program's. -/
namespace Go.Proofs.Ytoodioaflaklmaa
open Go.ChangeShapes Go.WideShapes Go.ChangeAt Go.RowKit
set_option linter.unusedVariables false
open Room

attribute [local go_sem] Oper.semAt_some

/-- The blocks from one on and ahead of another. -/
def btw (f t : Int) : List Ex := if f = t then [] else [(f, t - f)]
theorem grown_alloc {w w' : World} {o : Obj} {row : Option Nat} (h : (w.alloc o).grownBy w' row) : w.grownBy w' row where
  os := h.os
  tape := h.tape
  output := h.output
  size := Nat.le_trans (by simp) h.size
  block := fun k hk hr => by
    have := h.block k (by simp; omega) hr
    rw [this]
    exact (below_alloc w o).block k hk
theorem addBetween_any (v : Value) (l : List Ex) (f t : Int) (w : World) (B : Nat) (h : OwnR w B v l) (hB : B ≤ w.heap.size) (hl : l.length ≤ 100000) (h0 : -9223372036854775808 ≤ t - f) (h1 : t - f ≤ 9223372036854775807) :
    Calls Try.prog 52 #[v, .int .i64 f, .int .i64 t] w fun e w' => ∃ x c, e = .returned (.slice x (l ++ btw f t).length c) ∧ OwnR w' B (.slice x (l ++ btw f t).length c) (l ++ btw f t) ∧ w.grownBy w' v.ownBlock := by
  obtain ⟨x, c, rfl⟩ := owns_form h
  by_cases e : f = t
  · have eb : btw f t = [] := if_pos e
    rw [eb, List.append_nil]
    have HO : Hid (OwnR w B (.slice x l.length c) l) := h
    clear h
    subst e
    go_enter Try.func52, Try.ntmps52
    go_wp2
    go_ret
    exact ⟨x, c, rfl, HO.out, World.grownBy.refl _ _⟩
  · have eb : btw f t = [(f, t - f)] := if_neg e
    have e' : (f == t) = false := by simp [e]
    have own1 := owns_below h (below_alloc w (.cells #[.int .i64 f, .int .i64 (t - f)] 41))
    have sr := src_one w f (t - f) 41
    have el : (l ++ btw f t).length = l.length + 1 := by rw [eb]; simp
    have ec : cxs (l ++ btw f t) = cxs l ++ cxs [(f, t - f)] := by rw [eb, cxs_app]
    unfold OwnR
    rw [el, ec]
    clear el ec eb h e
    generalize l.length = n at *
    have hz : B ≤ (w.alloc (.cells #[.int .i64 f, .int .i64 (t - f)] 41)).heap.size := by simp; omega
    go_enter Try.func52, Try.ntmps52
    go_wp2_with (at_builtin; refine wpList_append_src rfl _ _ 27 rfl B 41 _ 2 16 Try.underlying27 info31 rfl (by decide) (.slice x n c) n (cxs l) rfl own1 (some ⟨w.heap.size, 0, none⟩) 1 1 (cxs [(f, t - f)]) rfl rfl sr (cxs_one _) (by omega) (by decide) hz ?_; intro v1 w1 own2 gr1; obtain ⟨x1, c1, e1⟩ := owns_form own2; subst e1)
    go_ret
    exact ⟨x1, c1, rfl, own2, grown_alloc gr1⟩

/-- What is used, from one block on. -/
def usd (b : Int) : Int → List Ex → List Ex → List Ex
  | f, acc, [] => acc ++ btw f b
  | f, acc, x :: l => usd b (fin x) (acc ++ btw f x.1) l
def used (b : Int) (l s : List Ex) : List Ex := bif good b l s then usd b 0 [] l else []
theorem btw_len (f t : Int) : (btw f t).length ≤ 1 := by
  unfold btw
  split <;> simp

set_option maxHeartbeats 1000000 in
theorem implUsed_any (b : Int) (a : Option Addr) (ca : Nat) (a' : Option Addr) (ca' : Nat) (l s : List Ex) (w : World) (hb0 : -9223372036854775808 ≤ b) (hb1 : b ≤ 9223372036854775807) (hn : l.length ≤ 1048576) (hn' : s.length ≤ 1048576) (hx : ∀ x, x ∈ l → x.1 ≤ 9223372036854775807) (ha : Exs w a l) (ha' : Exs w a' s) :
    Calls Try.prog 29 #[fv b a l.length ca a' s.length ca'] w fun e w' => Below w.heap.size w w' ∧ ∃ x c, e = .returned (.tuple #[.slice x (used b l s).length c, .bool (good b l s)]) ∧ Own w' w.heap.size w'.heap.size x (used b l s) := by
  obtain ⟨D, hD⟩ : ∃ D, w.heap.size = D := ⟨_, rfl⟩
  obtain ⟨W0, hW0⟩ : ∃ W0, w.alloc (.cells #[.int .i64 b, .slice a l.length ca, .slice a' s.length ca'] 29) = W0 := ⟨_, rfl⟩
  have g0 : Below w.heap.size w W0 := by subst hW0; exact below_alloc _ _
  have B1 : W0.heap[D]? = some (.cells #[.int .i64 b, .slice a l.length ca, .slice a' s.length ca'] 29 (0, 0)) := by subst hW0 hD; exact al1 _ _
  have HB : Hid _ := B1
  obtain ⟨i0, i1, i2, -, -, -⟩ := box3_cells B1
  clear B1
  have cg := implGood_any b a ca a' ca' l s W0 hn hn' hx (ha.below g0) (ha'.below g0)
  obtain ⟨r, hr⟩ : ∃ r, good b l s = r := ⟨_, rfl⟩
  rw [hr] at cg ⊢
  cases r with
  | false =>
    rw [show used b l s = [] by simp [used, hr]]
    generalize l.length = n at *
    generalize s.length = n' at *
    go_enter Try.func29, Try.ntmps29
    go_wp2_with (go_at_call 13; refine cg.mono ?_; rintro e w1 ⟨rfl, b1⟩)
    go_ret2
    exact ⟨by first | exact Below.comp g0 b1 | exact (hD ▸ Below.comp g0 b1), none, 0, rfl, .inl rfl⟩
  | true =>
    have hg := good_iff.1 hr
    have hbb := hg.1
    have hPl := hg.2.2.1
    have hl60 := hg.2.1
    have HR : Hid (used b l s = usd b 0 [] l) := by show _ = _; simp [used, hr]
    generalize used b l s = R at *
    have Ha : Hid (Exs w a l) := ha
    have HPl : Hid _ := hPl
    clear hg hx ha ha' hr hPl hn
    go_enter Try.func29, Try.ntmps29
    go_wp2_with fail
    refine cg.mono ?_
    rintro e w1 ⟨rfl, b1⟩
    clear cg hW0 i0 i1 i2
    have H1 : Hid (w1.heap[D]? = _) := box_on HB.out b1
    obtain ⟨i0, i1, i2, -, -, -⟩ := box3_cells H1.out
    have g1 := Below.comp g0 b1
    obtain ⟨Z, hZ⟩ : ∃ Z, w1.heap.size = Z := ⟨_, rfl⟩
    go_wp2
    clear i0 i1 i2
    go_loopw [14, 5, 4] (fun i q o wr => ∃ (k : Nat) (F : Int) (acc : List Ex) (x : Option Addr) (c : Nat), k ≤ l.length ∧ i = .int .i64 k ∧ q = .int .i64 F ∧ o = .slice x acc.length c ∧ acc.length ≤ k ∧ Hid (OwnR wr Z (.slice x acc.length c) acc) ∧ 0 ≤ F ∧ F ≤ b ∧ Hid ((∀ y, y ∈ l.drop k → F ≤ y.1) ∧ Pl b (l.drop k) ∧ usd b 0 [] l = usd b F acc (l.drop k)) ∧ Below Z w1 wr ∧ Z ≤ wr.heap.size) (fun i _ _ _ => l.length - (intOf i).toNat)
    case atStart => exact ⟨0, 0, [], none, 0, Nat.zero_le _, rfl, rfl, rfl, by simp, OwnR.nil _ _, by omega, by omega, ⟨fun y hy => (HPl.out.ins y (by simpa using hy)).1, HPl.out, rfl⟩, Below.refl _ _, by omega⟩
    case round =>
      obtain ⟨k, F, acc, x, c, hk, rfl, rfl, rfl, hal, HO, hF0, hF1, HU, hb, hz⟩ := hrel
      have hbW : Below w1.heap.size w1 wr := hZ ▸ hb
      by_cases hlt : k < l.length
      · have hd := drop_gx hlt
        have hy := HU.out.1 (gx l k) (by rw [hd]; simp)
        have hyi := HU.out.2.1.ins (gx l k) (by rw [hd]; simp)
        have hrise : ∀ y, y ∈ l.drop (k + 1) → fin (gx l k) ≤ y.1 := fun y hy' => by
          have hp := HU.out.2.1.rise
          rw [hd] at hp
          have := (List.pairwise_cons.1 hp).1 y hy'
          omega
        have hpl' : Pl b (l.drop (k + 1)) := by have := HU.out.2.1; rw [hd] at this; exact this.tl
        have hu : usd b 0 [] l = usd b (fin (gx l k)) (acc ++ btw F (gx l k).1) (l.drop (k + 1)) := by rw [HU.out.2.2, hd]; rfl
        obtain ⟨bb, off, rfl, hcell⟩ := (Ha.out.below (Below.comp g1 hbW)) (by omega)
        obtain ⟨k0, k1⟩ := hcell k hlt
        clear hcell hd
        have HU2 : Hid _ := And.intro hrise (And.intro hpl' hu)
        clear hrise hpl' hu
        generalize gx l k = y at *
        obtain ⟨p, q⟩ := y
        simp only at k0 k1 hy hyi
        have hfin : fin (p, q) = p + q := rfl
        rw [hfin] at hyi
        obtain ⟨E, hE⟩ : ∃ E, wr.heap.size = E := ⟨_, rfl⟩
        obtain ⟨W1, hW1⟩ : ∃ W1, wr.alloc (.cells #[.int .i64 p, .int .i64 q] 41) = W1 := ⟨_, rfl⟩
        have bE : Below wr.heap.size wr W1 := by subst hW1; exact below_alloc _ _
        have HE : Hid (W1.heap[E]? = some (.cells #[.int .i64 p, .int .i64 q] 41 (0, 0))) := by subst hW1 hE; exact al1 _ _
        obtain ⟨e0, e1, -, -⟩ := box2_cells HE.out
        have own1 : OwnR W1 Z (.slice x acc.length c) acc := owns_below HO.out bE
        have hob : ∀ j, (Value.slice x acc.length c).ownBlock = some j → j < E := fun j hj => by
          rcases HO.out.2 with ⟨h1, _⟩ | ⟨g, cap, cur, h1, _, hg, _⟩
          · rw [h1] at hj; simp [Value.ownBlock] at hj
          · rw [h1] at hj
            simp [Value.ownBlock] at hj
            have := box_lt hg
            omega
        have z1 : Z ≤ W1.heap.size := Nat.le_trans hz bE.size
        have c57 := addBetween_any (.slice x acc.length c) acc F p W1 Z own1 z1 (by omega) (by omega) (by omega)
        have c56 := fun W => endOf_any (p, q) W (by rw [hfin]; omega) (by rw [hfin]; omega)
        rw [hfin] at c56
        have hlen : (acc ++ btw F p).length ≤ k + 1 := by have := btw_len F p; simp; omega
        have HOb : Hid _ := hob
        clear hob
        have HOw : Hid _ := own1
        clear own1
        go_wp2_with (first
          | (go_at_call 52; refine c57.mono ?_; rintro e w2 ⟨x2, c2, rfl, own2, gr2⟩; have bE2 : w2.heap[E]? = some (.cells #[.int .i64 p, .int .i64 q] 41 (0, 0)) := (gr2.block E (box_lt HE.out) (fun h => by have := HOb.out E h.symm; omega)).trans HE.out; obtain ⟨e0', e1', -, -⟩ := box2_cells bE2; have HO2 : Hid _ := own2; have b2 : Below Z w1 w2 := (hb.trans (bE.mono hz)).trans (Grown.below gr2 z1 (owns_ge HOw.out)); have z2 : Z ≤ w2.heap.size := Nat.le_trans z1 gr2.size; clear gr2 own2 bE2)
          | (go_at_call 39; refine (c56 _).mono ?_; rintro e w3 ⟨rfl, b3⟩))
        go_roundw
        case rel => exact ⟨k + 1, p + q, acc ++ btw F p, x2, c2, by omega, by go_num, rfl, by simp, hlen, owns_below HO2.out b3, by omega, by omega, HU2, b2.trans (b3.mono z2), Nat.le_trans z2 b3.size⟩
        case measure => simp [intOf]; omega
      · have hkn : k = l.length := by omega
        have hu : R = acc ++ btw F b := by rw [HR.out, HU.out.2.2, hkn, List.drop_length]; rfl
        subst hu
        obtain ⟨i0, i1, i2, -, -, -⟩ := box3_cells (box_on H1.out hbW)
        have c57 := addBetween_any (.slice x acc.length c) acc F b wr Z HO.out hz (by omega) (by omega) (by omega)
        have HO' : Hid _ := HO.out
        clear HU HR HO hkn
        go_wp2_with (go_at_call 52; refine c57.mono ?_; rintro e w2 ⟨x2, c2, rfl, own2, gr2⟩; have b2 : Below Z w1 w2 := hb.trans (Grown.below gr2 hz (owns_ge HO'.out)))
        go_ret2
        refine ⟨Below.comp g1 (hZ ▸ b2), x2, c2, by simp, (own2.own.1).mono ?_ (Nat.le_refl _)⟩
        have := g1.size
        omega
end Go.Proofs.Ytoodioaflaklmaa
